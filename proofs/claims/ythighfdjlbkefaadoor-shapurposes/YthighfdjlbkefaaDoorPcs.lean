/- What ShaPieces does. -/
import Derived.Test.YthighfdjlbkefaaDoorWi
import Derived.Test.YthighfdjlbkefaaDoorLaw
namespace Go.Proofs.YthighfdjlbkefaaDoor
open Go.RowKit
/-- The first n of the texts, each cut, one behind the other. -/
def joined (ss : List (List UInt8)) : Nat → List UInt8
  | 0 => []
  | n + 1 => joined ss n ++ fewL (ss.getD n [])
theorem joined_length (ss : List (List UInt8)) : ∀ n, (joined ss n).length ≤ 3000 * n
  | 0 => by simp [joined]
  | n + 1 => by rw [joined, List.length_append]; have := joined_length ss n; have := fewL_length (ss.getD n []); omega
/-- A slice of strings that came in. -/
def IsStrs (w : World) (a : Option Addr) (len : Nat) (ss : List (List UInt8)) : Prop :=
  len = ss.length ∧ (len = 0 ∨ ∃ b o, a = some ⟨b, o, none⟩ ∧ ∀ i, i < len → w.cell? ⟨b, o + i, none⟩ = some (.string ⟨(ss.getD i []).toArray⟩))
theorem IsStrs.below {w w' : World} {a : Option Addr} {len : Nat} {ss : List (List UInt8)} (h : IsStrs w a len ss) (hb : Below w.heap.size w w') : IsStrs w' a len ss := by
  obtain ⟨h1, h2⟩ := h
  refine ⟨h1, h2.imp id ?_⟩
  rintro ⟨b, o, rfl, hc⟩
  refine ⟨b, o, rfl, fun i hi => ?_⟩
  have := hc i hi
  rw [hb.cell (p := ⟨b, o + i, none⟩) (World.block_lt_of_cell? w _ this)]
  exact this
/-- Block b holds a digest that has taken m in, or a new one. -/
structure DigZ (w : World) (b : Nat) (m : List UInt8) : Prop where
  out : ∃ (H : S8) (fb : Nat → UInt8), Blk w b (digC H fb m.length) 49 ∧ (m.length = 0 ∨ H = hashTo m (m.length / 64)) ∧ ∀ j, j < m.length % 64 → fb j = m.getD (64 * (m.length / 64) + j) 0
theorem DigZ.below {w w' : World} {b : Nat} {m : List UInt8} (h : DigZ w b m) (hb : Below w.heap.size w w') : DigZ w' b m := by
  obtain ⟨H, fb, h1, h2⟩ := h.out
  exact ⟨H, fb, h1.belowSize hb, h2⟩
theorem DigZ.new {w : World} {b : Nat} (h : Blk w b (digC S0 (fun _ => 0) 0) 49) : DigZ w b [] := by
  refine ⟨S0, fun _ => 0, ?_, ?_, ?_⟩
  · rw [List.length_nil]; exact h
  · exact .inl List.length_nil
  · intro j hj; simp at hj
theorem DigZ.lt {w : World} {b : Nat} {m : List UInt8} (h : DigZ w b m) : b < w.heap.size := by
  obtain ⟨H, fb, h1, h2⟩ := h.out
  exact h1.lt
theorem writeZ (b : Nat) (m s : List UInt8) (w : World) (hG : Glob w) (hb0 : 2 ≤ b) (hm : m.length + s.length ≤ 1099511627776) (h : DigZ w b m) :
    Calls Tryd.prog 13 #[.pointer (some ⟨b, 0, none⟩), .string ⟨s.toArray⟩] w fun e w' => e = .returned (.tuple #[]) ∧ DigZ w' b (m ++ s) ∧ w.grownBy w' (some b) := by
  obtain ⟨H, fb, h1, h2, h3⟩ := h.out
  refine (write_any b m s H fb w hG hb0 hm h1 h2 h3).mono ?_
  rintro e w' ⟨he, ⟨H', fb', hD⟩, hg⟩
  exact ⟨he, ⟨H', fb', hD.blk, .inr hD.words, hD.tail⟩, hg⟩
theorem dsumZ (b : Nat) (m : List UInt8) (w : World) (hG : Glob w) (hm : m.length ≤ 549755813888) (h : DigZ w b m) :
    Calls Tryd.prog 14 #[.pointer (some ⟨b, 0, none⟩)] w fun e w' => e = .returned (.string ⟨(digest m).toArray⟩) ∧ Below w.heap.size w w' := by
  obtain ⟨H, fb, h1, h2, h3⟩ := h.out
  exact dsum_any b m H fb w hG hm h1 h2 h3
theorem mkApp (x y : List UInt8) : (ByteArray.mk x.toArray ++ ByteArray.mk y.toArray) = ByteArray.mk (x ++ y).toArray := ByteArray.mk_append_mk x y
attribute [local go_sem] mkApp
set_option maxRecDepth 100000 in
set_option maxHeartbeats 1000000 in
theorem shaPieces_any (a : Option Addr) (len cap : Nat) (ss : List (List UInt8)) (w : World) (hG : Glob w) (hs : IsStrs w a len ss) :
    Calls Tryd.prog 4 #[.slice a len cap] w fun e w' => e = .returned (.bool true) ∧ Below w.heap.size w w' := by
  have hsc := hs.2
  clear hs
  rcases hsc with h0 | ⟨b, o, rfl, hc⟩
  · replace h0 : len ≤ 0 := by omega
    go_enter Tryd.func4, Tryd.ntmps4
    go_wp2_with (first
      | (go_at_call 12; refine (new_any _).mono ?_; rintro e w1 ⟨rfl, hw1, hs1, hb1⟩; replace hs1 := hs1.symm)
      | (go_at_call 9; refine (awake_any _ (hG.belowSize hw1)).mono ?_; rintro e w2 ⟨rfl, hw2⟩))
    have hB2 : Below w.heap.size w w2 := hw1.trans (hw2.mono hw1.size)
    have hZ2 : DigZ w2 w.heap.size [] := (DigZ.new hb1).below hw2
    have hG2 := hG.belowSize hB2
    have hD2 := hG.two
    clear hw1 hw2 hs1 hb1
    go_loopw [4, 5] (fun v4 v5 wl => ∃ n : Nat, n ≤ 20 ∧ n ≤ len ∧ v5 = .int .i64 n ∧ v4 = .string ⟨(joined ss n).toArray⟩ ∧ Below w.heap.size w wl ∧ Glob wl ∧ DigZ wl w.heap.size (joined ss n)) (fun _ v5 _ => 20 - (intOf v5).toNat)
    case atStart => exact ⟨0, by omega, by omega, rfl, rfl, hB2, hG2, hZ2⟩
    case round =>
      clear hB2 hG2 hZ2
      obtain ⟨n, hn, hnl, rfl, rfl, hB, hG3, hZ⟩ := hrel
      have hjl := joined_length ss n
      by_cases h1 : n < len ∧ n < 20
      · obtain ⟨h1, h2⟩ := h1
        omega
      · obtain hx | ⟨hx, hy⟩ : len ≤ n ∨ (n < len ∧ 20 ≤ n) := by omega
        · have b1 : decide ((n : Int) < (len : Int)) = false := by simp; omega
          clear h1
          go_wp2_with (first
            | (go_at_call 13; refine (write_nil _ _).mono ?_; rintro e w' ⟨rfl, rfl⟩)
            | (go_at_call_of 14 (Value.pointer (some ⟨w.heap.size, 0, none⟩)); refine (dsumZ w.heap.size (joined ss n) _ hG3 (by omega) hZ).mono ?_; rintro e w5 ⟨rfl, hw5⟩)
            | (go_at_call 11; refine (rsum_any (joined ss n) _ (by omega)).mono ?_; rintro e w6 ⟨rfl, hw6⟩)
            | (go_at_call_of 14 (Value.pointer none); refine (dsum_nil _).mono ?_; rintro e w' ⟨rfl, rfl⟩))
          go_ret
          have hB5 := hB.trans (hw5.mono hB.size)
          exact ⟨rfl, hB5.trans (hw6.mono hB5.size)⟩
        · have b1 : decide ((n : Int) < (len : Int)) = true := by simp; omega
          have b2 : decide ((n : Int) < 20) = false := by simp; omega
          clear h1
          go_wp2_with (first
            | (go_at_call 13; refine (write_nil _ _).mono ?_; rintro e w' ⟨rfl, rfl⟩)
            | (go_at_call_of 14 (Value.pointer (some ⟨w.heap.size, 0, none⟩)); refine (dsumZ w.heap.size (joined ss n) _ hG3 (by omega) hZ).mono ?_; rintro e w5 ⟨rfl, hw5⟩)
            | (go_at_call 11; refine (rsum_any (joined ss n) _ (by omega)).mono ?_; rintro e w6 ⟨rfl, hw6⟩)
            | (go_at_call_of 14 (Value.pointer none); refine (dsum_nil _).mono ?_; rintro e w' ⟨rfl, rfl⟩))
          go_ret
          have hB5 := hB.trans (hw5.mono hB.size)
          exact ⟨rfl, hB5.trans (hw6.mono hB5.size)⟩
  · go_enter Tryd.func4, Tryd.ntmps4
    go_wp2_with (first
      | (go_at_call 12; refine (new_any _).mono ?_; rintro e w1 ⟨rfl, hw1, hs1, hb1⟩; replace hs1 := hs1.symm)
      | (go_at_call 9; refine (awake_any _ (hG.belowSize hw1)).mono ?_; rintro e w2 ⟨rfl, hw2⟩))
    have hB2 : Below w.heap.size w w2 := hw1.trans (hw2.mono hw1.size)
    have hZ2 : DigZ w2 w.heap.size [] := (DigZ.new hb1).below hw2
    have hG2 := hG.belowSize hB2
    have hD2 := hG.two
    clear hw1 hw2 hs1 hb1
    go_loopw [4, 5] (fun v4 v5 wl => ∃ n : Nat, n ≤ 20 ∧ n ≤ len ∧ v5 = .int .i64 n ∧ v4 = .string ⟨(joined ss n).toArray⟩ ∧ Below w.heap.size w wl ∧ Glob wl ∧ DigZ wl w.heap.size (joined ss n)) (fun _ v5 _ => 20 - (intOf v5).toNat)
    case atStart => exact ⟨0, by omega, by omega, rfl, rfl, hB2, hG2, hZ2⟩
    case round =>
      clear hB2 hG2 hZ2
      obtain ⟨n, hn, hnl, rfl, rfl, hB, hG3, hZ⟩ := hrel
      have hjl := joined_length ss n
      by_cases h1 : n < len ∧ n < 20
      · obtain ⟨h1, h2⟩ := h1
        obtain ⟨t, ht⟩ : ∃ t, t = ss.getD n [] := ⟨_, rfl⟩
        have hcw := hc n h1
        rw [← ht] at hcw
        have hbl := World.block_lt_of_cell? w _ hcw
        have hcr : wr.cell? ⟨b, o + n, none⟩ = some (.string ⟨t.toArray⟩) := by rw [hB.cell (p := ⟨b, o + n, none⟩) hbl]; exact hcw
        have HJ : Hid (joined ss (n + 1) = joined ss n ++ fewL t) := by rw [joined, ht]; exact rfl
        have hfl := fewL_length t
        clear ht hc
        go_wp2_with (first
          | (go_at_call 8; refine (few_any _ _).mono ?_; rintro e w' ⟨rfl, rfl⟩)
          | (go_at_call 13; refine (writeZ w.heap.size (joined ss n) (fewL t) _ hG3 hD2 (by omega) hZ).mono ?_; rintro e w4 ⟨rfl, hZ4, hg4⟩; have hB4 := hB.trans (below_of_grown hg4 (Nat.le_refl _) hB.size); have hc4 : w4.cell? ⟨b, o + n, none⟩ = some (.string ⟨t.toArray⟩) := (by rw [hB4.cell (p := ⟨b, o + n, none⟩) hbl]; exact hcw))
          | (go_at_call 14; refine (dsumZ w.heap.size (joined ss n ++ fewL t) _ (hG3.grown hg4 hD2) (by rw [List.length_append]; omega) hZ4).mono ?_; rintro e w5 ⟨rfl, hw5⟩)
          | (go_at_call 10; refine (sum_any (joined ss n ++ fewL t) _ ((hG3.grown hg4 hD2).belowSize hw5) (by rw [List.length_append]; omega)).mono ?_; rintro e w6 ⟨rfl, hw6⟩))
        go_roundw
        case rel =>
          have hB5 := hB4.trans (hw5.mono hB4.size)
          exact ⟨n + 1, by omega, by omega, by go_num, by rw [HJ.out], hB5.trans (hw6.mono hB5.size), ((hG3.grown hg4 hD2).belowSize hw5).belowSize hw6, by rw [HJ.out]; exact (hZ4.below hw5).below hw6⟩
        case measure => simp [intOf]; omega
      · obtain hx | ⟨hx, hy⟩ : len ≤ n ∨ (n < len ∧ 20 ≤ n) := by omega
        · have b1 : decide ((n : Int) < (len : Int)) = false := by simp; omega
          clear h1
          go_wp2_with (first
            | (go_at_call 13; refine (write_nil _ _).mono ?_; rintro e w' ⟨rfl, rfl⟩)
            | (go_at_call_of 14 (Value.pointer (some ⟨w.heap.size, 0, none⟩)); refine (dsumZ w.heap.size (joined ss n) _ hG3 (by omega) hZ).mono ?_; rintro e w5 ⟨rfl, hw5⟩)
            | (go_at_call 11; refine (rsum_any (joined ss n) _ (by omega)).mono ?_; rintro e w6 ⟨rfl, hw6⟩)
            | (go_at_call_of 14 (Value.pointer none); refine (dsum_nil _).mono ?_; rintro e w' ⟨rfl, rfl⟩))
          go_ret
          have hB5 := hB.trans (hw5.mono hB.size)
          exact ⟨rfl, hB5.trans (hw6.mono hB5.size)⟩
        · have b1 : decide ((n : Int) < (len : Int)) = true := by simp; omega
          have b2 : decide ((n : Int) < 20) = false := by simp; omega
          clear h1
          go_wp2_with (first
            | (go_at_call 13; refine (write_nil _ _).mono ?_; rintro e w' ⟨rfl, rfl⟩)
            | (go_at_call_of 14 (Value.pointer (some ⟨w.heap.size, 0, none⟩)); refine (dsumZ w.heap.size (joined ss n) _ hG3 (by omega) hZ).mono ?_; rintro e w5 ⟨rfl, hw5⟩)
            | (go_at_call 11; refine (rsum_any (joined ss n) _ (by omega)).mono ?_; rintro e w6 ⟨rfl, hw6⟩)
            | (go_at_call_of 14 (Value.pointer none); refine (dsum_nil _).mono ?_; rintro e w' ⟨rfl, rfl⟩))
          go_ret
          have hB5 := hB.trans (hw5.mono hB.size)
          exact ⟨rfl, hB5.trans (hw6.mono hB5.size)⟩
end Go.Proofs.YthighfdjlbkefaaDoor
