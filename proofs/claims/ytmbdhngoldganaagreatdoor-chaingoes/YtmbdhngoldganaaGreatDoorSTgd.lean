/- A digest that may be new, what Write and Sum do to it. What Tagged does. -/
import Derived.Test.YtmbdhngoldganaaGreatDoorSWg
namespace Go.Proofs.YtmbdhngoldganaaGreatDoor.Sh
open Go.RowKit
/-- Block b holds a digest that has taken m in, or a new one. -/
structure DigZ (w : World) (b : Nat) (m : List UInt8) : Prop where
  out : ∃ (H : S8) (fb : Nat → UInt8), Blk w b (digC H fb m.length) 261 ∧ (m.length = 0 ∨ H = hashTo m (m.length / 64)) ∧ ∀ j, j < m.length % 64 → fb j = m.getD (64 * (m.length / 64) + j) 0
theorem DigZ.below {w w' : World} {b : Nat} {m : List UInt8} (h : DigZ w b m) (hb : Below w.heap.size w w') : DigZ w' b m := by
  obtain ⟨H, fb, h1, h2⟩ := h.out
  exact ⟨H, fb, h1.belowSize hb, h2⟩
theorem DigZ.new {w : World} {b : Nat} (h : Blk w b (digC S0 (fun _ => 0) 0) 261) : DigZ w b [] := by
  refine ⟨S0, fun _ => 0, ?_, ?_, ?_⟩
  · rw [List.length_nil]; exact h
  · exact .inl List.length_nil
  · intro j hj; simp at hj
theorem writeZ (b : Nat) (m s : List UInt8) (w : World) (hG : Glob w) (hb0 : 2 ≤ b) (hm : m.length + s.length ≤ 1099511627776) (h : DigZ w b m) :
    Calls Tryz.prog 153 #[.pointer (some ⟨b, 0, none⟩), .string ⟨s.toArray⟩] w fun e w' => e = .returned (.tuple #[]) ∧ DigZ w' b (m ++ s) ∧ w.grownBy w' (some b) := by
  obtain ⟨H, fb, h1, h2, h3⟩ := h.out
  refine (write_any b m s H fb w hG hb0 hm h1 h2 h3).mono ?_
  rintro e w' ⟨he, ⟨H', fb', hD⟩, hg⟩
  exact ⟨he, ⟨H', fb', hD.blk, .inr hD.words, hD.tail⟩, hg⟩
theorem dsumZ (b : Nat) (m : List UInt8) (w : World) (hG : Glob w) (hm : m.length ≤ 549755813888) (h : DigZ w b m) :
    Calls Tryz.prog 155 #[.pointer (some ⟨b, 0, none⟩)] w fun e w' => e = .returned (.string ⟨(digest m).toArray⟩) ∧ Below w.heap.size w w' := by
  obtain ⟨H, fb, h1, h2, h3⟩ := h.out
  exact dsum_any b m H fb w hG hm h1 h2 h3
end Go.Proofs.YtmbdhngoldganaaGreatDoor.Sh
namespace Go.Proofs.YtmbdhngoldganaaGreatDoor.Sh
open Go.RowKit
/-- What Tagged digests: the purpose, and the first n of the parts, each with its length. -/
def tagTo (p : UInt8) (ss : List (List UInt8)) : Nat → List UInt8
  | 0 => [p]
  | n + 1 => tagTo p ss n ++ be (ss.getD n []).length 4 ++ ss.getD n []
theorem tagTo_le (p : UInt8) (ss : List (List UInt8)) (n : Nat) : ∀ k, (tagTo p ss n).length ≤ (tagTo p ss (n + k)).length
  | 0 => Nat.le_refl _
  | k + 1 => by
    have := tagTo_le p ss n k
    rw [← Nat.add_assoc, tagTo, List.length_append, List.length_append]
    omega
theorem tagTo_ge (p : UInt8) (ss : List (List UInt8)) : ∀ n, 4 * n + 1 ≤ (tagTo p ss n).length
  | 0 => by simp [tagTo]
  | n + 1 => by
    have := tagTo_ge p ss n
    rw [tagTo, List.length_append, List.length_append, be_length]
    omega
theorem be_one (p : UInt8) : be p.toNat 1 = [p] := by
  simp [be, byteAt, List.range_succ]
set_option maxRecDepth 100000 in
set_option maxHeartbeats 1000000 in
theorem tagged_any (p : UInt8) (b o len cap : Nat) (ss : List (List UInt8)) (w : World) (hG : Glob w) (hc : ∀ i, i < len → w.cell? ⟨b, o + i, none⟩ = some (.string ⟨(ss.getD i []).toArray⟩)) (hlen : (tagTo p ss len).length ≤ 549755813888) :
    Calls Tryz.prog 120 #[.int .u8 (n8 p), .slice (some ⟨b, o, none⟩) len cap] w fun e w' => e = .returned (.string ⟨(digest (tagTo p ss len)).toArray⟩) ∧ Below w.heap.size w w' := by
  have hp0 := n8_nonneg p
  have hp1 := n8_le p
  have hln : len ≤ 549755813888 := by have := tagTo_ge p ss len; omega
  go_enter Tryz.func120, Tryz.ntmps120
  go_wp2_with (first
    | (go_at_call 152; refine (new_any _).mono ?_; rintro e w1 ⟨rfl, hw1, hs1, hb1⟩; replace hs1 := hs1.symm)
    | (go_at_call 154; refine (number_any p.toNat 1 _ (by omega) (by omega)).mono ?_; rintro e w2 ⟨rfl, hw2⟩)
    | (go_at_call 153; rw [be_one]; refine (writeZ w.heap.size [] [p] _ ((hG.belowSize hw1).belowSize hw2) hG.two (by simp) ((DigZ.new hb1).below hw2)).mono ?_; rintro e w3 ⟨rfl, hZ3, hg3⟩))
  have hB3 : Below w.heap.size w w3 := (hw1.trans (hw2.mono hw1.size)).trans (below_of_grown hg3 (Nat.le_refl _) (by have := hw1.size; have := hw2.size; omega))
  have hG3 := hG.belowSize hB3
  have hD2 := hG.two
  have hlt0 := hb1.lt
  clear hw1 hw2 hs1 hb1 hg3 hlt0
  go_loopw [16] (fun v16 wl => ∃ n : Nat, n ≤ len ∧ v16 = .int .i64 n ∧ Below w.heap.size w wl ∧ Glob wl ∧ DigZ wl w.heap.size (tagTo p ss n)) (fun v16 _ => len - (intOf v16).toNat)
  case atStart => exact ⟨0, by omega, rfl, hB3, hG3, hZ3⟩
  case round =>
    clear hB3 hG3 hZ3
    obtain ⟨n, hn, rfl, hB, hGr, hZ⟩ := hrel
    by_cases hlt : n < len
    · obtain ⟨t, ht⟩ : ∃ t, t = ss.getD n [] := ⟨_, rfl⟩
      have hcw := hc n hlt
      rw [← ht] at hcw
      have hbl := World.block_lt_of_cell? w _ hcw
      have hcr : wr.cell? ⟨b, o + n, none⟩ = some (.string ⟨t.toArray⟩) := by rw [hB.cell (p := ⟨b, o + n, none⟩) hbl]; exact hcw
      have HT : Hid (tagTo p ss (n + 1) = tagTo p ss n ++ be t.length 4 ++ t) := by rw [tagTo, ht]; exact rfl
      have hl1 := tagTo_le p ss (n + 1) (len - (n + 1))
      rw [show n + 1 + (len - (n + 1)) = len from by omega, HT.out, List.length_append, List.length_append, be_length] at hl1
      clear ht hcw hc
      go_wp2_with (first
        | (go_at_call 154; refine (number_any t.length 4 _ (by omega) (by omega)).mono ?_; rintro e w2 ⟨rfl, hw2⟩)
        | (go_at_call_of 153 (Value.string ⟨(be t.length 4).toArray⟩); refine (writeZ w.heap.size (tagTo p ss n) (be t.length 4) _ (hGr.belowSize hw2) hD2 (by rw [be_length]; omega) (hZ.below hw2)).mono ?_; rintro e w4 ⟨rfl, hZ4, hg4⟩)
        | (go_at_call_of 153 (Value.string ⟨t.toArray⟩); refine (writeZ w.heap.size (tagTo p ss n ++ be t.length 4) t _ ((hGr.belowSize hw2).grown hg4 hD2) hD2 (by rw [List.length_append, be_length]; omega) hZ4).mono ?_; rintro e w5 ⟨rfl, hZ5, hg5⟩))
      go_roundw
      case rel =>
        have hB2 := hB.trans (hw2.mono hB.size)
        have hB4 := hB2.trans (below_of_grown hg4 (Nat.le_refl _) hB2.size)
        exact ⟨n + 1, by omega, by go_num, hB4.trans (below_of_grown hg5 (Nat.le_refl _) hB4.size), ((hGr.belowSize hw2).grown hg4 hD2).grown hg5 hD2, by rw [HT.out]; exact hZ5⟩
      case measure => simp [intOf]; omega
    · have hZl : DigZ wr w.heap.size (tagTo p ss len) := by rw [show len = n from by omega]; exact hZ
      clear hZ
      go_wp2_with (go_at_call 155; refine (dsumZ w.heap.size (tagTo p ss len) _ hGr hlen hZl).mono ?_; rintro e w5 ⟨rfl, hw5⟩)
      go_ret
      exact ⟨rfl, hB.trans (hw5.mono hB.size)⟩
end Go.Proofs.YtmbdhngoldganaaGreatDoor.Sh
