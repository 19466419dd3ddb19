/- What the plain Root and Path do. -/
import Derived.Test.YtfohcgjkihaepaaDoorSSl
import Derived.Test.YtfohcgjkihaepaaDoorTre
import Derived.Deep.RegionHeld3
namespace Go.Proofs.YtfohcgjkihaepaaDoor.Sh
open Go Go.RowKit
theorem mkApp_nat (x y : List UInt8) : (ByteArray.mk x.toArray ++ ByteArray.mk y.toArray) = ByteArray.mk (x ++ y).toArray := by
  apply ByteArray.ext
  simp
theorem mkApp0 (y : List UInt8) : (ByteArray.mk #[0] ++ ByteArray.mk y.toArray) = ByteArray.mk (0 :: y).toArray := mkApp_nat [0] y
theorem mkApp1 (y : List UInt8) : (ByteArray.mk #[1] ++ ByteArray.mk y.toArray) = ByteArray.mk (1 :: y).toArray := mkApp_nat [1] y
section
variable {P : Program} {ops : Array Oper} {o : Oper} {a : Act} {w : World} {K : Act → World → Prop} {Q : Exit → Act → World → Prop} {E : Prop}
theorem step_appSS (hgd : o.guard = none) (x y : Operand) (t : TypeId) (hop : o.op = .call { callee := .builtin .append, args := #[x, y], argTypes := #[t, t] })
    (g cap : Nat) (l : List (List UInt8)) (hx : a.eval x = .slice (some ⟨g, 0, none⟩) l.length cap) (hbs : SS w g cap l) (g2 c : Nat) (hy : a.eval y = .slice (some ⟨g2, 0, none⟩) 1 c) (s : List UInt8) (ty2 : TypeId) (hb2 : Blk w g2 #[sv s] ty2) (i : TypeInfo)
    (hu : P.underlying t = some (.slice 9)) (hi : P.info? 9 = some i) (hz : i.zero = some (.string ⟨#[]⟩)) (hs : i.size = 1) (hby : i.bytes = 16) (hlen : l.length + 1 ≤ 1099511627776)
    (h : ∀ (w1 : World) (g1 cap1 : Nat), (g1 = g ∨ w.heap.size ≤ g1) → w.grownBy w1 (some g) → SS w1 g1 cap1 (l ++ [s]) → K (a.put o.dst (.slice (some ⟨g1, 0, none⟩) (l.length + 1) cap1)) w1) :
    if Region.wanted o (yielded ops a.tmps) = true then Oper.wp P o a w K Q else E := by
  have hw : Region.wanted o (yielded ops a.tmps) = true := by simp [Region.wanted, hgd]
  rw [if_pos hw]
  obtain ⟨w1, g1, cap1, hr, hg1, hg, hb⟩ := run_appendSS (P := P) t o.type g cap l hbs g2 c s ty2 hb2 i hu hi hz hs hby hlen
  unfold Oper.wp
  simp [execOp, hop, resolve, invoke, builtin, hx, hy, hr, Result.andThen]
  exact h w1 g1 cap1 hg1 hg hb
end
section
attribute [local go_sem] mkApp_nat mkApp0 mkApp1
set_option maxRecDepth 100000 in
set_option maxHeartbeats 1000000 in
theorem rroot_of (rsum_any : ∀ (s : List UInt8) (w : World), s.length ≤ 549755813888 → Calls Tryd.prog 17 #[.string ⟨s.toArray⟩] w fun e w' => e = .returned (.string ⟨(digest s).toArray⟩) ∧ Below w.heap.size w w') : ∀ (n : Nat) (l : List (List UInt8)) (a : Option Addr) (cap : Nat) (w : World) (_ : l.length = n) (_ : XA w a l) (_ : l.length ≤ cap) (_ : l.length ≤ 1000) (_ : ∀ x ∈ l, x.length ≤ 1000),
    Calls Tryd.prog 12 #[.slice a l.length cap] w fun e w' => e = .returned (.string ⟨(rootD digest l).toArray⟩) ∧ Below w.heap.size w w' := by
  intro n
  induction n using Nat.strongRecOn with
  | ind n ih =>
    intro l a cap w hn hX hc hl hs
    subst hn
    by_cases h0 : l.length = 0
    · obtain rfl : l = [] := List.length_eq_zero_iff.1 h0
      have HS := rsum_any [] w (by simp)
      rw [rootD_nil]
      clear ih
      go_enter Tryd.func12, Tryd.ntmps12
      go_wp2_with (go_at_call 17; refine HS.mono ?_; rintro e w1 ⟨rfl, hw1⟩)
      go_ret
      exact ⟨rfl, hw1⟩
    · by_cases h1 : l.length = 1
      · obtain ⟨x, rfl⟩ := List.length_eq_one_iff.1 h1
        obtain ⟨g, o, rfl, hr⟩ := hX 0 (by simp)
        have hx := hs x (by simp)
        have HS := rsum_any (0 :: x) w (by simp; omega)
        have hc0 : w.cell? ⟨g, o, none⟩ = some (.string ⟨x.toArray⟩) := hr
        rw [rootD_one]
        unfold leafD
        clear ih
        go_enter Tryd.func12, Tryd.ntmps12
        go_wp2_with (go_at_call 17; refine HS.mono ?_; rintro e w1 ⟨rfl, hw1⟩)
        go_ret
        exact ⟨rfl, hw1⟩
      · have h2 : 2 ≤ l.length := by omega
        obtain ⟨g, o, rfl⟩ := hX.ex (by omega)
        have hb0 : ((l.length : Int) == 0) = false := by rw [beq_eq_false_iff_ne]; omega
        have hb1 : ((l.length : Int) == 1) = false := by rw [beq_eq_false_iff_ne]; omega
        clear h0 h1
        obtain ⟨R, hR⟩ : ∃ R, R = rootD digest l := ⟨_, rfl⟩
        rw [← hR]
        replace hR : Hid (R = rootD digest l) := hR
        go_enter Tryd.func12, Tryd.ntmps12
        go_wp2_with fail
        go_loopw [3] (fun v3 wl => ∃ e : Nat, 2 ^ e < l.length ∧ v3 = .int .i64 ((2 ^ e : Nat) : Int) ∧ Below w.heap.size w wl) (fun v3 _ => l.length - (intOf v3).toNat)
        case atStart => exact ⟨0, by show 1 < _; omega, rfl, Below.refl _ _⟩
        case round =>
          obtain ⟨e, he, rfl, hB⟩ := hrel
          have hp : 0 < 2 ^ e := Nat.pow_pos (by decide)
          have hps : Hid (2 ^ (e + 1) = 2 ^ e * 2) := Nat.pow_succ 2 e
          have hsp : Hid (l.length ≤ 2 ^ e * 2 → cutN l.length = 2 ^ e) := fun h => cutN_eq he (by omega)
          generalize hk : 2 ^ e = k at *
          replace hk : Hid (2 ^ e = k) := hk
          by_cases hlt : k * 2 < l.length
          · go_wp2_with fail
            go_roundw
            case rel => exact ⟨e + 1, by rw [hps.out]; exact hlt, by rw [hps.out]; go_num, hB⟩
            case measure => simp [intOf]; omega
          · have hse := hsp.out (by omega)
            have HR1 := ih k (by omega) (l.take k) (some ⟨g, o, none⟩) cap
            have hl1 : (l.take k).length = k := by rw [List.length_take]; omega
            have HR1 := fun w1 (hB : Below w.heap.size w w1) => ih k (by omega) (l.take k) (some ⟨g, o, none⟩) cap w1 hl1 ((hX.below hB).take k) (by omega) (by omega) (fun x hx => hs x (List.mem_of_mem_take hx))
            have hl2 : (l.drop k).length = l.length - k := List.length_drop
            have HR2 := fun w1 (hB : Below w.heap.size w w1) => ih (l.length - k) (by omega) (l.drop k) (some ⟨g, o + k, none⟩) (cap - k) w1 hl2 ((hX.below hB).drop k) (by omega) (by omega) (fun x hx => hs x (List.mem_of_mem_drop hx))
            rw [hl1] at HR1
            rw [hl2] at HR2
            have d1 := root_len digest digest_length (l.take k)
            have d2 := root_len digest digest_length (l.drop k)
            have hRt : Hid (rootD digest l = digest (1 :: (rootD digest (l.take k) ++ rootD digest (l.drop k)))) := by rw [rootD_cut digest h2, hse]; exact rfl
            have HS := fun w1 => rsum_any (1 :: (rootD digest (l.take k) ++ rootD digest (l.drop k))) w1 (by simp [d1, d2])
            replace hR : Hid (R = digest (1 :: (rootD digest (l.take k) ++ rootD digest (l.drop k)))) := hR.out.trans hRt.out
            rw [← hR.out] at HS
            clear hRt hl1 hl2 hse hsp ih
            generalize rootD digest (l.take k) = x1 at *
            generalize rootD digest (l.drop k) = x2 at *
            have hk1 : (k : Int) ≤ (l.length : Int) := by omega
            have hk2 : (k : Int) ≤ (cap : Int) := by omega
            have hk3 : (0 : Int) ≤ (k : Int) := by omega
            have hk4 : (l.length : Int) ≤ (cap : Int) := by omega
            have hk5 : ¬ cap = k := by omega
            have f1 : ¬ 9223372036854775807 < 1 + x1.length := by omega
            have f2 : ¬ 9223372036854775807 < 1 + x1.length + x2.length := by omega
            have f3 : ¬ 9223372036854775807 < x1.length + 1 := by omega
            have f4 : ¬ 9223372036854775807 < x1.length + 1 + x2.length := by omega
            have f5 : ¬ 9223372036854775807 < x1.length + x2.length + 1 := by omega
            clear d1 d2
            go_wp2_with fail
            go_region_held3 (fun _ => True) (trivial) (first
              | (go_at_call 12; refine (HR1 _ hB.drew).mono ?_; clear HR1; rintro e w2 ⟨rfl, hw2⟩; have hB2 := hB.drew.trans (hw2.mono hB.size))
              | (go_at_call 12; refine (HR2 _ hB2).mono ?_; clear HR2; rintro e w3 ⟨rfl, hw3⟩; have hB3 := hB2.trans (hw3.mono hB2.size))
              | (go_at_call 17; refine (HS _).mono ?_; rintro e w4 ⟨rfl, hw4⟩; have hB4 := hB3.trans (hw4.mono hB3.size)))
            go_wp2_with fail
            go_ret
            exact ⟨rfl, hB4⟩
set_option maxRecDepth 100000 in
set_option maxHeartbeats 2000000 in
theorem rpath_of (rsum_any : ∀ (s : List UInt8) (w : World), s.length ≤ 549755813888 → Calls Tryd.prog 17 #[.string ⟨s.toArray⟩] w fun e w' => e = .returned (.string ⟨(digest s).toArray⟩) ∧ Below w.heap.size w w') : ∀ (n : Nat) (l : List (List UInt8)) (a : Option Addr) (cap i : Nat) (w : World) (_ : l.length = n) (_ : XA w a l) (_ : l.length ≤ cap) (_ : l.length ≤ 1000) (_ : ∀ x ∈ l, x.length ≤ 1000) (_ : i ≤ 9223372036854775807),
    Calls Tryd.prog 15 #[.slice a l.length cap, .int .i64 i] w fun e w' => ∃ g c, e = .returned (.slice (some ⟨g, 0, none⟩) (pathD digest l i).length c) ∧ SS w' g c (pathD digest l i) ∧ w.heap.size ≤ g ∧ Below w.heap.size w w' := by
  obtain ⟨iop, hi, hz, hsz, hby⟩ := info9
  have hPL : Hid (∀ (l : List (List UInt8)) (i : Nat), l.length ≤ 1000 → (pathD digest l i).length ≤ 1000) := path_short digest
  intro n
  induction n using Nat.strongRecOn with
  | ind n ih =>
    intro l a cap i w hn hX hc hl hs hi64
    subst hn
    by_cases h2 : 2 ≤ l.length
    · obtain ⟨g, o, rfl⟩ := hX.ex (by omega)
      obtain ⟨R, hR⟩ : ∃ R, R = pathD digest l i := ⟨_, rfl⟩
      rw [← hR]
      replace hR : Hid (R = pathD digest l i) := hR
      have hb1 : ¬ ((l.length : Int) ≤ 1) := by omega
      go_enter Tryd.func15, Tryd.ntmps15
      go_wp2_with fail
      go_loopw [5] (fun v5 wl => ∃ e : Nat, 2 ^ e < l.length ∧ v5 = .int .i64 ((2 ^ e : Nat) : Int) ∧ Below w.heap.size w wl) (fun v5 _ => l.length - (intOf v5).toNat)
      case atStart => exact ⟨0, by show 1 < _; omega, rfl, Below.refl _ _⟩
      case round =>
        obtain ⟨e, he, rfl, hB⟩ := hrel
        have hp : 0 < 2 ^ e := Nat.pow_pos (by decide)
        have hps : Hid (2 ^ (e + 1) = 2 ^ e * 2) := Nat.pow_succ 2 e
        have hsp : Hid (l.length ≤ 2 ^ e * 2 → cutN l.length = 2 ^ e) := fun h => cutN_eq he (by omega)
        generalize hk : 2 ^ e = k at *
        replace hk : Hid (2 ^ e = k) := hk
        by_cases hlt : k * 2 < l.length
        · go_wp2_with fail
          go_roundw
          case rel => exact ⟨e + 1, by rw [hps.out]; exact hlt, by rw [hps.out]; go_num, hB⟩
          case measure => simp [intOf]; omega
        · have hse := hsp.out (by omega)
          have hl1 : (l.take k).length = k := by rw [List.length_take]; omega
          have hl2 : (l.drop k).length = l.length - k := List.length_drop
          have hk1 : (k : Int) ≤ (l.length : Int) := by omega
          have hk2 : (k : Int) ≤ (cap : Int) := by omega
          have hk3 : (0 : Int) ≤ (k : Int) := by omega
          have hk4 : (l.length : Int) ≤ (cap : Int) := by omega
          have hk5 : ¬ cap = k := by omega
          by_cases hik : i < k
          · have hz1 : ((i : Int) < (k : Int)) := by omega
            have HP := fun w1 (hB : Below w.heap.size w w1) => ih k (by omega) (l.take k) (some ⟨g, o, none⟩) cap i w1 hl1 ((hX.below hB).take k) (by omega) (by omega) (fun x hx => hs x (List.mem_of_mem_take hx)) (by omega)
            have HR := fun w1 (hB : Below w.heap.size w w1) => rroot_of rsum_any (l.length - k) (l.drop k) (some ⟨g, o + k, none⟩) (cap - k) w1 hl2 ((hX.below hB).drop k) (by omega) (by omega) (fun x hx => hs x (List.mem_of_mem_drop hx))
            rw [hl1] at HP
            rw [hl2] at HR
            have hPt : Hid (pathD digest l i = pathD digest (l.take k) i ++ [rootD digest (l.drop k)]) := by rw [pathD_left digest h2 (by rw [hse]; exact hik), hse]; exact rfl
            have hpl : (pathD digest (l.take k) i).length ≤ 1000 := hPL.out (l.take k) i (by omega)
            replace hR : Hid (R = pathD digest (l.take k) i ++ [rootD digest (l.drop k)]) := hR.out.trans hPt.out
            generalize pathD digest (l.take k) i = P1 at *
            generalize rootD digest (l.drop k) = x2 at *
            clear hPt hl1 hl2 hse hsp ih hPL
            have HT1 : ∀ w1 : World, (Instr.buildSlice 22 1 #[(0, .string ⟨x2.toArray⟩)]).run Tryd.prog w1 = .ok (.slice (some ⟨w1.heap.size, 0, none⟩) 1 1) (w1.alloc (.cells #[.string ⟨x2.toArray⟩] 9)) := fun w1 => tsl1 x2 w1
            go_wp2_with fail
            go_region_held3 (fun _ => True) (trivial) (first
              | (go_at_call 15; refine (HP _ hB.drew).mono ?_; rintro e w2 ⟨g1, c1, rfl, hS2, hg1, hw2⟩; have hB2 := hB.drew.trans (hw2.mono hB.size))
              | (go_at_call 12; refine (HR _ hB2).mono ?_; rintro e w3 ⟨rfl, hw3⟩; have hB3 := hB2.trans (hw3.mono hB2.size); have hS3 := hS2.belowSize hw3; have hA4 : Below w3.heap.size w3 (w3.alloc (.cells #[.string ⟨x2.toArray⟩] 9)) := (Below.refl _ _).alloc (Nat.le_refl _) _; have hS4 := hS3.belowSize hA4; have hB4 := hB3.trans (hA4.mono hB3.size))
              | (refine step_appSS (by rfl) _ _ 22 (by rfl) g1 c1 P1 (by rfl) hS4 w3.heap.size 1 (by rfl) x2 9 (Blk.new w3 #[.string ⟨x2.toArray⟩] 9) iop Tryd.underlying22 hi hz hsz hby (by omega) ?_; intro w5 g5 c5 hg5 hgr5 hS5))
            go_wp2_with fail
            go_ret
            have hlg : w.heap.size ≤ g1 := Nat.le_trans hB.size hg1
            exact ⟨g5, c5, by rw [hR.out, List.length_append]; rfl, by rw [hR.out]; exact hS5, by rcases hg5 with rfl | h; exact hlg; exact Nat.le_trans hB4.size h, hB4.trans (below_of_grown hgr5 hlg hB4.size)⟩
          · have hz1 : ¬ ((i : Int) < (k : Int)) := by omega
            have hwr : IntKind.i64.wrap ((i : Int) - (k : Int)) = (i : Int) - (k : Int) := by rw [IntKind.wrap_i64]; omega
            have HP := fun w1 (hB : Below w.heap.size w w1) => ih (l.length - k) (by omega) (l.drop k) (some ⟨g, o + k, none⟩) (cap - k) (i - k) w1 hl2 ((hX.below hB).drop k) (by omega) (by omega) (fun x hx => hs x (List.mem_of_mem_drop hx)) (by omega)
            have HR := fun w1 (hB : Below w.heap.size w w1) => rroot_of rsum_any k (l.take k) (some ⟨g, o, none⟩) cap w1 hl1 ((hX.below hB).take k) (by omega) (by omega) (fun x hx => hs x (List.mem_of_mem_take hx))
            rw [hl2] at HP
            rw [hl1] at HR
            have hcs : ((i - k : Nat) : Int) = (i : Int) - (k : Int) := by omega
            simp only [hcs] at HP
            clear hcs
            have hPt : Hid (pathD digest l i = pathD digest (l.drop k) (i - k) ++ [rootD digest (l.take k)]) := by rw [pathD_right digest h2 (by rw [hse]; exact hik), hse]; exact rfl
            have hpl : (pathD digest (l.drop k) (i - k)).length ≤ 1000 := hPL.out (l.drop k) (i - k) (by omega)
            replace hR : Hid (R = pathD digest (l.drop k) (i - k) ++ [rootD digest (l.take k)]) := hR.out.trans hPt.out
            generalize pathD digest (l.drop k) (i - k) = P1 at *
            generalize rootD digest (l.take k) = x2 at *
            clear hPt hl1 hl2 hse hsp ih hPL
            have HT1 : ∀ w1 : World, (Instr.buildSlice 22 1 #[(0, .string ⟨x2.toArray⟩)]).run Tryd.prog w1 = .ok (.slice (some ⟨w1.heap.size, 0, none⟩) 1 1) (w1.alloc (.cells #[.string ⟨x2.toArray⟩] 9)) := fun w1 => tsl1 x2 w1
            go_wp2_with fail
            go_region_held3 (fun _ => True) (trivial) (first
              | (go_at_call 15; refine (HP _ hB.drew).mono ?_; rintro e w2 ⟨g1, c1, rfl, hS2, hg1, hw2⟩; have hB2 := hB.drew.trans (hw2.mono hB.size))
              | (go_at_call 12; refine (HR _ hB2).mono ?_; rintro e w3 ⟨rfl, hw3⟩; have hB3 := hB2.trans (hw3.mono hB2.size); have hS3 := hS2.belowSize hw3; have hA4 : Below w3.heap.size w3 (w3.alloc (.cells #[.string ⟨x2.toArray⟩] 9)) := (Below.refl _ _).alloc (Nat.le_refl _) _; have hS4 := hS3.belowSize hA4; have hB4 := hB3.trans (hA4.mono hB3.size))
              | (refine step_appSS (by rfl) _ _ 22 (by rfl) g1 c1 P1 (by rfl) hS4 w3.heap.size 1 (by rfl) x2 9 (Blk.new w3 #[.string ⟨x2.toArray⟩] 9) iop Tryd.underlying22 hi hz hsz hby (by omega) ?_; intro w5 g5 c5 hg5 hgr5 hS5))
            go_wp2_with fail
            go_ret
            have hlg : w.heap.size ≤ g1 := Nat.le_trans hB.size hg1
            exact ⟨g5, c5, by rw [hR.out, List.length_append]; rfl, by rw [hR.out]; exact hS5, by rcases hg5 with rfl | h; exact hlg; exact Nat.le_trans hB4.size h, hB4.trans (below_of_grown hgr5 hlg hB4.size)⟩
    · rw [pathD_short digest (by omega)]
      have hb1 : ((l.length : Int) ≤ 1) := by omega
      clear ih hPL
      go_enter Tryd.func15, Tryd.ntmps15
      go_wp2_with (with_reducible refine at_list ?_; refine wpList_tsl0 (op := ⟨some 9, _, _, _, _, _⟩) rfl rfl ?_; intro w1 hw1 hs1 hS1; replace hs1 := hs1.symm)
      go_ret
      exact ⟨_, 0, rfl, hS1, Nat.le_refl _, hw1⟩
end
end Go.Proofs.YtfohcgjkihaepaaDoor.Sh
