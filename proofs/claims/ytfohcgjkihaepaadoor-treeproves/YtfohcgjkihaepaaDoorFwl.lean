/- What few and same do. -/
import Derived.Test.YtfohcgjkihaepaaDoorSSl
import Derived.Deep.RegionHeld3
import Derived.BigQuiet
namespace Go.Proofs.YtfohcgjkihaepaaDoor.Sh
open Go Go.RowKit
def fT (l : List (List UInt8)) (i : Nat) : List (List UInt8) := (l.take i).map (·.take 100)
/-- A list that is not too long. -/
def fewD (l : List (List UInt8)) : List (List UInt8) := fT l 40
theorem fT_zero (l : List (List UInt8)) : fT l 0 = [] := by simp [fT]
theorem fT_succ {l : List (List UInt8)} {i : Nat} (h : i < l.length) : fT l (i + 1) = fT l i ++ [(l[i]).take 100] := by
  unfold fT
  rw [List.take_succ_eq_append_getElem h, List.map_append]
  rfl
theorem fT_len {l : List (List UInt8)} {i : Nat} (h : i ≤ l.length) : (fT l i).length = i := by
  unfold fT
  rw [List.length_map, List.length_take]
  omega
theorem fewD_len (l : List (List UInt8)) : (fewD l).length ≤ 40 := by
  unfold fewD fT
  rw [List.length_map, List.length_take]
  omega
theorem fewD_each {l : List (List UInt8)} {x : List UInt8} (h : x ∈ fewD l) : x.length ≤ 100 := by
  unfold fewD fT at h
  obtain ⟨y, _, rfl⟩ := List.mem_map.1 h
  rw [List.length_take]
  omega
theorem fT_all {l : List (List UInt8)} (h : l.length ≤ 40) : fT l l.length = fewD l := by
  unfold fewD fT
  rw [List.take_length, List.take_of_length_le h]
theorem ext100 (s : List UInt8) : (ByteArray.mk s.toArray).extract 0 100 = ByteArray.mk (s.take 100).toArray := by
  apply ByteArray.ext
  simp
section
attribute [local go_sem] ext100
set_option maxRecDepth 100000 in
set_option maxHeartbeats 1000000 in
theorem few_any (l : List (List UInt8)) (a : Option Addr) (cap : Nat) (w : World) (hX : XA w a l) :
    Calls Tryd.prog 8 #[.slice a l.length cap] w fun e w' => ∃ g c, e = .returned (.slice (some ⟨g, 0, none⟩) (fewD l).length c) ∧ SS w' g c (fewD l) ∧ w.heap.size ≤ g ∧ Below w.heap.size w w' := by
  obtain ⟨iop, hi, hz, hs, hby⟩ := info9
  go_enter Tryd.func8, Tryd.ntmps8
  go_wp2_with (with_reducible refine at_list ?_; refine wpList_tsl0 (op := ⟨some 6, _, _, _, _, _⟩) rfl rfl ?_; intro w1 hw1 hs1 hS1; replace hs1 := hs1.symm)
  go_loopw [3, 4] (fun v3 v4 wl => ∃ i g c : Nat, i ≤ l.length ∧ i ≤ 40 ∧ v4 = .int .i64 i ∧ v3 = .slice (some ⟨g, 0, none⟩) i c ∧ SS wl g c (fT l i) ∧ w.heap.size ≤ g ∧ Below w.heap.size w wl) (fun _ v4 _ => l.length - (intOf v4).toNat)
  case atStart => exact ⟨0, _, 0, by omega, by omega, rfl, rfl, by rw [fT_zero]; exact hS1, Nat.le_refl _, hw1⟩
  case round =>
    obtain ⟨i, g, c, hil, hi4, rfl, rfl, hS, hlo, hB⟩ := hrel
    clear hw1 hs1 hS1
    have hfl : Hid (i = (fT l i).length) := (fT_len hil).symm
    by_cases hlt : i < l.length
    · by_cases h40 : i < 40
      · obtain ⟨g0, o, rfl, hr⟩ := (hX.below hB) i hlt
        have hT : Hid (fT l (i + 1) = fT l i ++ [(l[i]).take 100]) := fT_succ hlt
        generalize l[i] = s at *
        have hz1 : (0 : Int) ≤ (i : Int) := by omega
        have hz2 : (i : Int) < (l.length : Int) := by omega
        by_cases h100 : 100 < s.length
        · go_wp2_with (with_reducible refine at_list ?_; first
            | (refine wpList_tsl1 (op := ⟨some 28, _, _, _, _, _⟩) rfl _ rfl (s.take 100) rfl ?_; intro w2 hw2 hs2 hb2; replace hs2 := hs2.symm; have hS2 := hS.belowSize hw2; have hB2 := hB.trans (hw2.mono hB.size))
            | (refine wpList_appendSS (op := ⟨some 29, _, _, _, _, _⟩) rfl _ _ 22 rfl g c (fT l i) i hfl.out rfl hS2 wr.heap.size 1 rfl (s.take 100) 9 hb2 iop Tryd.underlying22 hi hz hs hby (by rw [← hfl.out]; omega) ?_; intro w3 g1 cap1 hg1 hg3 hS3))
          go_roundw
          case rel => exact ⟨i + 1, g1, cap1, by omega, by omega, by go_num, rfl, by rw [hT.out]; exact hS3, by rcases hg1 with rfl | h; exact hlo; exact Nat.le_trans hB2.size h, hB2.trans (below_of_grown hg3 hlo hB2.size)⟩
          case measure => simp [intOf]; omega
        · have hst : Hid (s.take 100 = s) := List.take_of_length_le (by omega)
          rw [hst.out] at hT
          go_wp2_with (with_reducible refine at_list ?_; first
            | (refine wpList_tsl1 (op := ⟨some 28, _, _, _, _, _⟩) rfl _ rfl s rfl ?_; intro w2 hw2 hs2 hb2; replace hs2 := hs2.symm; have hS2 := hS.belowSize hw2; have hB2 := hB.trans (hw2.mono hB.size))
            | (refine wpList_appendSS (op := ⟨some 29, _, _, _, _, _⟩) rfl _ _ 22 rfl g c (fT l i) i hfl.out rfl hS2 wr.heap.size 1 rfl s 9 hb2 iop Tryd.underlying22 hi hz hs hby (by rw [← hfl.out]; omega) ?_; intro w3 g1 cap1 hg1 hg3 hS3))
          go_roundw
          case rel => exact ⟨i + 1, g1, cap1, by omega, by omega, by go_num, rfl, by rw [hT.out]; exact hS3, by rcases hg1 with rfl | h; exact hlo; exact Nat.le_trans hB2.size h, hB2.trans (below_of_grown hg3 hlo hB2.size)⟩
          case measure => simp [intOf]; omega
      · have hii : Hid (i = 40) := by exact (show i = 40 by omega)
        have hfe : Hid (fT l i = fewD l) := by rw [hii.out]; exact rfl
        go_wp2_with fail
        go_ret
        exact ⟨g, c, by rw [← hfe.out, ← hfl.out]; rfl, by rw [← hfe.out]; exact hS, hlo, hB⟩
    · have hfe : Hid (fT l i = fewD l) := by
        rw [show i = l.length by omega]
        exact fT_all (by omega)
      go_wp2_with fail
      go_ret
      exact ⟨g, c, by rw [← hfe.out, ← hfl.out]; rfl, by rw [← hfe.out]; exact hS, hlo, hB⟩
end
set_option maxRecDepth 100000 in
set_option maxHeartbeats 1000000 in
theorem same_list (l m : List (List UInt8)) (a b : Option Addr) (ca cb : Nat) (w : World) (hX : XA w a l) (hY : XA w b m) (hlen : l.length ≤ 1000000) :
    Calls Tryd.prog 14 #[.slice a l.length ca, .slice b m.length cb] w fun e w' => e = .returned (.bool (decide (l = m))) ∧ Below w.heap.size w w' := by
  obtain ⟨R, hR⟩ : ∃ R, R = decide (l = m) := ⟨_, rfl⟩
  rw [← hR]
  replace hR : Hid (R = decide (l = m)) := hR
  by_cases hl : l.length = m.length
  · have hne : ((l.length : Int) != (m.length : Int)) = false := by rw [bne_eq_false_iff_eq]; omega
    have HL : Hid (l.length = m.length) := hl
    have hm1 : m.length ≤ l.length := by omega
    have hm2 : l.length ≤ m.length := by omega
    clear hl
    go_enter Tryd.func14, Tryd.ntmps14
    go_wp2_with fail
    go_loopw [5] (fun v5 wl => ∃ i : Nat, i ≤ l.length ∧ v5 = .int .i64 i ∧ Hid (l.take i = m.take i) ∧ Below w.heap.size w wl) (fun v5 _ => l.length - (intOf v5).toNat)
    case atStart => exact ⟨0, by omega, rfl, rfl, Below.refl _ _⟩
    case round =>
      obtain ⟨i, hil, rfl, hT, hB⟩ := hrel
      by_cases hlt : i < l.length
      · have hlm : i < m.length := by omega
        obtain ⟨g, o, rfl, hr⟩ := hX i hlt
        obtain ⟨g2, o2, rfl, hr2⟩ := hY i hlm
        have c1 : wr.cell? ⟨g, o + i, none⟩ = some (.string ⟨(l[i]).toArray⟩) := by rw [hB.cell (World.block_lt_of_cell? _ _ hr)]; exact hr
        have c2 : wr.cell? ⟨g2, o2 + i, none⟩ = some (.string ⟨(m[i]).toArray⟩) := by rw [hB.cell (World.block_lt_of_cell? _ _ hr2)]; exact hr2
        have hz1 : (0 : Int) ≤ (i : Int) := by omega
        have hz2 : (i : Int) < (l.length : Int) := by omega
        have hz3 : (i : Int) < (m.length : Int) := by omega
        have hN : Hid (l.take (i + 1) = m.take (i + 1) ↔ l[i] = m[i]) := by
          rw [List.take_succ_eq_append_getElem hlt, List.take_succ_eq_append_getElem hlm, hT.out]
          exact ⟨fun h => List.singleton_inj.1 (List.append_cancel_left h), fun h => by rw [h]⟩
        have hF : Hid (l = m → l[i] = m[i]) := fun h => by subst h; rfl
        clear hr hr2
        generalize l[i] = x at *
        generalize m[i] = y at *
        by_cases hxy : x = y
        · subst hxy
          have hN2 : Hid (l.take (i + 1) = m.take (i + 1)) := hN.out.2 rfl
          clear hN hF
          go_wp2_with fail
          go_quiet (fail)
          go_wp2_with fail
          go_roundw
          case rel => exact ⟨i + 1, by omega, by go_num, hN2, below_draws hB _⟩
          case measure => simp [intOf]; omega
        · have hb : (x == y) = false := by rw [beq_eq_false_iff_ne]; exact hxy
          have hd : Hid (decide (l = m) = false) := decide_eq_false (fun h => hxy (hF.out h))
          go_wp2_with fail
          go_quiet (fail)
          go_wp2_with fail
          go_ret
          exact ⟨by rw [show R = false from hR.out.trans hd.out]; rfl, below_draws hB _⟩
      · have hd : Hid (decide (l = m) = true) := decide_eq_true (by
          have h := hT.out
          rw [List.take_of_length_le (by omega), List.take_of_length_le (by omega)] at h
          exact h)
        go_wp2_with fail
        go_ret
        exact ⟨by rw [show R = true from hR.out.trans hd.out]; rfl, hB⟩
  · have hne : ((l.length : Int) != (m.length : Int)) = true := by rw [bne_iff_ne]; omega
    have hd : Hid (decide (l = m) = false) := decide_eq_false (fun h => hl (by rw [h]))
    replace hl : Hid (¬ l.length = m.length) := hl
    go_enter Tryd.func14, Tryd.ntmps14
    go_wp2_with fail
    go_ret
    exact ⟨by rw [show R = false from hR.out.trans hd.out]; rfl, Below.refl _ _⟩
end Go.Proofs.YtfohcgjkihaepaaDoor.Sh
