/- What above does. -/
import Derived.Test.YtminjelnbnajhaaDoorTm
import Derived.Test.YtminjelnbnajhaaDoorRtg
namespace Go.Proofs.YtminjelnbnajhaaDoor
open Go Go.RowKit
theorem q_lt (a b : Nat) : decide (a < b) = decide (q a < q b) := by unfold q; rw [Bool.eq_iff_iff, decide_eq_true_iff, decide_eq_true_iff]; omega
theorem q_pos (b : Nat) : decide (0 < b) = decide (0 < q b) := by unfold q; rw [Bool.eq_iff_iff, decide_eq_true_iff, decide_eq_true_iff]; omega
theorem aboveL_succ (s : List Nat) (p at_ n : Nat) : aboveL s p at_ (n + 1) = if rd s n = want p at_ n then aboveL s p at_ n else decide (want p at_ n < rd s n) := rfl
attribute [local go_sem] q_low q_wlow
set_option maxRecDepth 100000 in
set_option maxHeartbeats 1000000 in
theorem above_any (x : List Nat) (p : Nat) (cube : Bool) (w : World) (hx : x.length = 4) :
    Calls Tryd.prog 42 #[.agg (wrow x), .int .u64 (q p), .bool cube] w fun e w' => e = .returned (.bool (aboveS x p cube)) ∧ Below w.heap.size w w' := by
  have hx2 : (x.take 2).length = 2 := by rw [List.length_take]; omega
  have hl4 := timesL_length (x.take 2) (x.take 2)
  have hl6 := timesL_length (timesL (x.take 2) (x.take 2)) (x.take 2)
  rw [hx2] at hl4 hl6
  rw [hl4] at hl6
  go_enter Tryd.func42, Tryd.ntmps42
  go_wp2_with (with_reducible refine at_list ?_; refine wpList_boxRow rfl _ _ rfl _ rfl ?_; intro w1 hw1 hs1 hb1; replace hs1 := hs1.symm)
  have hT := times_any w.heap.size 4 w.heap.size 4 (x.take 2) (x.take 2) w1.drew (hb1.drew.ws2 2) (hb1.drew.ws2 2) (by omega) (by omega) hb1.lt hb1.lt
  rw [hx2] at hT
  refine wp_region_any (by kernel_rfl) ?_
  change wpAny _ _ _ _ _ _ _ (World.drew _)
  refine wpAny_take (i := 0) (oi := ⟨some 11, _, _, _, _, _⟩) (v := .slice (some ⟨w.heap.size, 0, none⟩) 2 4) rfl (by kernel_rfl) (by kernel_rfl) (by kernel_rfl) (fun _ _ _ h => h) (Or.inl ⟨by rfl, fun w => by go_simp⟩) ?_
  refine wpAny_take (i := 1) (oi := ⟨some 12, _, _, _, _, _⟩) (v := .slice (some ⟨w.heap.size, 0, none⟩) 2 4) rfl (by kernel_rfl) (by kernel_rfl) (by kernel_rfl) (fun _ _ _ h => h) (Or.inl ⟨by rfl, fun w => by go_simp⟩) ?_
  simp only [Act.put, List.setIfInBounds_toArray, List.set_cons_zero, List.set_cons_succ]
  refine wpAny_ready (rs := [2]) (by kernel_rfl) (by simp) ?_
  refine AllReady.cons (o := ⟨some 13, .call ⟨.value (.func 46), #[.tmp 11, .tmp 12], #[77, 77]⟩, _, _, _, _⟩) rfl (fun K hK => ?_) AllReady.nil
  rw [if_pos (by rfl)]
  go_simp
  refine hT.mono ?_
  rintro e w2 ⟨rfl, hw2, hb2⟩
  refine hK _ _ ?_
  clear hK K hT
  refine wpAny_take (i := 3) (oi := ⟨some 7, _, _, _, _, _⟩) (v := .slice (some ⟨w1.heap.size, 0, none⟩) 4 4) rfl (by kernel_rfl) (by kernel_rfl) (by kernel_rfl) (fun _ _ _ h => h) (Or.inl ⟨by rfl, fun w => by go_simp⟩) ?_
  refine wpAny_done (by kernel_rfl) ?_ _
  simp only [Act.put, List.setIfInBounds_toArray, List.set_cons_zero, List.set_cons_succ]
  have hbx : Blk w2 w.heap.size (wrow x) 72 := hb1.drew.belowSize hw2
  have hB2 : Below w.heap.size w w2 := (hw1.drew).trans (hw2.mono (show w.heap.size ≤ w1.heap.size from hw1.size))
  replace hb2 : Blk w2 w1.heap.size (wrow (timesL (x.take 2) (x.take 2))) 46 := hb2
  have hG1 : w.heap.size < w1.heap.size := by omega
  generalize w1.heap.size = G at *
  clear hb1 hw1 hw2 hs1
  go_simp
  cases cube with
  | false =>
    have HA : Hid (aboveS x p false = aboveL (timesL (x.take 2) (x.take 2)) p 2 4) := rfl
    clear hl6
    go_wp2_with fail
    generalize hS : timesL (x.take 2) (x.take 2) = S at *
    clear hS
    go_loopw [9] (fun v wl => ∃ n : Nat, n ≤ 4 ∧ v = .int .i64 ((n : Int) - 1) ∧ aboveL S p 2 4 = aboveL S p 2 n ∧ Below w.heap.size w wl ∧ Blk wl G (wrow S) 46) (fun v _ => (intOf v + 1).toNat)
    case atStart => exact ⟨4, by omega, by go_num, rfl, hB2, hb2⟩
    case round =>
      obtain ⟨n, hn, rfl, hE, hB, hb⟩ := hrel
      have HE : Hid (aboveL S p 2 4 = aboveL S p 2 n) := hE
      clear hE
      cases n with
      | zero =>
        go_wp2_with fail
        go_ret
        refine ⟨?_, hB⟩
        rw [HA.out, HE.out]
        rfl
      | succ n =>
        rw [show (((n + 1 : Nat) : Int) - 1) = (n : Int) from by omega]
        have HS : Hid (aboveL S p 2 (n + 1) = if rd S n = want p 2 n then aboveL S p 2 n else decide (want p 2 n < rd S n)) := rfl
        have hc := (hb.cell n).trans (wrow_get S n (by omega))
        have hv0 : decide (0 ≤ (n : Int)) = true := by simp
        by_cases ha : n = 2
        · subst ha
          have hw : want p 2 2 = p % 4294967296 := rfl
          rw [hw] at HS
          clear hw
          by_cases he : rd S 2 = p % 4294967296
          · have q1 : (q (rd S 2) != q (p % 4294967296)) = false := by rw [he]; exact bne_self_eq_false _
            have HS2 : Hid (aboveL S p 2 4 = aboveL S p 2 2) := by rw [HE.out, HS.out, if_pos he]; exact rfl
            clear he HS HE
            go_wp2_with fail
            go_roundw
            case rel => exact ⟨2, by omega, by go_num, HS2.out, hB, hb⟩
            case measure => simp [intOf]
          · have q1 : (q (rd S 2) != q (p % 4294967296)) = true := by rw [bne_iff_ne]; unfold q; omega
            have HS2 : Hid (aboveL S p 2 4 = decide (q (p % 4294967296) < q (rd S 2))) := by rw [HE.out, HS.out, if_neg he]; exact q_lt _ _
            clear he HS HE
            go_wp2_with fail
            go_ret
            refine ⟨?_, hB⟩
            rw [HA.out, HS2.out]
            rfl
        · have hw : want p 2 n = 0 := by unfold want; rw [if_neg ha]
          rw [hw] at HS
          clear hw
          have a1 : ((n : Int) == 2) = false := by rw [beq_eq_false_iff_ne]; omega
          have a2 : decide ((n : Int) = 2) = false := by simp; omega
          by_cases he : rd S n = 0
          · have q1 : (q (rd S n) != 0) = false := by rw [he]; rfl
            have HS2 : Hid (aboveL S p 2 4 = aboveL S p 2 n) := by rw [HE.out, HS.out, if_pos he]; exact rfl
            clear he HS HE
            go_wp2_with fail
            go_roundw
            case rel => exact ⟨n, by omega, by go_num, HS2.out, hB, hb⟩
            case measure => simp [intOf]
          · have q1 : (q (rd S n) != 0) = true := by rw [bne_iff_ne]; unfold q; omega
            have HS2 : Hid (aboveL S p 2 4 = decide (0 < q (rd S n))) := by rw [HE.out, HS.out, if_neg he]; exact q_pos _
            clear he HS HE
            go_wp2_with fail
            go_ret
            refine ⟨?_, hB⟩
            rw [HA.out, HS2.out]
            rfl
  | true =>
    have HA : Hid (aboveS x p true = aboveL (timesL (timesL (x.take 2) (x.take 2)) (x.take 2)) p 3 6) := rfl
    have hT := times_any G 4 w.heap.size 4 (timesL (x.take 2) (x.take 2)) (x.take 2) w2 hb2.ws (hbx.ws2 2) (by omega) (by omega) hb2.lt hbx.lt
    rw [hx2, hl4] at hT
    go_wp2_with (go_at_call 46; refine hT.mono ?_; rintro e w3 ⟨rfl, hw3, hb3⟩)
    have hB3 := hB2.trans (hw3.mono hB2.size)
    generalize w2.heap.size = G3 at *
    clear hT hb2 hbx hw3 hB2
    generalize hS : timesL (timesL (x.take 2) (x.take 2)) (x.take 2) = S at *
    clear hS
    go_loopw [9] (fun v wl => ∃ n : Nat, n ≤ 6 ∧ v = .int .i64 ((n : Int) - 1) ∧ aboveL S p 3 6 = aboveL S p 3 n ∧ Below w.heap.size w wl ∧ Blk wl G3 (wrow S) 46) (fun v _ => (intOf v + 1).toNat)
    case atStart => exact ⟨6, by omega, by go_num, rfl, hB3, hb3⟩
    case round =>
      obtain ⟨n, hn, rfl, hE, hB, hb⟩ := hrel
      have HE : Hid (aboveL S p 3 6 = aboveL S p 3 n) := hE
      clear hE
      cases n with
      | zero =>
        go_wp2_with fail
        go_ret
        refine ⟨?_, hB⟩
        rw [HA.out, HE.out]
        rfl
      | succ n =>
        rw [show (((n + 1 : Nat) : Int) - 1) = (n : Int) from by omega]
        have HS : Hid (aboveL S p 3 (n + 1) = if rd S n = want p 3 n then aboveL S p 3 n else decide (want p 3 n < rd S n)) := rfl
        have hc := (hb.cell n).trans (wrow_get S n (by omega))
        have hv0 : decide (0 ≤ (n : Int)) = true := by simp
        by_cases ha : n = 3
        · subst ha
          have hw : want p 3 3 = p % 4294967296 := rfl
          rw [hw] at HS
          clear hw
          by_cases he : rd S 3 = p % 4294967296
          · have q1 : (q (rd S 3) != q (p % 4294967296)) = false := by rw [he]; exact bne_self_eq_false _
            have HS2 : Hid (aboveL S p 3 6 = aboveL S p 3 3) := by rw [HE.out, HS.out, if_pos he]; exact rfl
            clear he HS HE
            go_wp2_with fail
            go_roundw
            case rel => exact ⟨3, by omega, by go_num, HS2.out, hB, hb⟩
            case measure => simp [intOf]
          · have q1 : (q (rd S 3) != q (p % 4294967296)) = true := by rw [bne_iff_ne]; unfold q; omega
            have HS2 : Hid (aboveL S p 3 6 = decide (q (p % 4294967296) < q (rd S 3))) := by rw [HE.out, HS.out, if_neg he]; exact q_lt _ _
            clear he HS HE
            go_wp2_with fail
            go_ret
            refine ⟨?_, hB⟩
            rw [HA.out, HS2.out]
            rfl
        · have hw : want p 3 n = 0 := by unfold want; rw [if_neg ha]
          rw [hw] at HS
          clear hw
          have a1 : ((n : Int) == 3) = false := by rw [beq_eq_false_iff_ne]; omega
          have a2 : decide ((n : Int) = 3) = false := by simp; omega
          by_cases he : rd S n = 0
          · have q1 : (q (rd S n) != 0) = false := by rw [he]; rfl
            have HS2 : Hid (aboveL S p 3 6 = aboveL S p 3 n) := by rw [HE.out, HS.out, if_pos he]; exact rfl
            clear he HS HE
            go_wp2_with fail
            go_roundw
            case rel => exact ⟨n, by omega, by go_num, HS2.out, hB, hb⟩
            case measure => simp [intOf]
          · have q1 : (q (rd S n) != 0) = true := by rw [bne_iff_ne]; unfold q; omega
            have HS2 : Hid (aboveL S p 3 6 = decide (0 < q (rd S n))) := by rw [HE.out, HS.out, if_neg he]; exact q_pos _
            clear he HS HE
            go_wp2_with fail
            go_ret
            refine ⟨?_, hB⟩
            rw [HA.out, HS2.out]
            rfl
end Go.Proofs.YtminjelnbnajhaaDoor
