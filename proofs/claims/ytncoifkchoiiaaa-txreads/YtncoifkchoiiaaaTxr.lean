/- What TxReads does. -/
import Derived.Test.YtncoifkchoiiaaaAwk
import Derived.Test.YtncoifkchoiiaaaRtk
namespace Go.Proofs.Ytncoifkchoiiaaa
open Go Go.RowKit
theorem takeV_bad {rF : R} {rT : TX} (h : rF.err ≠ 0) (sl : Value) : takeV rF rT sl = txc 0 0 (.slice none 0 0) := if_neg h
theorem takeV_good {rF : R} {rT : TX} (h : rF.err = 0) (sl : Value) : takeV rF rT sl = txc rT.client rT.nonce sl := if_pos h
theorem OL.toSL {w : World} {t : TypeId} {lo : Nat} {a : Option Addr} {n cap : Nat} {l : List O} (h : OL w t lo (.slice a n cap) l) : SL w a l := by
  obtain ⟨a', cap', he, hs⟩ := h.sl
  simp only [Value.slice.injEq] at he
  rw [he.1]
  exact hs
set_option maxRecDepth 100000 in
set_option maxHeartbeats 1000000 in
theorem reads_any (s : List UInt8) (w : World) (hl : s.length ≤ 140737488355328) : Calls Try.prog 3 #[.string ⟨s.toArray⟩] w fun e w' => e = .returned (.bool true) ∧ Below w.heap.size w w' := by
  have hk0 : (⟨s, 0, 0⟩ : R).ok := Nat.zero_le _
  have HD := fun w => decode_any s w hl
  have HT := fun w => rtake_any ⟨s, 0, 0⟩ w hk0 hl
  have HE := fun w => rend_any (rdE ⟨s, 0, 0⟩) w
  change ∀ w, Calls Try.prog 6 #[.agg (rcR (rdE ⟨s, 0, 0⟩))] w fun e w' => e = .returned (.agg (rcR (rdE ⟨s, 0, 0⟩).fin)) ∧ Below w.heap.size w w' at HE
  have HA := fun w => awake_any w
  have hF := @R.fin_err (rdE ⟨s, 0, 0⟩)
  have hGood := @rd_all s
  have hlt := rdT_lt ⟨s, 0, 0⟩
  generalize rdT ⟨s, 0, 0⟩ = rT at *
  generalize rdE ⟨s, 0, 0⟩ = rE at *
  generalize rE.fin = rF at *
  by_cases hz : rF.err = 0
  · have hE0 : Hid (rE.err = 0) := hF hz
    have hV : Hid (∀ sl, takeV rF rT sl = txc rT.client rT.nonce sl) := fun sl => takeV_good hz sl
    obtain ⟨hG1, hG2⟩ := hGood hz
    have hGs : Hid (txB rT = s) := hG1
    have hok : Hid (OkT rT) := okTx_of hG2
    have hTk : Hid (rT.ops.take 9 = rT.ops) := List.take_of_length_le (by have := (okTx_of hG2).len1; omega)
    have hz' : Hid (rF.err = 0) := hz
    clear hF hGood hG1 hG2
    go_enter Try.func3, Try.ntmps3
    go_wp2_with (first
      | (go_at_call 4; refine (HD _).mono ?_; rintro e w1 ⟨sl, rfl, hw1, hO1⟩; rw [hV.out sl]; obtain ⟨a1, cap1, rfl, hSL1⟩ := hO1.sl; clear hSL1; have HB := hw1; clear hw1)
      | (go_at_call 5; refine (HT _).mono ?_; rintro e w4 ⟨c4, n4, sl4, l4, rfl, hw4, hO4, hI4⟩; obtain ⟨rfl, rfl, rfl⟩ := hI4 hE0.out; obtain ⟨a4, cap4, rfl, hSL4⟩ := hO4.sl; clear hSL4 hI4; replace hO1 := hO1.below hw4; replace h3 := h3.belowSize hw4; replace HB := HB.trans (hw4.mono HB.size); clear hw4)
      | (go_at_call 6; refine (HE _).mono ?_; rintro e w9 ⟨rfl, hw9⟩; replace h3 := h3.belowSize hw9; replace h5 := h5.belowSize hw9; replace h6 := h6.belowSize hw9; replace hO1 := hO1.below hw9; replace hO4 := hO4.below hw9; replace HB := HB.trans (hw9.mono HB.size); clear hw9)
      | (go_at_call 7; refine (HA _).mono ?_; rintro e w11 ⟨rfl, hw11⟩; replace h3 := h3.belowSize hw11; replace h5 := h5.belowSize hw11; replace h6 := h6.belowSize hw11; replace hO1 := hO1.below hw11; replace hO4 := hO4.below hw11; replace HB := HB.trans (hw11.mono HB.size); clear hw11; have c5 := (h5.cell 2).trans (rcR_g2 _))
      | (with_reducible refine at_list ?_; first
        | (refine wpList_allocRow (op := ⟨some 3, _, _, _, _, _⟩) rfl _ rfl _ zTx.1 ?_; intro w2 hw2 hs2 h3; replace hs2 := hs2.symm; have hB1 := HB.size; replace hO1 := hO1.below hw2; replace HB := HB.trans (hw2.mono HB.size); clear hw2)
        | (refine wpList_storeRow (op := ⟨none, .store 25 (.tmp 3) (.tmp 10), _, _, _, _⟩) rfl _ _ _ rfl w1.heap.size (txc rT.client rT.nonce (.slice a1 rT.ops.length cap1)) rfl rfl _ _ h3 (by simp only [txc_size]) (by rw [txc_size]; exact zTx.2) (txc_one _ _ _ _ _) ?_; intro w3 hg3 hs3 hb3; clear hs3; replace hO1 := hO1.grown hg3 h3 (by decide); replace HB := HB.trans (below_of_grown hg3 hB1 HB.size); replace h3 := hb3; clear hg3 hb3)
        | (refine wpList_build (o := ⟨some 14, _, _, _, _, _⟩) rfl _ _ rfl (built39 s) ?_)
        | (refine wpList_allocRow (op := ⟨some 5, _, _, _, _, _⟩) rfl _ rfl _ zRd.1 ?_; intro w5 hw5 hs5 h5; replace hs5 := hs5.symm; have hl3 := h3.lt; replace h3 := h3.belowSize hw5; have hB4 := HB.size; replace hO1 := hO1.below hw5; replace hO4 := hO4.below hw5; replace HB := HB.trans (hw5.mono HB.size); clear hw5)
        | (refine wpList_allocRow (op := ⟨some 6, _, _, _, _, _⟩) rfl _ rfl _ zRtx.1 ?_; intro w6 hw6 hs6 h6; replace hs6 := hs6.symm; replace h3 := h3.belowSize hw6; replace h5 := h5.belowSize hw6; replace hO1 := hO1.below hw6; replace hO4 := hO4.below hw6; replace HB := HB.trans (hw6.mono HB.size); clear hw6)
        | (refine wpList_storeRow (op := ⟨none, .store 30 (.tmp 5) (.tmp 16), _, _, _, _⟩) rfl _ _ _ rfl w4.heap.size (rcR rE) rfl rfl _ _ h5 (by simp only [rcR_size]) (by rw [rcR_size]; exact z39.2) (rcR_one _) ?_; intro w7 hg7 hs7 hb7; clear hs7; replace hO1 := hO1.grown hg7 h5 (by decide); replace hO4 := hO4.grown hg7 h5 (by decide); replace h3 := h3.grown hg7 (by simp; omega); replace h6 := h6.grown hg7 (by simp; omega); replace HB := HB.trans (below_of_grown hg7 hB4 HB.size); replace h5 := hb7; clear hg7 hb7)
        | (refine wpList_storeRow (op := ⟨none, .store 33 (.tmp 6) (.tmp 17), _, _, _, _⟩) rfl _ _ _ rfl w5.heap.size (txc rT.client rT.nonce (.slice a4 rT.ops.length cap4)) rfl rfl _ _ h6 (by simp only [txc_size]) (by rw [txc_size]; exact zRtx.2) (txc_one _ _ _ _ _) ?_; intro w8 hg8 hs8 hb8; clear hs8; replace hO1 := hO1.grown hg8 h6 (by decide); replace hO4 := hO4.grown hg8 h6 (by decide); replace h3 := h3.grown hg8 (by simp; omega); replace h5 := h5.grown hg8 (by simp; omega); replace HB := HB.trans (below_of_grown hg8 (by omega) HB.size); replace h6 := hb8; clear hg8 hb8)
        | (refine wpList_loadRow (op := ⟨some 18, _, _, _, _, _⟩) rfl _ _ rfl w4.heap.size rfl _ _ h5 _ Try.underlying30 rfl (by rw [rcR_size]; exact z39.2) ?_)
        | (refine wpList_storeRow (op := ⟨none, .store 30 (.tmp 5) (.tmp 19), _, _, _, _⟩) rfl _ _ _ rfl w4.heap.size (rcR rF) rfl rfl _ _ h5 (by simp only [rcR_size]) (by rw [rcR_size]; exact z39.2) (rcR_one _) ?_; intro w10 hg10 hs10 hb10; clear hs10; replace hO1 := hO1.grown hg10 h5 (by decide); replace hO4 := hO4.grown hg10 h5 (by decide); replace h3 := h3.grown hg10 (by simp; omega); replace h6 := h6.grown hg10 (by simp; omega); replace HB := HB.trans (below_of_grown hg10 hB4 HB.size); replace h5 := hb10; clear hg10 hb10)))
    clear c5
    obtain ⟨B3, hB30⟩ : ∃ B, B = w1.heap.size := ⟨_, rfl⟩
    obtain ⟨B6, hB60⟩ : ∃ B, B = w5.heap.size := ⟨_, rfl⟩
    rw [← hB30] at h3 ⊢
    rw [← hB60] at h6 ⊢
    clear hB30 hB60
    have hBR := fun a cap w (h : SL w a rT.ops) => rtxb_any rT hok.out hlt.1 hlt.2 a cap w h
    rw [hGs.out] at hBR
    have hRef := fun w (h : SL w a1 rT.ops) => ref_any rT.client rT.nonce rT.ops a1 cap1 w h
    rw [hTk.out] at hRef
    replace HB := HB.drew
    replace hO1 := hO1.drew
    replace hO4 := hO4.drew
    refine wp_region_held_drew (S := fun w' => Blk w' B3 (txc rT.client rT.nonce (.slice a1 rT.ops.length cap1)) 25 ∧ Blk w' B6 (txc rT.client rT.nonce (.slice a4 rT.ops.length cap4)) 33) (by kernel_rfl) ⟨h3.drew, h6.drew⟩ (fun hHeld => ?_)
    clear h3 h5 h6
    refine wpAnyH_take (i := 0) (oi := ⟨some 45, _, _, _, _, _⟩) (v := .agg (txc rT.client rT.nonce (.slice a1 rT.ops.length cap1))) rfl (by kernel_rfl) (by kernel_rfl) (by kernel_rfl) (fun _ _ _ h => h) (Or.inl ⟨by rfl, fun w hSw => run_loadRow _ _ rfl _ rfl _ _ hSw.1 _ Try.underlying25 rfl (by rw [txc_size]; exact zTx.2)⟩) hHeld ?_
    refine wpAnyH_take (i := 3) (oi := ⟨some 48, _, _, _, _, _⟩) (v := .agg (txc rT.client rT.nonce (.slice a4 rT.ops.length cap4))) rfl (by kernel_rfl) (by kernel_rfl) (by kernel_rfl) (fun _ _ _ h => h) (Or.inl ⟨by rfl, fun w hSw => run_loadRow _ _ rfl _ rfl _ _ hSw.2 _ Try.underlying33 rfl (by rw [txc_size]; exact zRtx.2)⟩) hHeld ?_
    simp only [Act.put, List.setIfInBounds_toArray, List.set_cons_zero, List.set_cons_succ]
    refine wpAnyH_ready (rs := [1]) (by kernel_rfl) (by simp) ?_
    refine AllReadyH.cons (o := ⟨some 46, .call ⟨.value (.func 9), #[.tmp 45], #[25]⟩, _, _, _, _⟩) rfl (fun K hK => ?_) AllReadyH.nil
    rw [if_pos (by rfl)]
    go_simp
    refine (hRef _ hO1.toSL).mono ?_
    rintro e wA ⟨sl6, rfl, hwA, hO6⟩
    have hHx := And.intro (hHeld.1.belowSize hwA) (hHeld.2.belowSize hwA)
    refine hK.out _ _ hHx (fun _ => ?_)
    clear hK K hHeld
    have hHeld := hHx
    clear hHx
    replace hO1 := hO1.below hwA
    replace hO4 := hO4.below hwA
    replace HB := HB.trans (hwA.mono HB.size)
    obtain ⟨a6, cap6, rfl, hSL6⟩ := hO6.sl
    clear hSL6
    refine wpAnyH_ready (rs := [2]) (by kernel_rfl) (by simp) ?_
    refine AllReadyH.cons (o := ⟨some 47, .call ⟨.value (.func 8), #[.tmp 46], #[33]⟩, _, _, _, _⟩) rfl (fun K hK => ?_) AllReadyH.nil
    rw [if_pos (by rfl)]
    go_simp
    refine (hBR _ _ _ hO6.toSL).mono ?_
    rintro e wB ⟨rfl, hwB⟩
    have hHx := And.intro (hHeld.1.belowSize hwB) (hHeld.2.belowSize hwB)
    refine hK.out _ _ hHx (fun _ => ?_)
    clear hK K hHeld
    have hHeld := hHx
    clear hHx
    replace hO1 := hO1.below hwB
    replace hO4 := hO4.below hwB
    replace HB := HB.trans (hwB.mono HB.size)
    refine wpAnyH_ready (rs := [4]) (by kernel_rfl) (by simp) ?_
    refine AllReadyH.cons (o := ⟨some 49, .call ⟨.value (.func 8), #[.tmp 48], #[33]⟩, _, _, _, _⟩) rfl (fun K hK => ?_) AllReadyH.nil
    rw [if_pos (by rfl)]
    go_simp
    refine (hBR _ _ _ hO4.toSL).mono ?_
    rintro e wC ⟨rfl, hwC⟩
    have hHx := And.intro (hHeld.1.belowSize hwC) (hHeld.2.belowSize hwC)
    refine hK.out _ _ hHx (fun _ => ?_)
    clear hK K hHeld
    have hHeld := hHx
    clear hHx
    replace hO1 := hO1.below hwC
    replace hO4 := hO4.below hwC
    replace HB := HB.trans (hwC.mono HB.size)
    try simp only [Act.put, List.setIfInBounds_toArray, List.set_cons_zero, List.set_cons_succ]
    refine wpAnyH_take (i := 5) (oi := ⟨some 50, _, _, _, _, _⟩) (v := .bool true) rfl (by kernel_rfl) (by kernel_rfl) (by kernel_rfl) (fun _ _ _ h => h) (Or.inl ⟨by rfl, fun w hSw => by go_simp⟩) hHeld ?_
    refine wpAnyH_take (i := 6) (oi := ⟨some 51, _, _, _, _, _⟩) (v := .bool true) rfl (by kernel_rfl) (by kernel_rfl) (by kernel_rfl) (fun _ _ _ h => h) (Or.inl ⟨by rfl, fun w hSw => by go_simp⟩) hHeld ?_
    simp only [Act.put, List.setIfInBounds_toArray, List.set_cons_zero, List.set_cons_succ]
    refine wpAnyH_take (i := 7) (oi := ⟨some 52, _, _, _, _, _⟩) (v := .agg (txc rT.client rT.nonce (.slice a4 rT.ops.length cap4))) rfl (by kernel_rfl) (by kernel_rfl) (by kernel_rfl) (fun _ _ _ h => h) (Or.inl ⟨by rfl, fun w hSw => run_loadRow _ _ rfl _ rfl _ _ hSw.2 _ Try.underlying33 rfl (by rw [txc_size]; exact zRtx.2)⟩) hHeld ?_
    refine wpAnyH_take (i := 9) (oi := ⟨some 54, _, _, _, _, _⟩) (v := .string ⟨s.toArray⟩) rfl (by kernel_rfl) (by kernel_rfl) (by kernel_rfl) (fun _ _ _ h => h) (Or.inl ⟨by rfl, fun w hSw => by go_simp⟩) hHeld ?_
    simp only [Act.put, List.setIfInBounds_toArray, List.set_cons_zero, List.set_cons_succ]
    refine wpAnyH_ready (rs := [8]) (by kernel_rfl) (by simp) ?_
    refine AllReadyH.cons (o := ⟨some 53, .call ⟨.value (.func 8), #[.tmp 52], #[33]⟩, _, _, _, _⟩) rfl (fun K hK => ?_) AllReadyH.nil
    rw [if_pos (by rfl)]
    go_simp
    refine (hBR _ _ _ hO4.toSL).mono ?_
    rintro e wD ⟨rfl, hwD⟩
    have hHx := And.intro (hHeld.1.belowSize hwD) (hHeld.2.belowSize hwD)
    refine hK.out _ _ hHx (fun _ => ?_)
    clear hK K hHeld
    have hHeld := hHx
    clear hHx
    replace hO1 := hO1.below hwD
    replace hO4 := hO4.below hwD
    replace HB := HB.trans (hwD.mono HB.size)
    try simp only [Act.put, List.setIfInBounds_toArray, List.set_cons_zero, List.set_cons_succ]
    refine wpAnyH_take (i := 10) (oi := ⟨some 55, _, _, _, _, _⟩) (v := .bool true) rfl (by kernel_rfl) (by kernel_rfl) (by kernel_rfl) (fun _ _ _ h => h) (Or.inl ⟨by rfl, fun w hSw => by go_simp⟩) hHeld ?_
    refine wpAnyH_take (i := 11) (oi := ⟨some 56, _, _, _, _, _⟩) (v := .bool true) rfl (by kernel_rfl) (by kernel_rfl) (by kernel_rfl) (fun _ _ _ h => h) (Or.inl ⟨by rfl, fun w hSw => by go_simp⟩) hHeld ?_
    refine wpAnyH_take (i := 12) (oi := ⟨some 2, _, _, _, _, _⟩) (v := .bool true) rfl (by kernel_rfl) (by kernel_rfl) (by kernel_rfl) (fun _ _ _ h => h) (Or.inl ⟨by rfl, fun w hSw => by go_simp⟩) hHeld ?_
    refine wpAnyH_done (by kernel_rfl) ?_ _
    simp only [Act.put]
    go_simp
    go_wp2_with fail
    go_ret
    exact ⟨rfl, HB⟩
  · have hne : (rF.err != 0) = true := by simpa using hz
    have hV : Hid (∀ sl, takeV rF rT sl = txc 0 0 (.slice none 0 0)) := fun sl => takeV_bad hz sl
    clear hF hGood hz
    go_enter Try.func3, Try.ntmps3
    go_wp2_with (first
      | (go_at_call 4; refine (HD _).mono ?_; rintro e w1 ⟨sl, rfl, hw1, hO1⟩; rw [hV.out sl]; have HB := hw1; clear hw1)
      | (go_at_call 5; refine (HT _).mono ?_; rintro e w4 ⟨c4, n4, sl4, l4, rfl, hw4, hO4, hI4⟩; obtain ⟨a4, cap4, rfl, hSL4⟩ := hO4.sl; replace h3 := h3.belowSize hw4; replace HB := HB.trans (hw4.mono HB.size); clear hw4)
      | (go_at_call 6; refine (HE _).mono ?_; rintro e w9 ⟨rfl, hw9⟩; replace h3 := h3.belowSize hw9; replace h5 := h5.belowSize hw9; replace h6 := h6.belowSize hw9; replace HB := HB.trans (hw9.mono HB.size); clear hw9)
      | (go_at_call 7; refine (HA _).mono ?_; rintro e w11 ⟨rfl, hw11⟩; replace h3 := h3.belowSize hw11; replace h5 := h5.belowSize hw11; replace h6 := h6.belowSize hw11; replace HB := HB.trans (hw11.mono HB.size); clear hw11; have c5 := (h5.cell 2).trans (rcR_g2 _); have d0 := (h3.cell 0).trans (txc_g0 _ _ _); have d1 := (h3.cell 1).trans (txc_g1 _ _ _); have d2 := (h3.cell 2).trans (txc_g2 _ _ _))
      | (with_reducible refine at_list ?_; first
        | (refine wpList_allocRow (op := ⟨some 3, _, _, _, _, _⟩) rfl _ rfl _ zTx.1 ?_; intro w2 hw2 hs2 h3; replace hs2 := hs2.symm; have hB1 := HB.size; replace HB := HB.trans (hw2.mono HB.size); clear hw2)
        | (refine wpList_storeRow (op := ⟨none, .store 25 (.tmp 3) (.tmp 10), _, _, _, _⟩) rfl _ _ _ rfl w1.heap.size (txc 0 0 (.slice none 0 0)) rfl rfl _ _ h3 (by simp only [txc_size]) (by rw [txc_size]; exact zTx.2) (txc_one _ _ _ _ _) ?_; intro w3 hg3 hs3 hb3; clear hs3; replace HB := HB.trans (below_of_grown hg3 hB1 HB.size); replace h3 := hb3; clear hg3 hb3)
        | (refine wpList_build (o := ⟨some 14, _, _, _, _, _⟩) rfl _ _ rfl (built39 s) ?_)
        | (refine wpList_allocRow (op := ⟨some 5, _, _, _, _, _⟩) rfl _ rfl _ zRd.1 ?_; intro w5 hw5 hs5 h5; replace hs5 := hs5.symm; have hl3 := h3.lt; replace h3 := h3.belowSize hw5; have hB4 := HB.size; replace HB := HB.trans (hw5.mono HB.size); clear hw5)
        | (refine wpList_allocRow (op := ⟨some 6, _, _, _, _, _⟩) rfl _ rfl _ zRtx.1 ?_; intro w6 hw6 hs6 h6; replace hs6 := hs6.symm; replace h3 := h3.belowSize hw6; replace h5 := h5.belowSize hw6; replace HB := HB.trans (hw6.mono HB.size); clear hw6)
        | (refine wpList_storeRow (op := ⟨none, .store 30 (.tmp 5) (.tmp 16), _, _, _, _⟩) rfl _ _ _ rfl w4.heap.size (rcR rE) rfl rfl _ _ h5 (by simp only [rcR_size]) (by rw [rcR_size]; exact z39.2) (rcR_one _) ?_; intro w7 hg7 hs7 hb7; clear hs7; replace h3 := h3.grown hg7 (by simp; omega); replace h6 := h6.grown hg7 (by simp; omega); replace HB := HB.trans (below_of_grown hg7 hB4 HB.size); replace h5 := hb7; clear hg7 hb7)
        | (refine wpList_storeRow (op := ⟨none, .store 33 (.tmp 6) (.tmp 17), _, _, _, _⟩) rfl _ _ _ rfl w5.heap.size (txc c4 n4 (.slice a4 l4.length cap4)) rfl rfl _ _ h6 (by simp only [txc_size]) (by rw [txc_size]; exact zRtx.2) (txc_one _ _ _ _ _) ?_; intro w8 hg8 hs8 hb8; clear hs8; replace h3 := h3.grown hg8 (by simp; omega); replace h5 := h5.grown hg8 (by simp; omega); replace HB := HB.trans (below_of_grown hg8 (by omega) HB.size); replace h6 := hb8; clear hg8 hb8)
        | (refine wpList_loadRow (op := ⟨some 18, _, _, _, _, _⟩) rfl _ _ rfl w4.heap.size rfl _ _ h5 _ Try.underlying30 rfl (by rw [rcR_size]; exact z39.2) ?_)
        | (refine wpList_storeRow (op := ⟨none, .store 30 (.tmp 5) (.tmp 19), _, _, _, _⟩) rfl _ _ _ rfl w4.heap.size (rcR rF) rfl rfl _ _ h5 (by simp only [rcR_size]) (by rw [rcR_size]; exact z39.2) (rcR_one _) ?_; intro w10 hg10 hs10 hb10; clear hs10; replace h3 := h3.grown hg10 (by simp; omega); replace h6 := h6.grown hg10 (by simp; omega); replace HB := HB.trans (below_of_grown hg10 hB4 HB.size); replace h5 := hb10; clear hg10 hb10)))
    go_ret
    exact ⟨rfl, HB⟩
end Go.Proofs.Ytncoifkchoiiaaa
