/- What do of the statements does, where a change of kind 1 is asked for. -/
import Derived.Test.YtgkkpmliociieaaDoo
namespace Go.Proofs.Ytgkkpmliociieaa
open Go Go.RowKit
set_option maxRecDepth 100000 in
set_option maxHeartbeats 4000000 in
theorem do_chg1 (p : Nat) (b : Option Nat) (d : DM) (m : RD) (x y : Value) (a : AC) (w : World) (hD : DK w p b d) (hx : RL w 0 x m.now) (hy : RL w 0 y m.sure) (hS : Sam d m) (hm : Okd d) (hl : m.now.length ≤ 99999) (hr : m.room ≤ 9223372036854775807) (hk : a.kind = 1) (h1 : a.name.length ≤ 9223372036854775807) (h2 : a.to.length ≤ 9223372036854775807) :
    Calls Try.prog 8 #[.agg (pC p m x y), .agg (aC a)] w (DoP w p b (chD d (rcO a)).1 (chgR m (rcO a))) := by
  have hkk : a.kind = 0 ∨ a.kind = 1 ∨ a.kind = 2 ∨ a.kind = 3 ∨ a.kind = 4 := by omega
  have HG := fun w1 (hD1 : DK w1 p b d) => change_any p b d a w1 hD1 hm hkk h1 h2
  have hsl : (rcO a).s.length ≤ 1000000000000 := by
    unfold rcO
    dsimp only
    split
    · exact Nat.le_trans (take50 _) (by decide)
    · exact Nat.zero_le _
  have hus := hm.used
  have hfl : ((findR m.now (rcO a).name).getD rf0).s.length ≤ 1000000000000 := by
    rw [hS.s hm.l.ris]
    have := at_len d (rcO a).name hm.l.ris
    omega
  have hch := hm.ch
  have hsc := hS.ch
  have HC := fun w1 (hB : Below w.heap.size w w1) => rchange_any m (rcO a) x y (.agg (rdC m x y)) w1 ⟨rfl, hx.below hB, hy.below hB⟩ hl (by rw [hS.used]; omega) h1 h2 hsl hfl hr (by omega) hkk
  obtain ⟨hs1, hs2⟩ := sam_change hS hm.l (rcO a) hkk
  rw [hs2] at HC
  have HE := fun w1 => few_any a.s w1
  have hx1 := hx.cells.2
  have hy1 := hy.cells.2
  have g0 := aC_g0 a
  generalize (chD d (rcO a)).1 = d' at *
  generalize (chD d (rcO a)).2 = E at *
  generalize chgR m (rcO a) = m' at *
  clear hs1 hs2 hsl hus hfl hch hsc hS hm hl hr h1 h2 hkk
  unfold DskP at HC
  rw [hk] at g0
  have hrc : rcO a = ⟨1, a.name, a.to, a.s.take 50, a.n⟩ := by simp [rcO, hk]
  rw [hrc] at HC
  go_enter Try.func8, Try.ntmps8
  go_wp2_with (first | (go_at_call 32; refine (HE _).mono ?_; rintro e w6 ⟨rfl, hw6⟩; have hw6 := hw6.symm; subst hw6; clear HE) | (go_at_call 33; refine (HC _ hB6).mono ?_; rintro e w7 ⟨v7, x', y', rfl, hR7, hw7⟩; obtain ⟨rfl, hx7, hy7⟩ := hR7; clear HC; have hB7 := hB6.trans (hw7.mono hB6.size); replace h2 := h2.belowSize hw7; replace h3 := h3.belowSize hw7; replace h4 := h4.belowSize hw7; have l27 := h2.lt; have l37 := h3.lt; have l47 := h4.lt; have hx1' := hx7.cells.2; have hy1' := hy7.cells.2) | (with_reducible refine at_list ?_; first | (refine wpList_boxRow (op := ⟨some 2, _, _, _, _, _⟩) rfl _ _ rfl _ rfl ?_; intro w1 hw1 hs1 h2; clear hs1) | (refine wpList_boxRow (op := ⟨some 3, _, _, _, _, _⟩) rfl _ _ rfl _ rfl ?_; intro w2 hw2 hs2 h3; clear hs2; have hB2 := hw1.trans (hw2.mono hw1.size); have l2 := h2.lt; replace h2 := h2.belowSize hw2) | (refine wpList_allocRow (op := ⟨some 4, _, _, _, _, _⟩) rfl _ rfl _ zPr.1 ?_; intro w3 hw3 hs3 h4; clear hs3; have hB3 := hB2.trans (hw3.mono hB2.size); have l3 := h3.lt; replace h2 := h2.belowSize hw3; replace h3 := h3.belowSize hw3; have hs1 := hw1.size; have hs2 := hw2.size; have hs3 := hw3.size; have c30 := (h3.cell 0).trans g0; have c31 := (h3.cell 1).trans (aC_g1 a); have c32 := (h3.cell 2).trans (aC_g2 a); have c33 := (h3.cell 3).trans (aC_g3 a); have c34 := (h3.cell 4).trans (aC_g4 a); have l4 := h4.lt) | (refine wpList_run (op := ⟨some 130, _, _, _, _, _⟩) rfl _ _ (run_built4 _ _ _ _ _ _ _ _ _ rfl _ _ _ _ rfl rfl rfl rfl _ (built4C 1 a.name a.to a.n)) ?_) | (refine wpList_allocRow (op := ⟨some 10, _, _, _, _, _⟩) rfl _ rfl _ zChc.1 ?_; intro w4 hw4 hs4 h10; clear hs4 c30 c31 c32 c33 c34; have hB4 := hB3.trans (hw4.mono hB3.size); replace h2 := h2.belowSize hw4; replace h3 := h3.belowSize hw4; replace h4 := h4.belowSize hw4) | (refine wpList_storeRow (op := ⟨none, .store 66 (.tmp 10) (.tmp 130), _, _, _, _⟩) rfl _ _ _ rfl w3.heap.size (chC ⟨1, a.name, a.to, [], a.n⟩) rfl rfl _ _ h10 rfl (iChc _) (chC_one _) ?_; intro w5 hg5 hs5 h10b; clear hs5; have hB5 := hB4.trans (below_of_grown hg5 hB3.size hB4.size); replace h2 := h2.grown hg5 (fun e => by have := Option.some.inj e; omega); replace h3 := h3.grown hg5 (fun e => by have := Option.some.inj e; omega); replace h4 := h4.grown hg5 (fun e => by have := Option.some.inj e; omega); have c30 := (h3.cell 0).trans g0; have c33 := (h3.cell 3).trans (aC_g3 a)) | (refine wpList_storeCell (op := ⟨none, .store 9 (.tmp 137) (.tmp 136), _, _, _, _⟩) rfl _ _ _ rfl w3.heap.size 3 rfl (.string ⟨(a.s.take 50).toArray⟩) rfl _ _ h10b iStr rfl rfl (by rw [chC_size]; decide) ?_; intro w6 hg6 hs6 h10c; clear hs6 c30 c33; rw [chC_s3] at h10c; have hB6 := hB5.trans (below_of_grown hg6 hB3.size hB5.size); replace h2 := h2.grown hg6 (fun e => by have := Option.some.inj e; omega); replace h3 := h3.grown hg6 (fun e => by have := Option.some.inj e; omega); replace h4 := h4.grown hg6 (fun e => by have := Option.some.inj e; omega)) | (refine wpList_loadAt (op := ⟨some 140, _, _, _, _, _⟩) rfl _ _ rfl w.heap.size 1 rfl (rdC m x y) (pC_disk h2) _ Try.underlying27 rfl (iRd _ _ _) ?_) | (refine wpList_loadRow (op := ⟨some 141, _, _, _, _, _⟩) rfl _ _ rfl w3.heap.size rfl _ _ h10c _ Try.underlying66 rfl (iChc _) ?_) | (refine wpList_allocRow (op := ⟨some 11, _, _, _, _, _⟩) rfl _ rfl _ zRd.1 ?_; intro w8 hw8 hs8 h11; clear hs8; have hB8 := hB7.trans (hw8.mono hB7.size); replace h2 := h2.belowSize hw8; replace h3 := h3.belowSize hw8; replace h4 := h4.belowSize hw8; have hx8 := hx7.below hw8; have hy8 := hy7.below hw8) | (refine wpList_storeRow (op := ⟨none, .store 27 (.tmp 11) (.tmp 143), _, _, _, _⟩) rfl _ _ _ rfl w7.heap.size (rdC m' x' y') rfl rfl _ _ h11 rfl (iRd _ _ _) (rdC_one _ _ _ hx1' hy1') ?_; intro w9 hg9 hs9 h11b; clear hs9; have hB9 := hB8.trans (below_of_grown hg9 hB7.size hB8.size); replace h2 := h2.grown hg9 (fun e => by have := Option.some.inj e; omega); replace h3 := h3.grown hg9 (fun e => by have := Option.some.inj e; omega); replace h4 := h4.grown hg9 (fun e => by have := Option.some.inj e; omega); have hx9 := keepX hx8 hg9 h11; have hy9 := keepX hy8 hg9 h11) | (refine wpList_loadRow (op := ⟨some 145, _, _, _, _, _⟩) rfl _ _ rfl w7.heap.size rfl _ _ h11b _ Try.underlying27 rfl (iRd _ _ _) ?_) | (refine wpList_storePart (op := ⟨none, .store 27 (.tmp 146) (.tmp 145), _, _, _, _⟩) rfl _ _ _ rfl w.heap.size 1 (rdC m' x' y') rfl rfl _ _ h2 (by rw [rdC_size, pC_size]; decide) (iRd _ _ _) (rdC_one _ _ _ hx1' hy1') ?_; intro w10 hg10 hs10 h2b; clear hs10; rw [pC_spl] at h2b; have hB10 := hB9.trans (below_of_grown hg10 (Nat.le_refl _) hB9.size); replace h3 := h3.grown hg10 (fun e => by have := Option.some.inj e; omega); replace h4 := h4.grown hg10 (fun e => by have := Option.some.inj e; omega); have hx10 := hx9.other hg10 h2 (.inl (by decide)); have hy10 := hy9.other hg10 h2 (.inl (by decide)))))
  have l4s : w.heap.size ≤ w2.heap.size := by omega
  have hD10 := hD.below hB10.drew
  have hBd := hB10.drew
  have hxd := hx10.drew
  have hyd := hy10.drew
  have h4d := h4.drew
  refine wp_region_held_drew (S := fun w' : World => Blk w' w.heap.size (pC p m' x' y') 29 ∧ Blk w' w1.heap.size (aC a) 36) (by kernel_rfl) ⟨h2b.drew, h3.drew⟩ (fun hH => ?_)
  try go_frame
  refine wpAnyH_take (i := 0) (oi := ⟨some 147, _, _, _, _, _⟩) (v := .agg (pC p m' x' y')) rfl (by kernel_rfl) (by kernel_rfl) (by kernel_rfl) (fun _ _ _ h => h) (Or.inl ⟨by rfl, fun w hSw => run_loadMid _ _ rfl _ 0 rfl _ hSw.1.rangeAll _ Try.underlying29 rfl (iPr _ _ _ _)⟩) hH ?_
  try simp only [Act.put, List.setIfInBounds_toArray, List.set_cons_zero, List.set_cons_succ]
  refine wpAnyH_take (i := 1) (oi := ⟨some 148, _, _, _, _, _⟩) (v := .pointer (some ⟨w.heap.size, 0, none⟩)) rfl (by kernel_rfl) (by kernel_rfl) (by kernel_rfl) (fun _ _ _ h => h) (Or.inl ⟨by rfl, fun w hSw => by go_simp⟩) hH ?_
  try simp only [Act.put, List.setIfInBounds_toArray, List.set_cons_zero, List.set_cons_succ]
  refine wpAnyH_take (i := 2) (oi := ⟨some 149, _, _, _, _, _⟩) (v := .pointer (some ⟨p, 0, none⟩)) rfl (by kernel_rfl) (by kernel_rfl) (by kernel_rfl) (fun _ _ _ h => h) (Or.inl ⟨by rfl, fun w hSw => run_loadCellB _ _ rfl _ 0 rfl _ _ hSw.1 _ Try.underlying23 rfl _ (pC_g0 _ _ _ _)⟩) hH ?_
  try simp only [Act.put, List.setIfInBounds_toArray, List.set_cons_zero, List.set_cons_succ]
  refine wpAnyH_take (i := 3) (oi := ⟨some 150, _, _, _, _, _⟩) (v := .agg (aC a)) rfl (by kernel_rfl) (by kernel_rfl) (by kernel_rfl) (fun _ _ _ h => h) (Or.inl ⟨by rfl, fun w hSw => run_loadMid _ _ rfl _ 0 rfl _ hSw.2.rangeAll _ Try.underlying36 rfl (iAct _)⟩) hH ?_
  try simp only [Act.put, List.setIfInBounds_toArray, List.set_cons_zero, List.set_cons_succ]
  refine wpAnyH_take (i := 5) (oi := ⟨some 152, _, _, _, _, _⟩) (v := .int .i64 (E : Nat)) rfl (by kernel_rfl) (by kernel_rfl) (by kernel_rfl) (fun _ _ _ h => h) (Or.inl ⟨by rfl, fun w hSw => by go_simp⟩) hH ?_
  try simp only [Act.put, List.setIfInBounds_toArray, List.set_cons_zero, List.set_cons_succ]
  refine wpAnyH_solo (i := 4) (o := ⟨some 151, _, _, _, _, _⟩) rfl (by kernel_rfl) (fun K hK => ?_)
  refine wpList_callR Try.func27 (by kernel_rfl) (by kernel_rfl) rfl _ _ rfl #[.pointer (some ⟨p, 0, none⟩), .agg (aC a)] (args2 rfl rfl) _ (HG _ hD10) ?_
  rintro e w11 ⟨b', rfl, hC11, hD11⟩
  refine ⟨_, rfl, ?_⟩
  have hx11 := hxd.chg hD10 hC11
  have hy11 := hyd.chg hD10 hC11
  have h4e := hC11.blk hD10 h4d (by decide) (by decide)
  have hH1 := And.intro (hC11.blk hD10 hH.1 (by decide) (by decide)) (hC11.blk hD10 hH.2 (by decide) (by decide))
  refine hK _ _ hH1 ?_
  clear hK K
  try simp only [Act.put, List.setIfInBounds_toArray, List.set_cons_zero, List.set_cons_succ]
  refine wpAnyH_take (i := 6) (oi := ⟨some 153, _, _, _, _, _⟩) (v := .bool true) rfl (by kernel_rfl) (by kernel_rfl) (by kernel_rfl) (fun _ _ _ h => h) (Or.inl ⟨by rfl, fun w hSw => by go_simp⟩) hH1 ?_
  try simp only [Act.put, List.setIfInBounds_toArray, List.set_cons_zero, List.set_cons_succ]
  refine wpAnyH_solo (i := 7) (o := ⟨none, _, _, _, _, _⟩) rfl (by kernel_rfl) (fun K hK => ?_)
  refine wpList_storeRow rfl _ _ _ rfl w2.heap.size (pC p m' x' y') rfl rfl _ _ h4e rfl (iPr _ _ _ _) (pC_one _ _ _ _ hx1' hy1') ?_
  intro w12 hg12 hs12 h4f
  clear hs12
  have hx12 := hx11.other hg12 h4e (.inl (by decide))
  have hy12 := hy11.other hg12 h4e (.inl (by decide))
  have hD12 := hD11.own hg12 h4e (by decide) (by decide)
  have hC12 := DoC hBd hC11 hg12 l4s
  have hH2 := And.intro (hH1.1.grown hg12 (fun e => by have := Option.some.inj e; omega)) (hH1.2.grown hg12 (fun e => by have := Option.some.inj e; omega))
  refine hK _ _ hH2 ?_
  clear hK K
  try simp only [Act.put]
  refine wpAnyH_solo (i := 8) (o := ⟨some 5, _, _, _, _, _⟩) rfl (by kernel_rfl) (fun K hK => ?_)
  refine wpList_pure rfl (.bool true) (run_assignV _ rfl _ rfl) ?_
  refine hK _ _ hH2 ?_
  clear hK K
  try simp only [Act.put, List.setIfInBounds_toArray, List.set_cons_zero, List.set_cons_succ]
  refine wpAnyH_done (by kernel_rfl) ?_ _
  go_simp
  go_wp2_with fail
  refine bodyPost_ret (v := .tuple #[.agg (pC p m' x' y'), .bool true]) ?_ rfl ⟨x', y', b', rfl, hC12, hD12, hx12, hy12⟩
  exact res_cv rfl _ _ w2.heap.size _ _ _ _ rfl rfl h4f Try.underlying29 rfl (iPr _ _ _ _)
end Go.Proofs.Ytgkkpmliociieaa
