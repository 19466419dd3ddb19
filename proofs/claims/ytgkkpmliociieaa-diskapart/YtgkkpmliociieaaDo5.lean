/- What do of the statements does, where all is made sure. -/
import Derived.Test.YtgkkpmliociieaaDoo
namespace Go.Proofs.Ytgkkpmliociieaa
open Go Go.RowKit
set_option maxRecDepth 100000 in
set_option maxHeartbeats 4000000 in
theorem do_sync (p : Nat) (b : Option Nat) (d : DM) (m : RD) (x y : Value) (a : AC) (w : World) (hD : DK w p b d) (hx : RL w 0 x m.now) (hy : RL w 0 y m.sure) (hS : Sam d m) (hm : Okd d) (hl : m.now.length ≤ 99999) (hk : a.kind = 5) (hq : d.dead = false) :
    Calls Try.prog 8 #[.agg (pC p m x y), .agg (aC a)] w (DoP w p b { d with l := settleL d.l } (syD m)) := by
  have hml := hm.len
  have HG := fun w1 (hD1 : DK w1 p b d) => sync_any p b d w1 hD1 (by omega)
  have hof : m.off = false := hS.off.trans hq
  have HC := fun w1 (hB : Below w.heap.size w w1) => rsync_any m x y (.agg (rdC m x y)) w1 ⟨rfl, hx.below hB, hy.below hB⟩ (by omega)
  have e1 : (if d.dead = true then (d, 7) else ({ d with l := settleL d.l }, 0)) = (({ d with l := settleL d.l } : DM), 0) := by rw [hq]; rfl
  have e2 : (if m.off = true then m else syD m) = syD m := by rw [hof]; rfl
  have e3 : (if m.off = true then (7 : Int) else 0) = 0 := by rw [hof]; rfl
  rw [e1] at HG
  rw [e2, e3] at HC
  have hx1 := hx.cells.2
  have hy1 := hy.cells.2
  have g0 := aC_g0 a
  generalize ({ d with l := settleL d.l } : DM) = d' at *
  generalize syD m = m' at *
  clear hS hm hl hml hof e1 e2 e3 hq
  unfold DskP at HC
  rw [hk] at g0
  go_enter Try.func8, Try.ntmps8
  go_wp2_with (first | (go_at_call 12; refine (HC _ hB3).mono ?_; rintro e w7 ⟨v7, x', y', rfl, hR7, hw7⟩; obtain ⟨rfl, hx7, hy7⟩ := hR7; clear HC c30 c34 c20; have hB7 := hB3.trans (hw7.mono hB3.size); replace h2 := h2.belowSize hw7; replace h3 := h3.belowSize hw7; replace h4 := h4.belowSize hw7; have l27 := h2.lt; have l37 := h3.lt; have l47 := h4.lt; have hx1' := hx7.cells.2; have hy1' := hy7.cells.2) | (with_reducible refine at_list ?_; first | (refine wpList_boxRow (op := ⟨some 2, _, _, _, _, _⟩) rfl _ _ rfl _ rfl ?_; intro w1 hw1 hs1 h2; clear hs1) | (refine wpList_boxRow (op := ⟨some 3, _, _, _, _, _⟩) rfl _ _ rfl _ rfl ?_; intro w2 hw2 hs2 h3; clear hs2; have hB2 := hw1.trans (hw2.mono hw1.size); have l2 := h2.lt; replace h2 := h2.belowSize hw2) | (refine wpList_allocRow (op := ⟨some 4, _, _, _, _, _⟩) rfl _ rfl _ zPr.1 ?_; intro w3 hw3 hs3 h4; clear hs3; have hB3 := hB2.trans (hw3.mono hB2.size); have l3 := h3.lt; replace h2 := h2.belowSize hw3; replace h3 := h3.belowSize hw3; have hs1 := hw1.size; have hs2 := hw2.size; have hs3 := hw3.size; have c30 := (h3.cell 0).trans g0; have c34 := (h3.cell 4).trans (aC_g4 a); have c20 := (h2.cell 0).trans (pC_g0 _ _ _ _); have l4 := h4.lt) | (refine wpList_loadAt (op := ⟨some 19, _, _, _, _, _⟩) rfl _ _ rfl w.heap.size 1 rfl (rdC m x y) (pC_disk h2) _ Try.underlying27 rfl (iRd _ _ _) ?_) | (refine wpList_allocRow (op := ⟨some 6, _, _, _, _, _⟩) rfl _ rfl _ zRd.1 ?_; intro w8 hw8 hs8 h6; clear hs8; have hB8 := hB7.trans (hw8.mono hB7.size); replace h2 := h2.belowSize hw8; replace h3 := h3.belowSize hw8; replace h4 := h4.belowSize hw8; have hx8 := hx7.below hw8; have hy8 := hy7.below hw8) | (refine wpList_storeRow (op := ⟨none, .store 27 (.tmp 6) (.tmp 21), _, _, _, _⟩) rfl _ _ _ rfl w7.heap.size (rdC m' x' y') rfl rfl _ _ h6 rfl (iRd _ _ _) (rdC_one _ _ _ hx1' hy1') ?_; intro w9 hg9 hs9 h6b; clear hs9; have hB9 := hB8.trans (below_of_grown hg9 hB7.size hB8.size); replace h2 := h2.grown hg9 (fun e => by have := Option.some.inj e; omega); replace h3 := h3.grown hg9 (fun e => by have := Option.some.inj e; omega); replace h4 := h4.grown hg9 (fun e => by have := Option.some.inj e; omega); have hx9 := keepX hx8 hg9 h6; have hy9 := keepX hy8 hg9 h6) | (refine wpList_loadRow (op := ⟨some 23, _, _, _, _, _⟩) rfl _ _ rfl w7.heap.size rfl _ _ h6b _ Try.underlying27 rfl (iRd _ _ _) ?_) | (refine wpList_storePart (op := ⟨none, .store 27 (.tmp 24) (.tmp 23), _, _, _, _⟩) rfl _ _ _ rfl w.heap.size 1 (rdC m' x' y') rfl rfl _ _ h2 (by rw [rdC_size, pC_size]; decide) (iRd _ _ _) (rdC_one _ _ _ hx1' hy1') ?_; intro w10 hg10 hs10 h2b; clear hs10; rw [pC_spl] at h2b; have hB10 := hB9.trans (below_of_grown hg10 (Nat.le_refl _) hB9.size); replace h3 := h3.grown hg10 (fun e => by have := Option.some.inj e; omega); replace h4 := h4.grown hg10 (fun e => by have := Option.some.inj e; omega); have hx10 := hx9.other hg10 h2 (.inl (by decide)); have hy10 := hy9.other hg10 h2 (.inl (by decide)))))
  have l4s : w.heap.size ≤ w2.heap.size := by omega
  have hD10 := hD.below hB10.drew
  have hBd := hB10.drew
  have hxd := hx10.drew
  have hyd := hy10.drew
  have h4d := h4.drew
  refine wp_region_held_drew (S := fun w' : World => Blk w' w.heap.size (pC p m' x' y') 29) (by kernel_rfl) h2b.drew (fun hH => ?_)
  try go_frame
  refine wpAnyH_take (i := 0) (oi := ⟨some 25, _, _, _, _, _⟩) (v := .agg (pC p m' x' y')) rfl (by kernel_rfl) (by kernel_rfl) (by kernel_rfl) (fun _ _ _ h => h) (Or.inl ⟨by rfl, fun w hSw => run_loadMid _ _ rfl _ 0 rfl _ hSw.rangeAll _ Try.underlying29 rfl (iPr _ _ _ _)⟩) hH ?_
  try simp only [Act.put, List.setIfInBounds_toArray, List.set_cons_zero, List.set_cons_succ]
  refine wpAnyH_take (i := 1) (oi := ⟨some 26, _, _, _, _, _⟩) (v := .pointer (some ⟨w.heap.size, 0, none⟩)) rfl (by kernel_rfl) (by kernel_rfl) (by kernel_rfl) (fun _ _ _ h => h) (Or.inl ⟨by rfl, fun w hSw => by go_simp⟩) hH ?_
  try simp only [Act.put, List.setIfInBounds_toArray, List.set_cons_zero, List.set_cons_succ]
  refine wpAnyH_take (i := 2) (oi := ⟨some 27, _, _, _, _, _⟩) (v := .pointer (some ⟨p, 0, none⟩)) rfl (by kernel_rfl) (by kernel_rfl) (by kernel_rfl) (fun _ _ _ h => h) (Or.inl ⟨by rfl, fun w hSw => run_loadCellB _ _ rfl _ 0 rfl _ _ hSw _ Try.underlying23 rfl _ (pC_g0 _ _ _ _)⟩) hH ?_
  try simp only [Act.put, List.setIfInBounds_toArray, List.set_cons_zero, List.set_cons_succ]
  refine wpAnyH_take (i := 4) (oi := ⟨some 29, _, _, _, _, _⟩) (v := .int .i64 0) rfl (by kernel_rfl) (by kernel_rfl) (by kernel_rfl) (fun _ _ _ h => h) (Or.inl ⟨by rfl, fun w hSw => by go_simp⟩) hH ?_
  try simp only [Act.put, List.setIfInBounds_toArray, List.set_cons_zero, List.set_cons_succ]
  refine wpAnyH_solo (i := 3) (o := ⟨some 28, _, _, _, _, _⟩) rfl (by kernel_rfl) (fun K hK => ?_)
  refine wpList_callR Try.func11 (by kernel_rfl) (by kernel_rfl) rfl _ _ rfl #[.pointer (some ⟨p, 0, none⟩)] (args1 rfl) _ (HG _ hD10) ?_
  rintro e w11 ⟨rfl, b', hC11, hD11⟩
  refine ⟨_, rfl, ?_⟩
  have hx11 := hxd.chg hD10 hC11
  have hy11 := hyd.chg hD10 hC11
  have h4e := hC11.blk hD10 h4d (by decide) (by decide)
  have hH1 := hC11.blk hD10 hH (by decide) (by decide)
  refine hK _ _ hH1 ?_
  clear hK K
  try simp only [Act.put, List.setIfInBounds_toArray, List.set_cons_zero, List.set_cons_succ]
  refine wpAnyH_take (i := 5) (oi := ⟨some 30, _, _, _, _, _⟩) (v := .bool true) rfl (by kernel_rfl) (by kernel_rfl) (by kernel_rfl) (fun _ _ _ h => h) (Or.inl ⟨by rfl, fun w hSw => by go_simp⟩) hH1 ?_
  try simp only [Act.put, List.setIfInBounds_toArray, List.set_cons_zero, List.set_cons_succ]
  refine wpAnyH_solo (i := 6) (o := ⟨none, _, _, _, _, _⟩) rfl (by kernel_rfl) (fun K hK => ?_)
  refine wpList_storeRow rfl _ _ _ rfl w2.heap.size (pC p m' x' y') rfl rfl _ _ h4e rfl (iPr _ _ _ _) (pC_one _ _ _ _ hx1' hy1') ?_
  intro w12 hg12 hs12 h4f
  clear hs12
  have hx12 := hx11.other hg12 h4e (.inl (by decide))
  have hy12 := hy11.other hg12 h4e (.inl (by decide))
  have hD12 := hD11.own hg12 h4e (by decide) (by decide)
  have hC12 := DoC hBd hC11 hg12 l4s
  have hH2 := hH1.grown hg12 (fun e => by have := Option.some.inj e; omega)
  refine hK _ _ hH2 ?_
  clear hK K
  try simp only [Act.put]
  refine wpAnyH_solo (i := 7) (o := ⟨some 5, _, _, _, _, _⟩) rfl (by kernel_rfl) (fun K hK => ?_)
  refine wpList_pure rfl (.bool true) (run_assignV _ rfl _ rfl) ?_
  refine hK _ _ hH2 ?_
  clear hK K
  try simp only [Act.put, List.setIfInBounds_toArray, List.set_cons_zero, List.set_cons_succ]
  refine wpAnyH_done (by kernel_rfl) ?_ _
  go_simp
  go_wp2_with fail
  refine bodyPost_ret (v := .tuple #[.agg (pC p m' x' y'), .bool true]) ?_ rfl ⟨x', y', b', rfl, hC12, hD12, hx12, hy12⟩
  exact res_cv rfl _ _ w2.heap.size _ _ _ _ rfl rfl h4f Try.underlying29 rfl (iPr _ _ _ _)
end Go.Proofs.Ytgkkpmliociieaa
