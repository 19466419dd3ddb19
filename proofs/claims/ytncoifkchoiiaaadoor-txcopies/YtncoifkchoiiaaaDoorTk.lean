/- What Take does. -/
import Derived.Test.YtncoifkchoiiaaaDoorTko
import Derived.Test.YtncoifkchoiiaaaDoorChk
namespace Go.Proofs.YtncoifkchoiiaaaDoor
open Go Go.RowKit
theorem To.low {w w1 w2 : World} {b : Nat} {r : R} (k : To w w1 b r) (h : Below w.heap.size w1 w2) (hr : RD w2 b r) : To w w2 b r :=
  ⟨⟨h.os.trans k.grown.os, h.tape.trans k.grown.tape, h.output.trans k.grown.output, Nat.le_trans k.grown.size h.size, fun j hj hne => (h.block j hj).trans (k.grown.block j hj hne)⟩, hr⟩
theorem txc_set0 (c c' n : Nat) (sl : Value) : (txc c n sl).setIfInBounds 0 (.int .u64 (c' : Nat)) = txc c' n sl := rfl
theorem txc_set1 (c n n' : Nat) (sl : Value) : (txc c n sl).setIfInBounds 1 (.int .u64 (n' : Nat)) = txc c n' sl := rfl
theorem txc_set2 (c n : Nat) (sl sl' : Value) : (txc c n sl).setIfInBounds 2 sl' = txc c n sl' := rfl
theorem i22 : (Tryd.prog.info? 22).map (·.size) = some 1 := by kernel_rfl
theorem iSl : (Tryd.prog.info? 23).map (·.size) = some 1 := by kernel_rfl
section
variable {P : Program} {op : Oper} {a : Act} {w : World} {K : Act → World → Prop} {Q : Exit → Act → World → Prop}
theorem run_loadCellB (ty : TypeId) (x : Operand) (ho : op.op = .load ty x) (b o : Nat) (hx : a.eval x = .pointer (some ⟨b, o, none⟩))
    (c : Array Value) (t : TypeId) (hb : Blk w b c t) (d : TypeDesc) (hu : P.underlying ty = some d) (hd : d.isRow = false) (v : Value) (hv : c[o]? = some v) :
    (execOp a.eval op).run P w = .ok (.value v) w := by
  have hc : w.cell? ⟨b, o, none⟩ = some v := (hb.cell o).trans hv
  unfold execOp
  simp only [ho, hx]
  simp [Instr.loadAt, Instr.sureAddr, Sem.run_bind, loadVar, isAgg_run hu hd, hc, go_sem]
/-- One cell into a block that is known whole. -/
theorem wp_storeCellB (ty : TypeId) (x y : Operand) (ho : op.op = .store ty x y) (b o : Nat) (hx : a.eval x = .pointer (some ⟨b, o, none⟩)) (v : Value) (hy : a.eval y = v)
    (c : Array Value) (t : TypeId) (hb : Blk w b c t) (hi : (P.info? ty).map (·.size) = some 1) (hv : v.cells = #[v]) (h1 : v.oneCell' = true) (hn : o < c.size)
    (h : ∀ w1 : World, w.grownBy w1 (some b) → w1.heap.size = w.heap.size → Blk w1 b (c.setIfInBounds o v) t → K (a.put op.dst undef) w1) : op.wp P a w K Q := by
  unfold Oper.wp execOp
  have hs : (storeVar ty ⟨b, o, none⟩ v).run P w = .ok () (w.setCells b o [v]) := by
    have := run_storeCells_cells (P := P) b o [v] 0 w (fun j hj => (hb.there o 1 (by omega) j (by simpa using hj)).1) (fun j hj => (hb.there o 1 (by omega) j (by simpa using hj)).2) (fun u hu => by simp at hu; subst hu; exact h1)
    simp only [Nat.add_zero] at this
    simp [storeVar, Sem.run_bind, sizeOf_run hi, hv, this]
  simp only [ho, hx, hy, Instr.storeAt, Instr.sureAddr, Sem.run_bind, Sem.run_pure, Result.andThen_ok, hs]
  exact h _ (grown_setCells _ _ _ _) (size_setCells _ _ _ _) (hb.setCells [v] o)
end
theorem builtTx0 : Tryd.prog.built 25 [] = some (txc 0 0 (.slice none 0 0)) := by kernel_rfl
/-- What Take answers. -/
def takeV (rE : R) (rT : TX) (sl : Value) : Array Value := if rE.err = 0 then txc rT.client rT.nonce sl else txc 0 0 (.slice none 0 0)
/-- What Take leaves. -/
def TakeP (b : Nat) (w : World) (rE : R) (rT : TX) (e : Ending) (w' : World) : Prop := ∃ sl, e = .returned (.agg (takeV rE rT sl)) ∧ To w w' b rE ∧ OL w' 52 w.heap.size sl rT.ops
set_option maxRecDepth 100000 in
set_option maxHeartbeats 1000000 in
theorem take_any (b : Nat) (r : R) (w : World) (h : RD w b r) (hk : r.ok) (hl : r.s.length ≤ 140737488355328) :
    Calls Tryd.prog 14 #[.pointer (some ⟨b, 0, none⟩)] w (TakeP b w (rdE r) (rdT r)) := by
  have hbl := h.lt
  obtain ⟨iop, hi, hz, hs, hby⟩ := infoOp
  have H1 := fun w (h : RD w b r) => number_r b r 8 w h hk hl
  have H2 := fun w (h : RD w b (r.number 8).1) => number_r b (r.number 8).1 8 w h (R.ok_number hk 8) (by rw [R.number_s]; exact hl)
  have H3 := fun w (h : RD w b ((r.number 8).1.number 8).1) => count_any b ((r.number 8).1.number 8).1 8 w h (R.ok_number (R.ok_number hk 8) 8) (by rw [R.number_s, R.number_s]; exact hl) (by decide)
  have hn8 := rdC_le r
  have hqk := rdC_ok hk
  have hqs := rdC_s r
  have HT : Hid (rdT r = ⟨(r.number 8).2, ((r.number 8).1.number 8).2, opsTo (rdC r).1 (rdC r).2⟩) := by exact rfl
  have HR : Hid (rdE r = (stR (rdC r).1 (rdC r).2).fail (chk (rdT r))) := by exact rfl
  change ∀ w, RD w b ((r.number 8).1.number 8).1 → Calls Tryd.prog 31 _ w fun e w' => e = .returned (.int .i64 ((rdC r).2 : Nat)) ∧ To w w' b (rdC r).1 at H3
  generalize rdE r = rE at *
  generalize rdT r = rT at *
  generalize rdC r = q0 at *
  generalize (r.number 8).1.number 8 = q2 at *
  generalize r.number 8 = q1 at *
  obtain ⟨r1, cl⟩ := q1
  obtain ⟨r2, nn⟩ := q2
  obtain ⟨q, n⟩ := q0
  dsimp only at *
  go_enter Tryd.func14, Tryd.ntmps14
  go_wp2_with (first
    | (go_at_call 30; refine (H1 _ ((h.below hw1).below hw2)).mono ?_; rintro e w3 ⟨rfl, hT1⟩; clear H1; replace hz1 := hz1.to hT1 (by omega); replace hz2 := hz2.to hT1 (by omega); replace hT1 := To.behind (hw1.trans (hw2.mono hw1.size)) hT1)
    | (go_at_call 30; refine (H2 _ hT2.rd).mono ?_; rintro e w5 ⟨rfl, hT3⟩; clear H2; replace hz1 := hz1.to hT3 (by omega); replace hz4 := hz4.to hT3 (by omega); replace hT3 := hT2.trans hT3)
    | (go_at_call 31; refine (H3 _ hT4.rd).mono ?_; rintro e w7 ⟨rfl, hT5⟩; clear H3; replace hz1 := hz1.to hT5 (by omega); replace hz6 := hz6.to hT5 (by omega); replace hT5 := hT4.trans hT5)
    | (with_reducible refine at_list ?_; first
      | (refine wpList_allocRow (op := ⟨some 2, _, _, _, _, _⟩) rfl _ rfl _ zTx.1 ?_; intro w1 hw1 hs1 hz1; replace hs1 := hs1.symm)
      | (refine wpList_allocRow (op := ⟨some 3, _, _, _, _, _⟩) rfl _ rfl _ zTx.1 ?_; intro w2 hw2 hs2 hz2; replace hs2 := hs2.symm; replace hz1 := hz1.belowSize hw2)
      | (refine wpList_storeCell (op := ⟨none, .store 22 (.tmp 6) (.tmp 5), _, _, _, _⟩) rfl _ _ _ rfl w1.heap.size 0 rfl (.int .u64 (cl : Nat)) rfl _ _ hz2 i22 rfl rfl (by simp [txc]) ?_; intro w4 hg4 hs4 hz4; rw [txc_set0] at hz4; replace hz1 := hz1.grown hg4 (by simp; omega); have hT2 := hT1.write hg4 hbl hw1.size)
      | (refine wpList_storeCell (op := ⟨none, .store 22 (.tmp 9) (.tmp 8), _, _, _, _⟩) rfl _ _ _ rfl w1.heap.size 1 rfl (.int .u64 (nn : Nat)) rfl _ _ hz4 i22 rfl rfl (by simp [txc]) ?_; intro w6 hg6 hs6 hz6; rw [txc_set1] at hz6; replace hz1 := hz1.grown hg6 (by simp; omega); have hT4 := hT3.write hg6 hbl hw1.size)))
  obtain ⟨B3, hB30⟩ : ∃ B, B = w1.heap.size := ⟨_, rfl⟩
  rw [← hB30] at hz6 ⊢
  have hB3 : w.heap.size ≤ B3 := by rw [hB30]; exact hw1.size
  have hB3b : b ≠ B3 := by omega
  have hB32 : w.heap.size ≠ B3 := by omega
  clear hz4 hz2 hT1 hT2 hT3 hT4 hw1 hw2 hs1 hs2 hg4 hs4 hg6 hs6 hB30
  go_loopw [12] (fun v12 wl => ∃ (i : Nat) (sl : Value), i ≤ n ∧ v12 = .int .i64 i ∧ To w wl b (stR q i) ∧ OL wl 52 w.heap.size sl (opsTo q i) ∧ Blk wl B3 (txc cl nn sl) 25 ∧ Blk wl w.heap.size (txc 0 0 (.slice none 0 0)) 25) (fun v12 _ => n - (intOf v12).toNat)
  case atStart => exact ⟨0, _, by omega, rfl, hT5, .inl ⟨rfl, rfl⟩, hz6, hz1⟩
  case round =>
    obtain ⟨i, sl, hi2, rfl, hT, hO, h3, h2⟩ := hrel
    clear hz1 hz6 hT5
    by_cases hlt : i < n
    · have HO := fun w (h : RD w b (stR q i)) => takeOp_any b (stR q i) w h (stR_ok hqk i) (by rw [stR_s, hqs]; exact hl)
      have opsL := opsTo_length q i
      have HS1 : Hid (stR q (i + 1) = (stR q i).op.1) := by exact rfl
      have HS2 : Hid (opsTo q (i + 1) = opsTo q i ++ [(stR q i).op.2]) := opsTo_succ q i
      generalize opsTo q i = L at *
      generalize (stR q i).op.2 = oo at *
      generalize (stR q i).op.1 = q2 at *
      generalize stR q i = q1 at *
      go_wp2_with fail
      refine wp_region_any (by kernel_rfl) ?_
      change wpAny _ _ _ _ _ _ _ (World.drew _)
      replace hT := hT.draws ⟨1, rfl⟩
      replace h3 := h3.drew
      replace h2 := h2.drew
      replace hO := hO.drew
      refine wpAny_take (i := 0) (oi := ⟨some 14, _, _, _, _, _⟩) (v := .pointer (some ⟨B3, 2, none⟩)) rfl (by kernel_rfl) (by kernel_rfl) (by kernel_rfl) (fun _ _ _ h => h) (Or.inl ⟨by rfl, fun w => by go_simp⟩) ?_
      refine wpAny_take (i := 2) (oi := ⟨some 16, _, _, _, _, _⟩) (v := .pointer (some ⟨b, 0, none⟩)) rfl (by kernel_rfl) (by kernel_rfl) (by kernel_rfl) (fun _ _ _ h => h) (Or.inl ⟨by rfl, fun w => by go_simp⟩) ?_
      simp only [Act.put, List.setIfInBounds_toArray, List.set_cons_zero, List.set_cons_succ]
      refine wpAny_ready (rs := [1, 3]) (by kernel_rfl) (by simp) ?_
      refine AllReady.cons (o := ⟨some 15, .load 23 (.tmp 14), _, _, _, _⟩) rfl (fun K hK => ?_) (AllReady.cons (o := ⟨some 17, .call ⟨.value (.func 32), #[.tmp 16], #[41]⟩, _, _, _, _⟩) rfl (fun K hK => ?_) AllReady.nil)
      · skip
        rw [if_pos (by rfl)]
        refine wp_run _ _ (run_loadCellB _ _ rfl B3 2 rfl _ _ h3 _ Tryd.underlying23 rfl sl (txc_g2 _ _ _)) ?_
        refine hK _ _ ?_
        clear hK K
        refine wpAny_ready (rs := [3]) (by kernel_rfl) (by simp) ?_
        refine AllReady.cons (o := ⟨some 17, .call ⟨.value (.func 32), #[.tmp 16], #[41]⟩, _, _, _, _⟩) rfl (fun K hK => ?_) AllReady.nil
        rw [if_pos (by rfl)]
        go_simp
        refine (HO _ hT.rd).mono ?_
        rintro e wc ⟨rfl, hTc⟩
        refine hK _ _ ?_
        clear hK K
        replace h3 := h3.to hTc (by omega)
        replace h2 := h2.to hTc (by omega)
        replace hO := hO.grown hTc.grown hT.rd.blk (by decide)
        replace hT := hT.trans hTc
        clear hTc
        refine wpAny_ready (rs := [4]) (by kernel_rfl) (by simp) ?_
        refine AllReady.cons (o := ⟨some 18, .buildSlice 23 1 #[(0, .tmp 17)], _, _, _, _⟩) rfl (fun K hK => ?_) AllReady.nil
        rw [if_pos (by rfl)]
        refine wp_bslOp _ rfl oo rfl ?_
        intro wb hwb hsb hbb
        refine hK _ _ ?_
        clear hK K hsb
        replace h3 := h3.belowSize hwb
        replace h2 := h2.belowSize hwb
        replace hO := hO.below hwb
        have hTb := To.refl (hT.rd.below hwb)
        replace hT : To w wb b q2 := ⟨grown_trans hT.grown (grown_of_below hwb), hTb.rd⟩
        clear hTb hwb
        refine wpAny_ready (rs := [5]) (by kernel_rfl) (by simp) ?_
        refine AllReady.cons (o := ⟨some 19, .call ⟨.builtin .append, #[.tmp 15, .tmp 18], #[23, 23]⟩, _, _, _, _⟩) rfl (fun K hK => ?_) AllReady.nil
        rw [if_pos (by rfl)]
        refine wp_appendOL _ _ _ _ rfl w.heap.size sl _ hT.grown.size rfl hO _ 1 rfl oo _ hbb _ _ Tryd.underlying23 hi hz hs hby (by rw [opsL]; omega) ?_
        intro wa sl1 hwa hkp hO1
        refine hK _ _ ?_
        clear hK K
        replace h3 := hkp.out _ _ _ h3 (by decide)
        replace h2 := hkp.out _ _ _ h2 (by decide)
        replace hT := hT.low hwa ⟨hkp.out _ _ _ hT.rd.blk (by decide)⟩
        try simp only [Act.put, List.setIfInBounds_toArray, List.set_cons_zero, List.set_cons_succ]
        refine wpAny_take (i := 6) (oi := ⟨some 20, _, _, _, _, _⟩) (v := .pointer (some ⟨B3, 2, none⟩)) rfl (by kernel_rfl) (by kernel_rfl) (by kernel_rfl) (fun _ _ _ h => h) (Or.inl ⟨by rfl, fun w => by go_simp⟩) ?_
        try simp only [Act.put, List.setIfInBounds_toArray, List.set_cons_zero, List.set_cons_succ]
        refine wpAny_ready (rs := [7]) (by kernel_rfl) (by simp) ?_
        refine AllReady.cons (o := ⟨none, .store 23 (.tmp 20) (.tmp 19), _, _, _, _⟩) rfl (fun K hK => ?_) AllReady.nil
        rw [if_pos (by rfl)]
        refine wp_storeCellB _ _ _ rfl B3 2 rfl sl1 rfl _ _ h3 iSl hO1.cells.1 hO1.cells.2 (by simp [txc]) ?_
        intro ws hgs hss hbs
        rw [txc_set2] at hbs
        refine hK _ _ ?_
        clear hK K
        refine wpAny_done (by kernel_rfl) ?_ _
        simp only [Act.put]
        replace h2 := h2.grown hgs (by simp; omega)
        have hO2 := hO1.grown hgs h3 (by decide)
        replace hT := hT.write hgs hbl hB3
        go_simp
        go_wp2_with fail
        go_roundw
        case rel => exact ⟨i + 1, sl1, by omega, by go_num, by rw [HS1.out]; exact hT, by rw [HS2.out]; exact hO2, hbs, h2⟩
        case measure => simp [intOf]; omega
      · skip
        rw [if_pos (by rfl)]
        go_simp
        refine (HO _ hT.rd).mono ?_
        rintro e wc ⟨rfl, hTc⟩
        refine hK _ _ ?_
        clear hK K
        replace h3 := h3.to hTc (by omega)
        replace h2 := h2.to hTc (by omega)
        replace hO := hO.grown hTc.grown hT.rd.blk (by decide)
        replace hT := hT.trans hTc
        clear hTc
        refine wpAny_ready (rs := [1, 4]) (by kernel_rfl) (by simp) ?_
        refine AllReady.cons (o := ⟨some 15, .load 23 (.tmp 14), _, _, _, _⟩) rfl (fun K hK => ?_) (AllReady.cons (o := ⟨some 18, .buildSlice 23 1 #[(0, .tmp 17)], _, _, _, _⟩) rfl (fun K hK => ?_) AllReady.nil)
        · skip
          rw [if_pos (by rfl)]
          refine wp_run _ _ (run_loadCellB _ _ rfl B3 2 rfl _ _ h3 _ Tryd.underlying23 rfl sl (txc_g2 _ _ _)) ?_
          refine hK _ _ ?_
          clear hK K
          refine wpAny_ready (rs := [4]) (by kernel_rfl) (by simp) ?_
          refine AllReady.cons (o := ⟨some 18, .buildSlice 23 1 #[(0, .tmp 17)], _, _, _, _⟩) rfl (fun K hK => ?_) AllReady.nil
          rw [if_pos (by rfl)]
          refine wp_bslOp _ rfl oo rfl ?_
          intro wb hwb hsb hbb
          refine hK _ _ ?_
          clear hK K hsb
          replace h3 := h3.belowSize hwb
          replace h2 := h2.belowSize hwb
          replace hO := hO.below hwb
          have hTb := To.refl (hT.rd.below hwb)
          replace hT : To w wb b q2 := ⟨grown_trans hT.grown (grown_of_below hwb), hTb.rd⟩
          clear hTb hwb
          refine wpAny_ready (rs := [5]) (by kernel_rfl) (by simp) ?_
          refine AllReady.cons (o := ⟨some 19, .call ⟨.builtin .append, #[.tmp 15, .tmp 18], #[23, 23]⟩, _, _, _, _⟩) rfl (fun K hK => ?_) AllReady.nil
          rw [if_pos (by rfl)]
          refine wp_appendOL _ _ _ _ rfl w.heap.size sl _ hT.grown.size rfl hO _ 1 rfl oo _ hbb _ _ Tryd.underlying23 hi hz hs hby (by rw [opsL]; omega) ?_
          intro wa sl1 hwa hkp hO1
          refine hK _ _ ?_
          clear hK K
          replace h3 := hkp.out _ _ _ h3 (by decide)
          replace h2 := hkp.out _ _ _ h2 (by decide)
          replace hT := hT.low hwa ⟨hkp.out _ _ _ hT.rd.blk (by decide)⟩
          try simp only [Act.put, List.setIfInBounds_toArray, List.set_cons_zero, List.set_cons_succ]
          refine wpAny_take (i := 6) (oi := ⟨some 20, _, _, _, _, _⟩) (v := .pointer (some ⟨B3, 2, none⟩)) rfl (by kernel_rfl) (by kernel_rfl) (by kernel_rfl) (fun _ _ _ h => h) (Or.inl ⟨by rfl, fun w => by go_simp⟩) ?_
          try simp only [Act.put, List.setIfInBounds_toArray, List.set_cons_zero, List.set_cons_succ]
          refine wpAny_ready (rs := [7]) (by kernel_rfl) (by simp) ?_
          refine AllReady.cons (o := ⟨none, .store 23 (.tmp 20) (.tmp 19), _, _, _, _⟩) rfl (fun K hK => ?_) AllReady.nil
          rw [if_pos (by rfl)]
          refine wp_storeCellB _ _ _ rfl B3 2 rfl sl1 rfl _ _ h3 iSl hO1.cells.1 hO1.cells.2 (by simp [txc]) ?_
          intro ws hgs hss hbs
          rw [txc_set2] at hbs
          refine hK _ _ ?_
          clear hK K
          refine wpAny_done (by kernel_rfl) ?_ _
          simp only [Act.put]
          replace h2 := h2.grown hgs (by simp; omega)
          have hO2 := hO1.grown hgs h3 (by decide)
          replace hT := hT.write hgs hbl hB3
          go_simp
          go_wp2_with fail
          go_roundw
          case rel => exact ⟨i + 1, sl1, by omega, by go_num, by rw [HS1.out]; exact hT, by rw [HS2.out]; exact hO2, hbs, h2⟩
          case measure => simp [intOf]; omega
        · skip
          rw [if_pos (by rfl)]
          refine wp_bslOp _ rfl oo rfl ?_
          intro wb hwb hsb hbb
          refine hK _ _ ?_
          clear hK K hsb
          replace h3 := h3.belowSize hwb
          replace h2 := h2.belowSize hwb
          replace hO := hO.below hwb
          have hTb := To.refl (hT.rd.below hwb)
          replace hT : To w wb b q2 := ⟨grown_trans hT.grown (grown_of_below hwb), hTb.rd⟩
          clear hTb hwb
          refine wpAny_ready (rs := [1]) (by kernel_rfl) (by simp) ?_
          refine AllReady.cons (o := ⟨some 15, .load 23 (.tmp 14), _, _, _, _⟩) rfl (fun K hK => ?_) AllReady.nil
          rw [if_pos (by rfl)]
          refine wp_run _ _ (run_loadCellB _ _ rfl B3 2 rfl _ _ h3 _ Tryd.underlying23 rfl sl (txc_g2 _ _ _)) ?_
          refine hK _ _ ?_
          clear hK K
          refine wpAny_ready (rs := [5]) (by kernel_rfl) (by simp) ?_
          refine AllReady.cons (o := ⟨some 19, .call ⟨.builtin .append, #[.tmp 15, .tmp 18], #[23, 23]⟩, _, _, _, _⟩) rfl (fun K hK => ?_) AllReady.nil
          rw [if_pos (by rfl)]
          refine wp_appendOL _ _ _ _ rfl w.heap.size sl _ hT.grown.size rfl hO _ 1 rfl oo _ hbb _ _ Tryd.underlying23 hi hz hs hby (by rw [opsL]; omega) ?_
          intro wa sl1 hwa hkp hO1
          refine hK _ _ ?_
          clear hK K
          replace h3 := hkp.out _ _ _ h3 (by decide)
          replace h2 := hkp.out _ _ _ h2 (by decide)
          replace hT := hT.low hwa ⟨hkp.out _ _ _ hT.rd.blk (by decide)⟩
          try simp only [Act.put, List.setIfInBounds_toArray, List.set_cons_zero, List.set_cons_succ]
          refine wpAny_take (i := 6) (oi := ⟨some 20, _, _, _, _, _⟩) (v := .pointer (some ⟨B3, 2, none⟩)) rfl (by kernel_rfl) (by kernel_rfl) (by kernel_rfl) (fun _ _ _ h => h) (Or.inl ⟨by rfl, fun w => by go_simp⟩) ?_
          try simp only [Act.put, List.setIfInBounds_toArray, List.set_cons_zero, List.set_cons_succ]
          refine wpAny_ready (rs := [7]) (by kernel_rfl) (by simp) ?_
          refine AllReady.cons (o := ⟨none, .store 23 (.tmp 20) (.tmp 19), _, _, _, _⟩) rfl (fun K hK => ?_) AllReady.nil
          rw [if_pos (by rfl)]
          refine wp_storeCellB _ _ _ rfl B3 2 rfl sl1 rfl _ _ h3 iSl hO1.cells.1 hO1.cells.2 (by simp [txc]) ?_
          intro ws hgs hss hbs
          rw [txc_set2] at hbs
          refine hK _ _ ?_
          clear hK K
          refine wpAny_done (by kernel_rfl) ?_ _
          simp only [Act.put]
          replace h2 := h2.grown hgs (by simp; omega)
          have hO2 := hO1.grown hgs h3 (by decide)
          replace hT := hT.write hgs hbl hB3
          go_simp
          go_wp2_with fail
          go_roundw
          case rel => exact ⟨i + 1, sl1, by omega, by go_num, by rw [HS1.out]; exact hT, by rw [HS2.out]; exact hO2, hbs, h2⟩
          case measure => simp [intOf]; omega
    · have hin : i = n := by omega
      subst hin
      obtain ⟨a, cap, rfl, hSL⟩ := hO.sl
      have HC := fun w (h : SL w a (opsTo q i)) => check_any ⟨cl, nn, opsTo q i⟩ a cap w h
      have HF := fun w (h : RD w b (stR q i)) => fail_any b (stR q i) (chk ⟨cl, nn, opsTo q i⟩) w h
      have HT2 := HT.out
      subst HT2
      rw [← HR.out] at HF
      have HX := fun w (h : RD w b rE) => err_any b rE w h
      dsimp only at HC HF
      clear HT HR
      generalize stR q i = qz at *
      generalize chk ⟨cl, nn, opsTo q i⟩ = cz at *
      by_cases hrE0 : rE.err = 0
      · have hrE : Hid (rE.err = 0) := hrE0
        rw [hrE0] at HX
        clear hrE0
        go_wp2_with (first
          | (go_at_call 9; refine (HC _ hSL).mono ?_; rintro e w2 ⟨rfl, hw2⟩; replace h3 := h3.belowSize hw2; replace h2 := h2.belowSize hw2; replace hO := hO.below hw2; replace hT := hT.low (hw2.mono hT.grown.size) (hT.rd.below hw2); clear HC)
          | (go_at_call 33; refine (HF _ hT.rd).mono ?_; rintro e w3 ⟨rfl, hT3⟩; replace h3 := h3.to hT3 (by omega); replace h2 := h2.to hT3 (by omega); replace hO := hO.grown hT3.grown hT.rd.blk (by decide); replace hT := hT.trans hT3; clear HF hT3)
          | (go_at_call 34; refine (HX _ hT.rd).mono ?_; rintro e w' ⟨rfl, hw'⟩; have hw4 := hw'.symm; subst hw4; clear hw' HX)
          | (with_reducible refine at_list ?_; first
            | (refine wpList_loadRow (op := ⟨some 23, _, _, _, _, _⟩) rfl _ _ rfl B3 rfl _ _ h3 _ Tryd.underlying25 rfl (by rw [txc_size]; exact zTx.2) ?_)
            | (refine wpList_loadRow (op := ⟨some 30, _, _, _, _, _⟩) rfl _ _ rfl B3 rfl _ _ h3 _ Tryd.underlying25 rfl (by rw [txc_size]; exact zTx.2) ?_)
            | (refine wpList_storeRow (op := ⟨none, .store 25 (.tmp 2) (.tmp 30), _, _, _, _⟩) rfl _ _ _ rfl w.heap.size (txc cl nn (.slice a (opsTo q i).length cap)) rfl rfl _ _ h2 (by simp only [txc_size]) (by rw [txc_size]; exact zTx.2) (txc_one _ _ _ _ _) ?_; intro w9 hg9 hs9 hz9)))
        refine bodyPost_ret (v := .agg (txc cl nn (.slice a (opsTo q i).length cap))) ?_ rfl ⟨.slice a (opsTo q i).length cap, by unfold takeV; rw [if_pos hrE.out], hT.write hg9 hbl (Nat.le_refl _), hO.grown hg9 h2 (by decide)⟩
        exact results_cell_row rfl _ _ w.heap.size _ _ _ _ rfl hz9.out Tryd.underlying25 rfl (by exact zTx.2)
      · have hrE : Hid (¬ rE.err = 0) := hrE0
        have hne : (rE.err != 0) = true := by simpa using hrE0
        have hHX : ∃ ez, ez = rE.err := ⟨_, rfl⟩
        obtain ⟨ez, hez⟩ := hHX
        rw [← hez] at HX hne hrE0
        clear hez hrE0
        go_wp2_with (first
          | (go_at_call 9; refine (HC _ hSL).mono ?_; rintro e w2 ⟨rfl, hw2⟩; replace h3 := h3.belowSize hw2; replace h2 := h2.belowSize hw2; replace hO := hO.below hw2; replace hT := hT.low (hw2.mono hT.grown.size) (hT.rd.below hw2); clear HC)
          | (go_at_call 33; refine (HF _ hT.rd).mono ?_; rintro e w3 ⟨rfl, hT3⟩; replace h3 := h3.to hT3 (by omega); replace h2 := h2.to hT3 (by omega); replace hO := hO.grown hT3.grown hT.rd.blk (by decide); replace hT := hT.trans hT3; clear HF hT3)
          | (go_at_call 34; refine (HX _ hT.rd).mono ?_; rintro e w' ⟨rfl, hw'⟩; have hw4 := hw'.symm; subst hw4; clear hw' HX)
          | (with_reducible refine at_list ?_; first
            | (refine wpList_loadRow (op := ⟨some 23, _, _, _, _, _⟩) rfl _ _ rfl B3 rfl _ _ h3 _ Tryd.underlying25 rfl (by rw [txc_size]; exact zTx.2) ?_)
            | (refine wpList_storeRow (op := ⟨none, .store 25 (.tmp 2) (.tmp 29), _, _, _, _⟩) rfl _ _ _ rfl w.heap.size #[.int .u64 0, .int .u64 0, .slice none 0 0] rfl rfl _ _ h2 (by simp [txc]) (by simpa using zTx.2) (by simp [Value.oneCell']) ?_; intro w9 hg9 hs9 hz9)))
        refine bodyPost_ret (v := .agg (txc 0 0 (.slice none 0 0))) ?_ rfl ⟨.slice a (opsTo q i).length cap, by unfold takeV; rw [if_neg hrE.out], hT.write hg9 hbl (Nat.le_refl _), hO.grown hg9 h2 (by decide)⟩
        exact results_cell_row rfl _ _ w.heap.size _ _ _ _ rfl hz9.out Tryd.underlying25 rfl (by exact zTx.2)
end Go.Proofs.YtncoifkchoiiaaaDoor
