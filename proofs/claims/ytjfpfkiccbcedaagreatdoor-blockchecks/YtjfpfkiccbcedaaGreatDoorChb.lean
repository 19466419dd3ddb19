/- What BlockChecks does. -/
import Derived.Test.YtjfpfkiccbcedaaGreatDoorChp
import Derived.Deep.CutBlock
namespace Go.Proofs.YtjfpfkiccbcedaaGreatDoor
open Go Go.RowKit
theorem fieldK0 (b : Nat) (w : World) : (Instr.fieldAt 46 (.pointer (some ⟨b, 0, none⟩)) 0).run Tryz.prog w = .ok (.pointer (some ⟨b, 0, none⟩)) w := by kernel_rfl
theorem fieldH4 (b : Nat) (w : World) : (Instr.fieldAt 44 (.pointer (some ⟨b, 0, none⟩)) 4).run Tryz.prog w = .ok (.pointer (some ⟨b, 4, none⟩)) w := by kernel_rfl
section
variable {P : Program} {ops : Array Oper} {rest : List Oper} {op : Oper} {a : Act} {w : World} {Q : Exit → Act → World → Prop}
theorem wpList_loadRowG (hw : Region.wanted op (yielded ops a.tmps) = true) (ty : TypeId) (x : Operand) (ho : op.op = .load ty x) (b : Nat) (hx : a.eval x = .pointer (some ⟨b, 0, none⟩))
    (c : Array Value) (t : TypeId) (hb : Blk w b c t) (d : TypeDesc) (hu : P.underlying ty = some d) (hd : d.isRow = true) (hi : (P.info? ty).map (·.size) = some c.size)
    (h : wpList P ops Q rest (a.put op.dst (.agg c)) w) : wpList P ops Q (op :: rest) a w :=
  wpList_runG hw _ _ (by
    unfold execOp
    simp only [ho, hx]
    simp [Instr.loadAt, Instr.sureAddr, hb.loadVar d hu hd hi]) h
end
section
attribute [local go_sem] Oper.semAt_some
set_option maxRecDepth 100000 in
set_option maxHeartbeats 8000000 in
theorem blockChecks_any (b0 b1 : BT) (a0 m0 a1 m1 : Option Addr) (cap0 cam0 cap1 cam1 : Nat) (z2 : Int) (w : World) (hG : Sh.Glob w) (hT0 : TA w a0 b0.txs) (hI0 : IA w m0 b0.mem) (hc0 : b0.txs.length ≤ cap0) (hd0 : b0.mem.length ≤ cam0) (hT1 : TA w a1 b1.txs) (hI1 : IA w m1 b1.mem) (hc1 : b1.txs.length ≤ cap1) (hd1 : b1.mem.length ≤ cam1) :
    Calls Tryz.prog 4 #[.agg (bc (.slice a0 b0.txs.length cap0) b0.conf (.slice m0 b0.mem.length cam0)), .agg (bc (.slice a1 b1.txs.length cap1) b1.conf (.slice m1 b1.mem.length cam1)), .int .i64 z2] w fun e w' => e = .returned (.bool true) ∧ Below w.heap.size w w' := by
  have h2w := hG.two
  go_enter Tryz.func4, Tryz.ntmps4
  go_upto_region 1 with (with_reducible refine at_list ?_; first
    | (refine wpList_boxRow (op := ⟨some 3, _, _, _, _, _⟩) rfl _ _ rfl _ rfl ?_; intro w1 hw1 hs1 hb3; replace hs1 := hs1.symm)
    | (refine wpList_boxRow (op := ⟨some 4, _, _, _, _, _⟩) rfl _ _ rfl _ rfl ?_; intro wa hw2 hs2 hb4; replace hs2 := hs2.symm; replace hb3 := hb3.belowSize hw2; have hB := hw1.trans (hw2.mono hw1.size); clear hw2))
  obtain ⟨wb4, hwb4⟩ : ∃ y, y = w1.heap.size := ⟨_, rfl⟩
  rw [← hwb4] at hb4 ⊢
  clear hs1 hs2 hw1 hwb4
  replace hT0 := hT0.below hB
  replace hI0 := hI0.below hB
  replace hT1 := hT1.below hB
  replace hI1 := hI1.below hB
  replace hG := hG.belowSize hB
  refine wp_region_made (by kernel_rfl) (R1E wa.heap.size) (R1P wa.heap.size (bc (.slice a0 b0.txs.length cap0) b0.conf (.slice m0 b0.mem.length cam0)) (bc (.slice a1 b1.txs.length cap1) b1.conf (.slice m1 b1.mem.length cam1)) (bc (.slice a0 (sml b0).txs.length cap0) (sml b0).conf (.slice m0 (sml b0).mem.length cam0)) (bc (.slice a1 (sml b1).txs.length cap1) (sml b1).conf (.slice m1 (sml b1).mem.length cam1))) (R1G wa.heap.size wa.drew) (by kernel_rfl) ⟨Nat.le_refl _, Below.refl _ _, fun e => (by cases e), fun e => (by cases e), fun e => (by cases e)⟩ (fun L i w w' vs v _ _ _ hg hE _ => hg.step hE) (fun i vs vs' w v hv h => ?_) (fun i j vs w w' u v hij _ hE h => h.stay hE hij) (fun i o ho ac vs wx hk K hK => ?_) (fun vs wx hPr hGn => ?_)
  · obtain ⟨h1, h2, h3, h4⟩ := h
    refine ⟨h1, fun e => ?_, fun e => ?_, h4⟩
    · obtain ⟨g, q⟩ := h2 e
      subst e
      exact ⟨g, (hv 4 (by kernel_rfl)).symm.trans q.1, q.2⟩
    · obtain ⟨g, q⟩ := h3 e
      subst e
      exact ⟨g, (hv 5 (by kernel_rfl)).symm.trans q.1, q.2⟩
  · obtain ⟨L, hL1, hL2, hL3, hg1, hg2, hg3, hg4, hg5⟩ := hk.gen
    have hBw : Below wa.heap.size wa wx := ((Below.refl wa.heap.size wa).drew).trans hg2
    have hi : i < 8 := (Array.getElem?_eq_some_iff.1 ho).1
    rcases (show i = 0 ∨ i = 1 ∨ i = 2 ∨ i = 3 ∨ i = 4 ∨ i = 5 ∨ i = 6 ∨ i = 7 by omega) with rfl | rfl | rfl | rfl | rfl | rfl | rfl | rfl
    · obtain rfl := Option.some.inj ho
      exact wpList_loadRow rfl _ _ rfl w.heap.size (hk.old 3 (by kernel_rfl)) _ _ (hb3.belowSize hBw) _ Tryz.underlying30 rfl (bc_info _ _ _) (hK _ _ ⟨fun _ _ => Below.refl _ _, fun e => (by rcases e with e | e <;> exact absurd e (by decide)), Keep30.below (Below.refl _ _), fun e => (by rcases e with e | e <;> exact absurd e (by decide))⟩ ⟨fun e => (by rcases e with e | e <;> exact absurd e (by decide)), fun e => absurd e (by decide), fun e => absurd e (by decide), fun _ => rfl, fun e => absurd e (by decide), fun e => absurd e (by decide), fun e => absurd e (by decide)⟩)
    · obtain rfl := Option.some.inj ho
      refine wpList_callR Tryz.func10 (by kernel_rfl) (by kernel_rfl) rfl _ _ rfl #[.agg (bc (.slice a0 b0.txs.length cap0) b0.conf (.slice m0 b0.mem.length cam0))] (by simp only [List.map_toArray, List.map_cons, List.map_nil, (show ac.eval (.tmp 25) = vs 0 from hk.slot 0 25 (by kernel_rfl) rfl), (hk.dep 0 (by kernel_rfl)).2.2.2.1 rfl]) _ (small_bt b0 a0 m0 cap0 cam0 wx (hT0.below hBw) (hI0.below hBw) hc0 hd0) ?_
      rintro e w1 ⟨rfl, hw1⟩
      exact ⟨_, rfl, hK _ _ ⟨fun _ _ => hw1, fun e => (by rcases e with e | e <;> exact absurd e (by decide)), Keep30.below hw1, fun e => (by rcases e with e | e <;> exact absurd e (by decide))⟩ ⟨fun e => (by rcases e with e | e <;> exact absurd e (by decide)), fun e => absurd e (by decide), fun e => absurd e (by decide), fun e => absurd e (by decide), fun _ => rfl, fun e => absurd e (by decide), fun e => absurd e (by decide)⟩⟩
    · obtain rfl := Option.some.inj ho
      exact wpList_loadRow rfl _ _ rfl wb4 (hk.old 4 (by kernel_rfl)) _ _ (hb4.belowSize hBw) _ Tryz.underlying30 rfl (bc_info _ _ _) (hK _ _ ⟨fun _ _ => Below.refl _ _, fun e => (by rcases e with e | e <;> exact absurd e (by decide)), Keep30.below (Below.refl _ _), fun e => (by rcases e with e | e <;> exact absurd e (by decide))⟩ ⟨fun e => (by rcases e with e | e <;> exact absurd e (by decide)), fun e => absurd e (by decide), fun e => absurd e (by decide), fun e => absurd e (by decide), fun e => absurd e (by decide), fun _ => rfl, fun e => absurd e (by decide)⟩)
    · obtain rfl := Option.some.inj ho
      refine wpList_callR Tryz.func10 (by kernel_rfl) (by kernel_rfl) rfl _ _ rfl #[.agg (bc (.slice a1 b1.txs.length cap1) b1.conf (.slice m1 b1.mem.length cam1))] (by simp only [List.map_toArray, List.map_cons, List.map_nil, (show ac.eval (.tmp 27) = vs 2 from hk.slot 2 27 (by kernel_rfl) rfl), (hk.dep 2 (by kernel_rfl)).2.2.2.2.2.1 rfl]) _ (small_bt b1 a1 m1 cap1 cam1 wx (hT1.below hBw) (hI1.below hBw) hc1 hd1) ?_
      rintro e w1 ⟨rfl, hw1⟩
      exact ⟨_, rfl, hK _ _ ⟨fun _ _ => hw1, fun e => (by rcases e with e | e <;> exact absurd e (by decide)), Keep30.below hw1, fun e => (by rcases e with e | e <;> exact absurd e (by decide))⟩ ⟨fun e => (by rcases e with e | e <;> exact absurd e (by decide)), fun e => absurd e (by decide), fun e => absurd e (by decide), fun e => absurd e (by decide), fun e => absurd e (by decide), fun e => absurd e (by decide), fun _ => rfl⟩⟩
    · obtain rfl := Option.some.inj ho
      refine wpList_allocRow rfl _ rfl _ zB.1 ?_
      intro w1 hw1 hs1 hb1
      exact hK _ _ ⟨fun _ _ => hw1, fun e => (by rcases e with e | e <;> exact absurd e (by decide)), Keep30.below hw1, fun _ => ⟨rfl, by omega⟩⟩ ⟨fun _ => ⟨_, _, rfl, hg1, hb1, rfl⟩, fun e => absurd e (by decide), fun e => absurd e (by decide), fun e => absurd e (by decide), fun e => absurd e (by decide), fun e => absurd e (by decide), fun e => absurd e (by decide)⟩
    · obtain rfl := Option.some.inj ho
      refine wpList_allocRow rfl _ rfl _ zB.1 ?_
      intro w1 hw1 hs1 hb1
      exact hK _ _ ⟨fun _ _ => hw1, fun e => (by rcases e with e | e <;> exact absurd e (by decide)), Keep30.below hw1, fun _ => ⟨rfl, by omega⟩⟩ ⟨fun _ => ⟨_, _, rfl, hg1, hb1, rfl⟩, fun e => absurd e (by decide), fun e => absurd e (by decide), fun e => absurd e (by decide), fun e => absurd e (by decide), fun e => absurd e (by decide), fun e => absurd e (by decide)⟩
    · obtain rfl := Option.some.inj ho
      obtain ⟨g, c, ea, hgN, hb, hcs⟩ := (hk.dep 4 (by kernel_rfl)).1 (.inl rfl)
      have hne := hg5 (hL2 4 (by kernel_rfl)) (hL2 5 (by kernel_rfl))
      refine wpList_storeRow rfl _ _ _ rfl g (bc (.slice a0 (sml b0).txs.length cap0) (sml b0).conf (.slice m0 (sml b0).mem.length cam0)) ((show ac.eval (.tmp 7) = vs 4 from hk.slot 4 7 (by kernel_rfl) rfl).trans ea) ((show ac.eval (.tmp 26) = vs 1 from hk.slot 1 26 (by kernel_rfl) rfl).trans ((hk.dep 1 (by kernel_rfl)).2.2.2.2.1 rfl)) _ _ hb (by rw [hcs]; rfl) (bc_info _ _ _) (bc_one _ _ _ _ _ _ _) ?_
      intro w1 hgr hsz hb1
      exact hK _ _ ⟨fun e e2 => (by first | exact absurd rfl e | exact absurd rfl e2), fun _ => ⟨g, c, fun _ => ea, fun e => absurd e (by decide), hne, hgN, hb, hgr⟩, Keep30.store hgr hb1 rfl, fun e => (by rcases e with e | e <;> exact absurd e (by decide))⟩ ⟨fun e => (by rcases e with e | e <;> exact absurd e (by decide)), fun _ => ⟨g, ea, hgN, hb1⟩, fun e => absurd e (by decide), fun e => absurd e (by decide), fun e => absurd e (by decide), fun e => absurd e (by decide), fun e => absurd e (by decide)⟩
    · obtain rfl := Option.some.inj ho
      obtain ⟨g, c, ea, hgN, hb, hcs⟩ := (hk.dep 5 (by kernel_rfl)).1 (.inr rfl)
      have hne := hg5 (hL2 4 (by kernel_rfl)) (hL2 5 (by kernel_rfl))
      refine wpList_storeRow rfl _ _ _ rfl g (bc (.slice a1 (sml b1).txs.length cap1) (sml b1).conf (.slice m1 (sml b1).mem.length cam1)) ((show ac.eval (.tmp 8) = vs 5 from hk.slot 5 8 (by kernel_rfl) rfl).trans ea) ((show ac.eval (.tmp 28) = vs 3 from hk.slot 3 28 (by kernel_rfl) rfl).trans ((hk.dep 3 (by kernel_rfl)).2.2.2.2.2.2 rfl)) _ _ hb (by rw [hcs]; rfl) (bc_info _ _ _) (bc_one _ _ _ _ _ _ _) ?_
      intro w1 hgr hsz hb1
      exact hK _ _ ⟨fun e e2 => (by first | exact absurd rfl e | exact absurd rfl e2), fun _ => ⟨g, c, fun e => absurd e (by decide), fun _ => ea, hne, hgN, hb, hgr⟩, Keep30.store hgr hb1 rfl, fun e => (by rcases e with e | e <;> exact absurd e (by decide))⟩ ⟨fun e => (by rcases e with e | e <;> exact absurd e (by decide)), fun e => absurd e (by decide), fun _ => ⟨g, ea, hgN, hb1⟩, fun e => absurd e (by decide), fun e => absurd e (by decide), fun e => absurd e (by decide), fun e => absurd e (by decide)⟩
  obtain ⟨Lx, hLx, -, hBx, -, -, hne45⟩ := hGn
  obtain ⟨B7, e7, hN7, hb7⟩ := (hPr 6 (show 6 < 8 by decide)).2.1 rfl
  obtain ⟨B8, e8, hN8, hb8⟩ := (hPr 7 (show 7 < 8 by decide)).2.2.1 rfl
  clear hPr hLx Lx hne45
  simp only [dstsR, List.map_cons, List.map_nil, puts, Nat.reduceAdd, Act.put, List.setIfInBounds_toArray, List.set_cons_zero, List.set_cons_succ, e7, e8]
  clear e7 e8
  have hBy : Below wa.heap.size wa wx := ((Below.refl wa.heap.size wa).drew).trans hBx
  have hBn := hB.trans (hBy.mono hB.size)
  have hN7' : w.heap.size ≤ B7 := Nat.le_trans hB.size hN7
  have hN8' : w.heap.size ≤ B8 := Nat.le_trans hB.size hN8
  have hTa := (hT0.below hBy).sml
  have hIa := (hI0.below hBy).sml
  have hTb := (hT1.below hBy).sml
  have hIb := (hI1.below hBy).sml
  replace hG := hG.belowSize hBy
  have hcap0 : (sml b0).txs.length ≤ cap0 := by rw [sml_len]; omega
  have hcap1 : (sml b1).txs.length ≤ cap1 := by rw [sml_len]; omega
  have hl0 : (sml b0).txs.length ≤ 17 := by rw [sml_len]; omega
  have hl1 : (sml b1).txs.length ≤ 17 := by rw [sml_len]; omega
  clear hBx hBy hB hN7 hN8 hb3 hb4 hT0 hI0 hT1 hI1 hc0 hd0 hc1 hd1
  generalize sml b0 = A at *
  generalize sml b1 = B at *
  have HB0 := fun w1 (h : TA w1 a0 A.txs) => batch_any A.txs A.conf a0 m0 cap0 A.mem.length cam0 w1 h
  have HB1 := fun w1 (h : TA w1 a1 B.txs) => batch_any B.txs B.conf a1 m1 cap1 B.mem.length cam1 w1 h
  have HK0 := fun xa xc w1 (hI : IA w1 m0 A.mem) (hT : TA w1 xa (rb17 A.txs)) => batch_chk A hl0 xa m0 xc cam0 w1 hI hT
  have HK1 := fun xa xc w1 (hI : IA w1 m1 B.mem) (hT : TA w1 xa (rb17 B.txs)) => batch_chk B hl1 xa m1 xc cam1 w1 hI hT
  have HA := fun w1 (h : Sh.Glob w1) => awakeB_any w1 h
  unfold BatP at HB0 HB1
  go_simp
  by_cases k0 : chkB A = 0
  · rw [k0] at HK0
    by_cases k1 : chkB B = 0
    · rw [k1] at HK1
      have k0H : Hid (chkB A = 0) := k0
      have k1H : Hid (chkB B = 0) := k1
      clear k0 k1
      generalize rb17 A.txs = LA at *
      generalize rb17 B.txs = LB at *
      go_upto_region 6 with (first
        | (go_at_call 12; first
          | (refine (HB0 _ hTa).mono ?_; rintro e y1 ⟨xa, xc, rfl, hX1, hy1⟩; clear HB0; replace hTa := hTa.below hy1; replace hTb := hTb.below hy1; replace hIa := hIa.below hy1; replace hIb := hIb.below hy1; replace hb7 := hb7.belowSize hy1; replace hb8 := hb8.belowSize hy1; replace hG := hG.belowSize hy1; replace hBn := hBn.trans (hy1.mono hBn.size); clear hy1)
          | (refine (HB1 _ hTb).mono ?_; rintro e y3 ⟨xb, xd, rfl, hX3, hy3⟩; clear HB1; replace hTa := hTa.below hy3; replace hTb := hTb.below hy3; replace hIa := hIa.below hy3; replace hIb := hIb.below hy3; replace hb7 := hb7.belowSize hy3; replace hb8 := hb8.belowSize hy3; replace hG := hG.belowSize hy3; replace hBn := hBn.trans (hy3.mono hBn.size); clear hy3))
        | (go_at_call 11; first
          | (refine (HK0 _ _ _ hIa hX1).mono ?_; rintro e y2 ⟨rfl, hy2⟩; clear HK0 hX1; replace hTa := hTa.below hy2; replace hTb := hTb.below hy2; replace hIa := hIa.below hy2; replace hIb := hIb.below hy2; replace hb7 := hb7.belowSize hy2; replace hb8 := hb8.belowSize hy2; replace hG := hG.belowSize hy2; replace hBn := hBn.trans (hy2.mono hBn.size); clear hy2)
          | (refine (HK1 _ _ _ hIb hX3).mono ?_; rintro e y4 ⟨rfl, hy4⟩; clear HK1 hX3; replace hTa := hTa.below hy4; replace hTb := hTb.below hy4; replace hIa := hIa.below hy4; replace hIb := hIb.below hy4; replace hb7 := hb7.belowSize hy4; replace hb8 := hb8.belowSize hy4; replace hG := hG.belowSize hy4; replace hBn := hBn.trans (hy4.mono hBn.size); clear hy4))
        | (go_at_call 14; refine (new_any _).mono ?_; rintro e y6 ⟨rfl, hy6, hS1, hs1⟩; replace hs1 := hs1.symm; have hz5 := hBn.size; have hmk := hb9.belowSize hy6; replace hTa := hTa.below hy6; replace hTb := hTb.below hy6; replace hIa := hIa.below hy6; replace hIb := hIb.below hy6; replace hb7 := hb7.belowSize hy6; replace hb8 := hb8.belowSize hy6; replace hG := hG.belowSize hy6; replace hBn := hBn.trans (hy6.mono hBn.size); have hy6s := hBn.size; clear hy6)
        | (go_at_call 15; refine (Sh.tnew_any _).mono ?_; rintro e y7 ⟨rfl, ht1, hy7⟩; replace hS1 := hS1.below hy7; replace hmk := hmk.belowSize hy7; have hz6 := hy6s; replace hTa := hTa.below hy7; replace hTb := hTb.below hy7; replace hIa := hIa.below hy7; replace hIb := hIb.below hy7; replace hb7 := hb7.belowSize hy7; replace hb8 := hb8.belowSize hy7; replace hG := hG.belowSize hy7; replace hBn := hBn.trans (hy7.mono hBn.size); clear hy7)
        | (with_reducible refine at_list ?_; first
          | (refine wpList_loadRow (op := ⟨some 29, _, _, _, _, _⟩) rfl _ _ rfl B7 rfl _ _ hb7 _ Tryz.underlying30 rfl (bc_info _ _ _) ?_)
          | (refine wpList_loadRowG (op := ⟨some 34, _, _, _, _, _⟩) rfl _ _ rfl B8 rfl _ _ hb8 _ Tryz.underlying30 rfl (bc_info _ _ _) ?_)
          | (refine wpList_bsl2I (op := ⟨some 40, _, _, _, _, _⟩) rfl _ _ rfl 1 4 rfl rfl ?_; intro y5 hy5 hs5 hb9; clear hs5; replace hTa := hTa.below hy5; replace hTb := hTb.below hy5; replace hIa := hIa.below hy5; replace hIb := hIb.below hy5; replace hb7 := hb7.belowSize hy5; replace hb8 := hb8.belowSize hy5; replace hG := hG.belowSize hy5; replace hBn := hBn.trans (hy5.mono hBn.size); clear hy5)))
      have h2g : 2 ≤ y7.heap.size := hG.two
      have hE1 : EX y7 (y5.heap.size + 1) y6.heap.size [] .emp := EX.new hS1 ht1 hG ⟨by omega, by omega⟩
      refine wp_region_made (by kernel_rfl) (K2E y7.heap.size 5 11 (fun _ _ _ => True) (fun v w => MkQ y7.drew (y5.heap.size + 1) y6.heap.size [] .emp 1 zr A.txs (if A.conf = true then A.mem else [1, 4]) v w)) (KP y7.heap.size 10 11 7 (fun i vs v => (i = 0 → v = .string ⟨zr.toArray⟩) ∧ (i = 1 → v = .slice (some ⟨y4.heap.size, 0, none⟩) 2 2) ∧ (i = 2 → v = .pointer (some ⟨y5.heap.size + 1, 0, none⟩)) ∧ (i = 3 → v = .pointer (some ⟨y6.heap.size, 0, none⟩)) ∧ (i = 4 → v = .agg (bc (.slice a0 A.txs.length cap0) A.conf (.slice m0 A.mem.length cam0))) ∧ (i = 6 → v = vs 5) ∧ (i = 7 → (∀ x y u, vs 6 = .tuple #[x, y, u] → v = x)) ∧ (i = 8 → (∀ x y u, vs 6 = .tuple #[x, y, u] → v = y)) ∧ (i = 9 → (∀ x y u, vs 6 = .tuple #[x, y, u] → v = u)) ∧ (i = 12 → v = vs 8) ∧ (i = 13 → v = vs 9))) (K2G y7.heap.size y7.drew 5 (fun _ _ _ => True) (fun v w => MkQ y7.drew (y5.heap.size + 1) y6.heap.size [] .emp 1 zr A.txs (if A.conf = true then A.mem else [1, 4]) v w)) (by kernel_rfl) ⟨Nat.le_refl _, fun _ => ⟨Below.refl _ _, fun _ e => (by cases e)⟩, fun e => (by cases e)⟩ (fun L i w w' vs v _ _ hw hg hE _ => hg.step (fun _ _ _ _ h _ => h) (fun _ _ _ h hb => h.below hb) (fun _ _ _ _ _ h h1 h2 h3 h4 => h.store h1 h2 h3) (fun e => hw 5 (by subst e; kernel_rfl)) hE) (fun i vs vs' w v hv h => ?_) (fun i j vs w w' u v hij hwf hE h => h.stay2 hE hij (fun e e2 => (by subst e; subst e2; exact absurd ((show waitsB _ 11 5 = true from by kernel_rfl).symm.trans hwf) (by decide)))) (fun i o ho ac vs wx hk K hK => ?_) (fun vs wx hPr hGn => ?_)
      · obtain ⟨h1, h2, h3⟩ := h
        refine ⟨h1, fun e => ?_, ?_⟩
        · obtain ⟨g, c, k1, k2, k3⟩ := h2 e
          subst e
          exact ⟨g, c, (hv 10 (by kernel_rfl)).symm.trans k1, (hv 7 (by kernel_rfl)).symm.trans k2, k3⟩
        · exact ⟨h3.1, h3.2.1, h3.2.2.1, h3.2.2.2.1, h3.2.2.2.2.1, fun e => (by subst e; exact (h3.2.2.2.2.2.1 rfl).trans (hv 5 (by kernel_rfl))), fun e => (by subst e; exact fun x y u k => (h3.2.2.2.2.2.2.1 rfl) x y u ((hv 6 (by kernel_rfl)).trans k)), fun e => (by subst e; exact fun x y u k => (h3.2.2.2.2.2.2.2.1 rfl) x y u ((hv 6 (by kernel_rfl)).trans k)), fun e => (by subst e; exact fun x y u k => (h3.2.2.2.2.2.2.2.2.1 rfl) x y u ((hv 6 (by kernel_rfl)).trans k)), fun e => (by subst e; exact (h3.2.2.2.2.2.2.2.2.2.1 rfl).trans (hv 8 (by kernel_rfl))), fun e => (by subst e; exact (h3.2.2.2.2.2.2.2.2.2.2 rfl).trans (hv 9 (by kernel_rfl)))⟩
      · obtain ⟨L, hL1, hL2, hL3, hg1, hg2, hg3⟩ := hk.gen
        have hi : i < 14 := (Array.getElem?_eq_some_iff.1 ho).1
        rcases (show i = 0 ∨ i = 1 ∨ i = 2 ∨ i = 3 ∨ i = 4 ∨ i = 5 ∨ i = 6 ∨ i = 7 ∨ i = 8 ∨ i = 9 ∨ i = 10 ∨ i = 11 ∨ i = 12 ∨ i = 13 by omega) with rfl | rfl | rfl | rfl | rfl | rfl | rfl | rfl | rfl | rfl | rfl | rfl | rfl | rfl
        · obtain rfl := Option.some.inj ho
          have hm : L 5 = false := (by cases hq : L 5 with | false => rfl | true => exact absurd ((hL3 5 0 hq (by kernel_rfl)).symm.trans hL1) (by decide))
          have hBw : Below y7.heap.size y7 wx := ((Below.refl y7.heap.size y7).drew).trans (hg2 hm).1
          refine wpList_callR Tryz.func17 (by kernel_rfl) (by kernel_rfl) rfl _ _ rfl #[] (by simp) _ (zeros9_any wx) ?_
          rintro e w1 ⟨rfl, hw1⟩
          have hw2 := hw1.symm
          subst hw2
          exact ⟨_, rfl, (hK _ _ ⟨fun _ _ => Below.refl _ _, fun e => absurd e (by decide), Keep46.below (Below.refl _ _), trivial, fun e => absurd e (by decide), Nat.le_refl _⟩ ⟨fun e => absurd e (by decide), fun e => absurd e (by decide), ⟨fun _ => rfl, fun e => absurd e (by decide), fun e => absurd e (by decide), fun e => absurd e (by decide), fun e => absurd e (by decide), fun e => absurd e (by decide), fun e => absurd e (by decide), fun e => absurd e (by decide), fun e => absurd e (by decide), fun e => absurd e (by decide), fun e => absurd e (by decide)⟩⟩)⟩
        · obtain rfl := Option.some.inj ho
          have hm : L 5 = false := (by cases hq : L 5 with | false => rfl | true => exact absurd ((hL3 5 1 hq (by kernel_rfl)).symm.trans hL1) (by decide))
          have hBw : Below y7.heap.size y7 wx := ((Below.refl y7.heap.size y7).drew).trans (hg2 hm).1
          refine wpList_pure rfl _ (run_move _ rfl) (hK _ _ ⟨fun _ _ => Below.refl _ _, fun e => absurd e (by decide), Keep46.below (Below.refl _ _), trivial, fun e => absurd e (by decide), Nat.le_refl _⟩ ⟨fun e => absurd e (by decide), fun e => absurd e (by decide), ⟨fun e => absurd e (by decide), fun _ => hk.old 9 (by kernel_rfl), fun e => absurd e (by decide), fun e => absurd e (by decide), fun e => absurd e (by decide), fun e => absurd e (by decide), fun e => absurd e (by decide), fun e => absurd e (by decide), fun e => absurd e (by decide), fun e => absurd e (by decide), fun e => absurd e (by decide)⟩⟩)
        · obtain rfl := Option.some.inj ho
          have hm : L 5 = false := (by cases hq : L 5 with | false => rfl | true => exact absurd ((hL3 5 2 hq (by kernel_rfl)).symm.trans hL1) (by decide))
          have hBw : Below y7.heap.size y7 wx := ((Below.refl y7.heap.size y7).drew).trans (hg2 hm).1
          refine wpList_pure rfl _ (run_move _ rfl) (hK _ _ ⟨fun _ _ => Below.refl _ _, fun e => absurd e (by decide), Keep46.below (Below.refl _ _), trivial, fun e => absurd e (by decide), Nat.le_refl _⟩ ⟨fun e => absurd e (by decide), fun e => absurd e (by decide), ⟨fun e => absurd e (by decide), fun e => absurd e (by decide), fun _ => hk.old 10 (by kernel_rfl), fun e => absurd e (by decide), fun e => absurd e (by decide), fun e => absurd e (by decide), fun e => absurd e (by decide), fun e => absurd e (by decide), fun e => absurd e (by decide), fun e => absurd e (by decide), fun e => absurd e (by decide)⟩⟩)
        · obtain rfl := Option.some.inj ho
          have hm : L 5 = false := (by cases hq : L 5 with | false => rfl | true => exact absurd ((hL3 5 3 hq (by kernel_rfl)).symm.trans hL1) (by decide))
          have hBw : Below y7.heap.size y7 wx := ((Below.refl y7.heap.size y7).drew).trans (hg2 hm).1
          refine wpList_pure rfl _ (run_move _ rfl) (hK _ _ ⟨fun _ _ => Below.refl _ _, fun e => absurd e (by decide), Keep46.below (Below.refl _ _), trivial, fun e => absurd e (by decide), Nat.le_refl _⟩ ⟨fun e => absurd e (by decide), fun e => absurd e (by decide), ⟨fun e => absurd e (by decide), fun e => absurd e (by decide), fun e => absurd e (by decide), fun _ => hk.old 11 (by kernel_rfl), fun e => absurd e (by decide), fun e => absurd e (by decide), fun e => absurd e (by decide), fun e => absurd e (by decide), fun e => absurd e (by decide), fun e => absurd e (by decide), fun e => absurd e (by decide)⟩⟩)
        · obtain rfl := Option.some.inj ho
          have hm : L 5 = false := (by cases hq : L 5 with | false => rfl | true => exact absurd ((hL3 5 4 hq (by kernel_rfl)).symm.trans hL1) (by decide))
          have hBw : Below y7.heap.size y7 wx := ((Below.refl y7.heap.size y7).drew).trans (hg2 hm).1
          refine wpList_loadRow rfl _ _ rfl B7 (hk.old 7 (by kernel_rfl)) _ _ (hb7.belowSize hBw) _ Tryz.underlying30 rfl (bc_info _ _ _) (hK _ _ ⟨fun _ _ => Below.refl _ _, fun e => absurd e (by decide), Keep46.below (Below.refl _ _), trivial, fun e => absurd e (by decide), Nat.le_refl _⟩ ⟨fun e => absurd e (by decide), fun e => absurd e (by decide), ⟨fun e => absurd e (by decide), fun e => absurd e (by decide), fun e => absurd e (by decide), fun e => absurd e (by decide), fun _ => rfl, fun e => absurd e (by decide), fun e => absurd e (by decide), fun e => absurd e (by decide), fun e => absurd e (by decide), fun e => absurd e (by decide), fun e => absurd e (by decide)⟩⟩)
        · obtain rfl := Option.some.inj ho
          have s0 := hk.slot 0 44 (by kernel_rfl) rfl
          have s1 := hk.slot 1 45 (by kernel_rfl) rfl
          have s2 := hk.slot 2 46 (by kernel_rfl) rfl
          have s3 := hk.slot 3 47 (by kernel_rfl) rfl
          have s4 := hk.slot 4 48 (by kernel_rfl) rfl
          have hBw : Below y7.heap.size y7 wx := ((Below.refl y7.heap.size y7).drew).trans (hg2 hL1).1
          have hBd : Below y7.drew.heap.size y7.drew wx := (hg2 hL1).1
          have hEx := hE1.below hBw
          have hW2 : 2 ≤ y7.drew.heap.size := h2g
          rw [((hk.dep 0 (by kernel_rfl)).2.2.1 rfl)] at s0
          rw [((hk.dep 1 (by kernel_rfl)).2.2.2.1 rfl)] at s1
          rw [((hk.dep 2 (by kernel_rfl)).2.2.2.2.1 rfl)] at s2
          rw [((hk.dep 3 (by kernel_rfl)).2.2.2.2.2.1 rfl)] at s3
          rw [((hk.dep 4 (by kernel_rfl)).2.2.2.2.2.2.1 rfl)] at s4
          refine wpList_callR Tryz.func16 (by kernel_rfl) (by kernel_rfl) rfl _ _ rfl _ (by simp only [List.map_toArray, List.map_cons, List.map_nil, Act.eval, s0, s1, s2, s3, s4] <;> rfl) _ (make_any A k0H.out zr (by decide) 1 (by decide) [1, 4] (by decide) (some ⟨y4.heap.size, 0, none⟩) 2 (y5.heap.size + 1) y6.heap.size [] .emp a0 m0 cap0 cam0 wx hEx Sz.nil trivial (by decide) (hTa.below hBw) (hmk.belowSize hBw).ia2 (hIa.below hBw)) ?_
          intro e w1 hP
          obtain ⟨hk1, hk2⟩ := hP.keep hEx
          obtain ⟨v, rfl, hv⟩ := hP.mkQ hBd hW2
          exact ⟨_, rfl, hK _ _ ⟨fun e => absurd rfl e, fun e => absurd e (by decide), hk1, trivial, fun _ => hv, hk2⟩ ⟨fun e => absurd e (by decide), fun e => absurd e (by decide), ⟨fun e => absurd e (by decide), fun e => absurd e (by decide), fun e => absurd e (by decide), fun e => absurd e (by decide), fun e => absurd e (by decide), fun e => absurd e (by decide), fun e => absurd e (by decide), fun e => absurd e (by decide), fun e => absurd e (by decide), fun e => absurd e (by decide), fun e => absurd e (by decide)⟩⟩⟩
        · obtain rfl := Option.some.inj ho
          refine wpList_pure rfl _ (run_move _ rfl) (hK _ _ ⟨fun _ _ => Below.refl _ _, fun e => absurd e (by decide), Keep46.below (Below.refl _ _), trivial, fun e => absurd e (by decide), Nat.le_refl _⟩ ⟨fun e => absurd e (by decide), fun e => absurd e (by decide), ⟨fun e => absurd e (by decide), fun e => absurd e (by decide), fun e => absurd e (by decide), fun e => absurd e (by decide), fun e => absurd e (by decide), fun _ => (show ac.eval (.tmp 49) = vs 5 from hk.slot 5 49 (by kernel_rfl) rfl), fun e => absurd e (by decide), fun e => absurd e (by decide), fun e => absurd e (by decide), fun e => absurd e (by decide), fun e => absurd e (by decide)⟩⟩)
        · obtain rfl := Option.some.inj ho
          have hm : L 5 = true := hL3 6 5 (hL2 6 (by kernel_rfl)) (by kernel_rfl)
          obtain ⟨_, _, _, _, _, _, _, ev, _⟩ := hg3 hm
          have sm := (show ac.eval (.tmp 43) = vs 6 from hk.slot 6 43 (by kernel_rfl) rfl)
          have em := ((hk.dep 6 (by kernel_rfl)).2.2.2.2.2.2.2.1 rfl)
          refine wpList_pure rfl _ (run_extract _ _ rfl _ (sm.trans (em.trans ev)) _ rfl) (hK _ _ ⟨fun _ _ => Below.refl _ _, fun e => absurd e (by decide), Keep46.below (Below.refl _ _), trivial, fun e => absurd e (by decide), Nat.le_refl _⟩ ⟨fun e => absurd e (by decide), fun e => absurd e (by decide), ⟨fun e => absurd e (by decide), fun e => absurd e (by decide), fun e => absurd e (by decide), fun e => absurd e (by decide), fun e => absurd e (by decide), fun e => absurd e (by decide), fun _ => fun x y u k => (by have k2 := (em.trans ev).symm.trans k; cases k2; rfl), fun e => absurd e (by decide), fun e => absurd e (by decide), fun e => absurd e (by decide), fun e => absurd e (by decide)⟩⟩)
        · obtain rfl := Option.some.inj ho
          have hm : L 5 = true := hL3 6 5 (hL2 6 (by kernel_rfl)) (by kernel_rfl)
          obtain ⟨_, _, _, _, _, _, _, ev, _⟩ := hg3 hm
          have sm := (show ac.eval (.tmp 43) = vs 6 from hk.slot 6 43 (by kernel_rfl) rfl)
          have em := ((hk.dep 6 (by kernel_rfl)).2.2.2.2.2.2.2.1 rfl)
          refine wpList_pure rfl _ (run_extract _ _ rfl _ (sm.trans (em.trans ev)) _ rfl) (hK _ _ ⟨fun _ _ => Below.refl _ _, fun e => absurd e (by decide), Keep46.below (Below.refl _ _), trivial, fun e => absurd e (by decide), Nat.le_refl _⟩ ⟨fun e => absurd e (by decide), fun e => absurd e (by decide), ⟨fun e => absurd e (by decide), fun e => absurd e (by decide), fun e => absurd e (by decide), fun e => absurd e (by decide), fun e => absurd e (by decide), fun e => absurd e (by decide), fun e => absurd e (by decide), fun _ => fun x y u k => (by have k2 := (em.trans ev).symm.trans k; cases k2; rfl), fun e => absurd e (by decide), fun e => absurd e (by decide), fun e => absurd e (by decide)⟩⟩)
        · obtain rfl := Option.some.inj ho
          have hm : L 5 = true := hL3 6 5 (hL2 6 (by kernel_rfl)) (by kernel_rfl)
          obtain ⟨_, _, _, _, _, _, _, ev, _⟩ := hg3 hm
          have sm := (show ac.eval (.tmp 43) = vs 6 from hk.slot 6 43 (by kernel_rfl) rfl)
          have em := ((hk.dep 6 (by kernel_rfl)).2.2.2.2.2.2.2.1 rfl)
          refine wpList_pure rfl _ (run_extract _ _ rfl _ (sm.trans (em.trans ev)) _ rfl) (hK _ _ ⟨fun _ _ => Below.refl _ _, fun e => absurd e (by decide), Keep46.below (Below.refl _ _), trivial, fun e => absurd e (by decide), Nat.le_refl _⟩ ⟨fun e => absurd e (by decide), fun e => absurd e (by decide), ⟨fun e => absurd e (by decide), fun e => absurd e (by decide), fun e => absurd e (by decide), fun e => absurd e (by decide), fun e => absurd e (by decide), fun e => absurd e (by decide), fun e => absurd e (by decide), fun e => absurd e (by decide), fun _ => fun x y u k => (by have k2 := (em.trans ev).symm.trans k; cases k2; rfl), fun e => absurd e (by decide), fun e => absurd e (by decide)⟩⟩)
        · obtain rfl := Option.some.inj ho
          refine wpList_allocRow rfl _ rfl _ zBlk.1 ?_
          intro w1 hw1 _ hb1
          exact hK _ _ ⟨fun _ _ => hw1, fun e => absurd e (by decide), Keep46.below hw1, trivial, fun e => absurd e (by decide), hw1.size⟩ ⟨fun _ => ⟨_, _, rfl, hg1, hb1, rfl⟩, fun e => absurd e (by decide), ⟨fun e => absurd e (by decide), fun e => absurd e (by decide), fun e => absurd e (by decide), fun e => absurd e (by decide), fun e => absurd e (by decide), fun e => absurd e (by decide), fun e => absurd e (by decide), fun e => absurd e (by decide), fun e => absurd e (by decide), fun e => absurd e (by decide), fun e => absurd e (by decide)⟩⟩
        · obtain rfl := Option.some.inj ho
          have hm : L 5 = true := hL2 5 (by kernel_rfl)
          obtain ⟨_, _, _, _, _, _, _, ev, _⟩ := hg3 hm
          obtain ⟨g, c, ea, hgN, hb, hcs⟩ := (hk.dep 10 (by kernel_rfl)).1 rfl
          have em := ((hk.dep 6 (by kernel_rfl)).2.2.2.2.2.2.2.1 rfl)
          have e0 := ((hk.dep 7 (by kernel_rfl)).2.2.2.2.2.2.2.2.1 rfl) _ _ _ (em.trans ev)
          refine wpList_storeRow rfl _ _ _ rfl g _ ((show ac.eval (.tmp 12) = vs 10 from hk.slot 10 12 (by kernel_rfl) rfl).trans ea) ((show ac.eval (.tmp 50) = vs 7 from hk.slot 7 50 (by kernel_rfl) rfl).trans e0) _ _ hb (by rw [hcs]; rfl) (bk_info _ _ _ _ _ _) (bk_one _ _ _ _ _ _ _ _ _ _) ?_
          intro w1 hgr hsz hb1
          exact hK _ _ ⟨fun _ e => absurd rfl e, fun _ => ⟨g, c, hgN, hb, hgr⟩, Keep46.store hgr hb1 rfl, trivial, fun e => absurd e (by decide), hgr.size⟩ ⟨fun e => absurd e (by decide), fun _ => ⟨g, _, ea, e0, hgN, hb1⟩, ⟨fun e => absurd e (by decide), fun e => absurd e (by decide), fun e => absurd e (by decide), fun e => absurd e (by decide), fun e => absurd e (by decide), fun e => absurd e (by decide), fun e => absurd e (by decide), fun e => absurd e (by decide), fun e => absurd e (by decide), fun e => absurd e (by decide), fun e => absurd e (by decide)⟩⟩
        · obtain rfl := Option.some.inj ho
          refine wpList_pure rfl _ (run_assign _ rfl) (hK _ _ ⟨fun _ _ => Below.refl _ _, fun e => absurd e (by decide), Keep46.below (Below.refl _ _), trivial, fun e => absurd e (by decide), Nat.le_refl _⟩ ⟨fun e => absurd e (by decide), fun e => absurd e (by decide), ⟨fun e => absurd e (by decide), fun e => absurd e (by decide), fun e => absurd e (by decide), fun e => absurd e (by decide), fun e => absurd e (by decide), fun e => absurd e (by decide), fun e => absurd e (by decide), fun e => absurd e (by decide), fun e => absurd e (by decide), fun _ => (show ac.eval (.tmp 51) = vs 8 from hk.slot 8 51 (by kernel_rfl) rfl), fun e => absurd e (by decide)⟩⟩)
        · obtain rfl := Option.some.inj ho
          refine wpList_pure rfl _ (run_assign _ rfl) (hK _ _ ⟨fun _ _ => Below.refl _ _, fun e => absurd e (by decide), Keep46.below (Below.refl _ _), trivial, fun e => absurd e (by decide), Nat.le_refl _⟩ ⟨fun e => absurd e (by decide), fun e => absurd e (by decide), ⟨fun e => absurd e (by decide), fun e => absurd e (by decide), fun e => absurd e (by decide), fun e => absurd e (by decide), fun e => absurd e (by decide), fun e => absurd e (by decide), fun e => absurd e (by decide), fun e => absurd e (by decide), fun e => absurd e (by decide), fun e => absurd e (by decide), fun _ => (show ac.eval (.tmp 52) = vs 9 from hk.slot 9 52 (by kernel_rfl) rfl)⟩⟩)
      obtain ⟨Lx, hLx, -, -, hQ⟩ := hGn
      replace hQ := hQ (hLx 5 (show 5 < 14 by decide))
      obtain ⟨lo6, a6, cap6, st6, dls6, gm6, cm6, ev, hD6, hC6, hgm6⟩ := hQ
      have em6 := ((hPr 6 (show 6 < 14 by decide)).2.2.2.2.2.2.2.1 rfl).trans ev
      have x06 := ((hPr 7 (show 7 < 14 by decide)).2.2.2.2.2.2.2.2.1 rfl) _ _ _ em6
      have x26 := ((hPr 13 (show 13 < 14 by decide)).2.2.2.2.2.2.2.2.2.2.2.2 rfl).trans (((hPr 9 (show 9 < 14 by decide)).2.2.2.2.2.2.2.2.2.2.1 rfl) _ _ _ em6)
      obtain ⟨g6, c6, eg6, ec6, hgN6, hb6⟩ := (hPr 11 (show 11 < 14 by decide)).2.1 rfl
      have ec26 := x06.symm.trans ec6
      simp only [Value.agg.injEq] at ec26
      subst ec26
      clear hPr hLx Lx ec6 x06 em6 ev
      simp only [dstsR, List.map_cons, List.map_nil, puts, Nat.reduceAdd, Act.put, List.setIfInBounds_toArray, List.set_cons_zero, List.set_cons_succ, x26, eg6]
      clear x26 eg6
      have dr6 : Below y7.heap.size y7 y7.drew := (Below.refl _ _).drew
      obtain ⟨mb6, hs6, -⟩ := (hE1.below dr6).st.out
      obtain ⟨q6, ht6, -⟩ := (hE1.below dr6).tr
      have hl1 : w.heap.size ≤ y5.heap.size + 1 := Nat.le_succ_of_le hz5
      replace hTa := (hTa.below dr6).two hD6.two (hE1.below dr6)
      replace hTb := (hTb.below dr6).two hD6.two (hE1.below dr6)
      replace hIa := (hIa.below dr6).two hD6.two (hE1.below dr6)
      replace hIb := (hIb.below dr6).two hD6.two (hE1.below dr6)
      replace hb7 := (hb7.belowSize dr6).two hD6.two ((hb7.belowSize dr6).neT hs6 (by decide)) ((hb7.belowSize dr6).neT (Blk.of_sh ht6) (by decide))
      replace hb8 := (hb8.belowSize dr6).two hD6.two ((hb8.belowSize dr6).neT hs6 (by decide)) ((hb8.belowSize dr6).neT (Blk.of_sh ht6) (by decide))
      replace hmk := (hmk.belowSize dr6).two hD6.two ((hmk.belowSize dr6).neT hs6 (by decide)) ((hmk.belowSize dr6).neT (Blk.of_sh ht6) (by decide))
      replace hBn := (hBn.trans (dr6.mono hBn.size)).trans (hD6.two.to_below hl1 hz6 (Nat.le_trans hBn.size dr6.size))
      replace hE1 := hD6.ex
      replace hG := hE1.glob
      have hgm := hC6
      have hs1' := hl1
      clear hs6 ht6 hS1 ht1 hb9 h2g dr6 hs1 hTa hIa hb7 hmk hs1' hgm
      have hSz : Sz (exS [] A.txs) := Sz.nil.exS _
      obtain ⟨x0, hx0⟩ : ∃ y, y = wx := ⟨_, rfl⟩
      rw [← hx0] at hE1 hD6 hC6 hb6 hTb hIb hb8 hBn hG ⊢
      clear hx0 wx
      have hz0 := hBn.size
      have hls := hE1.lts
      have hlt := hE1.ltt
      obtain ⟨q0, hq1, hq2⟩ := hE1.tr
      have h2x := hE1.glob.two
      go_upto_region 8 with (first
        | (go_at_call 18; refine (clone_st _ _ _ hE1.st (Nat.le_trans hSz.len (by decide))).mono ?_; rintro e x1 ⟨rfl, hx1, hc1, hc2⟩; have hP1 : ST x1 (x0.heap.size + 1) (exS [] A.txs) := ⟨⟨_, hc1, hc2⟩⟩; replace hq1 := hq1.belowSize hx1; replace hq2 := hq2.below hx1)
        | (go_at_call 19; refine (Sh.tclone_any _ q0 _ hq1).mono ?_; rintro e x2 ⟨rfl, hcT, hx2⟩; have hx1s := hx1.size; replace hq2 := hq2.below hx2; have hXX := hx1.trans (hx2.mono hx1.size); have hE2 : EX x2 (x0.heap.size + 1) x1.heap.size (exS [] A.txs) (exR [] .emp A.txs) := ⟨hP1.below hx2, ⟨q0, hcT, hq2⟩, hG.belowSize hXX, ⟨by omega, by omega⟩⟩; replace hTb := hTb.below hXX; replace hIb := hIb.below hXX; replace hb8 := hb8.belowSize hXX; replace hb6 := hb6.belowSize hXX; replace hC6 := hC6.below hXX; replace hD6 := hD6.below hXX; replace hE1 := hE1.below hXX; replace hG := hG.belowSize hXX; replace hBn := hBn.trans (hXX.mono hBn.size)))
      have h2g : 2 ≤ x2.heap.size := hG.two
      obtain ⟨hokA, hlA, hcA, -⟩ := chkB_zero k0H.out
      obtain ⟨hCA, hnA'⟩ := exR_ok (m := []) (t := .emp) (l := A.txs) hokA trivial
      have hnA : (exR [] .emp A.txs).cnt ≤ 800 := by have : Tr.emp.cnt = 0 := rfl; omega
      have hOkx : OkH ⟨1, zr, (rootD Sh.digest (bys (exD [] A.txs))), ((exR [] .emp A.txs).hash Sh.TgD), (if A.conf = true then A.mem else [1, 4])⟩ := ⟨(by decide : (1 : Nat) ≠ 0), (by decide : zr.length = 32), root_len Sh.digest Sh.digest_length _, Sh.hashT_len _, okM_iff.1 (by
        show okM (if A.conf = true then A.mem else [1, 4]) = true
        by_cases hcf : A.conf = true
        · rw [if_pos hcf]; exact (hcA hcf).2
        · rw [if_neg hcf]; decide)⟩
      refine wp_region_made (by kernel_rfl) (K2E x2.heap.size 9 15 (fun (i : Nat) (w : World) (v : Value) => i = 2 → v = .string ⟨(hD ⟨1, zr, (rootD Sh.digest (bys (exD [] A.txs))), ((exR [] .emp A.txs).hash Sh.TgD), (if A.conf = true then A.mem else [1, 4])⟩).toArray⟩) (fun v w => MkQ x2.drew (x0.heap.size + 1) x1.heap.size (exS [] A.txs) (exR [] .emp A.txs) 2 (hD ⟨1, zr, (rootD Sh.digest (bys (exD [] A.txs))), ((exR [] .emp A.txs).hash Sh.TgD), (if A.conf = true then A.mem else [1, 4])⟩) B.txs (if B.conf = true then B.mem else (if A.conf = true then A.mem else [1, 4])) v w)) (KP x2.heap.size 14 15 11 (fun i vs v => (i = 0 → v = .pointer (some ⟨g6, 0, none⟩)) ∧ (i = 1 → v = .agg (hA 1 zr (rootD Sh.digest (bys (exD [] A.txs))) ((exR [] .emp A.txs).hash Sh.TgD) (.slice (some ⟨gm6, 0, none⟩) (if A.conf = true then A.mem else [1, 4]).length cm6))) ∧ (i = 3 → v = .pointer (some ⟨g6, 0, none⟩)) ∧ (i = 4 → v = .pointer (some ⟨g6, 4, none⟩)) ∧ (i = 5 → v = .slice (some ⟨gm6, 0, none⟩) (if A.conf = true then A.mem else [1, 4]).length cm6) ∧ (i = 6 → v = .pointer (some ⟨x0.heap.size + 1, 0, none⟩)) ∧ (i = 7 → v = .pointer (some ⟨x1.heap.size, 0, none⟩)) ∧ (i = 8 → v = .agg (bc (.slice a1 B.txs.length cap1) B.conf (.slice m1 B.mem.length cam1))) ∧ (i = 10 → v = vs 9) ∧ (i = 11 → (∀ x y u, vs 10 = .tuple #[x, y, u] → v = x)) ∧ (i = 12 → (∀ x y u, vs 10 = .tuple #[x, y, u] → v = y)) ∧ (i = 13 → (∀ x y u, vs 10 = .tuple #[x, y, u] → v = u)) ∧ (i = 16 → v = vs 12) ∧ (i = 17 → v = vs 13))) (K2G x2.heap.size x2.drew 9 (fun (i : Nat) (w : World) (v : Value) => i = 2 → v = .string ⟨(hD ⟨1, zr, (rootD Sh.digest (bys (exD [] A.txs))), ((exR [] .emp A.txs).hash Sh.TgD), (if A.conf = true then A.mem else [1, 4])⟩).toArray⟩) (fun v w => MkQ x2.drew (x0.heap.size + 1) x1.heap.size (exS [] A.txs) (exR [] .emp A.txs) 2 (hD ⟨1, zr, (rootD Sh.digest (bys (exD [] A.txs))), ((exR [] .emp A.txs).hash Sh.TgD), (if A.conf = true then A.mem else [1, 4])⟩) B.txs (if B.conf = true then B.mem else (if A.conf = true then A.mem else [1, 4])) v w)) (by kernel_rfl) ⟨Nat.le_refl _, fun _ => ⟨Below.refl _ _, fun _ e => (by cases e)⟩, fun e => (by cases e)⟩ (fun L i w w' vs v _ _ hw hg hE _ => hg.step (fun _ _ _ _ h _ => h) (fun _ _ _ h hb => h.below hb) (fun _ _ _ _ _ h h1 h2 h3 h4 => h.store h1 h2 h3) (fun e => hw 9 (by subst e; kernel_rfl)) hE) (fun i vs vs' w v hv h => ?_) (fun i j vs w w' u v hij hwf hE h => h.stay2 hE hij (fun e e2 => (by subst e; subst e2; exact absurd ((show waitsB _ 15 9 = true from by kernel_rfl).symm.trans hwf) (by decide)))) (fun i o ho ac vs wx hk K hK => ?_) (fun vs wx hPr hGn => ?_)
      · obtain ⟨h1, h2, h3⟩ := h
        refine ⟨h1, fun e => ?_, ?_⟩
        · obtain ⟨g, c, k1, k2, k3⟩ := h2 e
          subst e
          exact ⟨g, c, (hv 14 (by kernel_rfl)).symm.trans k1, (hv 11 (by kernel_rfl)).symm.trans k2, k3⟩
        · exact ⟨h3.1, h3.2.1, h3.2.2.1, h3.2.2.2.1, h3.2.2.2.2.1, h3.2.2.2.2.2.1, h3.2.2.2.2.2.2.1, h3.2.2.2.2.2.2.2.1, fun e => (by subst e; exact (h3.2.2.2.2.2.2.2.2.1 rfl).trans (hv 9 (by kernel_rfl))), fun e => (by subst e; exact fun x y u k => (h3.2.2.2.2.2.2.2.2.2.1 rfl) x y u ((hv 10 (by kernel_rfl)).trans k)), fun e => (by subst e; exact fun x y u k => (h3.2.2.2.2.2.2.2.2.2.2.1 rfl) x y u ((hv 10 (by kernel_rfl)).trans k)), fun e => (by subst e; exact fun x y u k => (h3.2.2.2.2.2.2.2.2.2.2.2.1 rfl) x y u ((hv 10 (by kernel_rfl)).trans k)), fun e => (by subst e; exact (h3.2.2.2.2.2.2.2.2.2.2.2.2.1 rfl).trans (hv 12 (by kernel_rfl))), fun e => (by subst e; exact (h3.2.2.2.2.2.2.2.2.2.2.2.2.2 rfl).trans (hv 13 (by kernel_rfl)))⟩
      · obtain ⟨L, hL1, hL2, hL3, hg1, hg2, hg3⟩ := hk.gen
        have hi : i < 18 := (Array.getElem?_eq_some_iff.1 ho).1
        rcases (show i = 0 ∨ i = 1 ∨ i = 2 ∨ i = 3 ∨ i = 4 ∨ i = 5 ∨ i = 6 ∨ i = 7 ∨ i = 8 ∨ i = 9 ∨ i = 10 ∨ i = 11 ∨ i = 12 ∨ i = 13 ∨ i = 14 ∨ i = 15 ∨ i = 16 ∨ i = 17 by omega) with rfl | rfl | rfl | rfl | rfl | rfl | rfl | rfl | rfl | rfl | rfl | rfl | rfl | rfl | rfl | rfl | rfl | rfl
        · obtain rfl := Option.some.inj ho
          have hm : L 9 = false := (by cases hq : L 9 with | false => rfl | true => exact absurd ((hL3 1 0 (hL3 2 1 (hL3 9 2 hq (by kernel_rfl)) (by kernel_rfl)) (by kernel_rfl)).symm.trans hL1) (by decide))
          have hBw : Below x2.heap.size x2 wx := ((Below.refl x2.heap.size x2).drew).trans (hg2 hm).1
          refine wpList_pure rfl _ (run_fieldAddr _ _ _ rfl (.pointer (some ⟨g6, 0, none⟩)) _ (show ac.eval (.tmp 12) = .pointer (some ⟨g6, 0, none⟩) from hk.old 12 (by kernel_rfl)) (fieldK0 _ _)) (hK _ _ ⟨fun _ _ => Below.refl _ _, fun e => absurd e (by decide), Keep46.below (Below.refl _ _), fun e => absurd e (by decide), fun e => absurd e (by decide), Nat.le_refl _⟩ ⟨fun e => absurd e (by decide), fun e => absurd e (by decide), ⟨fun _ => rfl, fun e => absurd e (by decide), fun e => absurd e (by decide), fun e => absurd e (by decide), fun e => absurd e (by decide), fun e => absurd e (by decide), fun e => absurd e (by decide), fun e => absurd e (by decide), fun e => absurd e (by decide), fun e => absurd e (by decide), fun e => absurd e (by decide), fun e => absurd e (by decide), fun e => absurd e (by decide), fun e => absurd e (by decide)⟩⟩)
        · obtain rfl := Option.some.inj ho
          have hm : L 9 = false := (by cases hq : L 9 with | false => rfl | true => exact absurd ((hL3 2 1 (hL3 9 2 hq (by kernel_rfl)) (by kernel_rfl)).symm.trans hL1) (by decide))
          have hBw : Below x2.heap.size x2 wx := ((Below.refl x2.heap.size x2).drew).trans (hg2 hm).1
          refine wpList_loadOp rfl _ _ rfl g6 0 ((show ac.eval (.tmp 58) = vs 0 from hk.slot 0 58 (by kernel_rfl) rfl).trans ((hk.dep 0 (by kernel_rfl)).2.2.1 rfl)) (hA 1 zr (rootD Sh.digest (bys (exD [] A.txs))) ((exR [] .emp A.txs).hash Sh.TgD) (.slice (some ⟨gm6, 0, none⟩) (if A.conf = true then A.mem else [1, 4]).length cm6)) (bk_head (hb6.belowSize hBw)) _ Tryz.underlying44 rfl (hA_info _ _ _ _ _) (hK _ _ ⟨fun _ _ => Below.refl _ _, fun e => absurd e (by decide), Keep46.below (Below.refl _ _), fun e => absurd e (by decide), fun e => absurd e (by decide), Nat.le_refl _⟩ ⟨fun e => absurd e (by decide), fun e => absurd e (by decide), ⟨fun e => absurd e (by decide), fun _ => rfl, fun e => absurd e (by decide), fun e => absurd e (by decide), fun e => absurd e (by decide), fun e => absurd e (by decide), fun e => absurd e (by decide), fun e => absurd e (by decide), fun e => absurd e (by decide), fun e => absurd e (by decide), fun e => absurd e (by decide), fun e => absurd e (by decide), fun e => absurd e (by decide), fun e => absurd e (by decide)⟩⟩)
        · obtain rfl := Option.some.inj ho
          have hm : L 9 = false := (by cases hq : L 9 with | false => rfl | true => exact absurd ((hL3 9 2 hq (by kernel_rfl)).symm.trans hL1) (by decide))
          have hBw : Below x2.heap.size x2 wx := ((Below.refl x2.heap.size x2).drew).trans (hg2 hm).1
          refine wpList_callR Tryz.func20 (by kernel_rfl) (by kernel_rfl) rfl _ _ rfl #[.agg (hA 1 zr (rootD Sh.digest (bys (exD [] A.txs))) ((exR [] .emp A.txs).hash Sh.TgD) (.slice (some ⟨gm6, 0, none⟩) (if A.conf = true then A.mem else [1, 4]).length cm6))] (by simp only [List.map_toArray, List.map_cons, List.map_nil, (show ac.eval (.tmp 59) = vs 1 from hk.slot 1 59 (by kernel_rfl) rfl), ((hk.dep 1 (by kernel_rfl)).2.2.2.1 rfl)]) _ (hashH_any ⟨1, zr, (rootD Sh.digest (bys (exD [] A.txs))), ((exR [] .emp A.txs).hash Sh.TgD), (if A.conf = true then A.mem else [1, 4])⟩ hOkx (some ⟨gm6, 0, none⟩) cm6 wx (hC6.below hBw).ia (hG.belowSize hBw)) ?_
          rintro e w1 ⟨rfl, hw1⟩
          have hsp1 : (fun (i : Nat) (w : World) (v : Value) => i = 2 → v = .string ⟨(hD ⟨1, zr, (rootD Sh.digest (bys (exD [] A.txs))), ((exR [] .emp A.txs).hash Sh.TgD), (if A.conf = true then A.mem else [1, 4])⟩).toArray⟩) 2 w1 (.string ⟨(hD ⟨1, zr, (rootD Sh.digest (bys (exD [] A.txs))), ((exR [] .emp A.txs).hash Sh.TgD), (if A.conf = true then A.mem else [1, 4])⟩).toArray⟩) := fun _ => rfl
          exact ⟨_, rfl, hK _ _ ⟨fun _ _ => hw1, fun e => absurd e (by decide), Keep46.below hw1, hsp1, fun e => absurd e (by decide), hw1.size⟩ ⟨fun e => absurd e (by decide), fun e => absurd e (by decide), ⟨fun e => absurd e (by decide), fun e => absurd e (by decide), fun e => absurd e (by decide), fun e => absurd e (by decide), fun e => absurd e (by decide), fun e => absurd e (by decide), fun e => absurd e (by decide), fun e => absurd e (by decide), fun e => absurd e (by decide), fun e => absurd e (by decide), fun e => absurd e (by decide), fun e => absurd e (by decide), fun e => absurd e (by decide), fun e => absurd e (by decide)⟩⟩⟩
        · obtain rfl := Option.some.inj ho
          have hm : L 9 = false := (by cases hq : L 9 with | false => rfl | true => exact absurd ((hL3 4 3 (hL3 5 4 (hL3 9 5 hq (by kernel_rfl)) (by kernel_rfl)) (by kernel_rfl)).symm.trans hL1) (by decide))
          have hBw : Below x2.heap.size x2 wx := ((Below.refl x2.heap.size x2).drew).trans (hg2 hm).1
          refine wpList_pure rfl _ (run_fieldAddr _ _ _ rfl (.pointer (some ⟨g6, 0, none⟩)) _ (show ac.eval (.tmp 12) = .pointer (some ⟨g6, 0, none⟩) from hk.old 12 (by kernel_rfl)) (fieldK0 _ _)) (hK _ _ ⟨fun _ _ => Below.refl _ _, fun e => absurd e (by decide), Keep46.below (Below.refl _ _), fun e => absurd e (by decide), fun e => absurd e (by decide), Nat.le_refl _⟩ ⟨fun e => absurd e (by decide), fun e => absurd e (by decide), ⟨fun e => absurd e (by decide), fun e => absurd e (by decide), fun _ => rfl, fun e => absurd e (by decide), fun e => absurd e (by decide), fun e => absurd e (by decide), fun e => absurd e (by decide), fun e => absurd e (by decide), fun e => absurd e (by decide), fun e => absurd e (by decide), fun e => absurd e (by decide), fun e => absurd e (by decide), fun e => absurd e (by decide), fun e => absurd e (by decide)⟩⟩)
        · obtain rfl := Option.some.inj ho
          have hm : L 9 = false := (by cases hq : L 9 with | false => rfl | true => exact absurd ((hL3 5 4 (hL3 9 5 hq (by kernel_rfl)) (by kernel_rfl)).symm.trans hL1) (by decide))
          have hBw : Below x2.heap.size x2 wx := ((Below.refl x2.heap.size x2).drew).trans (hg2 hm).1
          refine wpList_pure rfl _ (run_fieldAddr _ _ _ rfl (.pointer (some ⟨g6, 0, none⟩)) _ ((show ac.eval (.tmp 61) = vs 3 from hk.slot 3 61 (by kernel_rfl) rfl).trans ((hk.dep 3 (by kernel_rfl)).2.2.2.2.1 rfl)) (fieldH4 _ _)) (hK _ _ ⟨fun _ _ => Below.refl _ _, fun e => absurd e (by decide), Keep46.below (Below.refl _ _), fun e => absurd e (by decide), fun e => absurd e (by decide), Nat.le_refl _⟩ ⟨fun e => absurd e (by decide), fun e => absurd e (by decide), ⟨fun e => absurd e (by decide), fun e => absurd e (by decide), fun e => absurd e (by decide), fun _ => rfl, fun e => absurd e (by decide), fun e => absurd e (by decide), fun e => absurd e (by decide), fun e => absurd e (by decide), fun e => absurd e (by decide), fun e => absurd e (by decide), fun e => absurd e (by decide), fun e => absurd e (by decide), fun e => absurd e (by decide), fun e => absurd e (by decide)⟩⟩)
        · obtain rfl := Option.some.inj ho
          have hm : L 9 = false := (by cases hq : L 9 with | false => rfl | true => exact absurd ((hL3 9 5 hq (by kernel_rfl)).symm.trans hL1) (by decide))
          have hBw : Below x2.heap.size x2 wx := ((Below.refl x2.heap.size x2).drew).trans (hg2 hm).1
          refine wpList_pure rfl _ (run_loadCellB _ _ rfl g6 4 ((show ac.eval (.tmp 62) = vs 4 from hk.slot 4 62 (by kernel_rfl) rfl).trans ((hk.dep 4 (by kernel_rfl)).2.2.2.2.2.1 rfl)) _ _ (hb6.belowSize hBw) _ Tryz.underlying23 rfl (.slice (some ⟨gm6, 0, none⟩) (if A.conf = true then A.mem else [1, 4]).length cm6) rfl) (hK _ _ ⟨fun _ _ => Below.refl _ _, fun e => absurd e (by decide), Keep46.below (Below.refl _ _), fun e => absurd e (by decide), fun e => absurd e (by decide), Nat.le_refl _⟩ ⟨fun e => absurd e (by decide), fun e => absurd e (by decide), ⟨fun e => absurd e (by decide), fun e => absurd e (by decide), fun e => absurd e (by decide), fun e => absurd e (by decide), fun _ => rfl, fun e => absurd e (by decide), fun e => absurd e (by decide), fun e => absurd e (by decide), fun e => absurd e (by decide), fun e => absurd e (by decide), fun e => absurd e (by decide), fun e => absurd e (by decide), fun e => absurd e (by decide), fun e => absurd e (by decide)⟩⟩)
        · obtain rfl := Option.some.inj ho
          have hm : L 9 = false := (by cases hq : L 9 with | false => rfl | true => exact absurd ((hL3 9 6 hq (by kernel_rfl)).symm.trans hL1) (by decide))
          have hBw : Below x2.heap.size x2 wx := ((Below.refl x2.heap.size x2).drew).trans (hg2 hm).1
          refine wpList_pure rfl _ (run_move _ rfl) (hK _ _ ⟨fun _ _ => Below.refl _ _, fun e => absurd e (by decide), Keep46.below (Below.refl _ _), fun e => absurd e (by decide), fun e => absurd e (by decide), Nat.le_refl _⟩ ⟨fun e => absurd e (by decide), fun e => absurd e (by decide), ⟨fun e => absurd e (by decide), fun e => absurd e (by decide), fun e => absurd e (by decide), fun e => absurd e (by decide), fun e => absurd e (by decide), fun _ => hk.old 15 (by kernel_rfl), fun e => absurd e (by decide), fun e => absurd e (by decide), fun e => absurd e (by decide), fun e => absurd e (by decide), fun e => absurd e (by decide), fun e => absurd e (by decide), fun e => absurd e (by decide), fun e => absurd e (by decide)⟩⟩)
        · obtain rfl := Option.some.inj ho
          have hm : L 9 = false := (by cases hq : L 9 with | false => rfl | true => exact absurd ((hL3 9 7 hq (by kernel_rfl)).symm.trans hL1) (by decide))
          have hBw : Below x2.heap.size x2 wx := ((Below.refl x2.heap.size x2).drew).trans (hg2 hm).1
          refine wpList_pure rfl _ (run_move _ rfl) (hK _ _ ⟨fun _ _ => Below.refl _ _, fun e => absurd e (by decide), Keep46.below (Below.refl _ _), fun e => absurd e (by decide), fun e => absurd e (by decide), Nat.le_refl _⟩ ⟨fun e => absurd e (by decide), fun e => absurd e (by decide), ⟨fun e => absurd e (by decide), fun e => absurd e (by decide), fun e => absurd e (by decide), fun e => absurd e (by decide), fun e => absurd e (by decide), fun e => absurd e (by decide), fun _ => hk.old 16 (by kernel_rfl), fun e => absurd e (by decide), fun e => absurd e (by decide), fun e => absurd e (by decide), fun e => absurd e (by decide), fun e => absurd e (by decide), fun e => absurd e (by decide), fun e => absurd e (by decide)⟩⟩)
        · obtain rfl := Option.some.inj ho
          have hm : L 9 = false := (by cases hq : L 9 with | false => rfl | true => exact absurd ((hL3 9 8 hq (by kernel_rfl)).symm.trans hL1) (by decide))
          have hBw : Below x2.heap.size x2 wx := ((Below.refl x2.heap.size x2).drew).trans (hg2 hm).1
          refine wpList_loadRow rfl _ _ rfl B8 (hk.old 8 (by kernel_rfl)) _ _ (hb8.belowSize hBw) _ Tryz.underlying30 rfl (bc_info _ _ _) (hK _ _ ⟨fun _ _ => Below.refl _ _, fun e => absurd e (by decide), Keep46.below (Below.refl _ _), fun e => absurd e (by decide), fun e => absurd e (by decide), Nat.le_refl _⟩ ⟨fun e => absurd e (by decide), fun e => absurd e (by decide), ⟨fun e => absurd e (by decide), fun e => absurd e (by decide), fun e => absurd e (by decide), fun e => absurd e (by decide), fun e => absurd e (by decide), fun e => absurd e (by decide), fun e => absurd e (by decide), fun _ => rfl, fun e => absurd e (by decide), fun e => absurd e (by decide), fun e => absurd e (by decide), fun e => absurd e (by decide), fun e => absurd e (by decide), fun e => absurd e (by decide)⟩⟩)
        · obtain rfl := Option.some.inj ho
          have s2 := hk.slot 2 60 (by kernel_rfl) rfl
          have s5 := hk.slot 5 63 (by kernel_rfl) rfl
          have s6 := hk.slot 6 64 (by kernel_rfl) rfl
          have s7 := hk.slot 7 65 (by kernel_rfl) rfl
          have s8 := hk.slot 8 66 (by kernel_rfl) rfl
          have hBw : Below x2.heap.size x2 wx := ((Below.refl x2.heap.size x2).drew).trans (hg2 hL1).1
          have hBd : Below x2.drew.heap.size x2.drew wx := (hg2 hL1).1
          have hEx := hE2.below hBw
          have hW2 : 2 ≤ x2.drew.heap.size := h2g
          have e2 := ((hg2 hL1).2 2 (hL2 2 (by kernel_rfl))) rfl
          rw [e2] at s2
          rw [((hk.dep 5 (by kernel_rfl)).2.2.2.2.2.2.1 rfl)] at s5
          rw [((hk.dep 6 (by kernel_rfl)).2.2.2.2.2.2.2.1 rfl)] at s6
          rw [((hk.dep 7 (by kernel_rfl)).2.2.2.2.2.2.2.2.1 rfl)] at s7
          rw [((hk.dep 8 (by kernel_rfl)).2.2.2.2.2.2.2.2.2.1 rfl)] at s8
          refine wpList_callR Tryz.func16 (by kernel_rfl) (by kernel_rfl) rfl _ _ rfl _ (by simp only [List.map_toArray, List.map_cons, List.map_nil, Act.eval, s2, s5, s6, s7, s8] <;> rfl) _ (make_any B k1H.out (hD ⟨1, zr, (rootD Sh.digest (bys (exD [] A.txs))), ((exR [] .emp A.txs).hash Sh.TgD), (if A.conf = true then A.mem else [1, 4])⟩) (Sh.digest_length _) 2 (by decide) (if A.conf = true then A.mem else [1, 4]) (okM_iff.2 hOkx.m) (some ⟨gm6, 0, none⟩) cm6 (x0.heap.size + 1) x1.heap.size _ _ a1 m1 cap1 cam1 wx hEx hSz hCA hnA (hTb.below hBw) (hC6.below hBw).ia (hIb.below hBw)) ?_
          intro e w1 hP
          obtain ⟨hk1, hk2⟩ := hP.keep hEx
          obtain ⟨v, rfl, hv⟩ := hP.mkQ hBd hW2
          exact ⟨_, rfl, hK _ _ ⟨fun e => absurd rfl e, fun e => absurd e (by decide), hk1, fun e => absurd e (by decide), fun _ => hv, hk2⟩ ⟨fun e => absurd e (by decide), fun e => absurd e (by decide), ⟨fun e => absurd e (by decide), fun e => absurd e (by decide), fun e => absurd e (by decide), fun e => absurd e (by decide), fun e => absurd e (by decide), fun e => absurd e (by decide), fun e => absurd e (by decide), fun e => absurd e (by decide), fun e => absurd e (by decide), fun e => absurd e (by decide), fun e => absurd e (by decide), fun e => absurd e (by decide), fun e => absurd e (by decide), fun e => absurd e (by decide)⟩⟩⟩
        · obtain rfl := Option.some.inj ho
          refine wpList_pure rfl _ (run_move _ rfl) (hK _ _ ⟨fun _ _ => Below.refl _ _, fun e => absurd e (by decide), Keep46.below (Below.refl _ _), fun e => absurd e (by decide), fun e => absurd e (by decide), Nat.le_refl _⟩ ⟨fun e => absurd e (by decide), fun e => absurd e (by decide), ⟨fun e => absurd e (by decide), fun e => absurd e (by decide), fun e => absurd e (by decide), fun e => absurd e (by decide), fun e => absurd e (by decide), fun e => absurd e (by decide), fun e => absurd e (by decide), fun e => absurd e (by decide), fun _ => (show ac.eval (.tmp 67) = vs 9 from hk.slot 9 67 (by kernel_rfl) rfl), fun e => absurd e (by decide), fun e => absurd e (by decide), fun e => absurd e (by decide), fun e => absurd e (by decide), fun e => absurd e (by decide)⟩⟩)
        · obtain rfl := Option.some.inj ho
          have hm : L 9 = true := hL3 10 9 (hL2 10 (by kernel_rfl)) (by kernel_rfl)
          obtain ⟨_, _, _, _, _, _, _, ev, _⟩ := hg3 hm
          have sm := (show ac.eval (.tmp 57) = vs 10 from hk.slot 10 57 (by kernel_rfl) rfl)
          have em := ((hk.dep 10 (by kernel_rfl)).2.2.2.2.2.2.2.2.2.2.1 rfl)
          refine wpList_pure rfl _ (run_extract _ _ rfl _ (sm.trans (em.trans ev)) _ rfl) (hK _ _ ⟨fun _ _ => Below.refl _ _, fun e => absurd e (by decide), Keep46.below (Below.refl _ _), fun e => absurd e (by decide), fun e => absurd e (by decide), Nat.le_refl _⟩ ⟨fun e => absurd e (by decide), fun e => absurd e (by decide), ⟨fun e => absurd e (by decide), fun e => absurd e (by decide), fun e => absurd e (by decide), fun e => absurd e (by decide), fun e => absurd e (by decide), fun e => absurd e (by decide), fun e => absurd e (by decide), fun e => absurd e (by decide), fun e => absurd e (by decide), fun _ => fun x y u k => (by have k2 := (em.trans ev).symm.trans k; cases k2; rfl), fun e => absurd e (by decide), fun e => absurd e (by decide), fun e => absurd e (by decide), fun e => absurd e (by decide)⟩⟩)
        · obtain rfl := Option.some.inj ho
          have hm : L 9 = true := hL3 10 9 (hL2 10 (by kernel_rfl)) (by kernel_rfl)
          obtain ⟨_, _, _, _, _, _, _, ev, _⟩ := hg3 hm
          have sm := (show ac.eval (.tmp 57) = vs 10 from hk.slot 10 57 (by kernel_rfl) rfl)
          have em := ((hk.dep 10 (by kernel_rfl)).2.2.2.2.2.2.2.2.2.2.1 rfl)
          refine wpList_pure rfl _ (run_extract _ _ rfl _ (sm.trans (em.trans ev)) _ rfl) (hK _ _ ⟨fun _ _ => Below.refl _ _, fun e => absurd e (by decide), Keep46.below (Below.refl _ _), fun e => absurd e (by decide), fun e => absurd e (by decide), Nat.le_refl _⟩ ⟨fun e => absurd e (by decide), fun e => absurd e (by decide), ⟨fun e => absurd e (by decide), fun e => absurd e (by decide), fun e => absurd e (by decide), fun e => absurd e (by decide), fun e => absurd e (by decide), fun e => absurd e (by decide), fun e => absurd e (by decide), fun e => absurd e (by decide), fun e => absurd e (by decide), fun e => absurd e (by decide), fun _ => fun x y u k => (by have k2 := (em.trans ev).symm.trans k; cases k2; rfl), fun e => absurd e (by decide), fun e => absurd e (by decide), fun e => absurd e (by decide)⟩⟩)
        · obtain rfl := Option.some.inj ho
          have hm : L 9 = true := hL3 10 9 (hL2 10 (by kernel_rfl)) (by kernel_rfl)
          obtain ⟨_, _, _, _, _, _, _, ev, _⟩ := hg3 hm
          have sm := (show ac.eval (.tmp 57) = vs 10 from hk.slot 10 57 (by kernel_rfl) rfl)
          have em := ((hk.dep 10 (by kernel_rfl)).2.2.2.2.2.2.2.2.2.2.1 rfl)
          refine wpList_pure rfl _ (run_extract _ _ rfl _ (sm.trans (em.trans ev)) _ rfl) (hK _ _ ⟨fun _ _ => Below.refl _ _, fun e => absurd e (by decide), Keep46.below (Below.refl _ _), fun e => absurd e (by decide), fun e => absurd e (by decide), Nat.le_refl _⟩ ⟨fun e => absurd e (by decide), fun e => absurd e (by decide), ⟨fun e => absurd e (by decide), fun e => absurd e (by decide), fun e => absurd e (by decide), fun e => absurd e (by decide), fun e => absurd e (by decide), fun e => absurd e (by decide), fun e => absurd e (by decide), fun e => absurd e (by decide), fun e => absurd e (by decide), fun e => absurd e (by decide), fun e => absurd e (by decide), fun _ => fun x y u k => (by have k2 := (em.trans ev).symm.trans k; cases k2; rfl), fun e => absurd e (by decide), fun e => absurd e (by decide)⟩⟩)
        · obtain rfl := Option.some.inj ho
          refine wpList_allocRow rfl _ rfl _ zBlk.1 ?_
          intro w1 hw1 _ hb1
          exact hK _ _ ⟨fun _ _ => hw1, fun e => absurd e (by decide), Keep46.below hw1, fun e => absurd e (by decide), fun e => absurd e (by decide), hw1.size⟩ ⟨fun _ => ⟨_, _, rfl, hg1, hb1, rfl⟩, fun e => absurd e (by decide), ⟨fun e => absurd e (by decide), fun e => absurd e (by decide), fun e => absurd e (by decide), fun e => absurd e (by decide), fun e => absurd e (by decide), fun e => absurd e (by decide), fun e => absurd e (by decide), fun e => absurd e (by decide), fun e => absurd e (by decide), fun e => absurd e (by decide), fun e => absurd e (by decide), fun e => absurd e (by decide), fun e => absurd e (by decide), fun e => absurd e (by decide)⟩⟩
        · obtain rfl := Option.some.inj ho
          have hm : L 9 = true := hL2 9 (by kernel_rfl)
          obtain ⟨_, _, _, _, _, _, _, ev, _⟩ := hg3 hm
          obtain ⟨g, c, ea, hgN, hb, hcs⟩ := (hk.dep 14 (by kernel_rfl)).1 rfl
          have em := ((hk.dep 10 (by kernel_rfl)).2.2.2.2.2.2.2.2.2.2.1 rfl)
          have e0 := ((hk.dep 11 (by kernel_rfl)).2.2.2.2.2.2.2.2.2.2.2.1 rfl) _ _ _ (em.trans ev)
          refine wpList_storeRow rfl _ _ _ rfl g _ ((show ac.eval (.tmp 17) = vs 14 from hk.slot 14 17 (by kernel_rfl) rfl).trans ea) ((show ac.eval (.tmp 68) = vs 11 from hk.slot 11 68 (by kernel_rfl) rfl).trans e0) _ _ hb (by rw [hcs]; rfl) (bk_info _ _ _ _ _ _) (bk_one _ _ _ _ _ _ _ _ _ _) ?_
          intro w1 hgr hsz hb1
          exact hK _ _ ⟨fun _ e => absurd rfl e, fun _ => ⟨g, c, hgN, hb, hgr⟩, Keep46.store hgr hb1 rfl, fun e => absurd e (by decide), fun e => absurd e (by decide), hgr.size⟩ ⟨fun e => absurd e (by decide), fun _ => ⟨g, _, ea, e0, hgN, hb1⟩, ⟨fun e => absurd e (by decide), fun e => absurd e (by decide), fun e => absurd e (by decide), fun e => absurd e (by decide), fun e => absurd e (by decide), fun e => absurd e (by decide), fun e => absurd e (by decide), fun e => absurd e (by decide), fun e => absurd e (by decide), fun e => absurd e (by decide), fun e => absurd e (by decide), fun e => absurd e (by decide), fun e => absurd e (by decide), fun e => absurd e (by decide)⟩⟩
        · obtain rfl := Option.some.inj ho
          refine wpList_pure rfl _ (run_assign _ rfl) (hK _ _ ⟨fun _ _ => Below.refl _ _, fun e => absurd e (by decide), Keep46.below (Below.refl _ _), fun e => absurd e (by decide), fun e => absurd e (by decide), Nat.le_refl _⟩ ⟨fun e => absurd e (by decide), fun e => absurd e (by decide), ⟨fun e => absurd e (by decide), fun e => absurd e (by decide), fun e => absurd e (by decide), fun e => absurd e (by decide), fun e => absurd e (by decide), fun e => absurd e (by decide), fun e => absurd e (by decide), fun e => absurd e (by decide), fun e => absurd e (by decide), fun e => absurd e (by decide), fun e => absurd e (by decide), fun e => absurd e (by decide), fun _ => (show ac.eval (.tmp 69) = vs 12 from hk.slot 12 69 (by kernel_rfl) rfl), fun e => absurd e (by decide)⟩⟩)
        · obtain rfl := Option.some.inj ho
          refine wpList_pure rfl _ (run_assign _ rfl) (hK _ _ ⟨fun _ _ => Below.refl _ _, fun e => absurd e (by decide), Keep46.below (Below.refl _ _), fun e => absurd e (by decide), fun e => absurd e (by decide), Nat.le_refl _⟩ ⟨fun e => absurd e (by decide), fun e => absurd e (by decide), ⟨fun e => absurd e (by decide), fun e => absurd e (by decide), fun e => absurd e (by decide), fun e => absurd e (by decide), fun e => absurd e (by decide), fun e => absurd e (by decide), fun e => absurd e (by decide), fun e => absurd e (by decide), fun e => absurd e (by decide), fun e => absurd e (by decide), fun e => absurd e (by decide), fun e => absurd e (by decide), fun e => absurd e (by decide), fun _ => (show ac.eval (.tmp 70) = vs 13 from hk.slot 13 70 (by kernel_rfl) rfl)⟩⟩)
      obtain ⟨Lx, hLx, -, -, hQ⟩ := hGn
      replace hQ := hQ (hLx 9 (show 9 < 18 by decide))
      obtain ⟨lo8, a8, cap8, st8, dls8, gm8, cm8, ev, hD8, hC8, hgm8⟩ := hQ
      have em8 := ((hPr 10 (show 10 < 18 by decide)).2.2.2.2.2.2.2.2.2.2.1 rfl).trans ev
      have x08 := ((hPr 11 (show 11 < 18 by decide)).2.2.2.2.2.2.2.2.2.2.2.1 rfl) _ _ _ em8
      have x28 := ((hPr 17 (show 17 < 18 by decide)).2.2.2.2.2.2.2.2.2.2.2.2.2.2.2 rfl).trans (((hPr 13 (show 13 < 18 by decide)).2.2.2.2.2.2.2.2.2.2.2.2.2.1 rfl) _ _ _ em8)
      obtain ⟨g8, c8, eg8, ec8, hgN8, hb8⟩ := (hPr 15 (show 15 < 18 by decide)).2.1 rfl
      have ec28 := x08.symm.trans ec8
      simp only [Value.agg.injEq] at ec28
      subst ec28
      clear hPr hLx Lx ec8 x08 em8 ev
      simp only [dstsR, List.map_cons, List.map_nil, puts, Nat.reduceAdd, Act.put, List.setIfInBounds_toArray, List.set_cons_zero, List.set_cons_succ, x28, eg8]
      clear x28 eg8
      have dr8 : Below x2.heap.size x2 x2.drew := (Below.refl _ _).drew
      obtain ⟨mb8, hs8, -⟩ := (hE2.below dr8).st.out
      obtain ⟨q8, ht8, -⟩ := (hE2.below dr8).tr
      have hl8 : w.heap.size ≤ x0.heap.size + 1 := Nat.le_succ_of_le hz0
      have hl9 : w.heap.size ≤ x1.heap.size := Nat.le_trans hz0 hx1s
      replace hBn := (hBn.trans (dr8.mono hBn.size)).trans (hD8.two.to_below hl8 hl9 (Nat.le_trans hBn.size dr8.size))
      have hne1 : y5.heap.size + 1 ≠ x0.heap.size + 1 := by omega
      have hne2 : y6.heap.size ≠ x1.heap.size := by omega
      replace hE1 := (hE1.below dr8).apart (hE2.below dr8) hD8.two hne1 hne2
      have hIx := (hC6.below dr8).ia.two hD8.two (hE2.below dr8)
      replace hb6 := (hb6.belowSize dr8).two hD8.two ((hb6.belowSize dr8).neT hs8 (by decide)) ((hb6.belowSize dr8).neT (Blk.of_sh ht8) (by decide))
      obtain ⟨x3, hx3⟩ : ∃ y, y = wx := ⟨_, rfl⟩
      rw [← hx3] at hE1 hIx hb6 hD8 hC8 hb8 hBn ⊢
      clear hx3 wx
      have hYk : YOk (exS [] A.txs) (exR [] .emp A.txs) (hD ⟨1, zr, (rootD Sh.digest (bys (exD [] A.txs))), ((exR [] .emp A.txs).hash Sh.TgD), (if A.conf = true then A.mem else [1, 4])⟩) (if A.conf = true then A.mem else [1, 4]) ⟨2, hD ⟨1, zr, (rootD Sh.digest (bys (exD [] A.txs))), ((exR [] .emp A.txs).hash Sh.TgD), (if A.conf = true then A.mem else [1, 4])⟩, (rootD Sh.digest (bys (exD (exS [] A.txs) B.txs))), ((exR (exS [] A.txs) (exR [] .emp A.txs) B.txs).hash Sh.TgD), (if B.conf = true then B.mem else (if A.conf = true then A.mem else [1, 4]))⟩ (exD (exS [] A.txs) B.txs) := yok_make k1H.out (Sh.digest_length _) (okM_iff.2 hOkx.m)
      obtain ⟨hag1, hag2, -⟩ := ex_again (exS [] A.txs) (exR [] .emp A.txs) B.txs
      have hSz2 : Sz (exS (exS [] A.txs) B.txs) := hSz.exS _
      have hE2x := hD8.ex
      obtain ⟨ay, cay, ety, hTy⟩ := TXL.ta hD8.dn hD8.tx
      simp only [Value.slice.injEq] at ety
      obtain ⟨rfl, -, rfl⟩ := ety
      have hIy := hC8.ia
      have hGx := hE1.glob
      have HHx := fun w1 (k : IA w1 (some ⟨gm6, 0, none⟩) (if A.conf = true then A.mem else [1, 4])) (g : Sh.Glob w1) => hashH_any ⟨1, zr, (rootD Sh.digest (bys (exD [] A.txs))), ((exR [] .emp A.txs).hash Sh.TgD), (if A.conf = true then A.mem else [1, 4])⟩ hOkx (some ⟨gm6, 0, none⟩) cm6 w1 k g
      have hsB : Hid (((exR (exS [] A.txs) (exR [] .emp A.txs) B.txs).hash Sh.TgD) = ((exR (exS [] A.txs) (exR [] .emp A.txs) B.txs).hash Sh.TgD)) := rfl
      have hpl : (hD ⟨1, zr, (rootD Sh.digest (bys (exD [] A.txs))), ((exR [] .emp A.txs).hash Sh.TgD), (if A.conf = true then A.mem else [1, 4])⟩).length = 32 := Sh.digest_length _
      have hmA : okM (if A.conf = true then A.mem else [1, 4]) = true := okM_iff.2 hOkx.m
      clear hOkx k0H k1H hs8 ht8 dr8 hgN8 hgm8 hC8 hE2 hTb hIb
      generalize hD ⟨1, zr, (rootD Sh.digest (bys (exD [] A.txs))), ((exR [] .emp A.txs).hash Sh.TgD), (if A.conf = true then A.mem else [1, 4])⟩ = pv at *
      generalize exD (exS [] A.txs) B.txs = ly at *
      generalize exS (exS [] A.txs) B.txs = S2 at *
      generalize exR (exS [] A.txs) (exR [] .emp A.txs) B.txs = R2 at *
      generalize exS [] A.txs = S1 at *
      generalize exR [] .emp A.txs = R1 at *
      generalize (if B.conf = true then B.mem else (if A.conf = true then A.mem else [1, 4])) = mB at *
      generalize (if A.conf = true then A.mem else [1, 4]) = mA at *
      generalize hsE : Tr.hash Sh.TgD R2 = sB at hsB hb8 hYk
      replace hsE : Hid (Tr.hash Sh.TgD R2 = sB) := hsE
      generalize rootD Sh.digest (bys ly) = tB at *
      generalize rootD Sh.digest (bys (exD [] A.txs)) = tA at *
      generalize exD [] A.txs = lx at *
      have hsAE : ∃ s, s = Tr.hash Sh.TgD R1 := ⟨_, rfl⟩
      obtain ⟨sA, hsA⟩ := hsAE
      rw [← hsA] at hb6 HHx
      replace hsA : Hid (sA = Tr.hash Sh.TgD R1) := hsA
      obtain ⟨bs, hbs⟩ : ∃ y, y = y5.heap.size + 1 := ⟨_, rfl⟩
      obtain ⟨bt, hbt⟩ : ∃ y, y = y6.heap.size := ⟨_, rfl⟩
      obtain ⟨bu, hbu⟩ : ∃ y, y = x0.heap.size + 1 := ⟨_, rfl⟩
      obtain ⟨bv, hbv⟩ : ∃ y, y = x1.heap.size := ⟨_, rfl⟩
      clear hD6 hD8 hC6 hq1 hq2 hcT hP1 hc1 hc2 hls hlt hx1 hx2 hXX hnA' hsB hl8 hl9 q0 h2x
      rw [← hbs, ← hbu] at hne1
      rw [← hbt, ← hbv] at hne2
      rw [← hbs] at hl1
      rw [← hbt] at hz6
      rw [← hbs, ← hbt] at hE1
      rw [← hbu, ← hbv] at hE2x
      rw [← hbs, ← hbt, ← hbu, ← hbv]
      clear hbs hbt hbu hbv hgm6 hgN6 hy6s hz5 hz0 hx1s
      have hmB : OkM mB := hYk.okh.m
      have hmB0 : 0 < mB.length := List.length_pos_iff.2 hmB.ne
      have hmB1 : mB.length ≤ 1000000 := by have := hmB.len; omega
      have hlyl := hYk.len
      have HC := fun a c w1 (k : IA w1 a mB) => rcheckH_any (⟨2, pv, tB, sB, mB⟩ : HH) a c w1 k
      change ∀ a c w1, IA w1 a mB → Calls Tryz.prog 21 #[.agg (hA 2 pv tB sB (.slice a mB.length c))] w1 _ at HC
      rw [chkH_zero hYk.okh] at HC
      have HEn : ∀ w1, Below x3.heap.size x3 w1 → Calls Tryz.prog 23 #[.pointer (some ⟨bs, 0, none⟩)] w1 fun e w' => e = .returned (.string ⟨(encM S1).toArray⟩) ∧ Below w1.heap.size w1 w' := fun w1 h => encode_st bs S1 w1 (hE1.below h).st (Nat.le_trans hSz.len (by decide)) hSz.sml
      have HRt : ∀ w1, Below x3.heap.size x3 w1 → Calls Tryz.prog 24 #[.pointer (some ⟨bt, 0, none⟩)] w1 fun e w' => e = .returned (.string ⟨(R1.hash Sh.TgD).toArray⟩) ∧ Below w1.heap.size w1 w' := fun w1 h => (by obtain ⟨q, k1, k2⟩ := (hE1.below h).tr; exact Sh.troot_any bt q R1 w1 k1 k2)
      have HCl := fun w1 (k1 : IA w1 (some ⟨gm8, 0, none⟩) mB) (k2 : TA w1 a8 ly) => cloneB_any 2 pv tB sB mB hmB0 hmB1 ly hYk.ok (Nat.le_trans hlyl (by decide)) (some ⟨gm8, 0, none⟩) cm8 a8 cap8 w1 k1 k2
      have hX : Below x3.heap.size x3 x3 := Below.refl _ _
      clear hlyl hmB
      generalize encM S1 = wasB at *
      generalize Tr.hash Sh.TgD R1 = rtB at HRt
      go_simp
      go_upto_block 0 with (first
        | (go_at_call 13; refine (HA _ (hGx.belowSize hX)).mono ?_; rintro e v1 ⟨rfl, hv1⟩; replace hX := hX.trans (hv1.mono hX.size); clear hv1)
        | (go_at_call 22; refine (refH_any 2 pv tB sB _ mB.length _ _).mono ?_; first
          | (rintro e va ⟨rfl, hva⟩; replace hGz := hGz.below hva; replace hTz := hTz.below hva; replace hCz := hCz.below hva; replace hz9 := hz9.belowSize hva; replace hlz2 := Nat.le_trans hlz2 hva.size; replace hX := hX.trans (hva.mono hX.size); clear hva)
          | (rintro e v2 ⟨rfl, hv2⟩; replace hX := hX.trans (hv2.mono hX.size); clear hv2))
        | (go_at_call 21; refine (HC _ _ _ (by first | exact hIy.below hX | exact hCz.ia)).mono ?_; first
          | (rintro e vb ⟨rfl, hvb⟩; replace hGz := hGz.below hvb; replace hTz := hTz.below hvb; replace hCz := hCz.below hvb; replace hz9 := hz9.belowSize hvb; replace hlz2 := Nat.le_trans hlz2 hvb.size; replace hX := hX.trans (hvb.mono hX.size); clear hvb)
          | (rintro e v3 ⟨rfl, hv3⟩; replace hX := hX.trans (hv3.mono hX.size); clear hv3))
        | (go_at_call 23; refine (HEn _ hX).mono ?_; rintro e v4 ⟨rfl, hv4⟩; replace hX := hX.trans (hv4.mono hX.size); clear hv4)
        | (go_at_call 24; refine (HRt _ hX).mono ?_; rintro e v5 ⟨rfl, hv5⟩; replace hX := hX.trans (hv5.mono hX.size); clear hv5)
        | (go_at_call 25; refine (HCl _ (hIy.below hX) (hTy.below hX)).mono ?_; rintro e v7 ⟨gmz, cmz, loz, az, capz, dlz, rfl, hGz, hTz, hCz, hv7, hlz1, hlz2⟩; clear HCl; have hlz := Nat.le_trans hX.size hlz1; clear hlz1; replace hX := hX.trans (hv7.mono hX.size); clear hv7; have hx37 := hX.size)
        | (with_reducible refine at_list ?_; first
          | (refine wpList_loadOp (op := ⟨some 82, _, _, _, _, _⟩) rfl _ _ rfl g8 0 rfl (hA 2 pv tB sB (.slice (some ⟨gm8, 0, none⟩) mB.length cm8)) (bk_head (hb8.belowSize hX)) _ Tryz.underlying44 rfl (hA_info _ _ _ _ _) ?_)
          | (refine wpList_loadRow (op := ⟨some 90, _, _, _, _, _⟩) rfl _ _ rfl g8 rfl _ _ (hb8.belowSize hX) _ Tryz.underlying46 rfl (bk_info _ _ _ _ _ _) ?_)
          | (refine wpList_allocRow (op := ⟨some 22, _, _, _, _, _⟩) rfl _ rfl _ zBlk.1 ?_; intro v8 hv8 hs8 hz8; replace hs8 := hs8.symm; replace hGz := hGz.below hv8; replace hTz := hTz.below hv8; replace hCz := hCz.below hv8; replace hlz2 := Nat.le_trans hlz2 hv8.size; replace hX := hX.trans (hv8.mono hX.size); clear hv8)
          | (refine wpList_storeRow (op := ⟨none, .store 46 (.tmp 22) (.tmp 91), _, _, _, _⟩) rfl _ _ _ rfl v7.heap.size (bk 2 pv tB sB (.slice (some ⟨gmz, 0, none⟩) mB.length cmz) (.slice az ly.length capz)) rfl rfl _ _ hz8 (by simp only [bk_size]) (bk_info _ _ _ _ _ _) (bk_one _ _ _ _ _ _ _ _ _ _) ?_; intro v9 hg9 hs9 hz9; replace hGz := hGz.grown hg9 (hGz.ne (Blk.sh hz8) (.inl (by decide))); replace hTz := hTz.grown hg9 (Beside.blk hz8 (by decide)); replace hCz := hCz.other hg9 hz8 (by decide); replace hX := hX.trans (below_of_grown hg9 hx37 hX.size); replace hlz2 := Nat.le_trans hlz2 hg9.size; clear hs9 hs8 hg9 hz8)
          | (refine wpList_loadOp (op := ⟨some 93, _, _, _, _, _⟩) rfl _ _ rfl v7.heap.size 0 rfl (hA 2 pv tB sB (.slice (some ⟨gmz, 0, none⟩) mB.length cmz)) (bk_head hz9) _ Tryz.underlying44 rfl (hA_info _ _ _ _ _) ?_)))
      obtain ⟨gz, hgz⟩ : ∃ y, y = v7.heap.size := ⟨_, rfl⟩
      rw [← hgz] at hz9 hx37 ⊢
      clear hgz HC hmB0 hmB1
      have hBz := hX
      go_cut [23] from 97 (fun _ wz => ZC x3 gz z2 S1 R1 pv mA (⟨2, pv, tB, sB, mB⟩ : HH) ly wz)
      case first =>
        obtain ⟨ax, cx, etx, hTAz⟩ := TXL.ta hGz hTz
        simp only [Value.slice.injEq] at etx
        obtain ⟨rfl, -, rfl⟩ := etx
        by_cases o1 : z2.tmod 7 = 1
        · have hno : z2.tmod 7 ≠ 6 := by omega
          go_wp2_with (with_reducible refine at_list ?_; first
            | (refine wpList_loadCell (op := ⟨some 103, _, _, _, _, _⟩) rfl _ _ rfl gz 0 rfl _ _ hz9 _ Tryz.underlying42 rfl (.int .u64 (2 : Nat)) rfl ?_)
            | (refine wpList_storeCell (op := ⟨none, .store 42 (.tmp 106) (.tmp 104), _, _, _, _⟩) rfl _ _ _ rfl gz 0 rfl (.int .u64 (3 : Nat)) rfl _ _ hz9 (by kernel_rfl) rfl rfl (by rw [bk_size]; decide) ?_; intro va hga hsa hza; clear hsa))
          go_meet
          case rel => exact ⟨⟨3, pv, tB, sB, mB⟩, ly, gmz, cmz, az, capz, hYk.higher hno, hza, (hCz.other hga hz9 (by decide)).ia, (hTAz.bk hz9 hga), hX.trans (below_of_grown hga hx37 hX.size)⟩
        · by_cases o2 : z2.tmod 7 = 2
          · have hno : z2.tmod 7 ≠ 6 := by omega
            have hlen : pv.length = 32 := hpl
            obtain ⟨x, r, rfl⟩ : ∃ x r, pv = x :: r := (by cases h : pv with | nil => rw [h] at hlen; cases hlen | cons x r => exact ⟨x, r, rfl⟩)
            go_upto_region 21 with fail
            have hHeld : (fun w' : World => Blk w' gz (bk 2 (x :: r) tB sB (.slice (some ⟨gmz, 0, none⟩) mB.length cmz) (.slice az ly.length capz)) 46) vb.drew := hz9.belowSize ((Below.refl _ _).drew)
            refine Sh.wp_region_L (S := fun w' : World => Blk w' gz (bk 2 (x :: r) tB sB (.slice (some ⟨gmz, 0, none⟩) mB.length cmz) (.slice az ly.length capz)) 46) (z := 14) (by kernel_rfl) ?_
            refine Sh.wpAnyL_take (i := 0) (oi := ⟨some 109, _, _, _, _, _⟩) (v := .pointer (some ⟨gz, 0, none⟩)) rfl (by kernel_rfl) (by kernel_rfl) (by kernel_rfl) (by kernel_rfl) (fun _ _ _ h => h) (Or.inl ⟨by rfl, fun w hSw => by go_simp⟩) hHeld ?_
            try simp only [Act.put, List.setIfInBounds_toArray, List.set_cons_zero, List.set_cons_succ]
            refine Sh.wpAnyL_take (i := 1) (oi := ⟨some 110, _, _, _, _, _⟩) (v := .pointer (some ⟨gz, 1, none⟩)) rfl (by kernel_rfl) (by kernel_rfl) (by kernel_rfl) (by kernel_rfl) (fun _ _ _ h => h) (Or.inl ⟨by rfl, fun w hSw => by go_simp⟩) hHeld ?_
            try simp only [Act.put, List.setIfInBounds_toArray, List.set_cons_zero, List.set_cons_succ]
            refine Sh.wpAnyL_take (i := 2) (oi := ⟨some 111, _, _, _, _, _⟩) (v := .string ⟨(x :: r).toArray⟩) rfl (by kernel_rfl) (by kernel_rfl) (by kernel_rfl) (by kernel_rfl) (fun _ _ _ h => h) (Or.inl ⟨by rfl, fun w hSw => run_loadCellB _ _ rfl gz 1 rfl _ _ hSw _ Tryz.underlying9 rfl _ rfl⟩) hHeld ?_
            try simp only [Act.put, List.setIfInBounds_toArray, List.set_cons_zero, List.set_cons_succ]
            refine Sh.wpAnyL_take (i := 4) (oi := ⟨some 113, _, _, _, _, _⟩) (v := .pointer (some ⟨gz, 0, none⟩)) rfl (by kernel_rfl) (by kernel_rfl) (by kernel_rfl) (by kernel_rfl) (fun _ _ _ h => h) (Or.inl ⟨by rfl, fun w hSw => by go_simp⟩) hHeld ?_
            try simp only [Act.put, List.setIfInBounds_toArray, List.set_cons_zero, List.set_cons_succ]
            refine Sh.wpAnyL_take (i := 5) (oi := ⟨some 114, _, _, _, _, _⟩) (v := .pointer (some ⟨gz, 1, none⟩)) rfl (by kernel_rfl) (by kernel_rfl) (by kernel_rfl) (by kernel_rfl) (fun _ _ _ h => h) (Or.inl ⟨by rfl, fun w hSw => by go_simp⟩) hHeld ?_
            try simp only [Act.put, List.setIfInBounds_toArray, List.set_cons_zero, List.set_cons_succ]
            refine Sh.wpAnyL_take (i := 6) (oi := ⟨some 115, _, _, _, _, _⟩) (v := .string ⟨(x :: r).toArray⟩) rfl (by kernel_rfl) (by kernel_rfl) (by kernel_rfl) (by kernel_rfl) (fun _ _ _ h => h) (Or.inl ⟨by rfl, fun w hSw => run_loadCellB _ _ rfl gz 1 rfl _ _ hSw _ Tryz.underlying9 rfl _ rfl⟩) hHeld ?_
            try simp only [Act.put, List.setIfInBounds_toArray, List.set_cons_zero, List.set_cons_succ]
            refine Sh.wpAnyL_take (i := 3) (oi := ⟨some 112, _, _, _, _, _⟩) (v := .string ⟨r.toArray⟩) rfl (by kernel_rfl) (by kernel_rfl) (by kernel_rfl) (by kernel_rfl) (fun _ _ _ h => h) (Or.inl ⟨by rfl, fun w hSw => run_tail1 rfl rfl rfl⟩) hHeld ?_
            try simp only [Act.put, List.setIfInBounds_toArray, List.set_cons_zero, List.set_cons_succ]
            refine Sh.wpAnyL_take (i := 7) (oi := ⟨some 116, _, _, _, _, _⟩) (v := .int .u8 (Sh.n8 x)) rfl (by kernel_rfl) (by kernel_rfl) (by kernel_rfl) (by kernel_rfl) (fun _ _ _ h => h) (Or.inl ⟨by rfl, fun w hSw => run_head1 rfl rfl rfl⟩) hHeld ?_
            try simp only [Act.put, List.setIfInBounds_toArray, List.set_cons_zero, List.set_cons_succ]
            refine Sh.wpAnyL_take (i := 8) (oi := ⟨some 117, _, _, _, _, _⟩) (v := .int .u8 (Sh.n8 (x ^^^ 1))) rfl (by kernel_rfl) (by kernel_rfl) (by kernel_rfl) (by kernel_rfl) (fun _ _ _ h => h) (Or.inl ⟨by rfl, fun w hSw => run_xor1 rfl rfl rfl⟩) hHeld ?_
            try simp only [Act.put, List.setIfInBounds_toArray, List.set_cons_zero, List.set_cons_succ]
            refine Sh.wpAnyL_list (i := 9) (o := ⟨some 118, _, _, _, _, _⟩) rfl (by kernel_rfl) (fun K hK => ?_)
            refine Sh.wpList_bsl1 rfl _ rfl (x ^^^ 1) rfl ?_
            intro wA hwA hsA hbA
            clear hsA
            have hw0 : Below vb.heap.size vb wA := ((Below.refl vb.heap.size vb).drew).trans hwA
            have hH2 := hHeld.belowSize hwA
            refine hK _ _ (fun _ => hH2) ?_
            clear hK K
            try simp only [Act.put, List.setIfInBounds_toArray, List.set_cons_zero, List.set_cons_succ]
            refine Sh.wpAnyL_list (i := 10) (o := ⟨some 119, _, _, _, _, _⟩) rfl (by kernel_rfl) (fun K hK => ?_)
            refine Sh.wpList_bytesString rfl _ _ _ rfl vb.drew.heap.size 1 1 rfl _ Tryz.underlying57 Tryz.underlying5 Tryz.underlying9 _ _ _ hbA (Nat.le_refl _) ?_
            rw [show Sh.strF (fun _ => x ^^^ 1) 1 = ⟨[x ^^^ 1].toArray⟩ from rfl]
            refine hK _ _ (fun _ => hH2) ?_
            clear hK K
            try simp only [Act.put, List.setIfInBounds_toArray, List.set_cons_zero, List.set_cons_succ]
            refine Sh.wpAnyL_take (i := 11) (oi := ⟨some 120, _, _, _, _, _⟩) (v := .string ⟨(r ++ [x ^^^ 1]).toArray⟩) rfl (by kernel_rfl) (by kernel_rfl) (by kernel_rfl) (by kernel_rfl) (fun _ _ _ h => h) (Or.inl ⟨by rfl, fun w hSw => run_cat rfl rfl rfl (by simp at hlen; simp; omega)⟩) hH2 ?_
            try simp only [Act.put, List.setIfInBounds_toArray, List.set_cons_zero, List.set_cons_succ]
            refine Sh.wpAnyL_list (i := 12) (o := ⟨some 121, _, _, _, _, _⟩) rfl (by kernel_rfl) (fun K hK => ?_)
            refine wpList_pure rfl (.pointer (some ⟨gz, 0, none⟩)) (by go_simp) ?_
            refine hK _ _ (fun _ => hH2) ?_
            clear hK K
            try simp only [Act.put, List.setIfInBounds_toArray, List.set_cons_zero, List.set_cons_succ]
            refine Sh.wpAnyL_take (i := 13) (oi := ⟨some 122, _, _, _, _, _⟩) (v := .pointer (some ⟨gz, 1, none⟩)) rfl (by kernel_rfl) (by kernel_rfl) (by kernel_rfl) (by kernel_rfl) (fun _ _ _ h => h) (Or.inl ⟨by rfl, fun w hSw => by go_simp⟩) hH2 ?_
            try simp only [Act.put, List.setIfInBounds_toArray, List.set_cons_zero, List.set_cons_succ]
            refine Sh.wpAnyL_list (i := 14) (o := ⟨none, _, _, _, _, _⟩) rfl (by kernel_rfl) (fun K hK => ?_)
            refine wpList_storeCell rfl _ _ _ rfl gz 1 rfl (.string ⟨(r ++ [x ^^^ 1]).toArray⟩) rfl _ _ hH2 (by kernel_rfl) rfl rfl (by rw [bk_size]; decide) ?_
            intro va hga hsa hza
            clear hsa
            refine hK _ _ (fun e => absurd rfl e) ?_
            clear hK K
            refine Sh.wpAnyL_done (by kernel_rfl) ?_ _
            simp only [Act.put]
            go_simp
            go_wp2_with fail
            go_meet
            case rel => exact ⟨⟨2, r ++ [x ^^^ 1], tB, sB, mB⟩, ly, gmz, cmz, az, capz, hYk.prev hno rfl, hza, ((hCz.below hw0).other hga hH2 (by decide)).ia, ((hTAz.below hw0).bk hH2 hga), (hX.trans (hw0.mono hX.size)).trans (below_of_grown hga hx37 (hX.trans (hw0.mono hX.size)).size)⟩
          · by_cases o3 : z2.tmod 7 = 3
            · have hno : z2.tmod 7 ≠ 6 := by omega
              have hlen : tB.length = 32 := hYk.okh.t
              obtain ⟨x, r, rfl⟩ : ∃ x r, tB = x :: r := (by cases h : tB with | nil => rw [h] at hlen; cases hlen | cons x r => exact ⟨x, r, rfl⟩)
              go_upto_region 23 with fail
              have hHeld : (fun w' : World => Blk w' gz (bk 2 pv (x :: r) sB (.slice (some ⟨gmz, 0, none⟩) mB.length cmz) (.slice az ly.length capz)) 46) vb.drew := hz9.belowSize ((Below.refl _ _).drew)
              refine Sh.wp_region_L (S := fun w' : World => Blk w' gz (bk 2 pv (x :: r) sB (.slice (some ⟨gmz, 0, none⟩) mB.length cmz) (.slice az ly.length capz)) 46) (z := 14) (by kernel_rfl) ?_
              refine Sh.wpAnyL_take (i := 0) (oi := ⟨some 125, _, _, _, _, _⟩) (v := .pointer (some ⟨gz, 0, none⟩)) rfl (by kernel_rfl) (by kernel_rfl) (by kernel_rfl) (by kernel_rfl) (fun _ _ _ h => h) (Or.inl ⟨by rfl, fun w hSw => by go_simp⟩) hHeld ?_
              try simp only [Act.put, List.setIfInBounds_toArray, List.set_cons_zero, List.set_cons_succ]
              refine Sh.wpAnyL_take (i := 1) (oi := ⟨some 126, _, _, _, _, _⟩) (v := .pointer (some ⟨gz, 2, none⟩)) rfl (by kernel_rfl) (by kernel_rfl) (by kernel_rfl) (by kernel_rfl) (fun _ _ _ h => h) (Or.inl ⟨by rfl, fun w hSw => by go_simp⟩) hHeld ?_
              try simp only [Act.put, List.setIfInBounds_toArray, List.set_cons_zero, List.set_cons_succ]
              refine Sh.wpAnyL_take (i := 2) (oi := ⟨some 127, _, _, _, _, _⟩) (v := .string ⟨(x :: r).toArray⟩) rfl (by kernel_rfl) (by kernel_rfl) (by kernel_rfl) (by kernel_rfl) (fun _ _ _ h => h) (Or.inl ⟨by rfl, fun w hSw => run_loadCellB _ _ rfl gz 2 rfl _ _ hSw _ Tryz.underlying9 rfl _ rfl⟩) hHeld ?_
              try simp only [Act.put, List.setIfInBounds_toArray, List.set_cons_zero, List.set_cons_succ]
              refine Sh.wpAnyL_take (i := 7) (oi := ⟨some 132, _, _, _, _, _⟩) (v := .pointer (some ⟨gz, 0, none⟩)) rfl (by kernel_rfl) (by kernel_rfl) (by kernel_rfl) (by kernel_rfl) (fun _ _ _ h => h) (Or.inl ⟨by rfl, fun w hSw => by go_simp⟩) hHeld ?_
              try simp only [Act.put, List.setIfInBounds_toArray, List.set_cons_zero, List.set_cons_succ]
              refine Sh.wpAnyL_take (i := 8) (oi := ⟨some 133, _, _, _, _, _⟩) (v := .pointer (some ⟨gz, 2, none⟩)) rfl (by kernel_rfl) (by kernel_rfl) (by kernel_rfl) (by kernel_rfl) (fun _ _ _ h => h) (Or.inl ⟨by rfl, fun w hSw => by go_simp⟩) hHeld ?_
              try simp only [Act.put, List.setIfInBounds_toArray, List.set_cons_zero, List.set_cons_succ]
              refine Sh.wpAnyL_take (i := 9) (oi := ⟨some 134, _, _, _, _, _⟩) (v := .string ⟨(x :: r).toArray⟩) rfl (by kernel_rfl) (by kernel_rfl) (by kernel_rfl) (by kernel_rfl) (fun _ _ _ h => h) (Or.inl ⟨by rfl, fun w hSw => run_loadCellB _ _ rfl gz 2 rfl _ _ hSw _ Tryz.underlying9 rfl _ rfl⟩) hHeld ?_
              try simp only [Act.put, List.setIfInBounds_toArray, List.set_cons_zero, List.set_cons_succ]
              refine Sh.wpAnyL_take (i := 10) (oi := ⟨some 135, _, _, _, _, _⟩) (v := .string ⟨r.toArray⟩) rfl (by kernel_rfl) (by kernel_rfl) (by kernel_rfl) (by kernel_rfl) (fun _ _ _ h => h) (Or.inl ⟨by rfl, fun w hSw => run_tail1 rfl rfl rfl⟩) hHeld ?_
              try simp only [Act.put, List.setIfInBounds_toArray, List.set_cons_zero, List.set_cons_succ]
              refine Sh.wpAnyL_take (i := 3) (oi := ⟨some 128, _, _, _, _, _⟩) (v := .int .u8 (Sh.n8 x)) rfl (by kernel_rfl) (by kernel_rfl) (by kernel_rfl) (by kernel_rfl) (fun _ _ _ h => h) (Or.inl ⟨by rfl, fun w hSw => run_head1 rfl rfl rfl⟩) hHeld ?_
              try simp only [Act.put, List.setIfInBounds_toArray, List.set_cons_zero, List.set_cons_succ]
              refine Sh.wpAnyL_take (i := 4) (oi := ⟨some 129, _, _, _, _, _⟩) (v := .int .u8 (Sh.n8 (x ^^^ 1))) rfl (by kernel_rfl) (by kernel_rfl) (by kernel_rfl) (by kernel_rfl) (fun _ _ _ h => h) (Or.inl ⟨by rfl, fun w hSw => run_xor1 rfl rfl rfl⟩) hHeld ?_
              try simp only [Act.put, List.setIfInBounds_toArray, List.set_cons_zero, List.set_cons_succ]
              refine Sh.wpAnyL_list (i := 5) (o := ⟨some 130, _, _, _, _, _⟩) rfl (by kernel_rfl) (fun K hK => ?_)
              refine Sh.wpList_bsl1 rfl _ rfl (x ^^^ 1) rfl ?_
              intro wA hwA hsA hbA
              clear hsA
              have hw0 : Below vb.heap.size vb wA := ((Below.refl vb.heap.size vb).drew).trans hwA
              have hH2 := hHeld.belowSize hwA
              refine hK _ _ (fun _ => hH2) ?_
              clear hK K
              try simp only [Act.put, List.setIfInBounds_toArray, List.set_cons_zero, List.set_cons_succ]
              refine Sh.wpAnyL_list (i := 6) (o := ⟨some 131, _, _, _, _, _⟩) rfl (by kernel_rfl) (fun K hK => ?_)
              refine Sh.wpList_bytesString rfl _ _ _ rfl vb.drew.heap.size 1 1 rfl _ Tryz.underlying57 Tryz.underlying5 Tryz.underlying9 _ _ _ hbA (Nat.le_refl _) ?_
              rw [show Sh.strF (fun _ => x ^^^ 1) 1 = ⟨[x ^^^ 1].toArray⟩ from rfl]
              refine hK _ _ (fun _ => hH2) ?_
              clear hK K
              try simp only [Act.put, List.setIfInBounds_toArray, List.set_cons_zero, List.set_cons_succ]
              refine Sh.wpAnyL_take (i := 11) (oi := ⟨some 136, _, _, _, _, _⟩) (v := .string ⟨((x ^^^ 1) :: r).toArray⟩) rfl (by kernel_rfl) (by kernel_rfl) (by kernel_rfl) (by kernel_rfl) (fun _ _ _ h => h) (Or.inl ⟨by rfl, fun w hSw => run_cat (s := [x ^^^ 1]) (t := r) rfl rfl rfl (by simp at hlen; simp; omega)⟩) hH2 ?_
              try simp only [Act.put, List.setIfInBounds_toArray, List.set_cons_zero, List.set_cons_succ]
              refine Sh.wpAnyL_list (i := 12) (o := ⟨some 137, _, _, _, _, _⟩) rfl (by kernel_rfl) (fun K hK => ?_)
              refine wpList_pure rfl (.pointer (some ⟨gz, 0, none⟩)) (by go_simp) ?_
              refine hK _ _ (fun _ => hH2) ?_
              clear hK K
              try simp only [Act.put, List.setIfInBounds_toArray, List.set_cons_zero, List.set_cons_succ]
              refine Sh.wpAnyL_take (i := 13) (oi := ⟨some 138, _, _, _, _, _⟩) (v := .pointer (some ⟨gz, 2, none⟩)) rfl (by kernel_rfl) (by kernel_rfl) (by kernel_rfl) (by kernel_rfl) (fun _ _ _ h => h) (Or.inl ⟨by rfl, fun w hSw => by go_simp⟩) hH2 ?_
              try simp only [Act.put, List.setIfInBounds_toArray, List.set_cons_zero, List.set_cons_succ]
              refine Sh.wpAnyL_list (i := 14) (o := ⟨none, _, _, _, _, _⟩) rfl (by kernel_rfl) (fun K hK => ?_)
              refine wpList_storeCell rfl _ _ _ rfl gz 2 rfl (.string ⟨((x ^^^ 1) :: r).toArray⟩) rfl _ _ hH2 (by kernel_rfl) rfl rfl (by rw [bk_size]; decide) ?_
              intro va hga hsa hza
              clear hsa
              refine hK _ _ (fun e => absurd rfl e) ?_
              clear hK K
              refine Sh.wpAnyL_done (by kernel_rfl) ?_ _
              simp only [Act.put]
              go_simp
              go_wp2_with fail
              go_meet
              case rel => exact ⟨⟨2, pv, (x ^^^ 1) :: r, sB, mB⟩, ly, gmz, cmz, az, capz, hYk.txr hno rfl, hza, ((hCz.below hw0).other hga hH2 (by decide)).ia, ((hTAz.below hw0).bk hH2 hga), (hX.trans (hw0.mono hX.size)).trans (below_of_grown hga hx37 (hX.trans (hw0.mono hX.size)).size)⟩
            · by_cases o4 : z2.tmod 7 = 4
              · have hno : z2.tmod 7 ≠ 6 := by omega
                have hlen : sB.length = 32 := hYk.okh.s
                obtain ⟨x, r, rfl⟩ : ∃ x r, sB = x :: r := (by cases h : sB with | nil => rw [h] at hlen; cases hlen | cons x r => exact ⟨x, r, rfl⟩)
                go_upto_region 25 with fail
                have hHeld : (fun w' : World => Blk w' gz (bk 2 pv tB (x :: r) (.slice (some ⟨gmz, 0, none⟩) mB.length cmz) (.slice az ly.length capz)) 46) vb.drew := hz9.belowSize ((Below.refl _ _).drew)
                refine Sh.wp_region_L (S := fun w' : World => Blk w' gz (bk 2 pv tB (x :: r) (.slice (some ⟨gmz, 0, none⟩) mB.length cmz) (.slice az ly.length capz)) 46) (z := 14) (by kernel_rfl) ?_
                refine Sh.wpAnyL_take (i := 0) (oi := ⟨some 141, _, _, _, _, _⟩) (v := .pointer (some ⟨gz, 0, none⟩)) rfl (by kernel_rfl) (by kernel_rfl) (by kernel_rfl) (by kernel_rfl) (fun _ _ _ h => h) (Or.inl ⟨by rfl, fun w hSw => by go_simp⟩) hHeld ?_
                try simp only [Act.put, List.setIfInBounds_toArray, List.set_cons_zero, List.set_cons_succ]
                refine Sh.wpAnyL_take (i := 1) (oi := ⟨some 142, _, _, _, _, _⟩) (v := .pointer (some ⟨gz, 3, none⟩)) rfl (by kernel_rfl) (by kernel_rfl) (by kernel_rfl) (by kernel_rfl) (fun _ _ _ h => h) (Or.inl ⟨by rfl, fun w hSw => by go_simp⟩) hHeld ?_
                try simp only [Act.put, List.setIfInBounds_toArray, List.set_cons_zero, List.set_cons_succ]
                refine Sh.wpAnyL_take (i := 2) (oi := ⟨some 143, _, _, _, _, _⟩) (v := .string ⟨(x :: r).toArray⟩) rfl (by kernel_rfl) (by kernel_rfl) (by kernel_rfl) (by kernel_rfl) (fun _ _ _ h => h) (Or.inl ⟨by rfl, fun w hSw => run_loadCellB _ _ rfl gz 3 rfl _ _ hSw _ Tryz.underlying9 rfl _ rfl⟩) hHeld ?_
                try simp only [Act.put, List.setIfInBounds_toArray, List.set_cons_zero, List.set_cons_succ]
                refine Sh.wpAnyL_take (i := 7) (oi := ⟨some 148, _, _, _, _, _⟩) (v := .pointer (some ⟨gz, 0, none⟩)) rfl (by kernel_rfl) (by kernel_rfl) (by kernel_rfl) (by kernel_rfl) (fun _ _ _ h => h) (Or.inl ⟨by rfl, fun w hSw => by go_simp⟩) hHeld ?_
                try simp only [Act.put, List.setIfInBounds_toArray, List.set_cons_zero, List.set_cons_succ]
                refine Sh.wpAnyL_take (i := 8) (oi := ⟨some 149, _, _, _, _, _⟩) (v := .pointer (some ⟨gz, 3, none⟩)) rfl (by kernel_rfl) (by kernel_rfl) (by kernel_rfl) (by kernel_rfl) (fun _ _ _ h => h) (Or.inl ⟨by rfl, fun w hSw => by go_simp⟩) hHeld ?_
                try simp only [Act.put, List.setIfInBounds_toArray, List.set_cons_zero, List.set_cons_succ]
                refine Sh.wpAnyL_take (i := 9) (oi := ⟨some 150, _, _, _, _, _⟩) (v := .string ⟨(x :: r).toArray⟩) rfl (by kernel_rfl) (by kernel_rfl) (by kernel_rfl) (by kernel_rfl) (fun _ _ _ h => h) (Or.inl ⟨by rfl, fun w hSw => run_loadCellB _ _ rfl gz 3 rfl _ _ hSw _ Tryz.underlying9 rfl _ rfl⟩) hHeld ?_
                try simp only [Act.put, List.setIfInBounds_toArray, List.set_cons_zero, List.set_cons_succ]
                refine Sh.wpAnyL_take (i := 10) (oi := ⟨some 151, _, _, _, _, _⟩) (v := .string ⟨r.toArray⟩) rfl (by kernel_rfl) (by kernel_rfl) (by kernel_rfl) (by kernel_rfl) (fun _ _ _ h => h) (Or.inl ⟨by rfl, fun w hSw => run_tail1 rfl rfl rfl⟩) hHeld ?_
                try simp only [Act.put, List.setIfInBounds_toArray, List.set_cons_zero, List.set_cons_succ]
                refine Sh.wpAnyL_take (i := 3) (oi := ⟨some 144, _, _, _, _, _⟩) (v := .int .u8 (Sh.n8 x)) rfl (by kernel_rfl) (by kernel_rfl) (by kernel_rfl) (by kernel_rfl) (fun _ _ _ h => h) (Or.inl ⟨by rfl, fun w hSw => run_head1 rfl rfl rfl⟩) hHeld ?_
                try simp only [Act.put, List.setIfInBounds_toArray, List.set_cons_zero, List.set_cons_succ]
                refine Sh.wpAnyL_take (i := 4) (oi := ⟨some 145, _, _, _, _, _⟩) (v := .int .u8 (Sh.n8 (x ^^^ 1))) rfl (by kernel_rfl) (by kernel_rfl) (by kernel_rfl) (by kernel_rfl) (fun _ _ _ h => h) (Or.inl ⟨by rfl, fun w hSw => run_xor1 rfl rfl rfl⟩) hHeld ?_
                try simp only [Act.put, List.setIfInBounds_toArray, List.set_cons_zero, List.set_cons_succ]
                refine Sh.wpAnyL_list (i := 5) (o := ⟨some 146, _, _, _, _, _⟩) rfl (by kernel_rfl) (fun K hK => ?_)
                refine Sh.wpList_bsl1 rfl _ rfl (x ^^^ 1) rfl ?_
                intro wA hwA hsA hbA
                clear hsA
                have hw0 : Below vb.heap.size vb wA := ((Below.refl vb.heap.size vb).drew).trans hwA
                have hH2 := hHeld.belowSize hwA
                refine hK _ _ (fun _ => hH2) ?_
                clear hK K
                try simp only [Act.put, List.setIfInBounds_toArray, List.set_cons_zero, List.set_cons_succ]
                refine Sh.wpAnyL_list (i := 6) (o := ⟨some 147, _, _, _, _, _⟩) rfl (by kernel_rfl) (fun K hK => ?_)
                refine Sh.wpList_bytesString rfl _ _ _ rfl vb.drew.heap.size 1 1 rfl _ Tryz.underlying57 Tryz.underlying5 Tryz.underlying9 _ _ _ hbA (Nat.le_refl _) ?_
                rw [show Sh.strF (fun _ => x ^^^ 1) 1 = ⟨[x ^^^ 1].toArray⟩ from rfl]
                refine hK _ _ (fun _ => hH2) ?_
                clear hK K
                try simp only [Act.put, List.setIfInBounds_toArray, List.set_cons_zero, List.set_cons_succ]
                refine Sh.wpAnyL_take (i := 11) (oi := ⟨some 152, _, _, _, _, _⟩) (v := .string ⟨((x ^^^ 1) :: r).toArray⟩) rfl (by kernel_rfl) (by kernel_rfl) (by kernel_rfl) (by kernel_rfl) (fun _ _ _ h => h) (Or.inl ⟨by rfl, fun w hSw => run_cat (s := [x ^^^ 1]) (t := r) rfl rfl rfl (by simp at hlen; simp; omega)⟩) hH2 ?_
                try simp only [Act.put, List.setIfInBounds_toArray, List.set_cons_zero, List.set_cons_succ]
                refine Sh.wpAnyL_list (i := 12) (o := ⟨some 153, _, _, _, _, _⟩) rfl (by kernel_rfl) (fun K hK => ?_)
                refine wpList_pure rfl (.pointer (some ⟨gz, 0, none⟩)) (by go_simp) ?_
                refine hK _ _ (fun _ => hH2) ?_
                clear hK K
                try simp only [Act.put, List.setIfInBounds_toArray, List.set_cons_zero, List.set_cons_succ]
                refine Sh.wpAnyL_take (i := 13) (oi := ⟨some 154, _, _, _, _, _⟩) (v := .pointer (some ⟨gz, 3, none⟩)) rfl (by kernel_rfl) (by kernel_rfl) (by kernel_rfl) (by kernel_rfl) (fun _ _ _ h => h) (Or.inl ⟨by rfl, fun w hSw => by go_simp⟩) hH2 ?_
                try simp only [Act.put, List.setIfInBounds_toArray, List.set_cons_zero, List.set_cons_succ]
                refine Sh.wpAnyL_list (i := 14) (o := ⟨none, _, _, _, _, _⟩) rfl (by kernel_rfl) (fun K hK => ?_)
                refine wpList_storeCell rfl _ _ _ rfl gz 3 rfl (.string ⟨((x ^^^ 1) :: r).toArray⟩) rfl _ _ hH2 (by kernel_rfl) rfl rfl (by rw [bk_size]; decide) ?_
                intro va hga hsa hza
                clear hsa
                refine hK _ _ (fun e => absurd rfl e) ?_
                clear hK K
                refine Sh.wpAnyL_done (by kernel_rfl) ?_ _
                simp only [Act.put]
                go_simp
                go_wp2_with fail
                go_meet
                case rel => exact ⟨⟨2, pv, tB, (x ^^^ 1) :: r, mB⟩, ly, gmz, cmz, az, capz, hYk.str hno rfl, hza, ((hCz.below hw0).other hga hH2 (by decide)).ia, ((hTAz.below hw0).bk hH2 hga), (hX.trans (hw0.mono hX.size)).trans (below_of_grown hga hx37 (hX.trans (hw0.mono hX.size)).size)⟩
              · by_cases o5 : z2.tmod 7 = 5
                · have hno : z2.tmod 7 ≠ 6 := by omega
                  obtain ⟨ie, ei, ez, es, eb⟩ := infoTx
                  have hdl : dlz.length ≤ 1000000 := by rw [hTz.len]; have := hYk.len; omega
                  go_wp2_with (with_reducible refine at_list ?_; first
                    | (refine wpList_loadCell (op := ⟨some 158, _, _, _, _, _⟩) rfl _ _ rfl gz 5 rfl _ _ hz9 _ Tryz.underlying28 rfl (.slice az ly.length capz) rfl ?_)
                    | (refine wpList_build (o := ⟨some 159, _, _, _, _, _⟩) rfl _ _ rfl builtTx0 ?_)
                    | (refine wpList_bslTx (op := ⟨some 160, _, _, _, _, _⟩) rfl _ rfl 0 0 none 0 0 rfl ?_; intro wA hwA hbA; replace hGz := hGz.below hwA; replace hTz := hTz.below hwA; replace hCz := hCz.below hwA; replace hz9 := hz9.belowSize hwA; replace hlz2 := Nat.le_trans hlz2 hwA.size; replace hX := hX.trans (hwA.mono hX.size); clear hwA)
                    | (refine Sh.wpList_appendGL (op := ⟨some 161, _, _, _, _, _⟩) rfl _ _ _ _ rfl 3 loz (.slice az ly.length capz) dlz hlz2 rfl hGz _ 1 rfl (txc 0 0 (.slice none 0 0)).toList (txc_len _ _ _) (txc_all _ _ _ _ _) _ (Blk.sh hbA) ie _ rfl Tryz.underlying28 ei ez es eb hdl ?_; intro wC sl1 hgC hG1; obtain ⟨n1, n2, n3, l5, sb, sbc, hl5, rfl, hTA1⟩ := app_more hGz hTz hz9 hCz hX hlz hgC hG1; replace hz9 := n1; replace hCz := n2; replace hX := n3; clear n1 n2 n3 hG1 hgC hTz hGz hbA hTAz)
                    | (refine wpList_storeCell (op := ⟨none, .store 28 (.tmp 162) (.tmp 161), _, _, _, _⟩) rfl _ _ _ rfl gz 5 rfl (.slice sb l5.length sbc) rfl _ _ hz9 iSlT rfl rfl (by rw [bk_size]; decide) ?_; intro va hga hsa hza; clear hsa))
                  go_meet
                  case rel => exact ⟨(⟨2, pv, tB, sB, mB⟩ : HH), l5, gmz, cmz, sb, sbc, hl5.out.symm ▸ hYk.more hno, hza, (hCz.other hga hz9 (by decide)).ia, hTA1.bk hz9 hga, hX.trans (below_of_grown hga hx37 hX.size)⟩
                · by_cases o6 : z2.tmod 7 = 6
                  · have hcp := GL_cap hGz
                    by_cases hn : ly.length = 0
                    · have hnz : (ly.length : Int) = 0 := by omega
                      go_wp2_with (with_reducible refine at_list ?_; refine wpList_loadCell (op := ⟨some 166, _, _, _, _, _⟩) rfl _ _ rfl gz 5 rfl _ _ hz9 _ Tryz.underlying28 rfl (.slice az ly.length capz) rfl ?_)
                      go_ret
                      exact ⟨rfl, hBn.trans (hX.mono hBn.size)⟩
                    · have hnz : ¬ (ly.length : Int) = 0 := by omega
                      have h1l : 1 ≤ ly.length := by omega
                      obtain ⟨tx0, tr0, hxr⟩ : ∃ x r, ly = x :: r := (by cases h : ly with | nil => rw [h] at hn; exact absurd rfl hn | cons x r => exact ⟨x, r, rfl⟩)
                      have hdr : ly.drop 1 = tr0 := by rw [hxr]; rfl
                      have hTd := hTAz.drop h1l hcp
                      have hdl : (ly.drop 1).length = ly.length - 1 := by simp
                      rw [hdr] at hTd hdl
                      replace hxr : Hid (ly = tx0 :: tr0) := hxr
                      replace hdl : Hid (ly.length - 1 = tr0.length) := hdl.symm
                      clear hdr
                      go_wp2_with (with_reducible refine at_list ?_; first
                        | (refine wpList_loadCell (op := ⟨some 166, _, _, _, _, _⟩) rfl _ _ rfl gz 5 rfl _ _ hz9 _ Tryz.underlying28 rfl (.slice az ly.length capz) rfl ?_)
                        | (refine wpList_loadCell (op := ⟨some 170, _, _, _, _, _⟩) rfl _ _ rfl gz 5 rfl _ _ hz9 _ Tryz.underlying28 rfl (.slice az ly.length capz) rfl ?_)
                        | (refine wpList_run (op := ⟨some 171, _, _, _, _, _⟩) rfl _ _ (run_sliceFrom _ _ rfl az ly.length capz 1 rfl rfl h1l) ?_; rw [hdl.out])
                        | (refine wpList_storeCell (op := ⟨none, .store 28 (.tmp 172) (.tmp 171), _, _, _, _⟩) rfl _ _ _ rfl gz 5 rfl (.slice (fromA az capz 1) tr0.length (capz - 1)) rfl _ _ hz9 iSlT rfl rfl (by rw [bk_size]; decide) ?_; intro va hga hsa hza; clear hsa))
                      go_meet
                      case rel => exact ⟨(⟨2, pv, tB, sB, mB⟩ : HH), tr0, gmz, cmz, fromA az capz 1, capz - 1, hYk.less o6 hxr.out, hza, (hCz.other hga hz9 (by decide)).ia, hTd.bk hz9 hga, hX.trans (below_of_grown hga hx37 hX.size)⟩
                  · go_wp2_with fail
                    go_meet
                    case rel => exact ⟨(⟨2, pv, tB, sB, mB⟩ : HH), ly, gmz, cmz, az, capz, hYk.same, hz9, hCz.ia, hTAz, hX⟩
      case rest =>
        obtain ⟨⟨hq, pq, tq, sq, mq⟩, lq, gq, cq, aq, kq, hZ, hbz, hIq, hTq, hXc⟩ := hcut
        dsimp only at hbz hIq
        clear hX hBz hGz hTz hCz hz9 hlz hlz2
        have HBz := fun w1 (k : TA w1 aq lq) => block_any hq pq tq sq (some ⟨gq, 0, none⟩) mq.length cq lq aq kq w1 k
        rw [rb17_ok hZ.len hZ.okl] at HBz
        unfold BloP at HBz
        have HBy := fun w1 (k : TA w1 a8 ly) => block_any 2 pv tB sB (some ⟨gm8, 0, none⟩) mB.length cm8 ly a8 cap8 w1 k
        rw [rb17_ok (by have := hYk.len; omega) hYk.okl] at HBy
        unfold BloP at HBy
        have HYz : ∀ a c w1, IA w1 (some ⟨gq, 0, none⟩) mq → TA w1 a lq → Calls Tryz.prog 26 #[.agg (bk hq pq tq sq (.slice (some ⟨gq, 0, none⟩) mq.length cq) (.slice a lq.length c))] w1 fun e w' => e = .returned (.string ⟨(bB (⟨hq, pq, tq, sq, mq⟩ : HH) lq).toArray⟩) ∧ Below w1.heap.size w1 w' := fun a c w1 k1 k2 => rbytesB_any (⟨hq, pq, tq, sq, mq⟩ : HH) hZ.okh hZ.lt _ cq lq hZ.okl hZ.len a c w1 k1 k2
        have HYy : ∀ a c w1, IA w1 (some ⟨gm8, 0, none⟩) mB → TA w1 a ly → Calls Tryz.prog 26 #[.agg (bk 2 pv tB sB (.slice (some ⟨gm8, 0, none⟩) mB.length cm8) (.slice a ly.length c))] w1 fun e w' => e = .returned (.string ⟨(bB (⟨2, pv, tB, sB, mB⟩ : HH) ly).toArray⟩) ∧ Below w1.heap.size w1 w' := fun a c w1 k1 k2 => rbytesB_any (⟨2, pv, tB, sB, mB⟩ : HH) hYk.okh hYk.lt _ cm8 ly hYk.okl (by have := hYk.len; omega) a c w1 k1 k2
        have HCk : ∀ w1, EX w1 bs bt S1 R1 → TA w1 aq lq → IA w1 (some ⟨gq, 0, none⟩) mq → IA w1 (some ⟨gm6, 0, none⟩) mA → Calls Tryz.prog 28 #[.string ⟨pv.toArray⟩, .int .u64 2, .slice (some ⟨gm6, 0, none⟩) mA.length cm6, .pointer (some ⟨bs, 0, none⟩), .pointer (some ⟨bt, 0, none⟩), .agg (bk hq pq tq sq (.slice (some ⟨gq, 0, none⟩) mq.length cq) (.slice aq lq.length kq))] w1 (CkP w1 bs bt S1 R1 2 pv mA (⟨hq, pq, tq, sq, mq⟩ : HH) lq) := fun w1 hE hT hI1 hI2 => checkBlk_any (⟨hq, pq, tq, sq, mq⟩ : HH) hZ.okh lq pv hpl 2 (by decide) mA hmA (some ⟨gm6, 0, none⟩) (some ⟨gq, 0, none⟩) aq cm6 cq kq bs bt S1 R1 w1 hE hSz hCA hnA hT hI1 hI2
        try dsimp only at HHx
        obtain ⟨ch, hch⟩ : ∃ b, b = decide (bB (⟨hq, pq, tq, sq, mq⟩ : HH) lq ≠ bB (⟨2, pv, tB, sB, mB⟩ : HH) ly) := ⟨_, rfl⟩
        have hway := hZ.two hch
        replace hch : Hid (ch = decide (bB (⟨hq, pq, tq, sq, mq⟩ : HH) lq ≠ bB (⟨2, pv, tB, sB, mB⟩ : HH) ly)) := hch
        generalize bB (⟨hq, pq, tq, sq, mq⟩ : HH) lq = bz at *
        generalize bB (⟨2, pv, tB, sB, mB⟩ : HH) ly = bw at *
        go_simp
        go_upto_region 32 with fail
        have hH0 := S3.below ⟨hbz, hb8.belowSize hXc, hb6.belowSize hXc⟩ ((Below.refl wc.heap.size wc).drew)
        have hX0 : Below x3.heap.size x3 wc.drew := hXc.trans (((Below.refl _ _).drew).mono hXc.size)
        have hT0 : TA wc.drew aq lq := hTq.below ((Below.refl _ _).drew)
        have hI0 : IA wc.drew (some ⟨gq, 0, none⟩) mq := hIq.below ((Below.refl _ _).drew)
        refine wp_region_held_drew (S := S3 gz g8 g6 (bk hq pq tq sq (.slice (some ⟨gq, 0, none⟩) mq.length cq) (.slice aq lq.length kq)) (bk 2 pv tB sB (.slice (some ⟨gm8, 0, none⟩) mB.length cm8) (.slice a8 ly.length cap8)) (bk 1 zr tA sA (.slice (some ⟨gm6, 0, none⟩) mA.length cm6) (.slice a6 lx.length cap6))) (by kernel_rfl) hH0 (fun hH0 => ?_)
        refine wpAnyH_take (i := 0) (oi := ⟨some 173, _, _, _, _, _⟩) (v := .agg (bk hq pq tq sq (.slice (some ⟨gq, 0, none⟩) mq.length cq) (.slice aq lq.length kq))) rfl (by kernel_rfl) (by kernel_rfl) (by kernel_rfl) (fun _ _ _ h => h) (Or.inl ⟨by rfl, fun w hSw => (by refine run_loadMid _ _ rfl gz 0 rfl _ hSw.z.rangeAll _ Tryz.underlying46 rfl (bk_info _ _ _ _ _ _))⟩) hH0 ?_
        try simp only [Act.put, List.setIfInBounds_toArray, List.set_cons_zero, List.set_cons_succ]
        refine wpAnyH_take (i := 3) (oi := ⟨some 176, _, _, _, _, _⟩) (v := .agg (bk 2 pv tB sB (.slice (some ⟨gm8, 0, none⟩) mB.length cm8) (.slice a8 ly.length cap8))) rfl (by kernel_rfl) (by kernel_rfl) (by kernel_rfl) (fun _ _ _ h => h) (Or.inl ⟨by rfl, fun w hSw => (by refine run_loadMid _ _ rfl g8 0 rfl _ hSw.y.rangeAll _ Tryz.underlying46 rfl (bk_info _ _ _ _ _ _))⟩) hH0 ?_
        try simp only [Act.put, List.setIfInBounds_toArray, List.set_cons_zero, List.set_cons_succ]
        refine wpAnyH_ready (rs := [1]) (by kernel_rfl) (by simp) ?_
        refine AllReadyH.cons (o := ⟨some 174, .call ⟨.value (.func 27), #[.tmp 173], #[46]⟩, _, _, _, _⟩) rfl (fun K hK => ?_) AllReadyH.nil
        rw [if_pos (by rfl)]
        go_simp
        refine (HBz _ hT0).mono ?_
        rintro e c1 ⟨xq, xqc, rfl, hXq, hc1⟩
        have hH1 := hH0.below hc1
        have hX1 := hX0.trans (hc1.mono hX0.size)
        have hT1 := hT0.below hc1
        have hI1 := hI0.below hc1
        refine hK.out _ _ hH1 (fun _ => ?_)
        clear hK K
        try simp only [Act.put, List.setIfInBounds_toArray, List.set_cons_zero, List.set_cons_succ]
        refine wpAnyH_ready (rs := [2]) (by kernel_rfl) (by simp) ?_
        refine AllReadyH.cons (o := ⟨some 175, .call ⟨.value (.func 26), #[.tmp 174], #[63]⟩, _, _, _, _⟩) rfl (fun K hK => ?_) AllReadyH.nil
        rw [if_pos (by rfl)]
        go_simp
        refine (HYz _ _ _ hI1 hXq).mono ?_
        rintro e c2 ⟨rfl, hc2⟩
        have hH2 := hH1.below hc2
        have hX2 := hX1.trans (hc2.mono hX1.size)
        have hT2 := hT1.below hc2
        have hI2 := hI1.below hc2
        refine hK.out _ _ hH2 (fun _ => ?_)
        clear hK K
        try simp only [Act.put, List.setIfInBounds_toArray, List.set_cons_zero, List.set_cons_succ]
        refine wpAnyH_ready (rs := [4]) (by kernel_rfl) (by simp) ?_
        refine AllReadyH.cons (o := ⟨some 177, .call ⟨.value (.func 27), #[.tmp 176], #[46]⟩, _, _, _, _⟩) rfl (fun K hK => ?_) AllReadyH.nil
        rw [if_pos (by rfl)]
        go_simp
        refine (HBy _ (hTy.below hX2)).mono ?_
        rintro e c3 ⟨xy, xyc, rfl, hXy, hc3⟩
        have hH3 := hH2.below hc3
        have hX3 := hX2.trans (hc3.mono hX2.size)
        have hT3 := hT2.below hc3
        have hI3 := hI2.below hc3
        refine hK.out _ _ hH3 (fun _ => ?_)
        clear hK K
        try simp only [Act.put, List.setIfInBounds_toArray, List.set_cons_zero, List.set_cons_succ]
        refine wpAnyH_ready (rs := [5]) (by kernel_rfl) (by simp) ?_
        refine AllReadyH.cons (o := ⟨some 178, .call ⟨.value (.func 26), #[.tmp 177], #[63]⟩, _, _, _, _⟩) rfl (fun K hK => ?_) AllReadyH.nil
        rw [if_pos (by rfl)]
        go_simp
        refine (HYy _ _ _ (hIy.below hX3) hXy).mono ?_
        rintro e c4 ⟨rfl, hc4⟩
        have hH4 := hH3.below hc4
        have hX4 := hX3.trans (hc4.mono hX3.size)
        have hT4 := hT3.below hc4
        have hI4 := hI3.below hc4
        refine hK.out _ _ hH4 (fun _ => ?_)
        clear hK K
        try simp only [Act.put, List.setIfInBounds_toArray, List.set_cons_zero, List.set_cons_succ]
        refine wpAnyH_take (i := 6) (oi := ⟨some 179, _, _, _, _, _⟩) (v := .bool ch) rfl (by kernel_rfl) (by kernel_rfl) (by kernel_rfl) (fun _ _ _ h => h) (Or.inl ⟨by rfl, fun w hSw => (by rw [hch.out]; exact run_neqS rfl rfl rfl)⟩) hH4 ?_
        try simp only [Act.put, List.setIfInBounds_toArray, List.set_cons_zero, List.set_cons_succ]
        refine wpAnyH_take (i := 7) (oi := ⟨some 23, _, _, _, _, _⟩) (v := .bool ch) rfl (by kernel_rfl) (by kernel_rfl) (by kernel_rfl) (fun _ _ _ h => h) (Or.inl ⟨by rfl, fun w hSw => by go_simp⟩) hH4 ?_
        try simp only [Act.put, List.setIfInBounds_toArray, List.set_cons_zero, List.set_cons_succ]
        refine wpAnyH_done (by kernel_rfl) ?_ _
        try simp only [Act.put]
        go_simp
        clear hH0 hH1 hH2 hH3 hX0 hX1 hX2 hX3 hT0 hT1 hT2 hT3 hI0 hI1 hI2 hI3 hXq hXy hc1 hc2 hc3 hc4 HBy HYz HYy
        go_upto_region 33 with fail
        have hc5 : Below c4.heap.size c4 c4.drew := ((Below.refl _ _).drew)
        have hH5 := hH4.below hc5
        have hX5 := hX4.trans (hc5.mono hX4.size)
        have hT5 := hT4.below hc5
        have hI5 := hI4.below hc5
        refine wp_region_held_drew (S := S3 gz g8 g6 (bk hq pq tq sq (.slice (some ⟨gq, 0, none⟩) mq.length cq) (.slice aq lq.length kq)) (bk 2 pv tB sB (.slice (some ⟨gm8, 0, none⟩) mB.length cm8) (.slice a8 ly.length cap8)) (bk 1 zr tA sA (.slice (some ⟨gm6, 0, none⟩) mA.length cm6) (.slice a6 lx.length cap6))) (by kernel_rfl) hH5 (fun hH5 => ?_)
        refine wpAnyH_take (i := 0) (oi := ⟨some 180, _, _, _, _, _⟩) (v := .pointer (some ⟨g6, 0, none⟩)) rfl (by kernel_rfl) (by kernel_rfl) (by kernel_rfl) (fun _ _ _ h => h) (Or.inl ⟨by rfl, fun w hSw => by go_simp⟩) hH5 ?_
        try simp only [Act.put, List.setIfInBounds_toArray, List.set_cons_zero, List.set_cons_succ]
        refine wpAnyH_take (i := 1) (oi := ⟨some 181, _, _, _, _, _⟩) (v := .agg (hA 1 zr tA sA (.slice (some ⟨gm6, 0, none⟩) mA.length cm6))) rfl (by kernel_rfl) (by kernel_rfl) (by kernel_rfl) (fun _ _ _ h => h) (Or.inl ⟨by rfl, fun w hSw => (by exact run_loadMid _ _ rfl g6 0 rfl _ (bk_head hSw.x) _ Tryz.underlying44 rfl (hA_info _ _ _ _ _))⟩) hH5 ?_
        try simp only [Act.put, List.setIfInBounds_toArray, List.set_cons_zero, List.set_cons_succ]
        refine wpAnyH_take (i := 3) (oi := ⟨some 183, _, _, _, _, _⟩) (v := .pointer (some ⟨g6, 0, none⟩)) rfl (by kernel_rfl) (by kernel_rfl) (by kernel_rfl) (fun _ _ _ h => h) (Or.inl ⟨by rfl, fun w hSw => by go_simp⟩) hH5 ?_
        try simp only [Act.put, List.setIfInBounds_toArray, List.set_cons_zero, List.set_cons_succ]
        refine wpAnyH_take (i := 4) (oi := ⟨some 184, _, _, _, _, _⟩) (v := .pointer (some ⟨g6, 4, none⟩)) rfl (by kernel_rfl) (by kernel_rfl) (by kernel_rfl) (fun _ _ _ h => h) (Or.inl ⟨by rfl, fun w hSw => by go_simp⟩) hH5 ?_
        try simp only [Act.put, List.setIfInBounds_toArray, List.set_cons_zero, List.set_cons_succ]
        refine wpAnyH_take (i := 5) (oi := ⟨some 185, _, _, _, _, _⟩) (v := .slice (some ⟨gm6, 0, none⟩) mA.length cm6) rfl (by kernel_rfl) (by kernel_rfl) (by kernel_rfl) (fun _ _ _ h => h) (Or.inl ⟨by rfl, fun w hSw => (by exact run_loadCellB _ _ rfl g6 4 rfl _ _ hSw.x _ Tryz.underlying23 rfl _ rfl)⟩) hH5 ?_
        try simp only [Act.put, List.setIfInBounds_toArray, List.set_cons_zero, List.set_cons_succ]
        refine wpAnyH_take (i := 6) (oi := ⟨some 186, _, _, _, _, _⟩) (v := .pointer (some ⟨bs, 0, none⟩)) rfl (by kernel_rfl) (by kernel_rfl) (by kernel_rfl) (fun _ _ _ h => h) (Or.inl ⟨by rfl, fun w hSw => by go_simp⟩) hH5 ?_
        try simp only [Act.put, List.setIfInBounds_toArray, List.set_cons_zero, List.set_cons_succ]
        refine wpAnyH_take (i := 7) (oi := ⟨some 187, _, _, _, _, _⟩) (v := .pointer (some ⟨bt, 0, none⟩)) rfl (by kernel_rfl) (by kernel_rfl) (by kernel_rfl) (fun _ _ _ h => h) (Or.inl ⟨by rfl, fun w hSw => by go_simp⟩) hH5 ?_
        try simp only [Act.put, List.setIfInBounds_toArray, List.set_cons_zero, List.set_cons_succ]
        refine wpAnyH_take (i := 8) (oi := ⟨some 188, _, _, _, _, _⟩) (v := .agg (bk hq pq tq sq (.slice (some ⟨gq, 0, none⟩) mq.length cq) (.slice aq lq.length kq))) rfl (by kernel_rfl) (by kernel_rfl) (by kernel_rfl) (fun _ _ _ h => h) (Or.inl ⟨by rfl, fun w hSw => (by refine run_loadMid _ _ rfl gz 0 rfl _ hSw.z.rangeAll _ Tryz.underlying46 rfl (bk_info _ _ _ _ _ _))⟩) hH5 ?_
        try simp only [Act.put, List.setIfInBounds_toArray, List.set_cons_zero, List.set_cons_succ]
        refine wpAnyH_ready (rs := [2]) (by kernel_rfl) (by simp) ?_
        refine AllReadyH.cons (o := ⟨some 182, .call ⟨.value (.func 20), #[.tmp 181], #[44]⟩, _, _, _, _⟩) rfl (fun K hK => ?_) AllReadyH.nil
        rw [if_pos (by rfl)]
        go_simp
        refine (HHx _ (hIx.below hX5) (hGx.belowSize hX5)).mono ?_
        rintro e c6 ⟨rfl, hc6⟩
        have hH6 := hH5.below hc6
        have hX6 := hX5.trans (hc6.mono hX5.size)
        have hT6 := hT5.below hc6
        have hI6 := hI5.below hc6
        refine hK.out _ _ hH6 (fun _ => ?_)
        clear hK K
        try simp only [Act.put, List.setIfInBounds_toArray, List.set_cons_zero, List.set_cons_succ]
        clear hH0 hH5 hH4 hX5 hT5 hI5 hX4 hT4 hI4 hc5 hc6 HHx
        have hEc := hE1.below hX6
        obtain ⟨mbK, hsK, -⟩ := hEc.st.out
        obtain ⟨qK, htK, -⟩ := hEc.tr
        refine wpAnyH_ready (rs := [9]) (by kernel_rfl) (by simp) ?_
        refine AllReadyH.cons (o := ⟨some 189, .call ⟨.value (.func 28), #[.tmp 182, .const (.int .u64 2), .tmp 185, .tmp 186, .tmp 187, .tmp 188], #[9, 42, 23, 38, 40, 46]⟩, _, _, _, _⟩) rfl (fun K hK => ?_) AllReadyH.nil
        rw [if_pos (by rfl)]
        go_simp
        refine (HCk _ hEc hT6 hI6 (hIx.below hX6)).mono ?_
        rintro e wK hck
        clear HCk
        unfold CkP at hck
        rcases hck with ⟨hr, rfl, hEK, h2K⟩ | ⟨hr, er, her, rfl, hBK⟩
        · have hHk : S3 gz g8 g6 (bk hq pq tq sq (.slice (some ⟨gq, 0, none⟩) mq.length cq) (.slice aq lq.length kq)) (bk 2 pv tB sB (.slice (some ⟨gm8, 0, none⟩) mB.length cm8) (.slice a8 ly.length cap8)) (bk 1 zr tA sA (.slice (some ⟨gm6, 0, none⟩) mA.length cm6) (.slice a6 lx.length cap6)) wK := ⟨(hH6.z).two h2K ((hH6.z).neT hsK (by decide)) ((hH6.z).neT (Blk.of_sh htK) (by decide)), (hH6.y).two h2K ((hH6.y).neT hsK (by decide)) ((hH6.y).neT (Blk.of_sh htK) (by decide)), (hH6.x).two h2K ((hH6.x).neT hsK (by decide)) ((hH6.x).neT (Blk.of_sh htK) (by decide))⟩
          have hTk := hT6.two h2K hEc
          have hE2k := (hE2x.below hX6).apart hEc h2K hne1.symm hne2.symm
          have hBx := hBn.trans (hX6.mono hBn.size)
          have hBk := hBx.trans (h2K.to_below hl1 hz6 hBx.size)
          refine hK.out _ _ hHk (fun _ => ?_)
          clear hK K
          try simp only [Act.put, List.setIfInBounds_toArray, List.set_cons_zero, List.set_cons_succ]
          refine wpAnyH_take (i := 10) (oi := ⟨some 24, _, _, _, _, _⟩) (v := .int .i64 0) rfl (by kernel_rfl) (by kernel_rfl) (by kernel_rfl) (fun _ _ _ h => h) (Or.inl ⟨by rfl, fun w hSw => by go_simp⟩) hHk ?_
          try simp only [Act.put, List.setIfInBounds_toArray, List.set_cons_zero, List.set_cons_succ]
          refine wpAnyH_done (by kernel_rfl) ?_ _
          try simp only [Act.put]
          go_simp
          clear hH6 hT6 hI6 hX6 h2K hEc hsK htK hBx hBn
          rcases hway with ⟨hc, e1, e2⟩ | ⟨hc, ho, hnr⟩ | ⟨hc, ho, hok6, hl6, hrt⟩
          · clear hch
            subst hc
            replace e2 := e2.symm
            subst e2
            go_upto_region 34 with fail
            have hkd : Below wK.heap.size wK wK.drew := ((Below.refl _ _).drew)
            have hH7 := hHk.below hkd
            replace hTk := hTk.below hkd
            replace hBk := hBk.trans (hkd.mono hBk.size)
            have hEK2 := hEK.below hkd
            replace hE2k := hE2k.below hkd
            clear hkd
            refine wp_region_held_drew (S := S3 gz g8 g6 (bk hq pq tq sq (.slice (some ⟨gq, 0, none⟩) mq.length cq) (.slice aq ly.length kq)) (bk 2 pv tB sB (.slice (some ⟨gm8, 0, none⟩) mB.length cm8) (.slice a8 ly.length cap8)) (bk 1 zr tA sA (.slice (some ⟨gm6, 0, none⟩) mA.length cm6) (.slice a6 lx.length cap6))) (by kernel_rfl) hH7 (fun hH7 => ?_)
            refine wpAnyH_take (i := 0) (oi := ⟨some 190, _, _, _, _, _⟩) (v := .bool false) rfl (by kernel_rfl) (by kernel_rfl) (by kernel_rfl) (fun _ _ _ h => h) (Or.inl ⟨by rfl, fun w hSw => by go_simp⟩) hH7 ?_
            try simp only [Act.put, List.setIfInBounds_toArray, List.set_cons_zero, List.set_cons_succ]
            refine wpAnyH_take (i := 1) (oi := ⟨some 191, _, _, _, _, _⟩) (v := .bool false) rfl (by kernel_rfl) (by kernel_rfl) (by kernel_rfl) (fun _ _ _ h => h) (Or.inl ⟨by rfl, fun w hSw => by go_simp⟩) hH7 ?_
            try simp only [Act.put, List.setIfInBounds_toArray, List.set_cons_zero, List.set_cons_succ]
            refine wpAnyH_take (i := 2) (oi := ⟨some 192, _, _, _, _, _⟩) (v := undef) rfl (by kernel_rfl) (by kernel_rfl) (by kernel_rfl) (fun _ _ _ h => h) (Or.inr ⟨by rfl, rfl⟩) hH7 ?_
            try simp only [Act.put, List.setIfInBounds_toArray, List.set_cons_zero, List.set_cons_succ]
            refine wpAnyH_take (i := 3) (oi := ⟨some 193, _, _, _, _, _⟩) (v := undef) rfl (by kernel_rfl) (by kernel_rfl) (by kernel_rfl) (fun _ _ _ h => h) (Or.inr ⟨by rfl, rfl⟩) hH7 ?_
            try simp only [Act.put, List.setIfInBounds_toArray, List.set_cons_zero, List.set_cons_succ]
            refine wpAnyH_take (i := 4) (oi := ⟨some 194, _, _, _, _, _⟩) (v := undef) rfl (by kernel_rfl) (by kernel_rfl) (by kernel_rfl) (fun _ _ _ h => h) (Or.inr ⟨by rfl, rfl⟩) hH7 ?_
            try simp only [Act.put, List.setIfInBounds_toArray, List.set_cons_zero, List.set_cons_succ]
            refine wpAnyH_take (i := 5) (oi := ⟨some 195, _, _, _, _, _⟩) (v := .bool false) rfl (by kernel_rfl) (by kernel_rfl) (by kernel_rfl) (fun _ _ _ h => h) (Or.inl ⟨by rfl, fun w hSw => by go_simp⟩) hH7 ?_
            try simp only [Act.put, List.setIfInBounds_toArray, List.set_cons_zero, List.set_cons_succ]
            refine wpAnyH_take (i := 6) (oi := ⟨some 196, _, _, _, _, _⟩) (v := .bool false) rfl (by kernel_rfl) (by kernel_rfl) (by kernel_rfl) (fun _ _ _ h => h) (Or.inl ⟨by rfl, fun w hSw => by go_simp⟩) hH7 ?_
            try simp only [Act.put, List.setIfInBounds_toArray, List.set_cons_zero, List.set_cons_succ]
            refine wpAnyH_take (i := 7) (oi := ⟨some 197, _, _, _, _, _⟩) (v := undef) rfl (by kernel_rfl) (by kernel_rfl) (by kernel_rfl) (fun _ _ _ h => h) (Or.inr ⟨by rfl, rfl⟩) hH7 ?_
            try simp only [Act.put, List.setIfInBounds_toArray, List.set_cons_zero, List.set_cons_succ]
            refine wpAnyH_take (i := 8) (oi := ⟨some 198, _, _, _, _, _⟩) (v := undef) rfl (by kernel_rfl) (by kernel_rfl) (by kernel_rfl) (fun _ _ _ h => h) (Or.inr ⟨by rfl, rfl⟩) hH7 ?_
            try simp only [Act.put, List.setIfInBounds_toArray, List.set_cons_zero, List.set_cons_succ]
            refine wpAnyH_take (i := 9) (oi := ⟨some 199, _, _, _, _, _⟩) (v := undef) rfl (by kernel_rfl) (by kernel_rfl) (by kernel_rfl) (fun _ _ _ h => h) (Or.inr ⟨by rfl, rfl⟩) hH7 ?_
            try simp only [Act.put, List.setIfInBounds_toArray, List.set_cons_zero, List.set_cons_succ]
            refine wpAnyH_take (i := 10) (oi := ⟨some 200, _, _, _, _, _⟩) (v := undef) rfl (by kernel_rfl) (by kernel_rfl) (by kernel_rfl) (fun _ _ _ h => h) (Or.inr ⟨by rfl, rfl⟩) hH7 ?_
            try simp only [Act.put, List.setIfInBounds_toArray, List.set_cons_zero, List.set_cons_succ]
            refine wpAnyH_take (i := 11) (oi := ⟨some 201, _, _, _, _, _⟩) (v := undef) rfl (by kernel_rfl) (by kernel_rfl) (by kernel_rfl) (fun _ _ _ h => h) (Or.inr ⟨by rfl, rfl⟩) hH7 ?_
            try simp only [Act.put, List.setIfInBounds_toArray, List.set_cons_zero, List.set_cons_succ]
            refine wpAnyH_take (i := 12) (oi := ⟨some 202, _, _, _, _, _⟩) (v := undef) rfl (by kernel_rfl) (by kernel_rfl) (by kernel_rfl) (fun _ _ _ h => h) (Or.inr ⟨by rfl, rfl⟩) hH7 ?_
            try simp only [Act.put, List.setIfInBounds_toArray, List.set_cons_zero, List.set_cons_succ]
            refine wpAnyH_take (i := 13) (oi := ⟨some 203, _, _, _, _, _⟩) (v := undef) rfl (by kernel_rfl) (by kernel_rfl) (by kernel_rfl) (fun _ _ _ h => h) (Or.inr ⟨by rfl, rfl⟩) hH7 ?_
            try simp only [Act.put, List.setIfInBounds_toArray, List.set_cons_zero, List.set_cons_succ]
            refine wpAnyH_take (i := 14) (oi := ⟨some 204, _, _, _, _, _⟩) (v := undef) rfl (by kernel_rfl) (by kernel_rfl) (by kernel_rfl) (fun _ _ _ h => h) (Or.inr ⟨by rfl, rfl⟩) hH7 ?_
            try simp only [Act.put, List.setIfInBounds_toArray, List.set_cons_zero, List.set_cons_succ]
            refine wpAnyH_take (i := 15) (oi := ⟨some 205, _, _, _, _, _⟩) (v := .bool false) rfl (by kernel_rfl) (by kernel_rfl) (by kernel_rfl) (fun _ _ _ h => h) (Or.inl ⟨by rfl, fun w hSw => by go_simp⟩) hH7 ?_
            try simp only [Act.put, List.setIfInBounds_toArray, List.set_cons_zero, List.set_cons_succ]
            refine wpAnyH_done (by kernel_rfl) ?_ _
            try simp only [Act.put]
            go_simp
            go_upto_region 38 with fail
            have hkd : Below wK.drew.heap.size wK.drew wK.drew.drew := ((Below.refl _ _).drew)
            have hH8 := hH7.below hkd
            replace hEK2 := hEK2.below hkd
            replace hE2k := hE2k.below hkd
            replace hBk := hBk.trans (hkd.mono hBk.size)
            clear hkd
            rw [hag1, hag2] at hEK2
            refine wp_region_held_drew (S := S3 gz g8 g6 (bk hq pq tq sq (.slice (some ⟨gq, 0, none⟩) mq.length cq) (.slice aq ly.length kq)) (bk 2 pv tB sB (.slice (some ⟨gm8, 0, none⟩) mB.length cm8) (.slice a8 ly.length cap8)) (bk 1 zr tA sA (.slice (some ⟨gm6, 0, none⟩) mA.length cm6) (.slice a6 lx.length cap6))) (by kernel_rfl) hH8 (fun hH8 => ?_)
            refine wpAnyH_take (i := 0) (oi := ⟨some 221, _, _, _, _, _⟩) (v := .int .i64 0) rfl (by kernel_rfl) (by kernel_rfl) (by kernel_rfl) (fun _ _ _ h => h) (Or.inl ⟨by rfl, fun w hSw => by go_simp⟩) hH8 ?_
            try simp only [Act.put, List.setIfInBounds_toArray, List.set_cons_zero, List.set_cons_succ]
            refine wpAnyH_take (i := 1) (oi := ⟨some 222, _, _, _, _, _⟩) (v := .bool true) rfl (by kernel_rfl) (by kernel_rfl) (by kernel_rfl) (fun _ _ _ h => h) (Or.inl ⟨by rfl, fun w hSw => by go_simp⟩) hH8 ?_
            try simp only [Act.put, List.setIfInBounds_toArray, List.set_cons_zero, List.set_cons_succ]
            refine wpAnyH_take (i := 2) (oi := ⟨some 223, _, _, _, _, _⟩) (v := .bool true) rfl (by kernel_rfl) (by kernel_rfl) (by kernel_rfl) (fun _ _ _ h => h) (Or.inl ⟨by rfl, fun w hSw => by go_simp⟩) hH8 ?_
            try simp only [Act.put, List.setIfInBounds_toArray, List.set_cons_zero, List.set_cons_succ]
            refine wpAnyH_take (i := 3) (oi := ⟨some 224, _, _, _, _, _⟩) (v := .pointer (some ⟨bs, 0, none⟩)) rfl (by kernel_rfl) (by kernel_rfl) (by kernel_rfl) (fun _ _ _ h => h) (Or.inl ⟨by rfl, fun w hSw => by go_simp⟩) hH8 ?_
            try simp only [Act.put, List.setIfInBounds_toArray, List.set_cons_zero, List.set_cons_succ]
            refine wpAnyH_take (i := 5) (oi := ⟨some 226, _, _, _, _, _⟩) (v := .pointer (some ⟨bu, 0, none⟩)) rfl (by kernel_rfl) (by kernel_rfl) (by kernel_rfl) (fun _ _ _ h => h) (Or.inl ⟨by rfl, fun w hSw => by go_simp⟩) hH8 ?_
            try simp only [Act.put, List.setIfInBounds_toArray, List.set_cons_zero, List.set_cons_succ]
            refine wpAnyH_ready (rs := [4]) (by kernel_rfl) (by simp) ?_
            refine AllReadyH.cons (o := ⟨some 225, .call ⟨.value (.func 23), #[.tmp 224], #[38]⟩, _, _, _, _⟩) rfl (fun K hK => ?_) AllReadyH.nil
            rw [if_pos (by rfl)]
            go_simp
            refine (encode_st bs S2 _ hEK2.st (Nat.le_trans hSz2.len (by decide)) hSz2.sml).mono ?_
            rintro e j1 ⟨rfl, hj1⟩
            have hH9 := hH8.below hj1
            replace hBk := hBk.trans (hj1.mono hBk.size)
            replace hEK2 := hEK2.below hj1
            replace hE2k := hE2k.below hj1
            refine hK.out _ _ hH9 (fun _ => ?_)
            clear hK K
            try simp only [Act.put, List.setIfInBounds_toArray, List.set_cons_zero, List.set_cons_succ]
            refine wpAnyH_ready (rs := [6]) (by kernel_rfl) (by simp) ?_
            refine AllReadyH.cons (o := ⟨some 227, .call ⟨.value (.func 23), #[.tmp 226], #[38]⟩, _, _, _, _⟩) rfl (fun K hK => ?_) AllReadyH.nil
            rw [if_pos (by rfl)]
            go_simp
            refine (encode_st bu S2 _ hE2k.st (Nat.le_trans hSz2.len (by decide)) hSz2.sml).mono ?_
            rintro e j2 ⟨rfl, hj2⟩
            have hH10 := hH9.below hj2
            replace hBk := hBk.trans (hj2.mono hBk.size)
            replace hEK2 := hEK2.below hj2
            replace hE2k := hE2k.below hj2
            refine hK.out _ _ hH10 (fun _ => ?_)
            clear hK K
            try simp only [Act.put, List.setIfInBounds_toArray, List.set_cons_zero, List.set_cons_succ]
            refine wpAnyH_take (i := 7) (oi := ⟨some 228, _, _, _, _, _⟩) (v := .bool true) rfl (by kernel_rfl) (by kernel_rfl) (by kernel_rfl) (fun _ _ _ h => h) (Or.inl ⟨by rfl, fun w hSw => (by exact (run_eqlS rfl rfl rfl).trans (by rw [decide_eq_true rfl]))⟩) hH10 ?_
            try simp only [Act.put, List.setIfInBounds_toArray, List.set_cons_zero, List.set_cons_succ]
            refine wpAnyH_take (i := 8) (oi := ⟨some 229, _, _, _, _, _⟩) (v := .bool true) rfl (by kernel_rfl) (by kernel_rfl) (by kernel_rfl) (fun _ _ _ h => h) (Or.inl ⟨by rfl, fun w hSw => by go_simp⟩) hH10 ?_
            try simp only [Act.put, List.setIfInBounds_toArray, List.set_cons_zero, List.set_cons_succ]
            refine wpAnyH_take (i := 9) (oi := ⟨some 230, _, _, _, _, _⟩) (v := .bool true) rfl (by kernel_rfl) (by kernel_rfl) (by kernel_rfl) (fun _ _ _ h => h) (Or.inl ⟨by rfl, fun w hSw => by go_simp⟩) hH10 ?_
            try simp only [Act.put, List.setIfInBounds_toArray, List.set_cons_zero, List.set_cons_succ]
            refine wpAnyH_take (i := 10) (oi := ⟨some 231, _, _, _, _, _⟩) (v := .pointer (some ⟨bt, 0, none⟩)) rfl (by kernel_rfl) (by kernel_rfl) (by kernel_rfl) (fun _ _ _ h => h) (Or.inl ⟨by rfl, fun w hSw => by go_simp⟩) hH10 ?_
            try simp only [Act.put, List.setIfInBounds_toArray, List.set_cons_zero, List.set_cons_succ]
            refine wpAnyH_take (i := 12) (oi := ⟨some 233, _, _, _, _, _⟩) (v := .pointer (some ⟨g8, 0, none⟩)) rfl (by kernel_rfl) (by kernel_rfl) (by kernel_rfl) (fun _ _ _ h => h) (Or.inl ⟨by rfl, fun w hSw => by go_simp⟩) hH10 ?_
            try simp only [Act.put, List.setIfInBounds_toArray, List.set_cons_zero, List.set_cons_succ]
            refine wpAnyH_take (i := 13) (oi := ⟨some 234, _, _, _, _, _⟩) (v := .pointer (some ⟨g8, 3, none⟩)) rfl (by kernel_rfl) (by kernel_rfl) (by kernel_rfl) (fun _ _ _ h => h) (Or.inl ⟨by rfl, fun w hSw => by go_simp⟩) hH10 ?_
            try simp only [Act.put, List.setIfInBounds_toArray, List.set_cons_zero, List.set_cons_succ]
            refine wpAnyH_take (i := 14) (oi := ⟨some 235, _, _, _, _, _⟩) (v := .string ⟨sB.toArray⟩) rfl (by kernel_rfl) (by kernel_rfl) (by kernel_rfl) (fun _ _ _ h => h) (Or.inl ⟨by rfl, fun w hSw => (by exact run_loadCellB _ _ rfl g8 3 rfl _ _ hSw.y _ Tryz.underlying9 rfl _ rfl)⟩) hH10 ?_
            try simp only [Act.put, List.setIfInBounds_toArray, List.set_cons_zero, List.set_cons_succ]
            obtain ⟨qR, hqR1, hqR2⟩ := hEK2.tr
            have HR2 := Sh.troot_any bt qR R2 _ hqR1 hqR2
            rw [hsE.out] at HR2
            refine wpAnyH_ready (rs := [11]) (by kernel_rfl) (by simp) ?_
            refine AllReadyH.cons (o := ⟨some 232, .call ⟨.value (.func 24), #[.tmp 231], #[40]⟩, _, _, _, _⟩) rfl (fun K hK => ?_) AllReadyH.nil
            rw [if_pos (by rfl)]
            go_simp
            refine (HR2).mono ?_
            rintro e j3 ⟨rfl, hj3⟩
            have hH11 := hH10.below hj3
            replace hBk := hBk.trans (hj3.mono hBk.size)
            refine hK.out _ _ hH11 (fun _ => ?_)
            clear hK K
            try simp only [Act.put, List.setIfInBounds_toArray, List.set_cons_zero, List.set_cons_succ]
            refine wpAnyH_take (i := 15) (oi := ⟨some 236, _, _, _, _, _⟩) (v := .bool true) rfl (by kernel_rfl) (by kernel_rfl) (by kernel_rfl) (fun _ _ _ h => h) (Or.inl ⟨by rfl, fun w hSw => (by exact (run_eqlS rfl rfl rfl).trans (by rw [decide_eq_true rfl]))⟩) hH11 ?_
            try simp only [Act.put, List.setIfInBounds_toArray, List.set_cons_zero, List.set_cons_succ]
            refine wpAnyH_take (i := 16) (oi := ⟨some 237, _, _, _, _, _⟩) (v := .bool true) rfl (by kernel_rfl) (by kernel_rfl) (by kernel_rfl) (fun _ _ _ h => h) (Or.inl ⟨by rfl, fun w hSw => by go_simp⟩) hH11 ?_
            try simp only [Act.put, List.setIfInBounds_toArray, List.set_cons_zero, List.set_cons_succ]
            refine wpAnyH_take (i := 17) (oi := ⟨some 6, _, _, _, _, _⟩) (v := .bool true) rfl (by kernel_rfl) (by kernel_rfl) (by kernel_rfl) (fun _ _ _ h => h) (Or.inl ⟨by rfl, fun w hSw => by go_simp⟩) hH11 ?_
            try simp only [Act.put, List.setIfInBounds_toArray, List.set_cons_zero, List.set_cons_succ]
            refine wpAnyH_done (by kernel_rfl) ?_ _
            try simp only [Act.put]
            go_simp
            go_wp2_with fail
            go_ret
            exact ⟨rfl, hBk⟩
          · exact absurd hr hnr
          · by_cases hrr : rootD Sh.digest (bys lq) = tq
            · clear hch
              subst hc
              go_upto_region 34 with fail
              have hkd : Below wK.heap.size wK wK.drew := ((Below.refl _ _).drew)
              have hH7 := hHk.below hkd
              replace hTk := hTk.below hkd
              replace hBk := hBk.trans (hkd.mono hBk.size)
              clear hkd
              refine wp_region_held_drew (S := S3 gz g8 g6 (bk hq pq tq sq (.slice (some ⟨gq, 0, none⟩) mq.length cq) (.slice aq lq.length kq)) (bk 2 pv tB sB (.slice (some ⟨gm8, 0, none⟩) mB.length cm8) (.slice a8 ly.length cap8)) (bk 1 zr tA sA (.slice (some ⟨gm6, 0, none⟩) mA.length cm6) (.slice a6 lx.length cap6))) (by kernel_rfl) hH7 (fun hH7 => ?_)
              refine wpAnyH_take (i := 0) (oi := ⟨some 190, _, _, _, _, _⟩) (v := .bool true) rfl (by kernel_rfl) (by kernel_rfl) (by kernel_rfl) (fun _ _ _ h => h) (Or.inl ⟨by rfl, fun w hSw => by go_simp⟩) hH7 ?_
              try simp only [Act.put, List.setIfInBounds_toArray, List.set_cons_zero, List.set_cons_succ]
              refine wpAnyH_take (i := 1) (oi := ⟨some 191, _, _, _, _, _⟩) (v := .bool true) rfl (by kernel_rfl) (by kernel_rfl) (by kernel_rfl) (fun _ _ _ h => h) (Or.inl ⟨by rfl, fun w hSw => by go_simp⟩) hH7 ?_
              try simp only [Act.put, List.setIfInBounds_toArray, List.set_cons_zero, List.set_cons_succ]
              refine wpAnyH_take (i := 2) (oi := ⟨some 192, _, _, _, _, _⟩) (v := .int .i64 z2) rfl (by kernel_rfl) (by kernel_rfl) (by kernel_rfl) (fun _ _ _ h => h) (Or.inl ⟨by rfl, fun w hSw => by go_simp⟩) hH7 ?_
              try simp only [Act.put, List.setIfInBounds_toArray, List.set_cons_zero, List.set_cons_succ]
              refine wpAnyH_take (i := 3) (oi := ⟨some 193, _, _, _, _, _⟩) (v := .int .i64 (z2.tmod 7)) rfl (by kernel_rfl) (by kernel_rfl) (by kernel_rfl) (fun _ _ _ h => h) (Or.inl ⟨by rfl, fun w hSw => (by exact run_rem7 rfl rfl rfl)⟩) hH7 ?_
              try simp only [Act.put, List.setIfInBounds_toArray, List.set_cons_zero, List.set_cons_succ]
              refine wpAnyH_take (i := 4) (oi := ⟨some 194, _, _, _, _, _⟩) (v := .bool true) rfl (by kernel_rfl) (by kernel_rfl) (by kernel_rfl) (fun _ _ _ h => h) (Or.inl ⟨by rfl, fun w hSw => (by exact (run_eql6 rfl rfl rfl).trans (by rw [decide_eq_true ho]))⟩) hH7 ?_
              try simp only [Act.put, List.setIfInBounds_toArray, List.set_cons_zero, List.set_cons_succ]
              refine wpAnyH_take (i := 5) (oi := ⟨some 195, _, _, _, _, _⟩) (v := .bool true) rfl (by kernel_rfl) (by kernel_rfl) (by kernel_rfl) (fun _ _ _ h => h) (Or.inl ⟨by rfl, fun w hSw => by go_simp⟩) hH7 ?_
              try simp only [Act.put, List.setIfInBounds_toArray, List.set_cons_zero, List.set_cons_succ]
              refine wpAnyH_take (i := 6) (oi := ⟨some 196, _, _, _, _, _⟩) (v := .bool true) rfl (by kernel_rfl) (by kernel_rfl) (by kernel_rfl) (fun _ _ _ h => h) (Or.inl ⟨by rfl, fun w hSw => by go_simp⟩) hH7 ?_
              try simp only [Act.put, List.setIfInBounds_toArray, List.set_cons_zero, List.set_cons_succ]
              refine wpAnyH_take (i := 7) (oi := ⟨some 197, _, _, _, _, _⟩) (v := .agg (bk hq pq tq sq (.slice (some ⟨gq, 0, none⟩) mq.length cq) (.slice aq lq.length kq))) rfl (by kernel_rfl) (by kernel_rfl) (by kernel_rfl) (fun _ _ _ h => h) (Or.inl ⟨by rfl, fun w hSw => (by refine run_loadMid _ _ rfl gz 0 rfl _ hSw.z.rangeAll _ Tryz.underlying46 rfl (bk_info _ _ _ _ _ _))⟩) hH7 ?_
              try simp only [Act.put, List.setIfInBounds_toArray, List.set_cons_zero, List.set_cons_succ]
              refine wpAnyH_take (i := 11) (oi := ⟨some 201, _, _, _, _, _⟩) (v := .pointer (some ⟨gz, 0, none⟩)) rfl (by kernel_rfl) (by kernel_rfl) (by kernel_rfl) (fun _ _ _ h => h) (Or.inl ⟨by rfl, fun w hSw => by go_simp⟩) hH7 ?_
              try simp only [Act.put, List.setIfInBounds_toArray, List.set_cons_zero, List.set_cons_succ]
              refine wpAnyH_take (i := 12) (oi := ⟨some 202, _, _, _, _, _⟩) (v := .pointer (some ⟨gz, 2, none⟩)) rfl (by kernel_rfl) (by kernel_rfl) (by kernel_rfl) (fun _ _ _ h => h) (Or.inl ⟨by rfl, fun w hSw => by go_simp⟩) hH7 ?_
              try simp only [Act.put, List.setIfInBounds_toArray, List.set_cons_zero, List.set_cons_succ]
              refine wpAnyH_take (i := 13) (oi := ⟨some 203, _, _, _, _, _⟩) (v := .string ⟨tq.toArray⟩) rfl (by kernel_rfl) (by kernel_rfl) (by kernel_rfl) (fun _ _ _ h => h) (Or.inl ⟨by rfl, fun w hSw => (by exact run_loadCellB _ _ rfl gz 2 rfl _ _ hSw.z _ Tryz.underlying9 rfl _ rfl)⟩) hH7 ?_
              try simp only [Act.put, List.setIfInBounds_toArray, List.set_cons_zero, List.set_cons_succ]
              refine wpAnyH_ready (rs := [8]) (by kernel_rfl) (by simp) ?_
              refine AllReadyH.cons (o := ⟨some 198, .call ⟨.value (.func 27), #[.tmp 197], #[46]⟩, _, _, _, _⟩) rfl (fun K hK => ?_) AllReadyH.nil
              rw [if_pos (by rfl)]
              go_simp
              refine (HBz _ hTk).mono ?_
              rintro e k1 ⟨xq, xqc, rfl, hXq, hk1⟩
              have hH8 := hH7.below hk1
              replace hBk := hBk.trans (hk1.mono hBk.size)
              refine hK.out _ _ hH8 (fun _ => ?_)
              clear hK K
              try simp only [Act.put, List.setIfInBounds_toArray, List.set_cons_zero, List.set_cons_succ]
              refine wpAnyH_take (i := 9) (oi := ⟨some 199, _, _, _, _, _⟩) (v := .slice xq lq.length xqc) rfl (by kernel_rfl) (by kernel_rfl) (by kernel_rfl) (fun _ _ _ h => h) (Or.inl ⟨by rfl, fun w hSw => (by exact run_fieldRBk rfl rfl)⟩) hH8 ?_
              try simp only [Act.put, List.setIfInBounds_toArray, List.set_cons_zero, List.set_cons_succ]
              refine wpAnyH_ready (rs := [10]) (by kernel_rfl) (by simp) ?_
              refine AllReadyH.cons (o := ⟨some 200, .call ⟨.value (.func 29), #[.tmp 199], #[33]⟩, _, _, _, _⟩) rfl (fun K hK => ?_) AllReadyH.nil
              rw [if_pos (by rfl)]
              go_simp
              refine (rtxRoot_any lq hok6 hl6 xq xqc _ hXq).mono ?_
              rintro e k2 ⟨rfl, hk2⟩
              have hH9 := hH8.below hk2
              replace hBk := hBk.trans (hk2.mono hBk.size)
              refine hK.out _ _ hH9 (fun _ => ?_)
              clear hK K
              try simp only [Act.put, List.setIfInBounds_toArray, List.set_cons_zero, List.set_cons_succ]
              refine wpAnyH_take (i := 14) (oi := ⟨some 204, _, _, _, _, _⟩) (v := .bool true) rfl (by kernel_rfl) (by kernel_rfl) (by kernel_rfl) (fun _ _ _ h => h) (Or.inl ⟨by rfl, fun w hSw => (by exact (run_eqlS rfl rfl rfl).trans (by rw [decide_eq_true hrr]))⟩) hH9 ?_
              try simp only [Act.put, List.setIfInBounds_toArray, List.set_cons_zero, List.set_cons_succ]
              refine wpAnyH_take (i := 15) (oi := ⟨some 205, _, _, _, _, _⟩) (v := .bool true) rfl (by kernel_rfl) (by kernel_rfl) (by kernel_rfl) (fun _ _ _ h => h) (Or.inl ⟨by rfl, fun w hSw => by go_simp⟩) hH9 ?_
              try simp only [Act.put, List.setIfInBounds_toArray, List.set_cons_zero, List.set_cons_succ]
              refine wpAnyH_done (by kernel_rfl) ?_ _
              try simp only [Act.put]
              go_simp
              go_wp2_with fail
              go_ret
              exact ⟨rfl, hBk⟩
            · exact absurd hr (hrt hrr)
        · have hHk := hH6.below hBK
          have hTk := hT6.below hBK
          have hXk := hX6.trans (hBK.mono hX6.size)
          have hBk := hBn.trans (hXk.mono hBn.size)
          refine hK.out _ _ hHk (fun _ => ?_)
          clear hK K
          try simp only [Act.put, List.setIfInBounds_toArray, List.set_cons_zero, List.set_cons_succ]
          refine wpAnyH_take (i := 10) (oi := ⟨some 24, _, _, _, _, _⟩) (v := .int .i64 er) rfl (by kernel_rfl) (by kernel_rfl) (by kernel_rfl) (fun _ _ _ h => h) (Or.inl ⟨by rfl, fun w hSw => by go_simp⟩) hHk ?_
          try simp only [Act.put, List.setIfInBounds_toArray, List.set_cons_zero, List.set_cons_succ]
          refine wpAnyH_done (by kernel_rfl) ?_ _
          try simp only [Act.put]
          go_simp
          clear hH6 hT6 hI6 hX6 hBK hEc hsK htK hBn
          rcases hway with ⟨hc, e1, e2⟩ | ⟨hc, ho, hnr⟩ | ⟨hc, ho, hok6, hl6, hrt⟩
          · exact absurd (by rw [e1, e2]; exact hYk.right) hr
          · clear hch
            subst hc
            go_upto_region 34 with fail
            have hkd : Below wK.heap.size wK wK.drew := ((Below.refl _ _).drew)
            have hH7 := hHk.below hkd
            replace hTk := hTk.below hkd
            replace hBk := hBk.trans (hkd.mono hBk.size)
            replace hXk := hXk.trans (hkd.mono hXk.size)
            clear hkd
            refine wp_region_held_drew (S := S3 gz g8 g6 (bk hq pq tq sq (.slice (some ⟨gq, 0, none⟩) mq.length cq) (.slice aq lq.length kq)) (bk 2 pv tB sB (.slice (some ⟨gm8, 0, none⟩) mB.length cm8) (.slice a8 ly.length cap8)) (bk 1 zr tA sA (.slice (some ⟨gm6, 0, none⟩) mA.length cm6) (.slice a6 lx.length cap6))) (by kernel_rfl) hH7 (fun hH7 => ?_)
            refine wpAnyH_take (i := 0) (oi := ⟨some 190, _, _, _, _, _⟩) (v := .bool true) rfl (by kernel_rfl) (by kernel_rfl) (by kernel_rfl) (fun _ _ _ h => h) (Or.inl ⟨by rfl, fun w hSw => by go_simp⟩) hH7 ?_
            try simp only [Act.put, List.setIfInBounds_toArray, List.set_cons_zero, List.set_cons_succ]
            refine wpAnyH_take (i := 1) (oi := ⟨some 191, _, _, _, _, _⟩) (v := .bool true) rfl (by kernel_rfl) (by kernel_rfl) (by kernel_rfl) (fun _ _ _ h => h) (Or.inl ⟨by rfl, fun w hSw => by go_simp⟩) hH7 ?_
            try simp only [Act.put, List.setIfInBounds_toArray, List.set_cons_zero, List.set_cons_succ]
            refine wpAnyH_take (i := 2) (oi := ⟨some 192, _, _, _, _, _⟩) (v := .int .i64 z2) rfl (by kernel_rfl) (by kernel_rfl) (by kernel_rfl) (fun _ _ _ h => h) (Or.inl ⟨by rfl, fun w hSw => by go_simp⟩) hH7 ?_
            try simp only [Act.put, List.setIfInBounds_toArray, List.set_cons_zero, List.set_cons_succ]
            refine wpAnyH_take (i := 3) (oi := ⟨some 193, _, _, _, _, _⟩) (v := .int .i64 (z2.tmod 7)) rfl (by kernel_rfl) (by kernel_rfl) (by kernel_rfl) (fun _ _ _ h => h) (Or.inl ⟨by rfl, fun w hSw => (by exact run_rem7 rfl rfl rfl)⟩) hH7 ?_
            try simp only [Act.put, List.setIfInBounds_toArray, List.set_cons_zero, List.set_cons_succ]
            refine wpAnyH_take (i := 4) (oi := ⟨some 194, _, _, _, _, _⟩) (v := .bool false) rfl (by kernel_rfl) (by kernel_rfl) (by kernel_rfl) (fun _ _ _ h => h) (Or.inl ⟨by rfl, fun w hSw => (by exact (run_eql6 rfl rfl rfl).trans (by rw [decide_eq_false ho]))⟩) hH7 ?_
            try simp only [Act.put, List.setIfInBounds_toArray, List.set_cons_zero, List.set_cons_succ]
            refine wpAnyH_take (i := 5) (oi := ⟨some 195, _, _, _, _, _⟩) (v := .bool false) rfl (by kernel_rfl) (by kernel_rfl) (by kernel_rfl) (fun _ _ _ h => h) (Or.inl ⟨by rfl, fun w hSw => by go_simp⟩) hH7 ?_
            try simp only [Act.put, List.setIfInBounds_toArray, List.set_cons_zero, List.set_cons_succ]
            refine wpAnyH_take (i := 6) (oi := ⟨some 196, _, _, _, _, _⟩) (v := .bool false) rfl (by kernel_rfl) (by kernel_rfl) (by kernel_rfl) (fun _ _ _ h => h) (Or.inl ⟨by rfl, fun w hSw => by go_simp⟩) hH7 ?_
            try simp only [Act.put, List.setIfInBounds_toArray, List.set_cons_zero, List.set_cons_succ]
            refine wpAnyH_take (i := 7) (oi := ⟨some 197, _, _, _, _, _⟩) (v := undef) rfl (by kernel_rfl) (by kernel_rfl) (by kernel_rfl) (fun _ _ _ h => h) (Or.inr ⟨by rfl, rfl⟩) hH7 ?_
            try simp only [Act.put, List.setIfInBounds_toArray, List.set_cons_zero, List.set_cons_succ]
            refine wpAnyH_take (i := 8) (oi := ⟨some 198, _, _, _, _, _⟩) (v := undef) rfl (by kernel_rfl) (by kernel_rfl) (by kernel_rfl) (fun _ _ _ h => h) (Or.inr ⟨by rfl, rfl⟩) hH7 ?_
            try simp only [Act.put, List.setIfInBounds_toArray, List.set_cons_zero, List.set_cons_succ]
            refine wpAnyH_take (i := 9) (oi := ⟨some 199, _, _, _, _, _⟩) (v := undef) rfl (by kernel_rfl) (by kernel_rfl) (by kernel_rfl) (fun _ _ _ h => h) (Or.inr ⟨by rfl, rfl⟩) hH7 ?_
            try simp only [Act.put, List.setIfInBounds_toArray, List.set_cons_zero, List.set_cons_succ]
            refine wpAnyH_take (i := 10) (oi := ⟨some 200, _, _, _, _, _⟩) (v := undef) rfl (by kernel_rfl) (by kernel_rfl) (by kernel_rfl) (fun _ _ _ h => h) (Or.inr ⟨by rfl, rfl⟩) hH7 ?_
            try simp only [Act.put, List.setIfInBounds_toArray, List.set_cons_zero, List.set_cons_succ]
            refine wpAnyH_take (i := 11) (oi := ⟨some 201, _, _, _, _, _⟩) (v := undef) rfl (by kernel_rfl) (by kernel_rfl) (by kernel_rfl) (fun _ _ _ h => h) (Or.inr ⟨by rfl, rfl⟩) hH7 ?_
            try simp only [Act.put, List.setIfInBounds_toArray, List.set_cons_zero, List.set_cons_succ]
            refine wpAnyH_take (i := 12) (oi := ⟨some 202, _, _, _, _, _⟩) (v := undef) rfl (by kernel_rfl) (by kernel_rfl) (by kernel_rfl) (fun _ _ _ h => h) (Or.inr ⟨by rfl, rfl⟩) hH7 ?_
            try simp only [Act.put, List.setIfInBounds_toArray, List.set_cons_zero, List.set_cons_succ]
            refine wpAnyH_take (i := 13) (oi := ⟨some 203, _, _, _, _, _⟩) (v := undef) rfl (by kernel_rfl) (by kernel_rfl) (by kernel_rfl) (fun _ _ _ h => h) (Or.inr ⟨by rfl, rfl⟩) hH7 ?_
            try simp only [Act.put, List.setIfInBounds_toArray, List.set_cons_zero, List.set_cons_succ]
            refine wpAnyH_take (i := 14) (oi := ⟨some 204, _, _, _, _, _⟩) (v := undef) rfl (by kernel_rfl) (by kernel_rfl) (by kernel_rfl) (fun _ _ _ h => h) (Or.inr ⟨by rfl, rfl⟩) hH7 ?_
            try simp only [Act.put, List.setIfInBounds_toArray, List.set_cons_zero, List.set_cons_succ]
            refine wpAnyH_take (i := 15) (oi := ⟨some 205, _, _, _, _, _⟩) (v := .bool false) rfl (by kernel_rfl) (by kernel_rfl) (by kernel_rfl) (fun _ _ _ h => h) (Or.inl ⟨by rfl, fun w hSw => by go_simp⟩) hH7 ?_
            try simp only [Act.put, List.setIfInBounds_toArray, List.set_cons_zero, List.set_cons_succ]
            refine wpAnyH_done (by kernel_rfl) ?_ _
            try simp only [Act.put]
            go_simp
            have hb1 : (er != 0) = true := by simp [her]
            have hb2 : (er == 0) = false := by simp [her]
            go_wp2_with (first
              | (go_at_call 23; refine (HEn _ hXk).mono ?_; rintro e m4 ⟨rfl, hm4⟩; replace hXk := hXk.trans (hm4.mono hXk.size); replace hBk := hBk.trans (hm4.mono hBk.size); clear hm4)
              | (go_at_call 24; refine (HRt _ hXk).mono ?_; rintro e m5 ⟨rfl, hm5⟩; replace hBk := hBk.trans (hm5.mono hBk.size); clear hm5))
            go_ret
            exact ⟨rfl, hBk⟩
          · by_cases hrr : rootD Sh.digest (bys lq) = tq
            · clear hch
              subst hc
              go_upto_region 34 with fail
              have hkd : Below wK.heap.size wK wK.drew := ((Below.refl _ _).drew)
              have hH7 := hHk.below hkd
              replace hTk := hTk.below hkd
              replace hBk := hBk.trans (hkd.mono hBk.size)
              replace hXk := hXk.trans (hkd.mono hXk.size)
              clear hkd
              refine wp_region_held_drew (S := S3 gz g8 g6 (bk hq pq tq sq (.slice (some ⟨gq, 0, none⟩) mq.length cq) (.slice aq lq.length kq)) (bk 2 pv tB sB (.slice (some ⟨gm8, 0, none⟩) mB.length cm8) (.slice a8 ly.length cap8)) (bk 1 zr tA sA (.slice (some ⟨gm6, 0, none⟩) mA.length cm6) (.slice a6 lx.length cap6))) (by kernel_rfl) hH7 (fun hH7 => ?_)
              refine wpAnyH_take (i := 0) (oi := ⟨some 190, _, _, _, _, _⟩) (v := .bool true) rfl (by kernel_rfl) (by kernel_rfl) (by kernel_rfl) (fun _ _ _ h => h) (Or.inl ⟨by rfl, fun w hSw => by go_simp⟩) hH7 ?_
              try simp only [Act.put, List.setIfInBounds_toArray, List.set_cons_zero, List.set_cons_succ]
              refine wpAnyH_take (i := 1) (oi := ⟨some 191, _, _, _, _, _⟩) (v := .bool true) rfl (by kernel_rfl) (by kernel_rfl) (by kernel_rfl) (fun _ _ _ h => h) (Or.inl ⟨by rfl, fun w hSw => by go_simp⟩) hH7 ?_
              try simp only [Act.put, List.setIfInBounds_toArray, List.set_cons_zero, List.set_cons_succ]
              refine wpAnyH_take (i := 2) (oi := ⟨some 192, _, _, _, _, _⟩) (v := .int .i64 z2) rfl (by kernel_rfl) (by kernel_rfl) (by kernel_rfl) (fun _ _ _ h => h) (Or.inl ⟨by rfl, fun w hSw => by go_simp⟩) hH7 ?_
              try simp only [Act.put, List.setIfInBounds_toArray, List.set_cons_zero, List.set_cons_succ]
              refine wpAnyH_take (i := 3) (oi := ⟨some 193, _, _, _, _, _⟩) (v := .int .i64 (z2.tmod 7)) rfl (by kernel_rfl) (by kernel_rfl) (by kernel_rfl) (fun _ _ _ h => h) (Or.inl ⟨by rfl, fun w hSw => (by exact run_rem7 rfl rfl rfl)⟩) hH7 ?_
              try simp only [Act.put, List.setIfInBounds_toArray, List.set_cons_zero, List.set_cons_succ]
              refine wpAnyH_take (i := 4) (oi := ⟨some 194, _, _, _, _, _⟩) (v := .bool true) rfl (by kernel_rfl) (by kernel_rfl) (by kernel_rfl) (fun _ _ _ h => h) (Or.inl ⟨by rfl, fun w hSw => (by exact (run_eql6 rfl rfl rfl).trans (by rw [decide_eq_true ho]))⟩) hH7 ?_
              try simp only [Act.put, List.setIfInBounds_toArray, List.set_cons_zero, List.set_cons_succ]
              refine wpAnyH_take (i := 5) (oi := ⟨some 195, _, _, _, _, _⟩) (v := .bool true) rfl (by kernel_rfl) (by kernel_rfl) (by kernel_rfl) (fun _ _ _ h => h) (Or.inl ⟨by rfl, fun w hSw => by go_simp⟩) hH7 ?_
              try simp only [Act.put, List.setIfInBounds_toArray, List.set_cons_zero, List.set_cons_succ]
              refine wpAnyH_take (i := 6) (oi := ⟨some 196, _, _, _, _, _⟩) (v := .bool true) rfl (by kernel_rfl) (by kernel_rfl) (by kernel_rfl) (fun _ _ _ h => h) (Or.inl ⟨by rfl, fun w hSw => by go_simp⟩) hH7 ?_
              try simp only [Act.put, List.setIfInBounds_toArray, List.set_cons_zero, List.set_cons_succ]
              refine wpAnyH_take (i := 7) (oi := ⟨some 197, _, _, _, _, _⟩) (v := .agg (bk hq pq tq sq (.slice (some ⟨gq, 0, none⟩) mq.length cq) (.slice aq lq.length kq))) rfl (by kernel_rfl) (by kernel_rfl) (by kernel_rfl) (fun _ _ _ h => h) (Or.inl ⟨by rfl, fun w hSw => (by refine run_loadMid _ _ rfl gz 0 rfl _ hSw.z.rangeAll _ Tryz.underlying46 rfl (bk_info _ _ _ _ _ _))⟩) hH7 ?_
              try simp only [Act.put, List.setIfInBounds_toArray, List.set_cons_zero, List.set_cons_succ]
              refine wpAnyH_take (i := 11) (oi := ⟨some 201, _, _, _, _, _⟩) (v := .pointer (some ⟨gz, 0, none⟩)) rfl (by kernel_rfl) (by kernel_rfl) (by kernel_rfl) (fun _ _ _ h => h) (Or.inl ⟨by rfl, fun w hSw => by go_simp⟩) hH7 ?_
              try simp only [Act.put, List.setIfInBounds_toArray, List.set_cons_zero, List.set_cons_succ]
              refine wpAnyH_take (i := 12) (oi := ⟨some 202, _, _, _, _, _⟩) (v := .pointer (some ⟨gz, 2, none⟩)) rfl (by kernel_rfl) (by kernel_rfl) (by kernel_rfl) (fun _ _ _ h => h) (Or.inl ⟨by rfl, fun w hSw => by go_simp⟩) hH7 ?_
              try simp only [Act.put, List.setIfInBounds_toArray, List.set_cons_zero, List.set_cons_succ]
              refine wpAnyH_take (i := 13) (oi := ⟨some 203, _, _, _, _, _⟩) (v := .string ⟨tq.toArray⟩) rfl (by kernel_rfl) (by kernel_rfl) (by kernel_rfl) (fun _ _ _ h => h) (Or.inl ⟨by rfl, fun w hSw => (by exact run_loadCellB _ _ rfl gz 2 rfl _ _ hSw.z _ Tryz.underlying9 rfl _ rfl)⟩) hH7 ?_
              try simp only [Act.put, List.setIfInBounds_toArray, List.set_cons_zero, List.set_cons_succ]
              refine wpAnyH_ready (rs := [8]) (by kernel_rfl) (by simp) ?_
              refine AllReadyH.cons (o := ⟨some 198, .call ⟨.value (.func 27), #[.tmp 197], #[46]⟩, _, _, _, _⟩) rfl (fun K hK => ?_) AllReadyH.nil
              rw [if_pos (by rfl)]
              go_simp
              refine (HBz _ hTk).mono ?_
              rintro e k1 ⟨xq, xqc, rfl, hXq, hk1⟩
              have hH8 := hH7.below hk1
              replace hBk := hBk.trans (hk1.mono hBk.size)
              replace hXk := hXk.trans (hk1.mono hXk.size)
              refine hK.out _ _ hH8 (fun _ => ?_)
              clear hK K
              try simp only [Act.put, List.setIfInBounds_toArray, List.set_cons_zero, List.set_cons_succ]
              refine wpAnyH_take (i := 9) (oi := ⟨some 199, _, _, _, _, _⟩) (v := .slice xq lq.length xqc) rfl (by kernel_rfl) (by kernel_rfl) (by kernel_rfl) (fun _ _ _ h => h) (Or.inl ⟨by rfl, fun w hSw => (by exact run_fieldRBk rfl rfl)⟩) hH8 ?_
              try simp only [Act.put, List.setIfInBounds_toArray, List.set_cons_zero, List.set_cons_succ]
              refine wpAnyH_ready (rs := [10]) (by kernel_rfl) (by simp) ?_
              refine AllReadyH.cons (o := ⟨some 200, .call ⟨.value (.func 29), #[.tmp 199], #[33]⟩, _, _, _, _⟩) rfl (fun K hK => ?_) AllReadyH.nil
              rw [if_pos (by rfl)]
              go_simp
              refine (rtxRoot_any lq hok6 hl6 xq xqc _ hXq).mono ?_
              rintro e k2 ⟨rfl, hk2⟩
              have hH9 := hH8.below hk2
              replace hBk := hBk.trans (hk2.mono hBk.size)
              replace hXk := hXk.trans (hk2.mono hXk.size)
              refine hK.out _ _ hH9 (fun _ => ?_)
              clear hK K
              try simp only [Act.put, List.setIfInBounds_toArray, List.set_cons_zero, List.set_cons_succ]
              refine wpAnyH_take (i := 14) (oi := ⟨some 204, _, _, _, _, _⟩) (v := .bool true) rfl (by kernel_rfl) (by kernel_rfl) (by kernel_rfl) (fun _ _ _ h => h) (Or.inl ⟨by rfl, fun w hSw => (by exact (run_eqlS rfl rfl rfl).trans (by rw [decide_eq_true hrr]))⟩) hH9 ?_
              try simp only [Act.put, List.setIfInBounds_toArray, List.set_cons_zero, List.set_cons_succ]
              refine wpAnyH_take (i := 15) (oi := ⟨some 205, _, _, _, _, _⟩) (v := .bool true) rfl (by kernel_rfl) (by kernel_rfl) (by kernel_rfl) (fun _ _ _ h => h) (Or.inl ⟨by rfl, fun w hSw => by go_simp⟩) hH9 ?_
              try simp only [Act.put, List.setIfInBounds_toArray, List.set_cons_zero, List.set_cons_succ]
              refine wpAnyH_done (by kernel_rfl) ?_ _
              try simp only [Act.put]
              go_simp
              go_wp2_with fail
              go_ret
              exact ⟨rfl, hBk⟩
            · clear hch
              subst hc
              go_upto_region 34 with fail
              have hkd : Below wK.heap.size wK wK.drew := ((Below.refl _ _).drew)
              have hH7 := hHk.below hkd
              replace hTk := hTk.below hkd
              replace hBk := hBk.trans (hkd.mono hBk.size)
              replace hXk := hXk.trans (hkd.mono hXk.size)
              clear hkd
              refine wp_region_held_drew (S := S3 gz g8 g6 (bk hq pq tq sq (.slice (some ⟨gq, 0, none⟩) mq.length cq) (.slice aq lq.length kq)) (bk 2 pv tB sB (.slice (some ⟨gm8, 0, none⟩) mB.length cm8) (.slice a8 ly.length cap8)) (bk 1 zr tA sA (.slice (some ⟨gm6, 0, none⟩) mA.length cm6) (.slice a6 lx.length cap6))) (by kernel_rfl) hH7 (fun hH7 => ?_)
              refine wpAnyH_take (i := 0) (oi := ⟨some 190, _, _, _, _, _⟩) (v := .bool true) rfl (by kernel_rfl) (by kernel_rfl) (by kernel_rfl) (fun _ _ _ h => h) (Or.inl ⟨by rfl, fun w hSw => by go_simp⟩) hH7 ?_
              try simp only [Act.put, List.setIfInBounds_toArray, List.set_cons_zero, List.set_cons_succ]
              refine wpAnyH_take (i := 1) (oi := ⟨some 191, _, _, _, _, _⟩) (v := .bool true) rfl (by kernel_rfl) (by kernel_rfl) (by kernel_rfl) (fun _ _ _ h => h) (Or.inl ⟨by rfl, fun w hSw => by go_simp⟩) hH7 ?_
              try simp only [Act.put, List.setIfInBounds_toArray, List.set_cons_zero, List.set_cons_succ]
              refine wpAnyH_take (i := 2) (oi := ⟨some 192, _, _, _, _, _⟩) (v := .int .i64 z2) rfl (by kernel_rfl) (by kernel_rfl) (by kernel_rfl) (fun _ _ _ h => h) (Or.inl ⟨by rfl, fun w hSw => by go_simp⟩) hH7 ?_
              try simp only [Act.put, List.setIfInBounds_toArray, List.set_cons_zero, List.set_cons_succ]
              refine wpAnyH_take (i := 3) (oi := ⟨some 193, _, _, _, _, _⟩) (v := .int .i64 (z2.tmod 7)) rfl (by kernel_rfl) (by kernel_rfl) (by kernel_rfl) (fun _ _ _ h => h) (Or.inl ⟨by rfl, fun w hSw => (by exact run_rem7 rfl rfl rfl)⟩) hH7 ?_
              try simp only [Act.put, List.setIfInBounds_toArray, List.set_cons_zero, List.set_cons_succ]
              refine wpAnyH_take (i := 4) (oi := ⟨some 194, _, _, _, _, _⟩) (v := .bool true) rfl (by kernel_rfl) (by kernel_rfl) (by kernel_rfl) (fun _ _ _ h => h) (Or.inl ⟨by rfl, fun w hSw => (by exact (run_eql6 rfl rfl rfl).trans (by rw [decide_eq_true ho]))⟩) hH7 ?_
              try simp only [Act.put, List.setIfInBounds_toArray, List.set_cons_zero, List.set_cons_succ]
              refine wpAnyH_take (i := 5) (oi := ⟨some 195, _, _, _, _, _⟩) (v := .bool true) rfl (by kernel_rfl) (by kernel_rfl) (by kernel_rfl) (fun _ _ _ h => h) (Or.inl ⟨by rfl, fun w hSw => by go_simp⟩) hH7 ?_
              try simp only [Act.put, List.setIfInBounds_toArray, List.set_cons_zero, List.set_cons_succ]
              refine wpAnyH_take (i := 6) (oi := ⟨some 196, _, _, _, _, _⟩) (v := .bool true) rfl (by kernel_rfl) (by kernel_rfl) (by kernel_rfl) (fun _ _ _ h => h) (Or.inl ⟨by rfl, fun w hSw => by go_simp⟩) hH7 ?_
              try simp only [Act.put, List.setIfInBounds_toArray, List.set_cons_zero, List.set_cons_succ]
              refine wpAnyH_take (i := 7) (oi := ⟨some 197, _, _, _, _, _⟩) (v := .agg (bk hq pq tq sq (.slice (some ⟨gq, 0, none⟩) mq.length cq) (.slice aq lq.length kq))) rfl (by kernel_rfl) (by kernel_rfl) (by kernel_rfl) (fun _ _ _ h => h) (Or.inl ⟨by rfl, fun w hSw => (by refine run_loadMid _ _ rfl gz 0 rfl _ hSw.z.rangeAll _ Tryz.underlying46 rfl (bk_info _ _ _ _ _ _))⟩) hH7 ?_
              try simp only [Act.put, List.setIfInBounds_toArray, List.set_cons_zero, List.set_cons_succ]
              refine wpAnyH_take (i := 11) (oi := ⟨some 201, _, _, _, _, _⟩) (v := .pointer (some ⟨gz, 0, none⟩)) rfl (by kernel_rfl) (by kernel_rfl) (by kernel_rfl) (fun _ _ _ h => h) (Or.inl ⟨by rfl, fun w hSw => by go_simp⟩) hH7 ?_
              try simp only [Act.put, List.setIfInBounds_toArray, List.set_cons_zero, List.set_cons_succ]
              refine wpAnyH_take (i := 12) (oi := ⟨some 202, _, _, _, _, _⟩) (v := .pointer (some ⟨gz, 2, none⟩)) rfl (by kernel_rfl) (by kernel_rfl) (by kernel_rfl) (fun _ _ _ h => h) (Or.inl ⟨by rfl, fun w hSw => by go_simp⟩) hH7 ?_
              try simp only [Act.put, List.setIfInBounds_toArray, List.set_cons_zero, List.set_cons_succ]
              refine wpAnyH_take (i := 13) (oi := ⟨some 203, _, _, _, _, _⟩) (v := .string ⟨tq.toArray⟩) rfl (by kernel_rfl) (by kernel_rfl) (by kernel_rfl) (fun _ _ _ h => h) (Or.inl ⟨by rfl, fun w hSw => (by exact run_loadCellB _ _ rfl gz 2 rfl _ _ hSw.z _ Tryz.underlying9 rfl _ rfl)⟩) hH7 ?_
              try simp only [Act.put, List.setIfInBounds_toArray, List.set_cons_zero, List.set_cons_succ]
              refine wpAnyH_ready (rs := [8]) (by kernel_rfl) (by simp) ?_
              refine AllReadyH.cons (o := ⟨some 198, .call ⟨.value (.func 27), #[.tmp 197], #[46]⟩, _, _, _, _⟩) rfl (fun K hK => ?_) AllReadyH.nil
              rw [if_pos (by rfl)]
              go_simp
              refine (HBz _ hTk).mono ?_
              rintro e k1 ⟨xq, xqc, rfl, hXq, hk1⟩
              have hH8 := hH7.below hk1
              replace hBk := hBk.trans (hk1.mono hBk.size)
              replace hXk := hXk.trans (hk1.mono hXk.size)
              refine hK.out _ _ hH8 (fun _ => ?_)
              clear hK K
              try simp only [Act.put, List.setIfInBounds_toArray, List.set_cons_zero, List.set_cons_succ]
              refine wpAnyH_take (i := 9) (oi := ⟨some 199, _, _, _, _, _⟩) (v := .slice xq lq.length xqc) rfl (by kernel_rfl) (by kernel_rfl) (by kernel_rfl) (fun _ _ _ h => h) (Or.inl ⟨by rfl, fun w hSw => (by exact run_fieldRBk rfl rfl)⟩) hH8 ?_
              try simp only [Act.put, List.setIfInBounds_toArray, List.set_cons_zero, List.set_cons_succ]
              refine wpAnyH_ready (rs := [10]) (by kernel_rfl) (by simp) ?_
              refine AllReadyH.cons (o := ⟨some 200, .call ⟨.value (.func 29), #[.tmp 199], #[33]⟩, _, _, _, _⟩) rfl (fun K hK => ?_) AllReadyH.nil
              rw [if_pos (by rfl)]
              go_simp
              refine (rtxRoot_any lq hok6 hl6 xq xqc _ hXq).mono ?_
              rintro e k2 ⟨rfl, hk2⟩
              have hH9 := hH8.below hk2
              replace hBk := hBk.trans (hk2.mono hBk.size)
              replace hXk := hXk.trans (hk2.mono hXk.size)
              refine hK.out _ _ hH9 (fun _ => ?_)
              clear hK K
              try simp only [Act.put, List.setIfInBounds_toArray, List.set_cons_zero, List.set_cons_succ]
              refine wpAnyH_take (i := 14) (oi := ⟨some 204, _, _, _, _, _⟩) (v := .bool false) rfl (by kernel_rfl) (by kernel_rfl) (by kernel_rfl) (fun _ _ _ h => h) (Or.inl ⟨by rfl, fun w hSw => (by exact (run_eqlS rfl rfl rfl).trans (by rw [decide_eq_false hrr]))⟩) hH9 ?_
              try simp only [Act.put, List.setIfInBounds_toArray, List.set_cons_zero, List.set_cons_succ]
              refine wpAnyH_take (i := 15) (oi := ⟨some 205, _, _, _, _, _⟩) (v := .bool false) rfl (by kernel_rfl) (by kernel_rfl) (by kernel_rfl) (fun _ _ _ h => h) (Or.inl ⟨by rfl, fun w hSw => by go_simp⟩) hH9 ?_
              try simp only [Act.put, List.setIfInBounds_toArray, List.set_cons_zero, List.set_cons_succ]
              refine wpAnyH_done (by kernel_rfl) ?_ _
              try simp only [Act.put]
              go_simp
              have hb1 : (er != 0) = true := by simp [her]
              have hb2 : (er == 0) = false := by simp [her]
              go_wp2_with (first
                | (go_at_call 23; refine (HEn _ hXk).mono ?_; rintro e m4 ⟨rfl, hm4⟩; replace hXk := hXk.trans (hm4.mono hXk.size); replace hBk := hBk.trans (hm4.mono hBk.size); clear hm4)
                | (go_at_call 24; refine (HRt _ hXk).mono ?_; rintro e m5 ⟨rfl, hm5⟩; replace hBk := hBk.trans (hm5.mono hBk.size); clear hm5))
              go_ret
              exact ⟨rfl, hBk⟩
    · generalize chkB B = c at *
      generalize rb17 A.txs = LA at *
      generalize rb17 B.txs = LB at *
      have k0H : Hid (chkB A = 0) := k0
      clear k0
      go_wp2_with (first
        | (go_at_call 12; first
          | (refine (HB0 _ hTa).mono ?_; rintro e y1 ⟨xa, xc, rfl, hX1, hy1⟩; clear HB0; replace hTa := hTa.below hy1; replace hTb := hTb.below hy1; replace hIa := hIa.below hy1; replace hIb := hIb.below hy1; replace hb7 := hb7.belowSize hy1; replace hb8 := hb8.belowSize hy1; replace hG := hG.belowSize hy1; replace hBn := hBn.trans (hy1.mono hBn.size); clear hy1)
          | (refine (HB1 _ hTb).mono ?_; rintro e y3 ⟨xb, xd, rfl, hX3, hy3⟩; clear HB1; replace hTa := hTa.below hy3; replace hTb := hTb.below hy3; replace hIa := hIa.below hy3; replace hIb := hIb.below hy3; replace hb7 := hb7.belowSize hy3; replace hb8 := hb8.belowSize hy3; replace hG := hG.belowSize hy3; replace hBn := hBn.trans (hy3.mono hBn.size); clear hy3))
        | (go_at_call 11; first
          | (refine (HK0 _ _ _ hIa hX1).mono ?_; rintro e y2 ⟨rfl, hy2⟩; clear HK0 hX1; replace hTa := hTa.below hy2; replace hTb := hTb.below hy2; replace hIa := hIa.below hy2; replace hIb := hIb.below hy2; replace hb7 := hb7.belowSize hy2; replace hb8 := hb8.belowSize hy2; replace hG := hG.belowSize hy2; replace hBn := hBn.trans (hy2.mono hBn.size); clear hy2)
          | (refine (HK1 _ _ _ hIb hX3).mono ?_; rintro e y4 ⟨rfl, hy4⟩; clear HK1 hX3; replace hTa := hTa.below hy4; replace hTb := hTb.below hy4; replace hIa := hIa.below hy4; replace hIb := hIb.below hy4; replace hb7 := hb7.belowSize hy4; replace hb8 := hb8.belowSize hy4; replace hG := hG.belowSize hy4; replace hBn := hBn.trans (hy4.mono hBn.size); clear hy4))
        | (go_at_call 13; refine (HA _ hG).mono ?_; rintro e y5 ⟨rfl, hy5⟩; replace hBn := hBn.trans (hy5.mono hBn.size))
        | (with_reducible refine at_list ?_; first
          | (refine wpList_loadRow (op := ⟨some 29, _, _, _, _, _⟩) rfl _ _ rfl B7 rfl _ _ hb7 _ Tryz.underlying30 rfl (bc_info _ _ _) ?_)
          | (refine wpList_loadRowG (op := ⟨some 34, _, _, _, _, _⟩) rfl _ _ rfl B8 rfl _ _ hb8 _ Tryz.underlying30 rfl (bc_info _ _ _) ?_)))
      go_ret
      exact ⟨rfl, hBn⟩
  · clear HK1 HB1
    generalize chkB A = c at *
    generalize rb17 A.txs = LA at *
    go_wp2_with (first
        | (go_at_call 12; refine (HB0 _ hTa).mono ?_; rintro e y1 ⟨xa, xc, rfl, hX1, hy1⟩; clear HB0; replace hTa := hTa.below hy1; replace hTb := hTb.below hy1; replace hIa := hIa.below hy1; replace hIb := hIb.below hy1; replace hb7 := hb7.belowSize hy1; replace hb8 := hb8.belowSize hy1; replace hG := hG.belowSize hy1; replace hBn := hBn.trans (hy1.mono hBn.size); clear hy1)
        | (go_at_call 11; refine (HK0 _ _ _ hIa hX1).mono ?_; rintro e y2 ⟨rfl, hy2⟩; clear HK0 hX1; replace hTa := hTa.below hy2; replace hTb := hTb.below hy2; replace hIa := hIa.below hy2; replace hIb := hIb.below hy2; replace hb7 := hb7.belowSize hy2; replace hb8 := hb8.belowSize hy2; replace hG := hG.belowSize hy2; replace hBn := hBn.trans (hy2.mono hBn.size); clear hy2)
        | (go_at_call 13; refine (HA _ hG).mono ?_; rintro e y3 ⟨rfl, hy3⟩; replace hBn := hBn.trans (hy3.mono hBn.size))
        | (with_reducible refine at_list ?_; refine wpList_loadRow (op := ⟨some 29, _, _, _, _, _⟩) rfl _ _ rfl B7 rfl _ _ hb7 _ Tryz.underlying30 rfl (bc_info _ _ _) ?_))
    go_ret
    exact ⟨rfl, hBn⟩
end
end Go.Proofs.YtjfpfkiccbcedaaGreatDoor
