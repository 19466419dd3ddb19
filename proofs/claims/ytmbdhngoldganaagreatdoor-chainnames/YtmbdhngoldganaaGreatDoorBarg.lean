/- What Tip, Base, Genesis, Get and State of a chain do. What awake of the chain's law does. A batch, out of what its argument reads as. -/
import Derived.Test.YtmbdhngoldganaaGreatDoorCad
import Derived.Test.YtmbdhngoldganaaGreatDoorBcb
import Derived.Test.YtmbdhngoldganaaGreatDoorChecked
import Derived.ProofKit
import Derived.LaidMore
import Derived.OpenShut
import Derived.Stop.Joined
import Derived.Deep.Slices
namespace Go.Proofs.YtmbdhngoldganaaGreatDoor
open Go Go.RowKit
section
variable {op : Oper} {a : Act} {w : World}
theorem run_convU {x : Operand} {n : Nat} (ho : op.op = .convert 3 36 x) (hx : a.eval x = .int .i64 (n : Nat)) (hn : n ≤ 1000000) : (execOp a.eval op).run Tryz.prog w = .ok (.value (.int .u64 (n : Nat))) w := by
  have hwr : IntKind.u64.wrap (n : Int) = (n : Int) := by
    unfold IntKind.wrap
    simp [IntKind.bits, IntKind.signed]
    omega
  unfold execOp
  simp only [ho, hx]
  simp [go_sem]
  exact hwr
theorem run_subU {x y : Operand} {n k : Nat} (ho : op.op = .binOp .sub 36 x y 36) (hx : a.eval x = .int .u64 (n : Nat)) (hy : a.eval y = .int .u64 (k : Nat)) (hk : k ≤ n) (hn : n < 18446744073709551616) : (execOp a.eval op).run Tryz.prog w = .ok (.value (.int .u64 ((n - k : Nat) : Int))) w := by
  have hwr : IntKind.u64.wrap ((n : Int) - (k : Int)) = ((n - k : Nat) : Int) := by
    unfold IntKind.wrap
    simp [IntKind.bits, IntKind.signed]
    omega
  unfold execOp
  simp only [ho, hx, hy]
  simp [go_sem]
  exact hwr
end
theorem CH.nkept {w : World} {N cb bs bt : Nat} {sl : Value} {c : CN} (h : CH w N cb bs bt sl c) : ∃ ka kc, sl = .slice ka c.kept.length kc := by
  obtain ⟨dls, h1, h2⟩ := h.kept
  obtain ⟨ka, kc, h3, _⟩ := h1.sl
  exact ⟨ka, kc, by rw [h3, h2.len]⟩
set_option maxRecDepth 100000 in
set_option maxHeartbeats 2000000 in
theorem baseC_any (N cb bs bt : Nat) (sl : Value) (c : CN) (w : World) (hc : CH w N cb bs bt sl c) (hok : OkC c) (hkl : c.kept.length ≤ 1000000) :
    Calls Tryz.prog 15 #[.pointer (some ⟨cb, 0, none⟩)] w fun e w' => e = .returned (.int .u64 ((c.ht - c.kept.length : Nat) : Int)) ∧ Below w.heap.size w w' := by
  obtain ⟨gf, cf, gm0, cm0, hC, _, _⟩ := hc.blk
  obtain ⟨ka, kc, rfl⟩ := hc.nkept
  have hle := hok.kept
  have hlt := hok.ht
  go_enter Tryz.func15, Tryz.ntmps15
  go_upto_region 3 with fail
  have hH := hC.drew
  try go_frame
  refine Sh.wp_region_L (S := fun w' : World => Blk w' cb (chC c.name (.slice (some ⟨gf, 0, none⟩) c.first.length cf) c.ht c.hash (.slice (some ⟨gm0, 0, none⟩) c.mem.length cm0) bs bt (.slice ka c.kept.length kc)) 103) (z := 12) (by kernel_rfl) ?_
  refine Sh.wpAnyL_take (i := 0) (oi := ⟨some 5, _, _, _, _, _⟩) (v := .pointer (some ⟨cb, 0, none⟩)) rfl (by kernel_rfl) (by kernel_rfl) (by kernel_rfl) (by kernel_rfl) (fun _ _ _ h => h) (Or.inl ⟨by rfl, fun w hSw => by go_simp⟩) hH ?_
  try simp only [Act.put, List.setIfInBounds_toArray, List.set_cons_zero, List.set_cons_succ]
  refine Sh.wpAnyL_take (i := 1) (oi := ⟨some 6, _, _, _, _, _⟩) (v := .pointer (some ⟨cb, 0, none⟩)) rfl (by kernel_rfl) (by kernel_rfl) (by kernel_rfl) (by kernel_rfl) (fun _ _ _ h => h) (Or.inl ⟨by rfl, fun w hSw => by go_simp⟩) hH ?_
  try simp only [Act.put, List.setIfInBounds_toArray, List.set_cons_zero, List.set_cons_succ]
  refine Sh.wpAnyL_take (i := 2) (oi := ⟨some 7, _, _, _, _, _⟩) (v := .pointer (some ⟨cb, 2, none⟩)) rfl (by kernel_rfl) (by kernel_rfl) (by kernel_rfl) (by kernel_rfl) (fun _ _ _ h => h) (Or.inl ⟨by rfl, fun w hSw => by go_simp⟩) hH ?_
  try simp only [Act.put, List.setIfInBounds_toArray, List.set_cons_zero, List.set_cons_succ]
  refine Sh.wpAnyL_take (i := 3) (oi := ⟨some 8, _, _, _, _, _⟩) (v := .pointer (some ⟨cb, 2, none⟩)) rfl (by kernel_rfl) (by kernel_rfl) (by kernel_rfl) (by kernel_rfl) (fun _ _ _ h => h) (Or.inl ⟨by rfl, fun w hSw => by go_simp⟩) hH ?_
  try simp only [Act.put, List.setIfInBounds_toArray, List.set_cons_zero, List.set_cons_succ]
  refine Sh.wpAnyL_take (i := 4) (oi := ⟨some 9, _, _, _, _, _⟩) (v := .int .u64 (c.ht : Nat)) rfl (by kernel_rfl) (by kernel_rfl) (by kernel_rfl) (by kernel_rfl) (fun _ _ _ h => h) (Or.inl ⟨by rfl, fun w hSw => run_loadCellB _ _ rfl _ 2 rfl _ _ hSw _ Tryz.underlying36 rfl _ (chC_g2 _ _ _ _ _ _ _ _)⟩) hH ?_
  try simp only [Act.put, List.setIfInBounds_toArray, List.set_cons_zero, List.set_cons_succ]
  refine Sh.wpAnyL_take (i := 5) (oi := ⟨some 10, _, _, _, _, _⟩) (v := .pointer (some ⟨cb, 0, none⟩)) rfl (by kernel_rfl) (by kernel_rfl) (by kernel_rfl) (by kernel_rfl) (fun _ _ _ h => h) (Or.inl ⟨by rfl, fun w hSw => by go_simp⟩) hH ?_
  try simp only [Act.put, List.setIfInBounds_toArray, List.set_cons_zero, List.set_cons_succ]
  refine Sh.wpAnyL_take (i := 6) (oi := ⟨some 11, _, _, _, _, _⟩) (v := .pointer (some ⟨cb, 0, none⟩)) rfl (by kernel_rfl) (by kernel_rfl) (by kernel_rfl) (by kernel_rfl) (fun _ _ _ h => h) (Or.inl ⟨by rfl, fun w hSw => by go_simp⟩) hH ?_
  try simp only [Act.put, List.setIfInBounds_toArray, List.set_cons_zero, List.set_cons_succ]
  refine Sh.wpAnyL_take (i := 7) (oi := ⟨some 12, _, _, _, _, _⟩) (v := .pointer (some ⟨cb, 7, none⟩)) rfl (by kernel_rfl) (by kernel_rfl) (by kernel_rfl) (by kernel_rfl) (fun _ _ _ h => h) (Or.inl ⟨by rfl, fun w hSw => by go_simp⟩) hH ?_
  try simp only [Act.put, List.setIfInBounds_toArray, List.set_cons_zero, List.set_cons_succ]
  refine Sh.wpAnyL_take (i := 8) (oi := ⟨some 13, _, _, _, _, _⟩) (v := .slice ka c.kept.length kc) rfl (by kernel_rfl) (by kernel_rfl) (by kernel_rfl) (by kernel_rfl) (fun _ _ _ h => h) (Or.inl ⟨by rfl, fun w hSw => run_loadCellB _ _ rfl _ 7 rfl _ _ hSw _ Tryz.underlying101 rfl _ (chC_g7 _ _ _ _ _ _ _ _)⟩) hH ?_
  try simp only [Act.put, List.setIfInBounds_toArray, List.set_cons_zero, List.set_cons_succ]
  refine Sh.wpAnyL_take (i := 9) (oi := ⟨some 14, _, _, _, _, _⟩) (v := .int .i64 (c.kept.length : Nat)) rfl (by kernel_rfl) (by kernel_rfl) (by kernel_rfl) (by kernel_rfl) (fun _ _ _ h => h) (Or.inl ⟨by rfl, fun w hSw => by go_simp⟩) hH ?_
  try simp only [Act.put, List.setIfInBounds_toArray, List.set_cons_zero, List.set_cons_succ]
  refine Sh.wpAnyL_take (i := 10) (oi := ⟨some 15, _, _, _, _, _⟩) (v := .int .u64 (c.kept.length : Nat)) rfl (by kernel_rfl) (by kernel_rfl) (by kernel_rfl) (by kernel_rfl) (fun _ _ _ h => h) (Or.inl ⟨by rfl, fun w hSw => run_convU rfl rfl hkl⟩) hH ?_
  try simp only [Act.put, List.setIfInBounds_toArray, List.set_cons_zero, List.set_cons_succ]
  refine Sh.wpAnyL_take (i := 11) (oi := ⟨some 16, _, _, _, _, _⟩) (v := .int .u64 ((c.ht - c.kept.length : Nat) : Int)) rfl (by kernel_rfl) (by kernel_rfl) (by kernel_rfl) (by kernel_rfl) (fun _ _ _ h => h) (Or.inl ⟨by rfl, fun w hSw => run_subU rfl rfl rfl hle hlt⟩) hH ?_
  try simp only [Act.put, List.setIfInBounds_toArray, List.set_cons_zero, List.set_cons_succ]
  refine Sh.wpAnyL_solo (i := 12) (o := ⟨some 2, _, _, _, _, _⟩) rfl (by kernel_rfl) (fun K hK => ?_)
  refine wpList_pure rfl (.int .u64 ((c.ht - c.kept.length : Nat) : Int)) (run_assignV _ rfl _ rfl) ?_
  refine hK _ _ (fun e => absurd rfl e) ?_
  clear hK K
  refine Sh.wpAnyL_done (by kernel_rfl) ?_ _
  simp only [Act.put]
  go_simp
  go_wp2_with fail
  go_ret
  exact ⟨rfl, (Below.refl _ _).drew⟩
set_option maxRecDepth 100000 in
set_option maxHeartbeats 2000000 in
theorem tipC_any (N cb bs bt : Nat) (sl : Value) (c : CN) (w : World) (hc : CH w N cb bs bt sl c) (hok : OkC c) :
    Calls Tryz.prog 16 #[.pointer (some ⟨cb, 0, none⟩)] w fun e w' => ∃ g cap, e = .returned (.agg (tpC c.ht c.hash (.slice (some ⟨g, 0, none⟩) c.mem.length cap))) ∧ CB w' g c.mem ∧ Below w.heap.size w w' := by
  obtain ⟨gf, cf, gm0, cm0, hC, _, hCm⟩ := hc.blk
  have hm := okM_iff.1 hok.mem
  have h16 := hm.len
  have h0 := hm.pos
  have HC := fun w1 (hb : Below w.heap.size w w1) => scloneI_any (some ⟨gm0, 0, none⟩) c.mem cm0 w1 (hCm.below hb).ia h0 (by omega)
  go_enter Tryz.func16, Tryz.ntmps16
  go_wp2_with (first
    | (go_at_call 54; refine (HC _ hB4).mono ?_; rintro e w5 ⟨g, cap, rfl, hg, hw5, hCB⟩; clear HC; replace h3b := h3b.belowSize hw5; replace h2 := h2.belowSize hw5; have hB5 := hB4.trans (hw5.mono hB4.size))
    | (with_reducible refine at_list ?_; first
      | (refine wpList_allocRow (op := ⟨some 2, _, _, _, _, _⟩) rfl _ rfl _ zTip.1 ?_; intro w1 hw1 hs1 h2; replace hs1 := hs1.symm; have hC1 := hC.belowSize hw1)
      | (refine wpList_loadOp (op := ⟨some 10, _, _, _, _, _⟩) rfl _ _ rfl cb 2 rfl (tpC c.ht c.hash (.slice (some ⟨gm0, 0, none⟩) c.mem.length cm0)) (chC_tip hC1) _ Tryz.underlying39 rfl (tpC_info _ _ _) ?_)
      | (refine wpList_allocRow (op := ⟨some 3, _, _, _, _, _⟩) rfl _ rfl _ zTip.1 ?_; intro w3 hw3 hs3 h3; replace hs3 := hs3.symm; replace h2 := h2.belowSize hw3; have hB3 := hw1.trans (hw3.mono hw1.size))
      | (refine wpList_storeRow (op := ⟨none, .store 39 (.tmp 3) (.tmp 10), _, _, _, _⟩) rfl _ _ _ rfl w1.heap.size (tpC c.ht c.hash (.slice (some ⟨gm0, 0, none⟩) c.mem.length cm0)) rfl rfl _ _ h3 (by simp only [tpC_size]) (tpC_info _ _ _) (tpC_one _ _ _ _ _) ?_; intro w4 hg4 hs4 h3b; clear hs4; have hne : w.heap.size < w1.heap.size := (by omega); replace h2 := h2.grown hg4 (fun e => absurd (Option.some.inj e) (Nat.ne_of_lt hne)); have hB4 := hB3.trans (below_of_grown hg4 hw1.size hB3.size); clear hg4 h3)
      | (refine wpList_loadCell (op := ⟨some 12, _, _, _, _, _⟩) rfl _ _ rfl w1.heap.size 2 rfl _ _ h3b _ Tryz.underlying22 rfl _ rfl ?_)
      | (refine wpList_storeCell (op := ⟨none, .store 22 (.tmp 14) (.tmp 13), _, _, _, _⟩) rfl _ _ _ rfl w1.heap.size 2 rfl (.slice (some ⟨g, 0, none⟩) c.mem.length cap) rfl _ _ h3b (by kernel_rfl) rfl rfl (by rw [tpC_size]; decide) ?_; intro w6 hg6 hs6 h3c; clear hs6; rw [tpC_set2] at h3c; replace h2 := h2.grown hg6 (fun e => absurd (Option.some.inj e) (Nat.ne_of_lt hne)); replace hCB := hCB.other hg6 h3b (by decide); have hB6 := hB5.trans (below_of_grown hg6 hw1.size hB5.size); clear hg6)
      | (refine wpList_loadRow (op := ⟨some 15, _, _, _, _, _⟩) rfl _ _ rfl w1.heap.size rfl _ _ h3c _ Tryz.underlying39 rfl (tpC_info _ _ _) ?_)
      | (refine wpList_storeRow (op := ⟨none, .store 39 (.tmp 2) (.tmp 15), _, _, _, _⟩) rfl _ _ _ rfl w.heap.size (tpC c.ht c.hash (.slice (some ⟨g, 0, none⟩) c.mem.length cap)) rfl rfl _ _ h2 (by simp only [tpC_size]) (tpC_info _ _ _) (tpC_one _ _ _ _ _) ?_; intro w7 hg7 hs7 h2b; clear hs7; replace hCB := hCB.other hg7 h2 (by decide); have hB7 := hB6.trans (below_of_grown hg7 (Nat.le_refl _) hB6.size))))
  refine bodyPost_ret (v := .agg (tpC c.ht c.hash (.slice (some ⟨g, 0, none⟩) c.mem.length cap))) ?_ rfl ⟨g, cap, rfl, hCB, hB7⟩
  exact results_cell_row rfl _ _ w.heap.size _ _ _ _ rfl h2b.out Tryz.underlying39 rfl (tpC_info _ _ _)
set_option maxRecDepth 100000 in
set_option maxHeartbeats 2000000 in
theorem getC_any (N cb bs bt : Nat) (sl : Value) (c : CN) (w : World) (hc : CH w N cb bs bt sl c) (k : List UInt8) (hk : k.length ≤ 1000) :
    Calls Tryz.prog 23 #[.pointer (some ⟨cb, 0, none⟩), .string ⟨k.toArray⟩] w fun e w' => e = .returned (.tuple #[.string ⟨(valM c.m (kOf k)).toArray⟩, .bool (hasM c.m (kOf k))]) ∧ Below w.heap.size w w' := by
  obtain ⟨gf, cf, gm0, cm0, hC, _, _⟩ := hc.blk
  have HG := get_st bs c.m k w hc.ex.st (by omega)
  have c5 := (hC.cell 5).trans (chC_g5 _ _ _ _ _ _ _ _)
  generalize valM c.m (kOf k) = v at *
  generalize hasM c.m (kOf k) = is at *
  go_enter Tryz.func23, Tryz.ntmps23
  go_wp2_with (go_at_call 66; refine HG.mono ?_; rintro e w1 ⟨rfl, hw1⟩; clear HG)
  go_ret2
  exact ⟨rfl, hw1⟩
end Go.Proofs.YtmbdhngoldganaaGreatDoor
namespace Go.Proofs.YtmbdhngoldganaaGreatDoor
open Go Go.RowKit
theorem run_fieldT0 (h : Nat) (d : List UInt8) (s : Value) (w : World) : (Instr.field 39 (.agg (tpC h d s)) 0).run Tryz.prog w = .ok (.int .u64 (h : Nat)) w := by
  simp [Instr.field, run_underlying Tryz.underlying39, Sem.run_bind, asAgg, Go.part, isAgg_run Tryz.underlying36 rfl, tpC]
theorem run_fieldT1 (h : Nat) (d : List UInt8) (s : Value) (w : World) : (Instr.field 39 (.agg (tpC h d s)) 1).run Tryz.prog w = .ok (.string ⟨d.toArray⟩) w := by
  simp [Instr.field, run_underlying Tryz.underlying39, Sem.run_bind, asAgg, Go.part, isAgg_run Tryz.underlying9 rfl, tpC]
/-- The batch of awake. -/
def aB : BT := ⟨[tb1], false, []⟩
theorem aB_ok : chkB aB = 0 := by decide
def aC : CN := newC [120] [0]
theorem aC_ok : OkC aC := newC_ok (by decide) (by decide)
theorem aN_m : (nextC aC aB).m = [([107, 97], [49]), (nOf 1, lastB 1 (idB tb1))] := tb1_m
theorem aN_val : valM (nextC aC aB).m (kOf [97]) = [49] ∧ hasM (nextC aC aB).m (kOf [97]) = true := by
  rw [aN_m]
  exact ⟨rfl, rfl⟩
theorem ta_one {w : World} {g g1 : Nat} (h : Blk w g (txc 1 1 (.slice (some ⟨g1, 0, none⟩) 1 1)) 95) (h1 : Blk w g1 (opc ob1) 97) : TA w (some ⟨g, 0, none⟩) aB.txs := fun i hi => by
  have hi2 : i < 1 := hi
  obtain rfl : i = 0 := by omega
  refine ⟨g, 0, some ⟨g1, 0, none⟩, 1, rfl, fun j v hv => ?_, h1.sl1, (show (1 : Nat) < 18446744073709551616 by decide), (show (1 : Nat) < 18446744073709551616 by decide)⟩
  rw [Nat.zero_mul, Nat.add_zero, Nat.zero_add, h.cell]
  have hj : j < 3 := (List.getElem?_eq_some_iff.1 hv).1
  rcases (show j = 0 ∨ j = 1 ∨ j = 2 by omega) with rfl | rfl | rfl <;> exact hv
theorem CH.blocks {w : World} {N cb bs bt : Nat} {sl : Value} {c : CN} (h : CH w N cb bs bt sl c) {i : Nat} (hi : ownC cb bs bt sl i) : N ≤ i ∧ i < w.heap.size := by
  refine ⟨h.from hi, ?_⟩
  obtain ⟨d, u, fr, h1, _⟩ := h.typed hi
  exact (Array.getElem?_eq_some_iff.1 h1).1
theorem CH.rowNew {w : World} {N cb bs bt : Nat} {sl : Value} {c : CN} (h : CH w N cb bs bt sl c) : Sh.slBlk sl ≠ some w.heap.size := fun e => absurd (h.blocks (.inr (.inr (.inr e.symm)))).2 (Nat.lt_irrefl _)
theorem rowNone (B : Nat) : Sh.slBlk (.slice none 0 0) ≠ some B := fun e => nomatch e
theorem rowNone2 {sl : Value} : ∀ r, Sh.slBlk (.slice none 0 0) = some r → Sh.slBlk sl ≠ some r := fun _ e => nomatch e
theorem rowNone3 {sl : Value} : ∀ r, Sh.slBlk sl = some r → Sh.slBlk (.slice none 0 0) ≠ some r := fun _ _ e => nomatch e
theorem CH.ownBelow {w w' : World} {N cb bs bt : Nat} {sl : Value} {c : CN} (h : CH w N cb bs bt sl c) (k : Own (ownC cb bs bt sl) w w') : Below N w w' := k.below (fun i _ e => h.from e) (by have h1 := h.low.2.1; have h2 := h.lt.1; omega)
theorem stay_blk {w w' : World} {b : Nat} {c : Array Value} {u : TypeId} (hg : w.grownBy w' (some b)) (hb : Blk w b c u) (hu : u ≠ 3 ∧ u ≠ 95 ∧ u ≠ 97) : Stay w w' := Stay.of_own (Own.of_grown hg) (fun i _ e => (by obtain rfl := Option.some.inj e; exact ⟨_, _, _, hb.out, hu⟩))
section
attribute [local go_sem] Oper.semAt_some
set_option maxRecDepth 100000 in
set_option maxHeartbeats 8000000 in
theorem awakeC_any (w : World) (hG : Sh.Glob w) : Calls Tryz.prog 13 #[] w fun e w' => e = .returned (.bool true) ∧ Below w.heap.size w w' := by
  have h2w := hG.two
  have HN : ∀ g w1, Blk w1 g #[.int .i64 0] 3 → Sh.Glob w1 → Calls Tryz.prog 47 #[.string ⟨#[120]⟩, .slice (some ⟨g, 0, none⟩) 1 1] w1 (fun e w' => ∃ bc bs bt, e = .returned (.tuple #[.pointer (some ⟨bc, 0, none⟩), .int .i64 0]) ∧ CH w' w1.heap.size bc bs bt (.slice none 0 0) aC ∧ Below w1.heap.size w1 w') := fun g w1 h1 h2 => newCh_any [120] (by decide) [0] (by decide) (some ⟨g, 0, none⟩) 1 w1 h1.ia1 h2
  have HN2 := HN
  have HP : ∀ N cb bs bt w1 g, CH w1 N cb bs bt (.slice none 0 0) aC → TA w1 (some ⟨g, 0, none⟩) aB.txs → Calls Tryz.prog 19 #[.pointer (some ⟨cb, 0, none⟩), .agg (bc (.slice (some ⟨g, 0, none⟩) 1 1) false (.slice none 0 0))] w1 (ApC w1 N cb bs bt (.slice none 0 0) aC aB) := fun N cb bs bt w1 g h1 h2 => applyC_any N cb bs bt _ aC w1 h1 aC_ok aB aB_ok (by decide) (by decide) (by decide) (some ⟨g, 0, none⟩) none 1 0 h2 (fun i x hx => by cases hx)
  have HA : ∀ N cb bs bt w1 gm cm a cap, CH w1 N cb bs bt (.slice none 0 0) aC → AB w1 gm a cap (mkB aC aB) → Calls Tryz.prog 26 #[.pointer (some ⟨cb, 0, none⟩), .agg (bkv (mkB aC aB) gm cm a cap)] w1 (fun e w' => e = .returned (.int .i64 0) ∧ ∃ sl', CH w' N cb bs bt sl' (nextC aC aB) ∧ Own (ownC cb bs bt (.slice none 0 0)) w1 w') := fun N cb bs bt w1 gm cm a cap h1 h2 => (addCh_any N cb bs bt _ aC w1 h1 aC_ok (mkB aC aB) (mkB_head aC_ok aB_ok) (by decide) (by decide) (by decide) (some ⟨gm, 0, none⟩) a cm cap h2.cb.ia h2.ta).mono fun e w' h => by
    obtain ⟨r1, r2⟩ := mkB_right (c := aC) aB_ok
    rcases h with ⟨_, h3, sl', h4, h5, _⟩ | ⟨h3, _⟩
    · exact ⟨h3, sl', by rw [← r2]; exact h4, h5⟩
    · exact absurd r1 h3
  have hok2 : OkC (nextC aC aB) := nextC_ok aC_ok aB_ok (by decide)
  have HT : ∀ N cb bs bt sl w1, CH w1 N cb bs bt sl (nextC aC aB) → Calls Tryz.prog 16 #[.pointer (some ⟨cb, 0, none⟩)] w1 (fun e w' => ∃ g cap, e = .returned (.agg (tpC 1 (nextC aC aB).hash (.slice (some ⟨g, 0, none⟩) 1 cap))) ∧ Below w1.heap.size w1 w') := fun N cb bs bt sl w1 h1 => (tipC_any N cb bs bt sl _ w1 h1 hok2).mono fun e w' h => by
    obtain ⟨g, cap, h2, _, h3⟩ := h
    exact ⟨g, cap, h2, h3⟩
  have HT2 := HT
  have HT3 := HT
  have HG : ∀ N cb bs bt sl w1, CH w1 N cb bs bt sl (nextC aC aB) → Calls Tryz.prog 23 #[.pointer (some ⟨cb, 0, none⟩), .string ⟨#[97]⟩] w1 (fun e w' => e = .returned (.tuple #[.string ⟨#[49]⟩, .bool true]) ∧ Below w1.heap.size w1 w') := fun N cb bs bt sl w1 h1 => (getC_any N cb bs bt sl _ w1 h1 [97] (by decide)).mono fun e w' h => by
    rw [aN_val.1, aN_val.2] at h
    exact h
  have hbI : ∀ gm cm a cap, (Tryz.prog.info? 53).map (·.size) = some (bkv (mkB aC aB) gm cm a cap).size := fun _ _ _ _ => bk_info _ _ _ _ _ _
  have hb1 : ∀ gm cm a cap, (bkv (mkB aC aB) gm cm a cap).all (·.oneCell') = true := fun _ _ _ _ => bk_one _ _ _ _ _ _ _ _ _ _
  have hb6 : ∀ gm cm a cap, (bkv (mkB aC aB) gm cm a cap).size = 6 := fun _ _ _ _ => rfl
  have hf0 := run_fieldT0
  have hf1 := run_fieldT1
  generalize (nextC aC aB).hash = dg at *
  go_enter Tryz.func13, Tryz.ntmps13
  go_upto_region 3 with (first
    | (go_at_call 47; first
      | (refine (HN _ _ hb1a (hG.belowSize hw1)).mono ?_; rintro e w2 ⟨ca, sa, ta, rfl, hA, hw2⟩; clear HN hb1a; have hB2 := hw1.trans (hw2.mono hw1.size))
      | (refine (HN2 _ _ hb3a (hG.belowSize hB3)).mono ?_; rintro e w4 ⟨cb, sb, tb, rfl, hB, hw4⟩; clear HN2 hb3a; have hA4 := hA3.below hw4; have hB4 := hB3.trans (hw4.mono hB3.size)))
    | (with_reducible refine at_list ?_; first
      | (refine wpList_bsl1I (op := ⟨some 12, _, _, _, _, _⟩) rfl _ rfl 0 rfl ?_; intro w1 hw1 hs1 hb1a; clear hs1)
      | (refine wpList_bsl1I (op := ⟨some 17, _, _, _, _, _⟩) rfl _ rfl 0 rfl ?_; intro w3 hw3 hs3 hb3a; clear hs3; have hA3 := hA.below hw3; have hB3 := hB2.trans (hw3.mono hB2.size))))
  obtain ⟨q1, q2, q3⟩ := hA.lt
  have q4 := hw3.size
  obtain ⟨q5, q6, q7, q8⟩ := hB.low
  have n1 : cb ≠ ca := by omega
  have n2 : sb ≠ sa := by omega
  have n3 : tb ≠ ta := by omega
  have hN6 : w.heap.size ≤ w1.heap.size := hw1.size
  have hN6b : w.heap.size ≤ w3.heap.size := hB3.size
  clear hA hA3 hw1 hw2 hw3 hw4 hB2 hB3 q1 q2 q3 q4
  go_upto_region 4 with (first
    | (go_at_call 19; refine (HP _ _ _ _ _ _ hA6 (ta_one hb6t hb5)).mono ?_; rintro e w7 ⟨slA, gm, cm, ax, cap, st, sc, rfl, hA7, hAB7, hO7, hr7⟩; clear HP hb6t hb5; have hB7 := hA6.apart hB6 hO7 n1 n2 n3 rowNone2; have hW7 := hW6.trans ((hA6.ownBelow hO7).mono hN6); clear hO7 hr7 hA6 hB6)
    | (with_reducible refine at_list ?_; first
      | (refine wpList_build (o := ⟨some 23, _, _, _, _, _⟩) rfl _ _ rfl builtOb1 ?_)
      | (refine wpList_bslOp (op := ⟨some 24, _, _, _, _, _⟩) rfl _ rfl ob1 rfl ?_; intro w5 hw5 hs5 hb5; clear hs5; have hA5 := hA4.below hw5; have hB5 := hB.below hw5; have hW5 := hB4.trans (hw5.mono hB4.size))
      | (refine wpList_build (o := ⟨some 25, _, _, _, _, _⟩) rfl _ _ rfl (builtTb 1 1 w4.heap.size rfl) ?_)
      | (refine wpList_bslTx (op := ⟨some 26, _, _, _, _, _⟩) rfl _ rfl 1 1 (some ⟨w4.heap.size, 0, none⟩) 1 1 rfl ?_; intro w6 hw6 hb6t; replace hb5 := hb5.belowSize hw6; have hA6 := hA5.below hw6; have hB6 := hB5.below hw6; have hW6 := hW5.trans (hw6.mono hW5.size); clear hA5 hB5 hW5 hw5 hw6)
      | (refine wpList_run (op := ⟨some 27, _, _, _, _, _⟩) rfl _ _ (run_built1 _ _ _ rfl _ rfl _ (builtB (some ⟨w5.heap.size, 0, none⟩) 1 1)) ?_)
      | (refine wpList_allocRow (op := ⟨some 5, _, _, _, _, _⟩) rfl _ rfl _ zBlk.1 ?_; intro w8 hw8 hs8 h5; clear hs8; have hA8 := hA7.below hw8; have hB8 := hB7.below hw8; have hW8 := hW7.trans (hw8.mono hW7.size); have hAB8 := hAB7.stay (Stay.of_below hw8); have hra := hA7.rowNew; clear hA7 hB7 hAB7)
      | (refine wpList_storeRow (op := ⟨none, .store 53 (.tmp 5) (.tmp 29), _, _, _, _⟩) rfl _ _ _ rfl w7.heap.size (bkv (mkB aC aB) gm cm ax cap) rfl rfl _ _ h5 (by rw [hb6, bk_size]) (hbI _ _ _ _) (hb1 _ _ _ _) ?_; intro w9 hg9 hs9 h5b; clear hs9; have hA9 := hA8.local hg9 h5 (Nat.le_trans h2w hW7.size) (by decide) hra; have hB9 := hB8.local hg9 h5 (Nat.le_trans h2w hW7.size) (by decide) (rowNone _); have hAB9 := hAB8.stay (stay_blk hg9 h5 (by decide)); have hW9 := hW8.trans (below_of_grown hg9 hW7.size hW8.size); clear hg9 h5 hA8 hB8 hAB8 hW8 hw8)))
  go_upto_region 6 with (first
    | (go_at_call 26; refine (HA _ _ _ _ _ _ _ _ _ hB9 hAB9).mono ?_; rintro e w10 ⟨rfl, slB, hB10, hO10⟩; clear HA hAB9; have hA10 := hB9.apart hA9 hO10 n1.symm n2.symm n3.symm rowNone3; have hW10 := hW9.trans ((hB9.ownBelow hO10).mono hN6b); clear hO10 hB9 hA9)
    | (go_at_call 23; refine (HG _ _ _ _ _ _ hB10).mono ?_; rintro e w11 ⟨rfl, hw11⟩; clear HG; have hA11 := hA10.below hw11; have hB11 := hB10.below hw11; have hW11 := hW10.trans (hw11.mono hW10.size))
    | (with_reducible refine at_list ?_; first
      | (refine wpList_loadRow (op := ⟨some 33, _, _, _, _, _⟩) rfl _ _ rfl w7.heap.size rfl _ _ h5b _ Tryz.underlying53 rfl (hbI _ _ _ _) ?_)))
  clear hA10 hB10 hW10 hw11 h5b
  go_wp2_with (go_at_call 16; first
    | (refine (HT _ _ _ _ _ _ hA11).mono ?_; rintro e w12 ⟨g1, c1, rfl, hw12⟩; clear HT; have hA12 := hA11.below hw12; have hB12 := hB11.below hw12; have hW12 := hW11.trans (hw12.mono hW11.size); clear hA11)
    | (refine (HT2 _ _ _ _ _ _ hB12).mono ?_; rintro e w13 ⟨g2, c2, rfl, hw13⟩; clear HT2; have hA13 := hA12.below hw13; have hW13 := hW12.trans (hw13.mono hW12.size); clear hA12 hB12)
    | (refine (HT3 _ _ _ _ _ _ hA13).mono ?_; rintro e w14 ⟨g3, c3, rfl, hw14⟩; clear HT3; have hW14 := hW13.trans (hw14.mono hW13.size)))
  go_ret
  exact ⟨rfl, hW14⟩
end
end Go.Proofs.YtmbdhngoldganaaGreatDoor
namespace Go.Proofs.YtmbdhngoldganaaGreatDoor
open Go Go.ChangeShapes Go.WideShapes Go.ChangeAt Go.WideMaps Go.WideElems Go.RowKit
theorem clOp : Tryz.prog.cellsOf 97 = 3 := by kernel_rfl
theorem clTx : Tryz.prog.cellsOf 95 = 3 := by kernel_rfl
theorem clSl : Tryz.prog.cellsOf 93 = 1 := by kernel_rfl
theorem cl3 : Tryz.prog.cellsOf 3 = 1 := by kernel_rfl
theorem cl22 : Tryz.prog.cellsOf 36 = 1 := by kernel_rfl
theorem cl9 : Tryz.prog.cellsOf 9 = 1 := by kernel_rfl
set_option maxRecDepth 100000 in
theorem op_of {H : Type} {enc : TypeId × Value → H} {W : World} {n : Nat} {sp : Nat → Bool} {held : Bool} {base : Nat} {cs : List Value} {x : DataW H × List MemPlace} (h : DataW.trod enc Tryz.prog W base sp held n 97 cs = some x) :
    ∃ o : O, cs = (opc o).toList := by
  obtain ⟨xs, f, _, _, hl, hxl, hf⟩ := DataW.trod_struct Tryz.underlying97 h
  rw [clOp] at hl
  match xs, hxl, cs, hl with
  | [y0, y1, y2], _, [v0, v1, v2], _ =>
    have g0 := hf 0 _ rfl
    have g1 := hf 1 _ rfl
    have g2 := hf 2 _ rfl
    simp [cl3, cl9] at g0 g1 g2
    obtain ⟨k, e0, _, _⟩ := DataW.trod_int Tryz.underlying3 g0
    obtain ⟨s, e1, _, _⟩ := DataW.trod_string Tryz.underlying9 g1
    obtain ⟨t, e2, _, _⟩ := DataW.trod_string Tryz.underlying9 g2
    refine ⟨⟨k, s.data.toList, t.data.toList⟩, ?_⟩
    simp at e0 e1 e2
    subst e0 e1 e2
    rfl
set_option maxRecDepth 100000 in
/-- The operations of an argument's slice. -/
theorem ops_of {H : Type} {enc : TypeId × Value → H} {W : World} {n : Nat} {a0 : Option Addr} {len cap : Nat} {x : DataW H × List MemPlace} (hf : DataW.trod enc Tryz.prog W 0 (fun _ => true) true n 93 [.slice a0 len cap] = some x) :
    ∃ l : List O, l.length = len ∧ SL W a0 l := by
  rcases DataW.trod_slice Tryz.underlying93 hf with ⟨hcs, _⟩ | ⟨a, l, c, elems, rest, n, _, hcs, _, _, hl, hm, hel, hc, _, _⟩
  · simp at hcs
    obtain ⟨_, rfl, _⟩ := hcs
    exact ⟨[], rfl, SL.nil _ _⟩
  · simp at hcs
    obtain ⟨rfl, rfl, rfl⟩ := hcs
    by_cases hl0 : len = 0
    · exact ⟨[], by rw [hl0]; rfl, SL.nil _ _⟩
    have each : ∀ i, i < len → ∃ q : O, W.cells? 0 (a.add (i * 3)) 3 = some (opc q).toList := by
      intro i hi
      have h1 := hc i hi
      rw [clOp, List.getElem?_eq_getElem (by omega)] at h1
      obtain ⟨cs', h2, h3⟩ := Option.bind_eq_some_iff.1 h1
      obtain ⟨q, rfl⟩ := op_of h3
      exact ⟨q, h2⟩
    obtain ⟨g, o, spot⟩ := a
    obtain ⟨q0, hq0⟩ := each 0 (by omega)
    obtain ⟨_, _, hcell0⟩ := World.cells?_some hq0
    have c0 := hcell0 0 (by omega)
    have hspot : spot = none := by
      have e : W.cell? (((⟨g, o, spot⟩ : Addr).add (0 * 3)).add 0) = some (.int .i64 q0.kind) := c0
      simpa [Addr.add] using World.cell?_spot e
    subst hspot
    have each2 : ∀ i, ∃ q : O, i < len → W.rangeAt g (o + i * 3) (opc q).toList := by
      intro i
      by_cases hi : i < len
      · obtain ⟨q, hq⟩ := each i hi
        refine ⟨q, fun _ j v hv => ?_⟩
        obtain ⟨_, hlen, hcell⟩ := World.cells?_some hq
        have hj : j < 3 := (List.getElem?_eq_some_iff.1 hv).1
        have := hcell j hj
        rw [Addr.add_mid, Addr.add_mid] at this
        rw [this, hv]
      · exact ⟨⟨0, [], []⟩, fun h => absurd h hi⟩
    obtain ⟨f, hf⟩ := Classical.skolem.1 each2
    refine ⟨(List.range len).map f, by simp, fun i hi => ⟨g, o, rfl, ?_⟩⟩
    have hi' : i < len := by simpa using hi
    have := hf i hi'
    simpa using this
theorem clSlI : Tryz.prog.cellsOf 22 = 1 := by kernel_rfl
theorem clSlT : Tryz.prog.cellsOf 51 = 1 := by kernel_rfl
theorem clB : Tryz.prog.cellsOf 58 = 3 := by kernel_rfl
theorem clBool : Tryz.prog.cellsOf 4 = 1 := by kernel_rfl
set_option maxRecDepth 100000 in
theorem txc_of {H : Type} {enc : TypeId × Value → H} {W : World} {n : Nat} {cs : List Value} {x : DataW H × List MemPlace} (hf : DataW.trod enc Tryz.prog W 0 (fun _ => true) true n 95 cs = some x) :
    ∃ (t : TX) (a : Option Addr) (cap : Nat), cs = (txc t.client t.nonce (.slice a t.ops.length cap)).toList ∧ SL W a t.ops ∧ t.client < 18446744073709551616 ∧ t.nonce < 18446744073709551616 := by
  obtain ⟨xs, f, _, _, hl, hxl, hfd⟩ := DataW.trod_struct Tryz.underlying95 hf
  rw [clTx] at hl
  match xs, hxl, cs, hl with
  | [y0, y1, y2], _, [v0, v1, v2], _ =>
    have g0 := hfd 0 _ rfl
    have g1 := hfd 1 _ rfl
    have g2 := hfd 2 _ rfl
    simp [cl22, clSl] at g0 g1 g2
    obtain ⟨c, e0, _, w0⟩ := DataW.trod_int Tryz.underlying36 g0
    obtain ⟨n, e1, _, w1⟩ := DataW.trod_int Tryz.underlying36 g1
    have b0 : 0 ≤ c ∧ c ≤ 18446744073709551615 := by simpa [Lit.wf, IntKind.min, IntKind.max, IntKind.signed, IntKind.bits] using w0
    have b1 : 0 ≤ n ∧ n ≤ 18446744073709551615 := by simpa [Lit.wf, IntKind.min, IntKind.max, IntKind.signed, IntKind.bits] using w1
    simp at e0 e1
    subst e0 e1
    have hs2 : ∃ a len cap, v2 = .slice a len cap := by
      rcases DataW.trod_slice Tryz.underlying93 g2 with ⟨hcs, _⟩ | ⟨a, l, c, elems, rest, n, _, hcs, _⟩
      · simp at hcs; exact ⟨_, _, _, hcs⟩
      · simp at hcs; exact ⟨_, _, _, hcs⟩
    obtain ⟨a, len, cap, rfl⟩ := hs2
    obtain ⟨l, hll, hSL⟩ := ops_of g2
    refine ⟨⟨c.toNat, n.toNat, l⟩, a, cap, ?_, hSL, by dsimp only; omega, by dsimp only; omega⟩
    dsimp only
    rw [hll]
    unfold txc
    rw [show ((c.toNat : Nat) : Int) = c from by omega, show ((n.toNat : Nat) : Int) = n from by omega]
set_option maxRecDepth 100000 in
/-- The transactions of an argument's slice. -/
theorem txs_of {H : Type} {enc : TypeId × Value → H} {W : World} {n : Nat} {a0 : Option Addr} {len cap : Nat} {x : DataW H × List MemPlace} (hf : DataW.trod enc Tryz.prog W 0 (fun _ => true) true n 51 (Value.slice a0 len cap).cells.toList = some x) :
    ∃ l : List TX, l.length = len ∧ TA W a0 l ∧ len ≤ cap := by
  rcases DataW.trod_slice Tryz.underlying51 hf with ⟨hcs, _⟩ | ⟨a, l, c, elems, rest, n, _, hcs, _, _, hl, hm, hel, hc, _, _⟩
  · simp [Value.cells] at hcs
    obtain ⟨_, rfl, _⟩ := hcs
    exact ⟨[], rfl, fun i hi => by simp at hi, Nat.zero_le _⟩
  · simp [Value.cells] at hcs
    obtain ⟨rfl, rfl, rfl⟩ := hcs
    by_cases hl0 : len = 0
    · exact ⟨[], by rw [hl0]; rfl, fun i hi => by simp at hi, by omega⟩
    have each : ∀ i, i < len → ∃ (t : TX) (sa : Option Addr) (sc : Nat), W.cells? 0 (a.add (i * 3)) 3 = some (txc t.client t.nonce (.slice sa t.ops.length sc)).toList ∧ SL W sa t.ops ∧ t.client < 18446744073709551616 ∧ t.nonce < 18446744073709551616 := by
      intro i hi
      have h1 := hc i hi
      rw [clTx, List.getElem?_eq_getElem (by omega)] at h1
      obtain ⟨cs', h2, h3⟩ := Option.bind_eq_some_iff.1 h1
      obtain ⟨t, sa, sc, rfl, h4⟩ := txc_of h3
      exact ⟨t, sa, sc, h2, h4⟩
    obtain ⟨g, o, spot⟩ := a
    obtain ⟨q0, _, _, hq0, _⟩ := each 0 (by omega)
    obtain ⟨_, _, hcell0⟩ := World.cells?_some hq0
    have c0 := hcell0 0 (by omega)
    have hspot : spot = none := by
      have e : W.cell? (((⟨g, o, spot⟩ : Addr).add (0 * 3)).add 0) = some (.int .u64 (q0.client : Nat)) := c0
      simpa [Addr.add] using World.cell?_spot e
    subst hspot
    have each2 : ∀ i, ∃ t : TX, i < len → ∃ sa sc, W.rangeAt g (o + i * 3) (txc t.client t.nonce (.slice sa t.ops.length sc)).toList ∧ SL W sa t.ops ∧ t.client < 18446744073709551616 ∧ t.nonce < 18446744073709551616 := by
      intro i
      by_cases hi : i < len
      · obtain ⟨t, sa, sc, hq, h4⟩ := each i hi
        refine ⟨t, fun _ => ⟨sa, sc, fun j v hv => ?_, h4⟩⟩
        obtain ⟨_, hlen, hcell⟩ := World.cells?_some hq
        have hj : j < 3 := (List.getElem?_eq_some_iff.1 hv).1
        have := hcell j hj
        rw [Addr.add_mid, Addr.add_mid] at this
        rw [this, hv]
      · exact ⟨⟨0, 0, []⟩, fun h => absurd h hi⟩
    obtain ⟨f, hf⟩ := Classical.skolem.1 each2
    refine ⟨(List.range len).map f, by simp, fun i hi => ?_, by omega⟩
    have hi' : i < len := by simpa using hi
    obtain ⟨sa, sc, h5⟩ := hf i hi'
    refine ⟨g, o, sa, sc, rfl, ?_⟩
    simpa using h5
set_option maxRecDepth 100000 in
theorem ints_of {H : Type} {enc : TypeId × Value → H} {W : World} {n : Nat} {a0 : Option Addr} {len cap : Nat} {x : DataW H × List MemPlace} (hf : DataW.trod enc Tryz.prog W 0 (fun _ => true) true n 22 [.slice a0 len cap] = some x) :
    ∃ l : List Int, l.length = len ∧ IA W a0 l ∧ len ≤ cap := by
  rcases DataW.trod_slice Tryz.underlying22 hf with ⟨hcs, _⟩ | ⟨a, l, c, elems, rest, n, _, hcs, _, _, hl, hm, hel, hc, _, _⟩
  · simp at hcs
    obtain ⟨_, rfl, rfl⟩ := hcs
    exact ⟨[], rfl, fun i x hx => by simp at hx, Nat.le_refl _⟩
  · simp at hcs
    obtain ⟨rfl, rfl, rfl⟩ := hcs
    by_cases hl0 : len = 0
    · exact ⟨[], by rw [hl0]; rfl, fun i x hx => by simp at hx, by omega⟩
    have each : ∀ i, i < len → ∃ q : Int, W.cells? 0 (a.add (i * 1)) 1 = some [.int .i64 q] := by
      intro i hi
      have h1 := hc i hi
      rw [cl3, List.getElem?_eq_getElem (by omega)] at h1
      obtain ⟨cs', h2, h3⟩ := Option.bind_eq_some_iff.1 h1
      obtain ⟨k, e0, _, _⟩ := DataW.trod_int Tryz.underlying3 h3
      subst e0
      exact ⟨k, h2⟩
    obtain ⟨g, o, spot⟩ := a
    obtain ⟨q0, hq0⟩ := each 0 (by omega)
    obtain ⟨_, _, hcell0⟩ := World.cells?_some hq0
    have c0 := hcell0 0 (by omega)
    have hspot : spot = none := by
      have e : W.cell? (((⟨g, o, spot⟩ : Addr).add (0 * 1)).add 0) = some (.int .i64 q0) := c0
      simpa [Addr.add] using World.cell?_spot e
    subst hspot
    have each2 : ∀ i, ∃ q : Int, i < len → W.cell? ⟨g, o + i, none⟩ = some (.int .i64 q) := by
      intro i
      by_cases hi : i < len
      · obtain ⟨q, hq⟩ := each i hi
        refine ⟨q, fun _ => ?_⟩
        obtain ⟨_, hlen, hcell⟩ := World.cells?_some hq
        have := hcell 0 (by omega)
        rw [Addr.add_mid, Addr.add_mid, Nat.mul_one, Nat.add_zero] at this
        rw [this]
        rfl
      · exact ⟨0, fun h => absurd h hi⟩
    obtain ⟨f, hf⟩ := Classical.skolem.1 each2
    refine ⟨(List.range len).map f, by simp, fun i x hx => ⟨g, o, rfl, ?_⟩, by omega⟩
    have hi' : i < len := by have := (List.getElem?_eq_some_iff.1 hx).1; simpa using this
    have h1 := hf i hi'
    rw [List.getElem?_map, List.getElem?_range hi'] at hx
    simp at hx
    rw [h1, hx]
set_option maxRecDepth 100000 in
/-- The cells of a batch. -/
theorem bc_of {H : Type} {enc : TypeId × Value → H} {W : World} {n : Nat} {cl : List Value} {x : DataW H × List MemPlace} (hf : DataW.trod enc Tryz.prog W 0 (fun _ => true) true n 58 cl = some x) :
    ∃ (b : BT) (a a2 : Option Addr) (cap cap2 : Nat), cl = (bc (.slice a b.txs.length cap) b.conf (.slice a2 b.mem.length cap2)).toList ∧ TA W a b.txs ∧ IA W a2 b.mem ∧ b.txs.length ≤ cap ∧ b.mem.length ≤ cap2 := by
  obtain ⟨xs, f, _, _, hl, hxl, hfd⟩ := DataW.trod_struct Tryz.underlying58 hf
  rw [clB] at hl
  match xs, hxl, cl, hl with
  | [y0, y1, y2], _, [v0, v1, v2], _ =>
    have g0 := hfd 0 _ rfl
    have g1 := hfd 1 _ rfl
    have g2 := hfd 2 _ rfl
    simp [clSlT, clSlI, clBool] at g0 g1 g2
    have hs0 : ∃ a len cap, v0 = .slice a len cap := by
      rcases DataW.trod_slice Tryz.underlying51 g0 with ⟨hcs, _⟩ | ⟨a, l, c, elems, rest, n, _, hcs, _⟩
      · simp at hcs; exact ⟨_, _, _, hcs⟩
      · simp at hcs; exact ⟨_, _, _, hcs⟩
    have hs2 : ∃ a len cap, v2 = .slice a len cap := by
      rcases DataW.trod_slice Tryz.underlying22 g2 with ⟨hcs, _⟩ | ⟨a, l, c, elems, rest, n, _, hcs, _⟩
      · simp at hcs; exact ⟨_, _, _, hcs⟩
      · simp at hcs; exact ⟨_, _, _, hcs⟩
    obtain ⟨a, len, cap, rfl⟩ := hs0
    obtain ⟨a2, len2, cap2, rfl⟩ := hs2
    obtain ⟨c, e1, _⟩ := DataW.trod_bool Tryz.underlying4 g1
    simp at e1
    subst e1
    obtain ⟨l, rfl, hT, hc⟩ := txs_of (cap := cap) (show DataW.trod enc Tryz.prog W 0 (fun _ => true) true _ 51 (Value.slice a len cap).cells.toList = some y0 from g0)
    obtain ⟨m, rfl, hI, hc2⟩ := ints_of g2
    exact ⟨⟨l, c, m⟩, a, a2, cap, cap2, rfl, hT, hI, hc, hc2⟩
set_option maxRecDepth 100000 in
/-- A batch out of its argument. -/
theorem bat_of {H : Type} {enc : TypeId × Value → H} {W : World} {r : Reach} {base : Nat} {v : Value} {d : DataW H} {p : List MemPlace} (hv : Value.okWide Tryz.prog W r base 58 v) (h : DataW.Trod enc Tryz.prog W 0 (fun _ => true) true 58 v d p) :
    ∃ (b : BT) (a a2 : Option Addr) (cap cap2 : Nat), v = .agg (bc (.slice a b.txs.length cap) b.conf (.slice a2 b.mem.length cap2)) ∧ TA W a b.txs ∧ IA W a2 b.mem ∧ b.txs.length ≤ cap ∧ b.mem.length ≤ cap2 := by
  obtain ⟨cs, rfl, hsz⟩ := okWide_struct Tryz.underlying58 hv
  obtain ⟨fuel, hf⟩ := h
  obtain ⟨cl⟩ := cs
  obtain ⟨b, a, a2, cap, cap2, e, h1⟩ := bc_of (cl := cl) (by simpa [Value.cells] using hf)
  refine ⟨b, a, a2, cap, cap2, ?_, h1⟩
  rw [e]
end Go.Proofs.YtmbdhngoldganaaGreatDoor
