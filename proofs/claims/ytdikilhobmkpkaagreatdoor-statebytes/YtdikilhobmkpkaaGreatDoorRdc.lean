/- The plain reader's Bytes. The plain reader's Number. The plain reader's Count, Text, Bool and End. The plain reader's Bool and End. What the plain Decode does. -/
import Derived.Test.YtdikilhobmkpkaaGreatDoorRc
import Derived.Deep.RegionHeld3
import Derived.Test.YtdikilhobmkpkaaGreatDoorRsb
namespace Go.Proofs.YtdikilhobmkpkaaGreatDoor
open Go Go.RowKit
theorem z39 : (∀ w, (zeroValue 81).run Tryz.prog w = .ok (.agg (rc [] 0 0)) w) ∧ (Tryz.prog.info? 81).map (·.size) = some 3 := zero_of_info (by kernel_rfl)
theorem rc_size (s : List UInt8) (p : Nat) (e : Int) : (rc s p e).size = 3 := rfl
theorem rc_one (s : List UInt8) (p : Nat) (e : Int) : (rc s p e).all (·.oneCell') = true := by simp [rc, Value.oneCell']
theorem rc_g0 (s : List UInt8) (p : Nat) (e : Int) : (rc s p e)[0]? = some (.string ⟨s.toArray⟩) := rfl
theorem rc_g1 (s : List UInt8) (p : Nat) (e : Int) : (rc s p e)[1]? = some (.int .i64 (p : Nat)) := rfl
theorem rc_g2 (s : List UInt8) (p : Nat) (e : Int) : (rc s p e)[2]? = some (.int .i64 e) := rfl
theorem rc_err (s : List UInt8) (p : Nat) (e x : Int) : (rc s p e).setIfInBounds 2 (.int .i64 x) = rc s p x := rfl
theorem rc_pos (s : List UInt8) (p n : Nat) (e : Int) : (rc s p e).setIfInBounds 1 (.int .i64 ((p : Int) + (n : Int))) = rc s (p + n) e := by simp [rc]
section
variable {P : Program} {op : Oper} {a : Act} {w : World}
theorem run_loadRow (ty : TypeId) (x : Operand) (ho : op.op = .load ty x) (b : Nat) (hx : a.eval x = .pointer (some ⟨b, 0, none⟩))
    (c : Array Value) (t : TypeId) (hb : Blk w b c t) (d : TypeDesc) (hu : P.underlying ty = some d) (hd : d.isRow = true) (hi : (P.info? ty).map (·.size) = some c.size) :
    (execOp a.eval op).run P w = .ok (.value (.agg c)) w := by
  unfold execOp
  simp only [ho, hx]
  simp [Instr.loadAt, Instr.sureAddr, hb.loadVar d hu hd hi]
theorem run_loadCell (ty : TypeId) (x : Operand) (ho : op.op = .load ty x) (b o : Nat) (hx : a.eval x = .pointer (some ⟨b, o, none⟩))
    (c : Array Value) (t : TypeId) (hb : Blk w b c t) (d : TypeDesc) (hu : P.underlying ty = some d) (hd : d.isRow = false) (v : Value) (hv : c[o]? = some v) :
    (execOp a.eval op).run P w = .ok (.value v) w := by
  have hc : w.cell? ⟨b, o, none⟩ = some v := (hb.cell o).trans hv
  unfold execOp
  simp only [ho, hx]
  simp [Instr.loadAt, Instr.sureAddr, Sem.run_bind, loadVar, isAgg_run hu hd, hc, go_sem]
theorem wp_storeRow {K : Act → World → Prop} {Q : Exit → Act → World → Prop} (ty : TypeId) (x y : Operand) (ho : op.op = .store ty x y) (b : Nat) (cells : Array Value)
    (hx : a.eval x = .pointer (some ⟨b, 0, none⟩)) (hy : a.eval y = .agg cells) (c : Array Value) (t : TypeId) (hb : Blk w b c t) (hn : cells.size = c.size)
    (hi : (P.info? ty).map (·.size) = some cells.size) (h1 : cells.all (·.oneCell') = true)
    (h : ∀ w1 : World, w.grownBy w1 (some b) → w1.heap.size = w.heap.size → Blk w1 b cells t → K (a.put op.dst undef) w1) : op.wp P a w K Q := by
  refine wp_store_mid ty x y ho b 0 cells hx hy (hb.there 0 cells.size (by omega)) hi h1 (h _ (grown_setCells _ _ _ _) (size_setCells _ _ _ _) ?_)
  have := hb.setCells cells.toList 0
  rw [spl_all _ _ hn] at this
  exact this
end
theorem res_rc {fn : Func} {p u : Tmp} (h : fn.results = #[.cell p 81, .tmp u]) (tmps : Array Value) (w : World) (b : Nat) (s : List UInt8) (pos : Nat) (err : Int) (v : Value)
    (hp : tmps.getD p undef = .pointer (some ⟨b, 0, none⟩)) (hv : tmps.getD u undef = v) (hb : Blk w b (rc s pos err) 81) :
    (results fn tmps).run Tryz.prog w = .ok (.tuple #[.agg (rc s pos err), v]) w := by
  rw [results_cell_tmp h, hp, hv]
  simp [asAddr, hb.loadVar _ Tryz.underlying81 rfl z39.2]
set_option maxRecDepth 100000 in
set_option maxHeartbeats 400000 in
theorem rbytes_err (s : List UInt8) (pos : Nat) (err n : Int) (w : World) (he : err ≠ 0) :
    Calls Tryz.prog 73 #[.agg (rc s pos err), .int .i64 n] w fun e w' => e = .returned (.tuple #[.agg (rc s pos err), .string ⟨#[]⟩]) ∧ Below w.heap.size w w' := by
  have hne : (err != 0) = true := by simpa using he
  have hd0 : decide (err = 0) = false := decide_eq_false he
  go_enter Tryz.func73, Tryz.ntmps73
  go_wp2_with (with_reducible refine at_list ?_; first
    | (refine wpList_boxRow (op := ⟨some 2, _, _, _, _, _⟩) rfl _ _ rfl _ rfl ?_; intro w1 hw1 hs1 hb1; replace hs1 := hs1.symm)
    | (refine wpList_allocRow (op := ⟨some 4, _, _, _, _, _⟩) rfl _ rfl _ z39.1 ?_; intro w2 hw2 hs2 hz2; replace hs2 := hs2.symm; replace hb1 := hb1.belowSize hw2)
    | (refine wpList_loadCell (op := ⟨some 8, _, _, _, _, _⟩) rfl _ _ rfl w.heap.size 2 rfl _ _ hb1 _ Tryz.underlying3 rfl (.int .i64 err) rfl ?_)
    | (refine wpList_loadRow (op := ⟨some 10, _, _, _, _, _⟩) rfl _ _ rfl w.heap.size rfl _ _ hb1 _ Tryz.underlying81 rfl (by rw [rc_size]; exact z39.2) ?_)
    | (refine wpList_storeRow (op := ⟨none, .store 81 (.tmp 4) (.tmp 10), _, _, _, _⟩) rfl _ _ _ rfl w1.heap.size (rc s pos err) rfl rfl _ _ hz2 (by rw [rc_size, rc_size]) (by rw [rc_size]; exact z39.2) (rc_one _ _ _) ?_; intro w4 hg4 hs4 hz4))
  refine bodyPost_ret (res_rc rfl _ _ w1.heap.size s pos err _ rfl rfl hz4) rfl ⟨rfl, ?_⟩
  have hw3 : Below w.heap.size w w2 := hw1.trans (hw2.mono hw1.size)
  exact hw3.trans (below_of_grown hg4 hw1.size (by have := hw3.size; omega))
set_option maxRecDepth 100000 in
set_option maxHeartbeats 400000 in
theorem rbytes_neg (s : List UInt8) (pos : Nat) (n : Int) (w : World) (h0 : n < 0) :
    Calls Tryz.prog 73 #[.agg (rc s pos 0), .int .i64 n] w fun e w' => e = .returned (.tuple #[.agg (rc s pos 1), .string ⟨#[]⟩]) ∧ Below w.heap.size w w' := by
  have hd0 : decide (n < 0) = true := decide_eq_true h0
  go_enter Tryz.func73, Tryz.ntmps73
  go_wp2_with (with_reducible refine at_list ?_; first
    | (refine wpList_boxRow (op := ⟨some 2, _, _, _, _, _⟩) rfl _ _ rfl _ rfl ?_; intro w1 hw1 hs1 hb1; replace hs1 := hs1.symm)
    | (refine wpList_allocRow (op := ⟨some 4, _, _, _, _, _⟩) rfl _ rfl _ z39.1 ?_; intro w2 hw2 hs2 hz2; replace hs2 := hs2.symm; replace hb1 := hb1.belowSize hw2)
    | (refine wpList_loadCell (op := ⟨some 8, _, _, _, _, _⟩) rfl _ _ rfl w.heap.size 2 rfl _ _ hb1 _ Tryz.underlying3 rfl (.int .i64 0) rfl ?_)
    | (refine wpList_storeCell (op := ⟨none, .store 3 (.tmp 14) _, _, _, _, _⟩) rfl _ _ _ rfl w.heap.size 2 rfl (.int .i64 1) rfl _ _ hb1 i3 rfl rfl (by simp [rc]) ?_; intro w3 hg3 hs3 hb3; replace hz2 := hz2.grown hg3 (by simp; omega); rw [rc_err] at hb3)
    | (refine wpList_loadRow (op := ⟨some 15, _, _, _, _, _⟩) rfl _ _ rfl w.heap.size rfl _ _ hb3 _ Tryz.underlying81 rfl (by rw [rc_size]; exact z39.2) ?_)
    | (refine wpList_storeRow (op := ⟨none, .store 81 (.tmp 4) (.tmp 15), _, _, _, _⟩) rfl _ _ _ rfl w1.heap.size (rc s pos 1) rfl rfl _ _ hz2 (by rw [rc_size, rc_size]) (by rw [rc_size]; exact z39.2) (rc_one _ _ _) ?_; intro w4 hg4 hs4 hz4))
  refine bodyPost_ret (res_rc rfl _ _ w1.heap.size s pos 1 _ rfl rfl hz4) rfl ⟨rfl, ?_⟩
  have hB2 : Below w.heap.size w w2 := hw1.trans (hw2.mono hw1.size)
  have hB3 : Below w.heap.size w w3 := hB2.trans (below_of_grown hg3 (Nat.le_refl _) hB2.size)
  exact hB3.trans (below_of_grown hg4 hw1.size hB3.size)
set_option maxRecDepth 100000 in
set_option maxHeartbeats 400000 in
theorem rbytes_cut (s : List UInt8) (pos : Nat) (n : Int) (w : World) (h0 : ¬ n < 0) (hk : pos ≤ s.length) (hl : s.length ≤ 140737488355328) (h1 : (s.length : Int) - (pos : Nat) < n) :
    Calls Tryz.prog 73 #[.agg (rc s pos 0), .int .i64 n] w fun e w' => e = .returned (.tuple #[.agg (rc s pos 4), .string ⟨#[]⟩]) ∧ Below w.heap.size w w' := by
  have hd0 : decide (n < 0) = false := decide_eq_false h0
  have hd1 : decide ((s.length : Int) - (pos : Nat) < n) = true := decide_eq_true h1
  go_enter Tryz.func73, Tryz.ntmps73
  go_wp2_with (with_reducible refine at_list ?_; first
    | (refine wpList_boxRow (op := ⟨some 2, _, _, _, _, _⟩) rfl _ _ rfl _ rfl ?_; intro w1 hw1 hs1 hb1; replace hs1 := hs1.symm)
    | (refine wpList_allocRow (op := ⟨some 4, _, _, _, _, _⟩) rfl _ rfl _ z39.1 ?_; intro w2 hw2 hs2 hz2; replace hs2 := hs2.symm; replace hb1 := hb1.belowSize hw2)
    | (refine wpList_loadCell (op := ⟨some 8, _, _, _, _, _⟩) rfl _ _ rfl w.heap.size 2 rfl _ _ hb1 _ Tryz.underlying3 rfl (.int .i64 0) rfl ?_)
    | (refine wpList_loadCell (op := ⟨some 19, _, _, _, _, _⟩) rfl _ _ rfl w.heap.size 0 rfl _ _ hb1 _ Tryz.underlying9 rfl (.string ⟨s.toArray⟩) rfl ?_)
    | (refine wpList_loadCell (op := ⟨some 22, _, _, _, _, _⟩) rfl _ _ rfl w.heap.size 1 rfl _ _ hb1 _ Tryz.underlying3 rfl (.int .i64 (pos : Nat)) rfl ?_)
    | (refine wpList_storeCell (op := ⟨none, .store 3 (.tmp 25) _, _, _, _, _⟩) rfl _ _ _ rfl w.heap.size 2 rfl (.int .i64 4) rfl _ _ hb1 i3 rfl rfl (by simp [rc]) ?_; intro w3 hg3 hs3 hb3; replace hz2 := hz2.grown hg3 (by simp; omega); rw [rc_err] at hb3)
    | (refine wpList_loadRow (op := ⟨some 26, _, _, _, _, _⟩) rfl _ _ rfl w.heap.size rfl _ _ hb3 _ Tryz.underlying81 rfl (by rw [rc_size]; exact z39.2) ?_)
    | (refine wpList_storeRow (op := ⟨none, .store 81 (.tmp 4) (.tmp 26), _, _, _, _⟩) rfl _ _ _ rfl w1.heap.size (rc s pos 4) rfl rfl _ _ hz2 (by rw [rc_size, rc_size]) (by rw [rc_size]; exact z39.2) (rc_one _ _ _) ?_; intro w4 hg4 hs4 hz4))
  refine bodyPost_ret (res_rc rfl _ _ w1.heap.size s pos 4 _ rfl rfl hz4) rfl ⟨rfl, ?_⟩
  have hB2 : Below w.heap.size w w2 := hw1.trans (hw2.mono hw1.size)
  have hB3 : Below w.heap.size w w3 := hB2.trans (below_of_grown hg3 (Nat.le_refl _) hB2.size)
  exact hB3.trans (below_of_grown hg4 hw1.size hB3.size)
attribute [local go_sem] extract_mid
set_option maxRecDepth 100000 in
set_option maxHeartbeats 400000 in
theorem rbytes_yes (s : List UInt8) (pos n : Nat) (w : World) (hl : s.length ≤ 140737488355328) (h1 : pos + n ≤ s.length) :
    Calls Tryz.prog 73 #[.agg (rc s pos 0), .int .i64 (n : Nat)] w fun e w' => e = .returned (.tuple #[.agg (rc s (pos + n) 0), .string ⟨((s.drop pos).take n).toArray⟩]) ∧ Below w.heap.size w w' := by
  have hd0 : decide ((n : Int) < 0) = false := decide_eq_false (by omega)
  have hd1 : decide ((s.length : Int) - (pos : Nat) < (n : Int)) = false := decide_eq_false (by omega)
  go_enter Tryz.func73, Tryz.ntmps73
  go_wp2_with (with_reducible refine at_list ?_; first
    | (refine wpList_boxRow (op := ⟨some 2, _, _, _, _, _⟩) rfl _ _ rfl _ rfl ?_; intro w1 hw1 hs1 hb1; replace hs1 := hs1.symm)
    | (refine wpList_allocRow (op := ⟨some 4, _, _, _, _, _⟩) rfl _ rfl _ z39.1 ?_; intro w2 hw2 hs2 hz2; replace hs2 := hs2.symm; replace hb1 := hb1.belowSize hw2)
    | (refine wpList_loadCell (op := ⟨some 8, _, _, _, _, _⟩) rfl _ _ rfl w.heap.size 2 rfl _ _ hb1 _ Tryz.underlying3 rfl (.int .i64 0) rfl ?_)
    | (refine wpList_loadCell (op := ⟨some 19, _, _, _, _, _⟩) rfl _ _ rfl w.heap.size 0 rfl _ _ hb1 _ Tryz.underlying9 rfl (.string ⟨s.toArray⟩) rfl ?_)
    | (refine wpList_loadCell (op := ⟨some 22, _, _, _, _, _⟩) rfl _ _ rfl w.heap.size 1 rfl _ _ hb1 _ Tryz.underlying3 rfl (.int .i64 (pos : Nat)) rfl ?_)
    | (refine wpList_loadCell (op := ⟨some 28, _, _, _, _, _⟩) rfl _ _ rfl w.heap.size 1 rfl _ _ hb1 _ Tryz.underlying3 rfl (.int .i64 (pos : Nat)) rfl ?_)
    | (go_simp; refine wpList_storeCell (op := ⟨none, .store 3 (.tmp 31) _, _, _, _, _⟩) rfl _ _ _ rfl w.heap.size 1 rfl (.int .i64 ((pos : Int) + (n : Int))) rfl _ _ hb1 i3 rfl rfl (by simp [rc]) ?_; intro w3 hg3 hs3 hb3; replace hz2 := hz2.grown hg3 (by simp; omega); rw [rc_pos] at hb3))
  clear hd0 hd1
  refine wp_region_held_drew (S := fun w' => Blk w' w.heap.size (rc s (pos + n) 0) 81) (by kernel_rfl) hb3.drew (fun hS => ?_)
  refine wpAnyH_take (i := 0) (oi := ⟨some 32, _, _, _, _, _⟩) (v := .agg (rc s (pos + n) 0)) rfl (by kernel_rfl) (by kernel_rfl) (by kernel_rfl) (fun _ _ _ h => h) (Or.inl ⟨by rfl, fun w' hSw => run_loadRow _ _ rfl w.heap.size rfl _ _ hSw _ Tryz.underlying81 rfl (by rw [rc_size]; exact z39.2)⟩) hS ?_
  refine wpAnyH_take (i := 1) (oi := ⟨some 33, _, _, _, _, _⟩) (v := .pointer (some ⟨w.heap.size, 0, none⟩)) rfl (by kernel_rfl) (by kernel_rfl) (by kernel_rfl) (fun _ _ _ h => h) (Or.inl ⟨by rfl, fun w' hSw => by go_simp⟩) hS ?_
  refine wpAnyH_take (i := 2) (oi := ⟨some 34, _, _, _, _, _⟩) (v := .string ⟨s.toArray⟩) rfl (by kernel_rfl) (by kernel_rfl) (by kernel_rfl) (fun _ _ _ h => h) (Or.inl ⟨by rfl, fun w' hSw => run_loadCell _ _ rfl w.heap.size 0 rfl _ _ hSw _ Tryz.underlying9 rfl _ (rc_g0 _ _ _)⟩) hS ?_
  simp only [Act.put, List.setIfInBounds_toArray, List.set_cons_zero, List.set_cons_succ]
  refine wpAnyH_take (i := 3) (oi := ⟨some 35, _, _, _, _, _⟩) (v := .pointer (some ⟨w.heap.size, 1, none⟩)) rfl (by kernel_rfl) (by kernel_rfl) (by kernel_rfl) (fun _ _ _ h => h) (Or.inl ⟨by rfl, fun w' hSw => by go_simp⟩) hS ?_
  refine wpAnyH_take (i := 4) (oi := ⟨some 36, _, _, _, _, _⟩) (v := .int .i64 ((pos + n : Nat) : Int)) rfl (by kernel_rfl) (by kernel_rfl) (by kernel_rfl) (fun _ _ _ h => h) (Or.inl ⟨by rfl, fun w' hSw => run_loadCell _ _ rfl w.heap.size 1 rfl _ _ hSw _ Tryz.underlying3 rfl _ (rc_g1 _ _ _)⟩) hS ?_
  refine wpAnyH_take (i := 5) (oi := ⟨some 37, _, _, _, _, _⟩) (v := .int .i64 (n : Nat)) rfl (by kernel_rfl) (by kernel_rfl) (by kernel_rfl) (fun _ _ _ h => h) (Or.inl ⟨by rfl, fun w' hSw => by go_simp⟩) hS ?_
  simp only [Act.put, List.setIfInBounds_toArray, List.set_cons_zero, List.set_cons_succ]
  refine wpAnyH_take (i := 6) (oi := ⟨some 38, _, _, _, _, _⟩) (v := .int .i64 (pos : Nat)) rfl (by kernel_rfl) (by kernel_rfl) (by kernel_rfl) (fun _ _ _ h => h) (Or.inl ⟨by rfl, fun w' hSw => by go_simp; rw [IntKind.wrap_i64]; omega⟩) hS ?_
  refine wpAnyH_take (i := 7) (oi := ⟨some 39, _, _, _, _, _⟩) (v := .pointer (some ⟨w.heap.size, 1, none⟩)) rfl (by kernel_rfl) (by kernel_rfl) (by kernel_rfl) (fun _ _ _ h => h) (Or.inl ⟨by rfl, fun w' hSw => by go_simp⟩) hS ?_
  simp only [Act.put, List.setIfInBounds_toArray, List.set_cons_zero, List.set_cons_succ]
  refine wpAnyH_take (i := 8) (oi := ⟨some 40, _, _, _, _, _⟩) (v := .int .i64 ((pos + n : Nat) : Int)) rfl (by kernel_rfl) (by kernel_rfl) (by kernel_rfl) (fun _ _ _ h => h) (Or.inl ⟨by rfl, fun w' hSw => run_loadCell _ _ rfl w.heap.size 1 rfl _ _ hSw _ Tryz.underlying3 rfl _ (rc_g1 _ _ _)⟩) hS ?_
  simp only [Act.put, List.setIfInBounds_toArray, List.set_cons_zero, List.set_cons_succ]
  refine wpAnyH_take (i := 9) (oi := ⟨some 41, _, _, _, _, _⟩) (v := .string ⟨((s.drop pos).take n).toArray⟩) rfl (by kernel_rfl) (by kernel_rfl) (by kernel_rfl) (fun _ _ _ h => h) (Or.inl ⟨by rfl, fun w' hSw => by go_simp; rw [← extract_mid, if_pos (by omega), if_pos (by omega), show ((pos : Int) + (n : Int)).toNat = pos + n from by omega]⟩) hS ?_
  simp only [Act.put, List.setIfInBounds_toArray, List.set_cons_zero, List.set_cons_succ]
  refine wpAnyH_ready (rs := [10]) (by kernel_rfl) (by simp) ?_
  refine AllReadyH.cons (o := ⟨none, .store 81 (.tmp 4) (.tmp 32), _, _, _, _⟩) rfl (fun K hK => ?_) AllReadyH.nil
  rw [if_pos (by rfl)]
  refine wp_storeRow _ _ _ rfl w1.heap.size (rc s (pos + n) 0) rfl rfl _ _ hz2.drew (by rw [rc_size, rc_size]) (by rw [rc_size]; exact z39.2) (rc_one _ _ _) ?_
  intro w4 hg4 hs4 hz4
  refine hK.out _ _ (hS.grown hg4 (by simp; omega)) (fun hS2 => ?_)
  clear hK K hS
  have hS := hS2
  clear hS2
  simp only [Act.put]
  refine wpAnyH_take (i := 11) (oi := ⟨some 5, _, _, _, _, _⟩) (v := .string ⟨((s.drop pos).take n).toArray⟩) rfl (by kernel_rfl) (by kernel_rfl) (by kernel_rfl) (fun _ _ _ h => h) (Or.inl ⟨by rfl, fun w' hSw => by go_simp⟩) hS ?_
  refine wpAnyH_done (by kernel_rfl) ?_ _
  simp only [Act.put, List.setIfInBounds_toArray, List.set_cons_zero, List.set_cons_succ]
  go_simp
  go_wp2_with fail
  refine bodyPost_ret (res_rc rfl _ _ w1.heap.size s (pos + n) 0 _ rfl rfl hz4) rfl ⟨rfl, ?_⟩
  have hB2 : Below w.heap.size w w2 := hw1.trans (hw2.mono hw1.size)
  have hB3 : Below w.heap.size w w3 := hB2.trans (below_of_grown hg3 (Nat.le_refl _) hB2.size)
  have hB4 : Below w.heap.size w w3.drew := hB3.drew
  exact hB4.trans (below_of_grown hg4 hw1.size hB4.size)
theorem rbytes_any (r : R) (n : Int) (w : World) (hk : r.ok) (hl : r.s.length ≤ 140737488355328) :
    Calls Tryz.prog 73 #[.agg (rc r.s r.pos r.err), .int .i64 n] w fun e w' => e = .returned (.tuple #[.agg (rc (r.bytes n).1.s (r.bytes n).1.pos (r.bytes n).1.err), .string ⟨(r.bytes n).2.toArray⟩]) ∧ Below w.heap.size w w' := by
  obtain ⟨s, pos, err⟩ := r
  by_cases he : err = 0
  · subst he
    unfold R.bytes
    rw [if_neg (by simp)]
    by_cases h0 : n < 0
    · rw [if_pos h0]; exact rbytes_neg s pos n w h0
    · rw [if_neg h0]
      by_cases h1 : (s.length : Int) - (pos : Nat) < n
      · rw [if_pos h1]; exact rbytes_cut s pos n w h0 hk hl h1
      · rw [if_neg h1]
        obtain ⟨m, rfl⟩ : ∃ m : Nat, n = m := ⟨n.toNat, by omega⟩
        exact rbytes_yes s pos m w hl (by omega)
  · have e : R.bytes ⟨s, pos, err⟩ n = (⟨s, pos, err⟩, []) := by unfold R.bytes; rw [if_pos he]
    rw [e]
    exact rbytes_err s pos err n w he
end Go.Proofs.YtdikilhobmkpkaaGreatDoor
namespace Go.Proofs.YtdikilhobmkpkaaGreatDoor
open Go Go.RowKit
attribute [local go_sem] idx8
set_option maxRecDepth 100000 in
set_option maxHeartbeats 400000 in
theorem rnumber_plain (s : List UInt8) (pos : Nat) (err k : Int) (us : List UInt8) (up : Nat) (ue : Int) (v : List UInt8) (w : World) (h : ¬ (err = 0 ∧ 8 < k)) (hv8 : v.length ≤ 8)
    (HB : ∀ w, Calls Tryz.prog 73 #[.agg (rc s pos err), .int .i64 k] w fun e w' => e = .returned (.tuple #[.agg (rc us up ue), .string ⟨v.toArray⟩]) ∧ Below w.heap.size w w') :
    Calls Tryz.prog 72 #[.agg (rc s pos err), .int .i64 k] w fun e w' => e = .returned (.tuple #[.agg (rc us up ue), .int .u64 (val v)]) ∧ Below w.heap.size w w' := by
  by_cases he : err = 0
  · subst he
    have hd8 : decide (8 < k) = false := decide_eq_false (fun x => h ⟨rfl, x⟩)
    clear h
    go_enter Tryz.func72, Tryz.ntmps72
    go_wp2_with (first
      | (go_at_call 73; refine (HB _).mono ?_; rintro e w4 ⟨rfl, hw4⟩; replace hb1 := hb1.belowSize hw4; replace hz2 := hz2.belowSize hw4)
      | (with_reducible refine at_list ?_; first
        | (refine wpList_boxRow (op := ⟨some 2, _, _, _, _, _⟩) rfl _ _ rfl _ rfl ?_; intro w1 hw1 hs1 hb1; replace hs1 := hs1.symm)
        | (refine wpList_allocRow (op := ⟨some 4, _, _, _, _, _⟩) rfl _ rfl _ z39.1 ?_; intro w2 hw2 hs2 hz2; replace hs2 := hs2.symm; replace hb1 := hb1.belowSize hw2)
        | (refine wpList_loadCell (op := ⟨some 10, _, _, _, _, _⟩) rfl _ _ rfl w.heap.size 2 rfl _ _ hb1 _ Tryz.underlying3 rfl (.int .i64 0) rfl ?_)
        | (refine wpList_loadRow (op := ⟨some 18, _, _, _, _, _⟩) rfl _ _ rfl w.heap.size rfl _ _ hb1 _ Tryz.underlying81 rfl (by rw [rc_size]; exact z39.2) ?_)
        | (refine wpList_storeRow (op := ⟨none, .store 81 (.tmp 2) (.tmp 21), _, _, _, _⟩) rfl _ _ _ rfl w.heap.size (rc us up ue) rfl rfl _ _ hb1 (by rw [rc_size, rc_size]) (by rw [rc_size]; exact z39.2) (rc_one _ _ _) ?_; intro w5 hg5 hs5 hz5; have hb5 := hz5; clear hz5; have hz5 := hz2.grown hg5 (by simp; omega))))
    have hB2 : Below w.heap.size w w2 := hw1.trans (hw2.mono hw1.size)
    have hB4 : Below w.heap.size w w4 := hB2.trans (hw4.mono hB2.size)
    have hB5 : Below w.heap.size w w5 := hB4.trans (below_of_grown hg5 (Nat.le_refl _) hB4.size)
    clear hB2 hB4 hg5 hw4 hw2 hs2 hs5 hz2 hd8 HB
    go_loopw [7, 8] (fun v7 v8 wl => ∃ n : Nat, n ≤ v.length ∧ v7 = .int .u64 (val (v.take n)) ∧ v8 = .int .i64 n ∧ wl = w5) (fun _ v8 _ => v.length - (intOf v8).toNat)
    case atStart => exact ⟨0, by omega, rfl, rfl, rfl⟩
    case round =>
      obtain ⟨n, hn, rfl, rfl, hw⟩ := hrel
      have hw2 := hw.symm
      subst hw2
      clear hw
      by_cases hlt : n < v.length
      · have hv := val_lt n (v.take n) (by rw [List.length_take]; omega)
        have h7 : 256 ^ n ≤ 256 ^ 7 := Nat.pow_le_pow_right (by decide) (by omega)
        have h77 : 256 ^ 7 = 72057594037927936 := by decide
        have hv2 : val (v.take n) * 256 + 255 < 18446744073709551616 := by omega
        have hb : (byteOf v n).toNat < 256 := (byteOf v n).toNat_lt
        have hb2 : IntKind.u64.wrap (n8 (byteOf v n)) = ((byteOf v n).toNat : Int) := by rw [IntKind.wrap_u64]; unfold n8; omega
        have HN : Hid (val (v.take (n + 1)) = val (v.take n) * 256 + (byteOf v n).toNat) := val_take v n hlt
        clear h7 h77 hv
        generalize val (v.take n) = z at *
        generalize (byteOf v n).toNat = y at *
        go_wp2_with fail
        go_roundw
        case rel => exact ⟨n + 1, by omega, by rw [HN.out]; simp, by go_num, trivial⟩
        case measure => simp [intOf]; omega
      · have e1 : v.take n = v := List.take_of_length_le (by omega)
        rw [e1]
        go_wp2_with (with_reducible refine at_list ?_; first
          | (refine wpList_loadRow (op := ⟨some 36, _, _, _, _, _⟩) rfl _ _ rfl w.heap.size rfl _ _ hb5 _ Tryz.underlying81 rfl (by rw [rc_size]; exact z39.2) ?_)
          | (refine wpList_storeRow (op := ⟨none, .store 81 (.tmp 4) (.tmp 36), _, _, _, _⟩) rfl _ _ _ rfl w1.heap.size (rc us up ue) rfl rfl _ _ hz5 (by rw [rc_size, rc_size]) (by rw [rc_size]; exact z39.2) (rc_one _ _ _) ?_; intro w6 hg6 hs6 hz6))
        refine bodyPost_ret (res_rc rfl _ _ w1.heap.size us up ue _ rfl rfl hz6) rfl ⟨rfl, ?_⟩
        exact hB5.trans (below_of_grown hg6 hw1.size hB5.size)
  · have hd0 : decide (err = 0) = false := decide_eq_false he
    clear h
    go_enter Tryz.func72, Tryz.ntmps72
    go_wp2_with (first
      | (go_at_call 73; refine (HB _).mono ?_; rintro e w4 ⟨rfl, hw4⟩; replace hb1 := hb1.belowSize hw4; replace hz2 := hz2.belowSize hw4)
      | (with_reducible refine at_list ?_; first
        | (refine wpList_boxRow (op := ⟨some 2, _, _, _, _, _⟩) rfl _ _ rfl _ rfl ?_; intro w1 hw1 hs1 hb1; replace hs1 := hs1.symm)
        | (refine wpList_allocRow (op := ⟨some 4, _, _, _, _, _⟩) rfl _ rfl _ z39.1 ?_; intro w2 hw2 hs2 hz2; replace hs2 := hs2.symm; replace hb1 := hb1.belowSize hw2)
        | (refine wpList_loadCell (op := ⟨some 10, _, _, _, _, _⟩) rfl _ _ rfl w.heap.size 2 rfl _ _ hb1 _ Tryz.underlying3 rfl (.int .i64 err) rfl ?_)
        | (refine wpList_loadRow (op := ⟨some 18, _, _, _, _, _⟩) rfl _ _ rfl w.heap.size rfl _ _ hb1 _ Tryz.underlying81 rfl (by rw [rc_size]; exact z39.2) ?_)
        | (refine wpList_storeRow (op := ⟨none, .store 81 (.tmp 2) (.tmp 21), _, _, _, _⟩) rfl _ _ _ rfl w.heap.size (rc us up ue) rfl rfl _ _ hb1 (by rw [rc_size, rc_size]) (by rw [rc_size]; exact z39.2) (rc_one _ _ _) ?_; intro w5 hg5 hs5 hz5; have hb5 := hz5; clear hz5; have hz5 := hz2.grown hg5 (by simp; omega))))
    have hB2 : Below w.heap.size w w2 := hw1.trans (hw2.mono hw1.size)
    have hB4 : Below w.heap.size w w4 := hB2.trans (hw4.mono hB2.size)
    have hB5 : Below w.heap.size w w5 := hB4.trans (below_of_grown hg5 (Nat.le_refl _) hB4.size)
    clear hB2 hB4 hg5 hw4 hw2 hs2 hs5 hz2 hd0 HB
    go_loopw [7, 8] (fun v7 v8 wl => ∃ n : Nat, n ≤ v.length ∧ v7 = .int .u64 (val (v.take n)) ∧ v8 = .int .i64 n ∧ wl = w5) (fun _ v8 _ => v.length - (intOf v8).toNat)
    case atStart => exact ⟨0, by omega, rfl, rfl, rfl⟩
    case round =>
      obtain ⟨n, hn, rfl, rfl, hw⟩ := hrel
      have hw2 := hw.symm
      subst hw2
      clear hw
      by_cases hlt : n < v.length
      · have hv := val_lt n (v.take n) (by rw [List.length_take]; omega)
        have h7 : 256 ^ n ≤ 256 ^ 7 := Nat.pow_le_pow_right (by decide) (by omega)
        have h77 : 256 ^ 7 = 72057594037927936 := by decide
        have hv2 : val (v.take n) * 256 + 255 < 18446744073709551616 := by omega
        have hb : (byteOf v n).toNat < 256 := (byteOf v n).toNat_lt
        have hb2 : IntKind.u64.wrap (n8 (byteOf v n)) = ((byteOf v n).toNat : Int) := by rw [IntKind.wrap_u64]; unfold n8; omega
        have HN : Hid (val (v.take (n + 1)) = val (v.take n) * 256 + (byteOf v n).toNat) := val_take v n hlt
        clear h7 h77 hv
        generalize val (v.take n) = z at *
        generalize (byteOf v n).toNat = y at *
        go_wp2_with fail
        go_roundw
        case rel => exact ⟨n + 1, by omega, by rw [HN.out]; simp, by go_num, trivial⟩
        case measure => simp [intOf]; omega
      · have e1 : v.take n = v := List.take_of_length_le (by omega)
        rw [e1]
        go_wp2_with (with_reducible refine at_list ?_; first
          | (refine wpList_loadRow (op := ⟨some 36, _, _, _, _, _⟩) rfl _ _ rfl w.heap.size rfl _ _ hb5 _ Tryz.underlying81 rfl (by rw [rc_size]; exact z39.2) ?_)
          | (refine wpList_storeRow (op := ⟨none, .store 81 (.tmp 4) (.tmp 36), _, _, _, _⟩) rfl _ _ _ rfl w1.heap.size (rc us up ue) rfl rfl _ _ hz5 (by rw [rc_size, rc_size]) (by rw [rc_size]; exact z39.2) (rc_one _ _ _) ?_; intro w6 hg6 hs6 hz6))
        refine bodyPost_ret (res_rc rfl _ _ w1.heap.size us up ue _ rfl rfl hz6) rfl ⟨rfl, ?_⟩
        exact hB5.trans (below_of_grown hg6 hw1.size hB5.size)
set_option maxRecDepth 100000 in
set_option maxHeartbeats 400000 in
theorem rnumber_early (s : List UInt8) (pos : Nat) (k : Int) (w : World) (h : 8 < k) :
    Calls Tryz.prog 72 #[.agg (rc s pos 0), .int .i64 k] w fun e w' => e = .returned (.tuple #[.agg (rc s pos 1), .int .u64 (val [])]) ∧ Below w.heap.size w w' := by
  obtain ⟨us, hus⟩ : ∃ us, us = s := ⟨_, rfl⟩
  obtain ⟨up, hup⟩ : ∃ up, up = pos := ⟨_, rfl⟩
  obtain ⟨ue, hue⟩ : ∃ ue : Int, ue = 1 := ⟨_, rfl⟩
  obtain ⟨v, hv⟩ : ∃ v : List UInt8, v = [] := ⟨_, rfl⟩
  have hv8 : v.length ≤ 8 := by rw [hv]; simp
  have HB : ∀ w, Calls Tryz.prog 73 #[.agg (rc s pos 1), .int .i64 k] w fun e w' => e = .returned (.tuple #[.agg (rc us up ue), .string ⟨v.toArray⟩]) ∧ Below w.heap.size w w' := fun w => by
    rw [hus, hup, hue, hv]; exact rbytes_err s pos 1 k w (by decide)
  rw [show rc s pos 1 = rc us up ue from by rw [hus, hup, hue], show val [] = val v from by rw [hv]]
  clear hus hup hue hv
  have hd8 : decide (8 < k) = true := decide_eq_true h
  go_enter Tryz.func72, Tryz.ntmps72
  go_wp2_with (first
    | (go_at_call 73; refine (HB _).mono ?_; rintro e w4 ⟨rfl, hw4⟩; replace hb1 := hb1.belowSize hw4; replace hz2 := hz2.belowSize hw4)
    | (with_reducible refine at_list ?_; first
      | (refine wpList_boxRow (op := ⟨some 2, _, _, _, _, _⟩) rfl _ _ rfl _ rfl ?_; intro w1 hw1 hs1 hb1; replace hs1 := hs1.symm)
      | (refine wpList_allocRow (op := ⟨some 4, _, _, _, _, _⟩) rfl _ rfl _ z39.1 ?_; intro w2 hw2 hs2 hz2; replace hs2 := hs2.symm; replace hb1 := hb1.belowSize hw2)
      | (refine wpList_loadCell (op := ⟨some 10, _, _, _, _, _⟩) rfl _ _ rfl w.heap.size 2 rfl _ _ hb1 _ Tryz.underlying3 rfl (.int .i64 0) rfl ?_)
      | (refine wpList_storeCell (op := ⟨none, .store 3 (.tmp 16) _, _, _, _, _⟩) rfl _ _ _ rfl w.heap.size 2 rfl (.int .i64 1) rfl _ _ hb1 i3 rfl rfl (by simp [rc]) ?_; intro w3 hg3 hs3 hb3; replace hz2 := hz2.grown hg3 (by simp; omega); rw [rc_err] at hb3; replace hb1 := hb3; clear hb3)
      | (refine wpList_loadRow (op := ⟨some 18, _, _, _, _, _⟩) rfl _ _ rfl w.heap.size rfl _ _ hb1 _ Tryz.underlying81 rfl (by rw [rc_size]; exact z39.2) ?_)
      | (refine wpList_storeRow (op := ⟨none, .store 81 (.tmp 2) (.tmp 21), _, _, _, _⟩) rfl _ _ _ rfl w.heap.size (rc us up ue) rfl rfl _ _ hb1 (by rw [rc_size, rc_size]) (by rw [rc_size]; exact z39.2) (rc_one _ _ _) ?_; intro w5 hg5 hs5 hz5; have hb5 := hz5; clear hz5; have hz5 := hz2.grown hg5 (by simp; omega))))
  have hB2 : Below w.heap.size w w2 := hw1.trans (hw2.mono hw1.size)
  have hB3 : Below w.heap.size w w3 := hB2.trans (below_of_grown hg3 (Nat.le_refl _) hB2.size)
  have hB4 : Below w.heap.size w w4 := hB3.trans (hw4.mono hB3.size)
  have hB5 : Below w.heap.size w w5 := hB4.trans (below_of_grown hg5 (Nat.le_refl _) hB4.size)
  clear hB2 hB3 hB4 hg3 hg5 hw4 hw2 hs2 hs3 hs5 hz2 hd8 HB
  go_loopw [7, 8] (fun v7 v8 wl => ∃ n : Nat, n ≤ v.length ∧ v7 = .int .u64 (val (v.take n)) ∧ v8 = .int .i64 n ∧ wl = w5) (fun _ v8 _ => v.length - (intOf v8).toNat)
  case atStart => exact ⟨0, by omega, rfl, rfl, rfl⟩
  case round =>
    obtain ⟨n, hn, rfl, rfl, hw⟩ := hrel
    have hw2 := hw.symm
    subst hw2
    clear hw
    by_cases hlt : n < v.length
    · have hv := val_lt n (v.take n) (by rw [List.length_take]; omega)
      have h7 : 256 ^ n ≤ 256 ^ 7 := Nat.pow_le_pow_right (by decide) (by omega)
      have h77 : 256 ^ 7 = 72057594037927936 := by decide
      have hv2 : val (v.take n) * 256 + 255 < 18446744073709551616 := by omega
      have hb : (byteOf v n).toNat < 256 := (byteOf v n).toNat_lt
      have hb2 : IntKind.u64.wrap (n8 (byteOf v n)) = ((byteOf v n).toNat : Int) := by rw [IntKind.wrap_u64]; unfold n8; omega
      have HN : Hid (val (v.take (n + 1)) = val (v.take n) * 256 + (byteOf v n).toNat) := val_take v n hlt
      clear h7 h77 hv
      generalize val (v.take n) = z at *
      generalize (byteOf v n).toNat = y at *
      go_wp2_with fail
      go_roundw
      case rel => exact ⟨n + 1, by omega, by rw [HN.out]; simp, by go_num, trivial⟩
      case measure => simp [intOf]; omega
    · have e1 : v.take n = v := List.take_of_length_le (by omega)
      rw [e1]
      go_wp2_with (with_reducible refine at_list ?_; first
        | (refine wpList_loadRow (op := ⟨some 36, _, _, _, _, _⟩) rfl _ _ rfl w.heap.size rfl _ _ hb5 _ Tryz.underlying81 rfl (by rw [rc_size]; exact z39.2) ?_)
        | (refine wpList_storeRow (op := ⟨none, .store 81 (.tmp 4) (.tmp 36), _, _, _, _⟩) rfl _ _ _ rfl w1.heap.size (rc us up ue) rfl rfl _ _ hz5 (by rw [rc_size, rc_size]) (by rw [rc_size]; exact z39.2) (rc_one _ _ _) ?_; intro w6 hg6 hs6 hz6))
      refine bodyPost_ret (res_rc rfl _ _ w1.heap.size us up ue _ rfl rfl hz6) rfl ⟨rfl, ?_⟩
      exact hB5.trans (below_of_grown hg6 hw1.size hB5.size)
theorem rnumber_any (r : R) (k : Int) (w : World) (hk : r.ok) (hl : r.s.length ≤ 140737488355328) :
    Calls Tryz.prog 72 #[.agg (rc r.s r.pos r.err), .int .i64 k] w fun e w' => e = .returned (.tuple #[.agg (rc (r.number k).1.s (r.number k).1.pos (r.number k).1.err), .int .u64 ((r.number k).2 : Nat)]) ∧ Below w.heap.size w w' := by
  by_cases h : r.err = 0 ∧ 8 < k
  · obtain ⟨s, pos, err⟩ := r
    obtain ⟨h0, h1⟩ := h
    have h0 : err = 0 := h0
    subst h0
    have e : R.number ⟨s, pos, 0⟩ k = (⟨s, pos, 1⟩, val []) := by
      unfold R.number R.early
      rw [if_pos ⟨rfl, h1⟩]
      unfold R.bytes
      rw [if_pos (by simp)]
    rw [e]
    exact rnumber_early s pos k w h1
  · have e : r.early k = r := if_neg h
    have h8 := r.early_len k
    unfold R.number
    rw [e] at h8 ⊢
    exact rnumber_plain r.s r.pos r.err k _ _ _ _ w h h8 (fun w => rbytes_any r k w hk hl)
end Go.Proofs.YtdikilhobmkpkaaGreatDoor
namespace Go.Proofs.YtdikilhobmkpkaaGreatDoor
open Go Go.RowKit
set_option maxRecDepth 100000 in
set_option maxHeartbeats 400000 in
theorem rcount_out (s : List UInt8) (pos : Nat) (err m : Int) (us : List UInt8) (up : Nat) (ue : Int) (n : Nat) (w : World) (hn : n < 4294967296) (hm : m ≤ 9223372036854775807)
    (HN : ∀ w, Calls Tryz.prog 72 #[.agg (rc s pos err), .int .i64 4] w fun e w' => e = .returned (.tuple #[.agg (rc us up ue), .int .u64 (n : Nat)]) ∧ Below w.heap.size w w') (h0 : ue = 0) (h1 : m < 0 ∨ m < n) :
    Calls Tryz.prog 41 #[.agg (rc s pos err), .int .i64 m] w fun e w' => e = .returned (.tuple #[.agg (rc s pos 3), .int .i64 0]) ∧ Below w.heap.size w w' := by
  subst h0
  have hn64 := wrap_u64_nat n (by omega)
  by_cases h2 : m < 0
  · have hd : decide (m < 0) = true := decide_eq_true h2
    go_enter Tryz.func41, Tryz.ntmps41
    go_wp2_with (first
      | (go_at_call 72; refine (HN _).mono ?_; rintro e w4 ⟨rfl, hw4⟩; replace hb1 := hb1.belowSize hw4; replace hz2 := hz2.belowSize hw4)
      | (with_reducible refine at_list ?_; first
        | (refine wpList_boxRow (op := ⟨some 2, _, _, _, _, _⟩) rfl _ _ rfl _ rfl ?_; intro w1 hw1 hs1 hb1; replace hs1 := hs1.symm)
        | (refine wpList_allocRow (op := ⟨some 4, _, _, _, _, _⟩) rfl _ rfl _ z39.1 ?_; intro w2 hw2 hs2 hz2; replace hs2 := hs2.symm; replace hb1 := hb1.belowSize hw2)
        | (refine wpList_loadRow (op := ⟨some 9, _, _, _, _, _⟩) rfl _ _ rfl w.heap.size rfl _ _ hb1 _ Tryz.underlying81 rfl (by rw [rc_size]; exact z39.2) ?_)
        | (refine wpList_allocRow (op := ⟨some 6, _, _, _, _, _⟩) rfl _ rfl _ z39.1 ?_; intro w5 hw5 hs5 hk5; replace hs5 := hs5.symm; have hl5 : w2.heap.size ≤ w4.heap.size := hw4.size; replace hb1 := hb1.belowSize hw5; replace hz2 := hz2.belowSize hw5)
        | (refine wpList_storeRow (op := ⟨none, .store 81 (.tmp 6) (.tmp 11), _, _, _, _⟩) rfl _ _ _ rfl w4.heap.size (rc us up 0) rfl rfl _ _ hk5 (by rw [rc_size, rc_size]) (by rw [rc_size]; exact z39.2) (rc_one _ _ _) ?_; intro w6 hg6 hs6 hz6; have hk6 := hz6; clear hz6; replace hb1 := hb1.grown hg6 (by simp; omega); replace hz2 := hz2.grown hg6 (by simp; omega))
        | (refine wpList_loadCell (op := ⟨some 14, _, _, _, _, _⟩) rfl _ _ rfl w4.heap.size 2 rfl _ _ hk6 _ Tryz.underlying3 rfl (.int .i64 0) rfl ?_)
        | (refine wpList_storeCell (op := ⟨none, .store 3 (.tmp 26) _, _, _, _, _⟩) rfl _ _ _ rfl w.heap.size 2 rfl (.int .i64 3) rfl _ _ hb1 i3 rfl rfl (by simp [rc]) ?_; intro w7 hg7 hs7 hb7; rw [rc_err] at hb7; replace hz2 := hz2.grown hg7 (by simp; omega))
        | (refine wpList_loadRow (op := ⟨some 27, _, _, _, _, _⟩) rfl _ _ rfl w.heap.size rfl _ _ hb7 _ Tryz.underlying81 rfl (by rw [rc_size]; exact z39.2) ?_)
        | (refine wpList_storeRow (op := ⟨none, .store 81 (.tmp 4) (.tmp 27), _, _, _, _⟩) rfl _ _ _ rfl w1.heap.size (rc s pos 3) rfl rfl _ _ hz2 (by rw [rc_size, rc_size]) (by rw [rc_size]; exact z39.2) (rc_one _ _ _) ?_; intro w8 hg8 hs8 hz8)))
    have hB2 : Below w.heap.size w w2 := hw1.trans (hw2.mono hw1.size)
    have hB4 : Below w.heap.size w w4 := hB2.trans (hw4.mono hB2.size)
    have hB5 : Below w.heap.size w w5 := hB4.trans (hw5.mono hB4.size)
    have hB6 : Below w.heap.size w w6 := hB5.trans (below_of_grown hg6 hB4.size hB5.size)
    have hB7 : Below w.heap.size w w7 := hB6.trans (below_of_grown hg7 (Nat.le_refl _) hB6.size)
    refine bodyPost_ret (res_rc rfl _ _ w1.heap.size s pos 3 _ rfl rfl hz8) rfl ⟨rfl, ?_⟩
    exact hB7.trans (below_of_grown hg8 hw1.size hB7.size)
  · have hd : decide (m < 0) = false := decide_eq_false h2
    obtain ⟨k, rfl⟩ : ∃ k : Nat, m = k := ⟨m.toNat, by omega⟩
    have hk64 := wrap_u64_nat k (by omega)
    have hd1 : decide ((k : Int) < (n : Int)) = true := decide_eq_true (by omega)
    go_enter Tryz.func41, Tryz.ntmps41
    go_wp2_with (first
      | (go_at_call 72; refine (HN _).mono ?_; rintro e w4 ⟨rfl, hw4⟩; replace hb1 := hb1.belowSize hw4; replace hz2 := hz2.belowSize hw4)
      | (with_reducible refine at_list ?_; first
        | (refine wpList_boxRow (op := ⟨some 2, _, _, _, _, _⟩) rfl _ _ rfl _ rfl ?_; intro w1 hw1 hs1 hb1; replace hs1 := hs1.symm)
        | (refine wpList_allocRow (op := ⟨some 4, _, _, _, _, _⟩) rfl _ rfl _ z39.1 ?_; intro w2 hw2 hs2 hz2; replace hs2 := hs2.symm; replace hb1 := hb1.belowSize hw2)
        | (refine wpList_loadRow (op := ⟨some 9, _, _, _, _, _⟩) rfl _ _ rfl w.heap.size rfl _ _ hb1 _ Tryz.underlying81 rfl (by rw [rc_size]; exact z39.2) ?_)
        | (refine wpList_allocRow (op := ⟨some 6, _, _, _, _, _⟩) rfl _ rfl _ z39.1 ?_; intro w5 hw5 hs5 hk5; replace hs5 := hs5.symm; have hl5 : w2.heap.size ≤ w4.heap.size := hw4.size; replace hb1 := hb1.belowSize hw5; replace hz2 := hz2.belowSize hw5)
        | (refine wpList_storeRow (op := ⟨none, .store 81 (.tmp 6) (.tmp 11), _, _, _, _⟩) rfl _ _ _ rfl w4.heap.size (rc us up 0) rfl rfl _ _ hk5 (by rw [rc_size, rc_size]) (by rw [rc_size]; exact z39.2) (rc_one _ _ _) ?_; intro w6 hg6 hs6 hz6; have hk6 := hz6; clear hz6; replace hb1 := hb1.grown hg6 (by simp; omega); replace hz2 := hz2.grown hg6 (by simp; omega))
        | (refine wpList_loadCell (op := ⟨some 14, _, _, _, _, _⟩) rfl _ _ rfl w4.heap.size 2 rfl _ _ hk6 _ Tryz.underlying3 rfl (.int .i64 0) rfl ?_)
        | (refine wpList_storeCell (op := ⟨none, .store 3 (.tmp 26) _, _, _, _, _⟩) rfl _ _ _ rfl w.heap.size 2 rfl (.int .i64 3) rfl _ _ hb1 i3 rfl rfl (by simp [rc]) ?_; intro w7 hg7 hs7 hb7; rw [rc_err] at hb7; replace hz2 := hz2.grown hg7 (by simp; omega))
        | (refine wpList_loadRow (op := ⟨some 27, _, _, _, _, _⟩) rfl _ _ rfl w.heap.size rfl _ _ hb7 _ Tryz.underlying81 rfl (by rw [rc_size]; exact z39.2) ?_)
        | (refine wpList_storeRow (op := ⟨none, .store 81 (.tmp 4) (.tmp 27), _, _, _, _⟩) rfl _ _ _ rfl w1.heap.size (rc s pos 3) rfl rfl _ _ hz2 (by rw [rc_size, rc_size]) (by rw [rc_size]; exact z39.2) (rc_one _ _ _) ?_; intro w8 hg8 hs8 hz8)))
    have hB2 : Below w.heap.size w w2 := hw1.trans (hw2.mono hw1.size)
    have hB4 : Below w.heap.size w w4 := hB2.trans (hw4.mono hB2.size)
    have hB5 : Below w.heap.size w w5 := hB4.trans (hw5.mono hB4.size)
    have hB6 : Below w.heap.size w w6 := hB5.trans (below_of_grown hg6 hB4.size hB5.size)
    have hB7 : Below w.heap.size w w7 := hB6.trans (below_of_grown hg7 (Nat.le_refl _) hB6.size)
    refine bodyPost_ret (res_rc rfl _ _ w1.heap.size s pos 3 _ rfl rfl hz8) rfl ⟨rfl, ?_⟩
    exact hB7.trans (below_of_grown hg8 hw1.size hB7.size)
set_option maxRecDepth 100000 in
set_option maxHeartbeats 400000 in
theorem rcount_in (s : List UInt8) (pos : Nat) (err m : Int) (us : List UInt8) (up : Nat) (ue : Int) (n : Nat) (w : World) (hn : n < 4294967296) (hm : m ≤ 9223372036854775807)
    (HN : ∀ w, Calls Tryz.prog 72 #[.agg (rc s pos err), .int .i64 4] w fun e w' => e = .returned (.tuple #[.agg (rc us up ue), .int .u64 (n : Nat)]) ∧ Below w.heap.size w w') (h : ¬ (ue = 0 ∧ (m < 0 ∨ m < n))) :
    Calls Tryz.prog 41 #[.agg (rc s pos err), .int .i64 m] w fun e w' => e = .returned (.tuple #[.agg (rc us up ue), .int .i64 (n : Nat)]) ∧ Below w.heap.size w w' := by
  have hn64 := wrap_u64_nat n (by omega)
  by_cases h0 : ue = 0
  · subst h0
    have hd : decide (m < 0) = false := decide_eq_false (fun x => h ⟨rfl, .inl x⟩)
    have hm0 : 0 ≤ m := by have := of_decide_eq_false hd; omega
    obtain ⟨k, rfl⟩ : ∃ k : Nat, m = k := ⟨m.toNat, by omega⟩
    have hk64 := wrap_u64_nat k (by omega)
    have hd1 : decide ((k : Int) < (n : Int)) = false := decide_eq_false (fun x => h ⟨rfl, .inr x⟩)
    have hkn : ¬ k < n := fun x => h ⟨rfl, .inr (by omega)⟩
    clear h
    go_enter Tryz.func41, Tryz.ntmps41
    go_wp2_with (first
      | (go_at_call 72; refine (HN _).mono ?_; rintro e w4 ⟨rfl, hw4⟩; replace hb1 := hb1.belowSize hw4; replace hz2 := hz2.belowSize hw4)
      | (with_reducible refine at_list ?_; first
        | (refine wpList_boxRow (op := ⟨some 2, _, _, _, _, _⟩) rfl _ _ rfl _ rfl ?_; intro w1 hw1 hs1 hb1; replace hs1 := hs1.symm)
        | (refine wpList_allocRow (op := ⟨some 4, _, _, _, _, _⟩) rfl _ rfl _ z39.1 ?_; intro w2 hw2 hs2 hz2; replace hs2 := hs2.symm; replace hb1 := hb1.belowSize hw2)
        | (refine wpList_loadRow (op := ⟨some 9, _, _, _, _, _⟩) rfl _ _ rfl w.heap.size rfl _ _ hb1 _ Tryz.underlying81 rfl (by rw [rc_size]; exact z39.2) ?_)
        | (refine wpList_allocRow (op := ⟨some 6, _, _, _, _, _⟩) rfl _ rfl _ z39.1 ?_; intro w5 hw5 hs5 hk5; replace hs5 := hs5.symm; have hl5 : w2.heap.size ≤ w4.heap.size := hw4.size; replace hb1 := hb1.belowSize hw5; replace hz2 := hz2.belowSize hw5)
        | (refine wpList_storeRow (op := ⟨none, .store 81 (.tmp 6) (.tmp 11), _, _, _, _⟩) rfl _ _ _ rfl w4.heap.size (rc us up 0) rfl rfl _ _ hk5 (by rw [rc_size, rc_size]) (by rw [rc_size]; exact z39.2) (rc_one _ _ _) ?_; intro w6 hg6 hs6 hz6; have hk6 := hz6; clear hz6; replace hb1 := hb1.grown hg6 (by simp; omega); replace hz2 := hz2.grown hg6 (by simp; omega))
        | (refine wpList_loadCell (op := ⟨some 14, _, _, _, _, _⟩) rfl _ _ rfl w4.heap.size 2 rfl _ _ hk6 _ Tryz.underlying3 rfl (.int .i64 0) rfl ?_)
        | (refine wpList_loadRow (op := ⟨some 28, _, _, _, _, _⟩) rfl _ _ rfl w4.heap.size rfl _ _ hk6 _ Tryz.underlying81 rfl (by rw [rc_size]; exact z39.2) ?_)
        | (refine wpList_storeRow (op := ⟨none, .store 81 (.tmp 4) (.tmp 28), _, _, _, _⟩) rfl _ _ _ rfl w1.heap.size (rc us up 0) rfl rfl _ _ hz2 (by rw [rc_size, rc_size]) (by rw [rc_size]; exact z39.2) (rc_one _ _ _) ?_; intro w8 hg8 hs8 hz8)))
    have hB2 : Below w.heap.size w w2 := hw1.trans (hw2.mono hw1.size)
    have hB4 : Below w.heap.size w w4 := hB2.trans (hw4.mono hB2.size)
    have hB5 : Below w.heap.size w w5 := hB4.trans (hw5.mono hB4.size)
    have hB6 : Below w.heap.size w w6 := hB5.trans (below_of_grown hg6 hB4.size hB5.size)
    refine bodyPost_ret (res_rc rfl _ _ w1.heap.size us up 0 _ rfl rfl hz8) rfl ⟨rfl, ?_⟩
    exact hB6.trans (below_of_grown hg8 hw1.size hB6.size)
  · have hd0 : decide (ue = 0) = false := decide_eq_false h0
    have hb0 : (ue == 0) = false := by simpa using h0
    clear h h0
    go_enter Tryz.func41, Tryz.ntmps41
    go_wp2_with (first
      | (go_at_call 72; refine (HN _).mono ?_; rintro e w4 ⟨rfl, hw4⟩; replace hb1 := hb1.belowSize hw4; replace hz2 := hz2.belowSize hw4)
      | (with_reducible refine at_list ?_; first
        | (refine wpList_boxRow (op := ⟨some 2, _, _, _, _, _⟩) rfl _ _ rfl _ rfl ?_; intro w1 hw1 hs1 hb1; replace hs1 := hs1.symm)
        | (refine wpList_allocRow (op := ⟨some 4, _, _, _, _, _⟩) rfl _ rfl _ z39.1 ?_; intro w2 hw2 hs2 hz2; replace hs2 := hs2.symm; replace hb1 := hb1.belowSize hw2)
        | (refine wpList_loadRow (op := ⟨some 9, _, _, _, _, _⟩) rfl _ _ rfl w.heap.size rfl _ _ hb1 _ Tryz.underlying81 rfl (by rw [rc_size]; exact z39.2) ?_)
        | (refine wpList_allocRow (op := ⟨some 6, _, _, _, _, _⟩) rfl _ rfl _ z39.1 ?_; intro w5 hw5 hs5 hk5; replace hs5 := hs5.symm; have hl5 : w2.heap.size ≤ w4.heap.size := hw4.size; replace hb1 := hb1.belowSize hw5; replace hz2 := hz2.belowSize hw5)
        | (refine wpList_storeRow (op := ⟨none, .store 81 (.tmp 6) (.tmp 11), _, _, _, _⟩) rfl _ _ _ rfl w4.heap.size (rc us up ue) rfl rfl _ _ hk5 (by rw [rc_size, rc_size]) (by rw [rc_size]; exact z39.2) (rc_one _ _ _) ?_; intro w6 hg6 hs6 hz6; have hk6 := hz6; clear hz6; replace hb1 := hb1.grown hg6 (by simp; omega); replace hz2 := hz2.grown hg6 (by simp; omega))
        | (refine wpList_loadCell (op := ⟨some 14, _, _, _, _, _⟩) rfl _ _ rfl w4.heap.size 2 rfl _ _ hk6 _ Tryz.underlying3 rfl (.int .i64 ue) rfl ?_)
        | (refine wpList_loadRow (op := ⟨some 28, _, _, _, _, _⟩) rfl _ _ rfl w4.heap.size rfl _ _ hk6 _ Tryz.underlying81 rfl (by rw [rc_size]; exact z39.2) ?_)
        | (refine wpList_storeRow (op := ⟨none, .store 81 (.tmp 4) (.tmp 28), _, _, _, _⟩) rfl _ _ _ rfl w1.heap.size (rc us up ue) rfl rfl _ _ hz2 (by rw [rc_size, rc_size]) (by rw [rc_size]; exact z39.2) (rc_one _ _ _) ?_; intro w8 hg8 hs8 hz8)))
    have hB2 : Below w.heap.size w w2 := hw1.trans (hw2.mono hw1.size)
    have hB4 : Below w.heap.size w w4 := hB2.trans (hw4.mono hB2.size)
    have hB5 : Below w.heap.size w w5 := hB4.trans (hw5.mono hB4.size)
    have hB6 : Below w.heap.size w w6 := hB5.trans (below_of_grown hg6 hB4.size hB5.size)
    refine bodyPost_ret (res_rc rfl _ _ w1.heap.size us up ue _ rfl rfl hz8) rfl ⟨rfl, ?_⟩
    exact hB6.trans (below_of_grown hg8 hw1.size hB6.size)
theorem rcount_any (r : R) (m : Int) (w : World) (hk : r.ok) (hl : r.s.length ≤ 140737488355328) (hm : m ≤ 9223372036854775807) :
    Calls Tryz.prog 41 #[.agg (rc r.s r.pos r.err), .int .i64 m] w fun e w' => e = .returned (.tuple #[.agg (rc (r.count m).1.s (r.count m).1.pos (r.count m).1.err), .int .i64 ((r.count m).2 : Nat)]) ∧ Below w.heap.size w w' := by
  have HN := fun w => rnumber_any r 4 w hk hl
  have hn := r.number4_lt
  unfold R.count
  by_cases h : (r.number 4).1.err = 0 ∧ (m < 0 ∨ m < (r.number 4).2)
  · rw [if_pos h]
    exact rcount_out r.s r.pos r.err m _ _ _ _ w hn hm HN h.1 h.2
  · rw [if_neg h]
    exact rcount_in r.s r.pos r.err m _ _ _ _ w hn hm HN h
set_option maxRecDepth 100000 in
set_option maxHeartbeats 400000 in
theorem rtext_good (s : List UInt8) (pos : Nat) (err m : Int) (cs : List UInt8) (cp : Nat) (ce : Int) (n : Nat) (us : List UInt8) (up : Nat) (ue : Int) (v : List UInt8) (w : World)
    (HC : ∀ w, Calls Tryz.prog 41 #[.agg (rc s pos err), .int .i64 m] w fun e w' => e = .returned (.tuple #[.agg (rc cs cp ce), .int .i64 (n : Nat)]) ∧ Below w.heap.size w w')
    (HB : ∀ w, Calls Tryz.prog 73 #[.agg (rc cs cp ce), .int .i64 (n : Nat)] w fun e w' => e = .returned (.tuple #[.agg (rc us up ue), .string ⟨v.toArray⟩]) ∧ Below w.heap.size w w') (h0 : ue = 0) :
    Calls Tryz.prog 42 #[.agg (rc s pos err), .int .i64 m] w fun e w' => e = .returned (.tuple #[.agg (rc us up ue), .string ⟨v.toArray⟩]) ∧ Below w.heap.size w w' := by
  subst h0
  go_enter Tryz.func42, Tryz.ntmps42
  go_wp2_with (first
    | (go_at_call 41; refine (HC _).mono ?_; rintro e w4 ⟨rfl, hw4⟩; replace hb1 := hb1.belowSize hw4; replace hz2 := hz2.belowSize hw4)
    | (go_at_call 73; refine (HB _).mono ?_; rintro e w7 ⟨rfl, hw7⟩; replace hb1 := hb1.belowSize hw7; replace hz2 := hz2.belowSize hw7; replace hk6 := hk6.belowSize hw7)
    | (with_reducible refine at_list ?_; first
      | (refine wpList_boxRow (op := ⟨some 2, _, _, _, _, _⟩) rfl _ _ rfl _ rfl ?_; intro w1 hw1 hs1 hb1; replace hs1 := hs1.symm)
      | (refine wpList_allocRow (op := ⟨some 4, _, _, _, _, _⟩) rfl _ rfl _ z39.1 ?_; intro w2 hw2 hs2 hz2; replace hs2 := hs2.symm; replace hb1 := hb1.belowSize hw2)
      | (refine wpList_loadRow (op := ⟨some 10, _, _, _, _, _⟩) rfl _ _ rfl w.heap.size rfl _ _ hb1 _ Tryz.underlying81 rfl (by rw [rc_size]; exact z39.2) ?_)
      | (refine wpList_allocRow (op := ⟨some 6, _, _, _, _, _⟩) rfl _ rfl _ z39.1 ?_; intro w5 hw5 hs5 hk5; replace hs5 := hs5.symm; have hl5 : w2.heap.size ≤ w4.heap.size := hw4.size; replace hb1 := hb1.belowSize hw5; replace hz2 := hz2.belowSize hw5)
      | (refine wpList_storeRow (op := ⟨none, .store 81 (.tmp 6) (.tmp 13), _, _, _, _⟩) rfl _ _ _ rfl w4.heap.size (rc cs cp ce) rfl rfl _ _ hk5 (by rw [rc_size, rc_size]) (by rw [rc_size]; exact z39.2) (rc_one _ _ _) ?_; intro w6 hg6 hs6 hz6; have hk6 := hz6; clear hz6; replace hb1 := hb1.grown hg6 (by simp; omega); replace hz2 := hz2.grown hg6 (by simp; omega))
      | (refine wpList_loadRow (op := ⟨some 16, _, _, _, _, _⟩) rfl _ _ rfl w4.heap.size rfl _ _ hk6 _ Tryz.underlying81 rfl (by rw [rc_size]; exact z39.2) ?_)
      | (refine wpList_storeRow (op := ⟨none, .store 81 (.tmp 6) (.tmp 19), _, _, _, _⟩) rfl _ _ _ rfl w4.heap.size (rc us up 0) rfl rfl _ _ hk6 (by rw [rc_size, rc_size]) (by rw [rc_size]; exact z39.2) (rc_one _ _ _) ?_; intro w8 hg8 hs8 hz8; have hk8 := hz8; clear hz8; replace hb1 := hb1.grown hg8 (by simp; omega); replace hz2 := hz2.grown hg8 (by simp; omega))
      | (refine wpList_loadCell (op := ⟨some 22, _, _, _, _, _⟩) rfl _ _ rfl w4.heap.size 2 rfl _ _ hk8 _ Tryz.underlying3 rfl (.int .i64 0) rfl ?_)
      | (refine wpList_loadRow (op := ⟨some 31, _, _, _, _, _⟩) rfl _ _ rfl w4.heap.size rfl _ _ hk8 _ Tryz.underlying81 rfl (by rw [rc_size]; exact z39.2) ?_)
      | (refine wpList_storeRow (op := ⟨none, .store 81 (.tmp 4) (.tmp 31), _, _, _, _⟩) rfl _ _ _ rfl w1.heap.size (rc us up 0) rfl rfl _ _ hz2 (by rw [rc_size, rc_size]) (by rw [rc_size]; exact z39.2) (rc_one _ _ _) ?_; intro w9 hg9 hs9 hz9)))
  have hB2 : Below w.heap.size w w2 := hw1.trans (hw2.mono hw1.size)
  have hB4 : Below w.heap.size w w4 := hB2.trans (hw4.mono hB2.size)
  have hB5 : Below w.heap.size w w5 := hB4.trans (hw5.mono hB4.size)
  have hB6 : Below w.heap.size w w6 := hB5.trans (below_of_grown hg6 hB4.size hB5.size)
  have hB7 : Below w.heap.size w w7 := hB6.trans (hw7.mono hB6.size)
  have hB8 : Below w.heap.size w w8 := hB7.trans (below_of_grown hg8 hB4.size hB7.size)
  refine bodyPost_ret (res_rc rfl _ _ w1.heap.size us up 0 _ rfl rfl hz9) rfl ⟨rfl, ?_⟩
  exact hB8.trans (below_of_grown hg9 hw1.size hB8.size)
set_option maxRecDepth 100000 in
set_option maxHeartbeats 400000 in
theorem rtext_bad (s : List UInt8) (pos : Nat) (err m : Int) (cs : List UInt8) (cp : Nat) (ce : Int) (n : Nat) (us : List UInt8) (up : Nat) (ue : Int) (v : List UInt8) (w : World)
    (HC : ∀ w, Calls Tryz.prog 41 #[.agg (rc s pos err), .int .i64 m] w fun e w' => e = .returned (.tuple #[.agg (rc cs cp ce), .int .i64 (n : Nat)]) ∧ Below w.heap.size w w')
    (HB : ∀ w, Calls Tryz.prog 73 #[.agg (rc cs cp ce), .int .i64 (n : Nat)] w fun e w' => e = .returned (.tuple #[.agg (rc us up ue), .string ⟨v.toArray⟩]) ∧ Below w.heap.size w w') (h0 : ue ≠ 0) :
    Calls Tryz.prog 42 #[.agg (rc s pos err), .int .i64 m] w fun e w' => e = .returned (.tuple #[.agg (rc s pos (if err = 0 then ue else err)), .string ⟨#[]⟩]) ∧ Below w.heap.size w w' := by
  have hne : (ue != 0) = true := by simpa using h0
  have hd0 : decide (ue = 0) = false := decide_eq_false h0
  by_cases he : err = 0
  · subst he
    rw [if_pos rfl]
    go_enter Tryz.func42, Tryz.ntmps42
    go_wp2_with (first
      | (go_at_call 41; refine (HC _).mono ?_; rintro e w4 ⟨rfl, hw4⟩; replace hb1 := hb1.belowSize hw4; replace hz2 := hz2.belowSize hw4)
      | (go_at_call 73; refine (HB _).mono ?_; rintro e w7 ⟨rfl, hw7⟩; replace hb1 := hb1.belowSize hw7; replace hz2 := hz2.belowSize hw7; replace hk6 := hk6.belowSize hw7)
      | (with_reducible refine at_list ?_; first
        | (refine wpList_boxRow (op := ⟨some 2, _, _, _, _, _⟩) rfl _ _ rfl _ rfl ?_; intro w1 hw1 hs1 hb1; replace hs1 := hs1.symm)
        | (refine wpList_allocRow (op := ⟨some 4, _, _, _, _, _⟩) rfl _ rfl _ z39.1 ?_; intro w2 hw2 hs2 hz2; replace hs2 := hs2.symm; replace hb1 := hb1.belowSize hw2)
        | (refine wpList_loadRow (op := ⟨some 10, _, _, _, _, _⟩) rfl _ _ rfl w.heap.size rfl _ _ hb1 _ Tryz.underlying81 rfl (by rw [rc_size]; exact z39.2) ?_)
        | (refine wpList_allocRow (op := ⟨some 6, _, _, _, _, _⟩) rfl _ rfl _ z39.1 ?_; intro w5 hw5 hs5 hk5; replace hs5 := hs5.symm; have hl5 : w2.heap.size ≤ w4.heap.size := hw4.size; replace hb1 := hb1.belowSize hw5; replace hz2 := hz2.belowSize hw5)
        | (refine wpList_storeRow (op := ⟨none, .store 81 (.tmp 6) (.tmp 13), _, _, _, _⟩) rfl _ _ _ rfl w4.heap.size (rc cs cp ce) rfl rfl _ _ hk5 (by rw [rc_size, rc_size]) (by rw [rc_size]; exact z39.2) (rc_one _ _ _) ?_; intro w6 hg6 hs6 hz6; have hk6 := hz6; clear hz6; replace hb1 := hb1.grown hg6 (by simp; omega); replace hz2 := hz2.grown hg6 (by simp; omega))
        | (refine wpList_loadRow (op := ⟨some 16, _, _, _, _, _⟩) rfl _ _ rfl w4.heap.size rfl _ _ hk6 _ Tryz.underlying81 rfl (by rw [rc_size]; exact z39.2) ?_)
        | (refine wpList_storeRow (op := ⟨none, .store 81 (.tmp 6) (.tmp 19), _, _, _, _⟩) rfl _ _ _ rfl w4.heap.size (rc us up ue) rfl rfl _ _ hk6 (by rw [rc_size, rc_size]) (by rw [rc_size]; exact z39.2) (rc_one _ _ _) ?_; intro w8 hg8 hs8 hz8; have hk8 := hz8; clear hz8; replace hb1 := hb1.grown hg8 (by simp; omega); replace hz2 := hz2.grown hg8 (by simp; omega))
        | (refine wpList_loadCell (op := ⟨some 22, _, _, _, _, _⟩) rfl _ _ rfl w4.heap.size 2 rfl _ _ hk8 _ Tryz.underlying3 rfl (.int .i64 ue) rfl ?_)
        | (refine wpList_loadCell (op := ⟨some 25, _, _, _, _, _⟩) rfl _ _ rfl w.heap.size 2 rfl _ _ hb1 _ Tryz.underlying3 rfl (.int .i64 0) rfl ?_)
        | (refine wpList_loadCell (op := ⟨some 28, _, _, _, _, _⟩) rfl _ _ rfl w4.heap.size 2 rfl _ _ hk8 _ Tryz.underlying3 rfl (.int .i64 ue) rfl ?_)
        | (refine wpList_storeCell (op := ⟨none, .store 3 (.tmp 29) _, _, _, _, _⟩) rfl _ _ _ rfl w.heap.size 2 rfl (.int .i64 ue) rfl _ _ hb1 i3 rfl rfl (by simp [rc]) ?_; intro w10 hg10 hs10 hb10; rw [rc_err] at hb10; replace hz2 := hz2.grown hg10 (by simp; omega))
        | (refine wpList_loadRow (op := ⟨some 30, _, _, _, _, _⟩) rfl _ _ rfl w.heap.size rfl _ _ hb10 _ Tryz.underlying81 rfl (by rw [rc_size]; exact z39.2) ?_)
        | (refine wpList_storeRow (op := ⟨none, .store 81 (.tmp 4) (.tmp 30), _, _, _, _⟩) rfl _ _ _ rfl w1.heap.size (rc s pos ue) rfl rfl _ _ hz2 (by rw [rc_size, rc_size]) (by rw [rc_size]; exact z39.2) (rc_one _ _ _) ?_; intro w9 hg9 hs9 hz9)))
    have hB2 : Below w.heap.size w w2 := hw1.trans (hw2.mono hw1.size)
    have hB4 : Below w.heap.size w w4 := hB2.trans (hw4.mono hB2.size)
    have hB5 : Below w.heap.size w w5 := hB4.trans (hw5.mono hB4.size)
    have hB6 : Below w.heap.size w w6 := hB5.trans (below_of_grown hg6 hB4.size hB5.size)
    have hB7 : Below w.heap.size w w7 := hB6.trans (hw7.mono hB6.size)
    have hB8 : Below w.heap.size w w8 := hB7.trans (below_of_grown hg8 hB4.size hB7.size)
    have hB10 : Below w.heap.size w w10 := hB8.trans (below_of_grown hg10 (Nat.le_refl _) hB8.size)
    refine bodyPost_ret (res_rc rfl _ _ w1.heap.size s pos ue _ rfl rfl hz9) rfl ⟨rfl, ?_⟩
    exact hB10.trans (below_of_grown hg9 hw1.size hB10.size)
  · rw [if_neg he]
    have hd1 : decide (err = 0) = false := decide_eq_false he
    go_enter Tryz.func42, Tryz.ntmps42
    go_wp2_with (first
      | (go_at_call 41; refine (HC _).mono ?_; rintro e w4 ⟨rfl, hw4⟩; replace hb1 := hb1.belowSize hw4; replace hz2 := hz2.belowSize hw4)
      | (go_at_call 73; refine (HB _).mono ?_; rintro e w7 ⟨rfl, hw7⟩; replace hb1 := hb1.belowSize hw7; replace hz2 := hz2.belowSize hw7; replace hk6 := hk6.belowSize hw7)
      | (with_reducible refine at_list ?_; first
        | (refine wpList_boxRow (op := ⟨some 2, _, _, _, _, _⟩) rfl _ _ rfl _ rfl ?_; intro w1 hw1 hs1 hb1; replace hs1 := hs1.symm)
        | (refine wpList_allocRow (op := ⟨some 4, _, _, _, _, _⟩) rfl _ rfl _ z39.1 ?_; intro w2 hw2 hs2 hz2; replace hs2 := hs2.symm; replace hb1 := hb1.belowSize hw2)
        | (refine wpList_loadRow (op := ⟨some 10, _, _, _, _, _⟩) rfl _ _ rfl w.heap.size rfl _ _ hb1 _ Tryz.underlying81 rfl (by rw [rc_size]; exact z39.2) ?_)
        | (refine wpList_allocRow (op := ⟨some 6, _, _, _, _, _⟩) rfl _ rfl _ z39.1 ?_; intro w5 hw5 hs5 hk5; replace hs5 := hs5.symm; have hl5 : w2.heap.size ≤ w4.heap.size := hw4.size; replace hb1 := hb1.belowSize hw5; replace hz2 := hz2.belowSize hw5)
        | (refine wpList_storeRow (op := ⟨none, .store 81 (.tmp 6) (.tmp 13), _, _, _, _⟩) rfl _ _ _ rfl w4.heap.size (rc cs cp ce) rfl rfl _ _ hk5 (by rw [rc_size, rc_size]) (by rw [rc_size]; exact z39.2) (rc_one _ _ _) ?_; intro w6 hg6 hs6 hz6; have hk6 := hz6; clear hz6; replace hb1 := hb1.grown hg6 (by simp; omega); replace hz2 := hz2.grown hg6 (by simp; omega))
        | (refine wpList_loadRow (op := ⟨some 16, _, _, _, _, _⟩) rfl _ _ rfl w4.heap.size rfl _ _ hk6 _ Tryz.underlying81 rfl (by rw [rc_size]; exact z39.2) ?_)
        | (refine wpList_storeRow (op := ⟨none, .store 81 (.tmp 6) (.tmp 19), _, _, _, _⟩) rfl _ _ _ rfl w4.heap.size (rc us up ue) rfl rfl _ _ hk6 (by rw [rc_size, rc_size]) (by rw [rc_size]; exact z39.2) (rc_one _ _ _) ?_; intro w8 hg8 hs8 hz8; have hk8 := hz8; clear hz8; replace hb1 := hb1.grown hg8 (by simp; omega); replace hz2 := hz2.grown hg8 (by simp; omega))
        | (refine wpList_loadCell (op := ⟨some 22, _, _, _, _, _⟩) rfl _ _ rfl w4.heap.size 2 rfl _ _ hk8 _ Tryz.underlying3 rfl (.int .i64 ue) rfl ?_)
        | (refine wpList_loadCell (op := ⟨some 25, _, _, _, _, _⟩) rfl _ _ rfl w.heap.size 2 rfl _ _ hb1 _ Tryz.underlying3 rfl (.int .i64 err) rfl ?_)
        | (refine wpList_loadRow (op := ⟨some 30, _, _, _, _, _⟩) rfl _ _ rfl w.heap.size rfl _ _ hb1 _ Tryz.underlying81 rfl (by rw [rc_size]; exact z39.2) ?_)
        | (refine wpList_storeRow (op := ⟨none, .store 81 (.tmp 4) (.tmp 30), _, _, _, _⟩) rfl _ _ _ rfl w1.heap.size (rc s pos err) rfl rfl _ _ hz2 (by rw [rc_size, rc_size]) (by rw [rc_size]; exact z39.2) (rc_one _ _ _) ?_; intro w9 hg9 hs9 hz9)))
    have hB2 : Below w.heap.size w w2 := hw1.trans (hw2.mono hw1.size)
    have hB4 : Below w.heap.size w w4 := hB2.trans (hw4.mono hB2.size)
    have hB5 : Below w.heap.size w w5 := hB4.trans (hw5.mono hB4.size)
    have hB6 : Below w.heap.size w w6 := hB5.trans (below_of_grown hg6 hB4.size hB5.size)
    have hB7 : Below w.heap.size w w7 := hB6.trans (hw7.mono hB6.size)
    have hB8 : Below w.heap.size w w8 := hB7.trans (below_of_grown hg8 hB4.size hB7.size)
    refine bodyPost_ret (res_rc rfl _ _ w1.heap.size s pos err _ rfl rfl hz9) rfl ⟨rfl, ?_⟩
    exact hB8.trans (below_of_grown hg9 hw1.size hB8.size)
theorem R.count_keep {r : R} (m : Int) (h : r.err ≠ 0) : (r.count m).1 = r := by
  have e : r.early 4 = r := if_neg (fun x => h x.1)
  have e2 : (r.number 4).1 = r := by unfold R.number; rw [e]; exact R.bytes_keep 4 h
  unfold R.count
  rw [if_neg (fun x => h (by rw [← e2]; exact x.1)), e2]
theorem rtext_any (r : R) (m : Int) (w : World) (hk : r.ok) (hl : r.s.length ≤ 140737488355328) (hm : m ≤ 9223372036854775807) :
    Calls Tryz.prog 42 #[.agg (rc r.s r.pos r.err), .int .i64 m] w fun e w' => e = .returned (.tuple #[.agg (rc (r.text m).1.s (r.text m).1.pos (r.text m).1.err), .string ⟨(r.text m).2.toArray⟩]) ∧ Below w.heap.size w w' := by
  have HC := fun w => rcount_any r m w hk hl hm
  have HB := fun w => rbytes_any (r.count m).1 ((r.count m).2 : Nat) w (R.ok_count hk m) (by rw [R.count_s]; exact hl)
  by_cases h : ((r.count m).1.bytes ((r.count m).2 : Nat)).1.err = 0
  · rw [R.text_good h]
    exact rtext_good r.s r.pos r.err m _ _ _ _ _ _ _ _ w HC HB h
  · have e : r.text m = (⟨r.s, r.pos, if r.err = 0 then ((r.count m).1.bytes ((r.count m).2 : Nat)).1.err else r.err⟩, []) := by
      unfold R.text
      rw [if_pos h]
      by_cases he : r.err = 0
      · rw [if_pos he]
      · rw [if_neg he, R.count_keep m he, R.bytes_keep _ he]
    rw [e]
    exact rtext_bad r.s r.pos r.err m _ _ _ _ _ _ _ _ w HC HB h
end Go.Proofs.YtdikilhobmkpkaaGreatDoor
namespace Go.Proofs.YtdikilhobmkpkaaGreatDoor
open Go Go.RowKit
set_option maxRecDepth 100000 in
set_option maxHeartbeats 400000 in
theorem rend_any (r : R) (w : World) : Calls Tryz.prog 44 #[.agg (rc r.s r.pos r.err)] w fun e w' => e = .returned (.agg (rc r.fin.s r.fin.pos r.fin.err)) ∧ Below w.heap.size w w' := by
  obtain ⟨s, pos, err⟩ := r
  by_cases he : err = 0
  · subst he
    by_cases hp : pos < s.length
    · rw [show R.fin ⟨s, pos, 0⟩ = ⟨s, pos, 5⟩ from if_pos ⟨rfl, hp⟩]
      have hd : decide ((pos : Int) < (s.length : Int)) = true := decide_eq_true (by omega)
      go_enter Tryz.func44, Tryz.ntmps44
      go_wp2_with (with_reducible refine at_list ?_; first
        | (refine wpList_boxRow (op := ⟨some 1, _, _, _, _, _⟩) rfl _ _ rfl _ rfl ?_; intro w1 hw1 hs1 hb1; replace hs1 := hs1.symm)
        | (refine wpList_allocRow (op := ⟨some 2, _, _, _, _, _⟩) rfl _ rfl _ z39.1 ?_; intro w2 hw2 hs2 hz2; replace hs2 := hs2.symm; replace hb1 := hb1.belowSize hw2; have c0 := (hb1.cell 0).trans (rc_g0 _ _ _); have c1 := (hb1.cell 1).trans (rc_g1 _ _ _))
        | (refine wpList_loadCell (op := ⟨some 4, _, _, _, _, _⟩) rfl _ _ rfl w.heap.size 2 rfl _ _ hb1 _ Tryz.underlying3 rfl (.int .i64 0) rfl ?_)
        | (refine wpList_storeCell (op := ⟨none, .store 3 (.tmp 14) _, _, _, _, _⟩) rfl _ _ _ rfl w.heap.size 2 rfl (.int .i64 5) rfl _ _ hb1 i3 rfl rfl (by simp [rc]) ?_; intro w3 hg3 hs3 hb3; rw [rc_err] at hb3; replace hz2 := hz2.grown hg3 (by simp; omega))
        | (refine wpList_loadRow (op := ⟨some 15, _, _, _, _, _⟩) rfl _ _ rfl w.heap.size rfl _ _ hb3 _ Tryz.underlying81 rfl (by rw [rc_size]; exact z39.2) ?_)
        | (refine wpList_storeRow (op := ⟨none, .store 81 (.tmp 2) (.tmp 15), _, _, _, _⟩) rfl _ _ _ rfl w1.heap.size (rc s pos 5) rfl rfl _ _ hz2 (by rw [rc_size, rc_size]) (by rw [rc_size]; exact z39.2) (rc_one _ _ _) ?_; intro w8 hg8 hs8 hz8))
      have hB2 : Below w.heap.size w w2 := hw1.trans (hw2.mono hw1.size)
      have hB3 : Below w.heap.size w w3 := hB2.trans (below_of_grown hg3 (Nat.le_refl _) hB2.size)
      refine bodyPost_ret (v := .agg (rc s pos 5)) ?_ rfl ⟨rfl, hB3.trans (below_of_grown hg8 hw1.size hB3.size)⟩
      exact results_cell_row rfl _ _ w1.heap.size _ _ _ _ rfl hz8.out Tryz.underlying81 rfl (by rw [rc_size]; exact z39.2)
    · rw [show R.fin ⟨s, pos, 0⟩ = ⟨s, pos, 0⟩ from if_neg (fun x => hp x.2)]
      have hd : decide ((pos : Int) < (s.length : Int)) = false := decide_eq_false (by omega)
      go_enter Tryz.func44, Tryz.ntmps44
      go_wp2_with (with_reducible refine at_list ?_; first
        | (refine wpList_boxRow (op := ⟨some 1, _, _, _, _, _⟩) rfl _ _ rfl _ rfl ?_; intro w1 hw1 hs1 hb1; replace hs1 := hs1.symm)
        | (refine wpList_allocRow (op := ⟨some 2, _, _, _, _, _⟩) rfl _ rfl _ z39.1 ?_; intro w2 hw2 hs2 hz2; replace hs2 := hs2.symm; replace hb1 := hb1.belowSize hw2; have c0 := (hb1.cell 0).trans (rc_g0 _ _ _); have c1 := (hb1.cell 1).trans (rc_g1 _ _ _))
        | (refine wpList_loadCell (op := ⟨some 4, _, _, _, _, _⟩) rfl _ _ rfl w.heap.size 2 rfl _ _ hb1 _ Tryz.underlying3 rfl (.int .i64 0) rfl ?_)
        | (refine wpList_loadRow (op := ⟨some 15, _, _, _, _, _⟩) rfl _ _ rfl w.heap.size rfl _ _ hb1 _ Tryz.underlying81 rfl (by rw [rc_size]; exact z39.2) ?_)
        | (refine wpList_storeRow (op := ⟨none, .store 81 (.tmp 2) (.tmp 15), _, _, _, _⟩) rfl _ _ _ rfl w1.heap.size (rc s pos 0) rfl rfl _ _ hz2 (by rw [rc_size, rc_size]) (by rw [rc_size]; exact z39.2) (rc_one _ _ _) ?_; intro w8 hg8 hs8 hz8))
      have hB2 : Below w.heap.size w w2 := hw1.trans (hw2.mono hw1.size)
      refine bodyPost_ret (v := .agg (rc s pos 0)) ?_ rfl ⟨rfl, hB2.trans (below_of_grown hg8 hw1.size hB2.size)⟩
      exact results_cell_row rfl _ _ w1.heap.size _ _ _ _ rfl hz8.out Tryz.underlying81 rfl (by rw [rc_size]; exact z39.2)
  · rw [show R.fin ⟨s, pos, err⟩ = ⟨s, pos, err⟩ from if_neg (fun x => he x.1)]
    have hd : decide (err = 0) = false := decide_eq_false he
    have hb0 : (err == 0) = false := by simpa using he
    go_enter Tryz.func44, Tryz.ntmps44
    go_wp2_with (with_reducible refine at_list ?_; first
      | (refine wpList_boxRow (op := ⟨some 1, _, _, _, _, _⟩) rfl _ _ rfl _ rfl ?_; intro w1 hw1 hs1 hb1; replace hs1 := hs1.symm)
      | (refine wpList_allocRow (op := ⟨some 2, _, _, _, _, _⟩) rfl _ rfl _ z39.1 ?_; intro w2 hw2 hs2 hz2; replace hs2 := hs2.symm; replace hb1 := hb1.belowSize hw2; have c0 := (hb1.cell 0).trans (rc_g0 _ _ _); have c1 := (hb1.cell 1).trans (rc_g1 _ _ _))
      | (refine wpList_loadCell (op := ⟨some 4, _, _, _, _, _⟩) rfl _ _ rfl w.heap.size 2 rfl _ _ hb1 _ Tryz.underlying3 rfl (.int .i64 err) rfl ?_)
      | (refine wpList_loadRow (op := ⟨some 15, _, _, _, _, _⟩) rfl _ _ rfl w.heap.size rfl _ _ hb1 _ Tryz.underlying81 rfl (by rw [rc_size]; exact z39.2) ?_)
      | (refine wpList_storeRow (op := ⟨none, .store 81 (.tmp 2) (.tmp 15), _, _, _, _⟩) rfl _ _ _ rfl w1.heap.size (rc s pos err) rfl rfl _ _ hz2 (by rw [rc_size, rc_size]) (by rw [rc_size]; exact z39.2) (rc_one _ _ _) ?_; intro w8 hg8 hs8 hz8))
    have hB2 : Below w.heap.size w w2 := hw1.trans (hw2.mono hw1.size)
    refine bodyPost_ret (v := .agg (rc s pos err)) ?_ rfl ⟨rfl, hB2.trans (below_of_grown hg8 hw1.size hB2.size)⟩
    exact results_cell_row rfl _ _ w1.heap.size _ _ _ _ rfl hz8.out Tryz.underlying81 rfl (by rw [rc_size]; exact z39.2)
theorem built39 (s : List UInt8) : Tryz.prog.built 81 [(0, .string ⟨s.toArray⟩)] = some (rc s 0 0) := by kernel_rfl
end Go.Proofs.YtdikilhobmkpkaaGreatDoor
namespace Go.Proofs.YtdikilhobmkpkaaGreatDoor
open Go Go.RowKit Go.Maps
/-- The cells of a plain reader. -/
def rcR (r : R) : Array Value := rc r.s r.pos r.err
theorem rcR_size (r : R) : (rcR r).size = 3 := rfl
theorem rcR_one (r : R) : (rcR r).all (·.oneCell') = true := rc_one _ _ _
theorem rcR_g2 (r : R) : (rcR r)[2]? = some (.int .i64 r.err) := rfl
theorem rcR_set2 (r : R) (x : Int) : (rcR r).setIfInBounds 2 (.int .i64 x) = rcR ⟨r.s, r.pos, x⟩ := rfl
theorem zRd : (∀ w, (zeroValue 81).run Tryz.prog w = .ok (.agg (rcR ⟨[], 0, 0⟩)) w) ∧ (Tryz.prog.info? 81).map (·.size) = some 3 := z39
theorem kbsl0 (w : World) : (Instr.buildSlice 38 0 #[]).run Tryz.prog w = .ok (.slice (some ⟨w.heap.size, 0, none⟩) 0 0) (w.alloc (.cells #[] 87)) := by
  have e : Array.range 0 = #[] := rfl
  simp [Instr.buildSlice, run_underlying Tryz.underlying38, sizeOf_run zKV.2, Sem.run_bind, Instr.fill, newRow, e]
/-- What the plain Decode keeps on its way. -/
structure RQ (w wl : World) (rb : Nat) (r : R) (sl : Value) (l : List KV) : Prop where
  rd : Blk wl rb (rcR r) 81
  kl : KL wl 87 w.heap.size sl l
  bl : Below w.heap.size w wl
  lo : w.heap.size ≤ rb
theorem RQ.below {w wl w2 : World} {rb : Nat} {r : R} {sl : Value} {l : List KV} (h : RQ w wl rb r sl l) (k : Below wl.heap.size wl w2) : RQ w w2 rb r sl l :=
  ⟨h.rd.belowSize k, h.kl.below k, h.bl.trans (k.mono h.bl.size), h.lo⟩
theorem RQ.set {w wl w2 : World} {rb : Nat} {r r2 : R} {sl : Value} {l : List KV} (h : RQ w wl rb r sl l) (hg : wl.grownBy w2 (some rb)) (hb : Blk w2 rb (rcR r2) 81) : RQ w w2 rb r2 sl l :=
  ⟨hb, h.kl.grown hg h.rd (by decide), h.bl.trans (below_of_grown hg h.lo h.bl.size), h.lo⟩
theorem RQ.other {w wl w2 : World} {rb b : Nat} {r : R} {sl : Value} {l : List KV} (h : RQ w wl rb r sl l) (hg : wl.grownBy w2 (some b)) (hne : rb ≠ b) (hlo : w.heap.size ≤ b) (hk : KL w2 87 w.heap.size sl l) : RQ w w2 rb r sl l :=
  ⟨h.rd.grown hg (fun e => hne (Option.some.inj e)), hk, h.bl.trans (below_of_grown hg hlo h.bl.size), h.lo⟩
theorem RQ.app {w wl w2 : World} {rb : Nat} {r : R} {sl sl2 : Value} {l l2 : List KV} (h : RQ w wl rb r sl l) (hB : Below w.heap.size wl w2) (hK : KeepsT 87 wl w2) (hk : KL w2 87 w.heap.size sl2 l2) : RQ w w2 rb r sl2 l2 :=
  ⟨hK.out _ _ _ h.rd (by decide), hk, h.bl.trans hB, h.lo⟩
theorem RQ.c2 {w wl : World} {rb : Nat} {r : R} {sl : Value} {l : List KV} (h : RQ w wl rb r sl l) : wl.cell? ⟨rb, 2, none⟩ = some (.int .i64 r.err) := (h.rd.cell 2).trans (rcR_g2 _)
theorem KL.last {w : World} {t : TypeId} {lo : Nat} {sl : Value} {l : List KV} {j : Nat} (h : KL w t lo sl l) (hj : l.length = j + 1) :
    ∃ g cap, sl = .slice (some ⟨g, 0, none⟩) (j + 1) cap ∧ ∀ w' sl', KL w' t lo sl' l → sl' = sl → w'.cell? ⟨g, j * 2, none⟩ = some (.string ⟨(lastK l).toArray⟩) := by
  rcases h with ⟨rfl, _⟩ | ⟨g, cap, _, rfl, _⟩
  · simp at hj
  · refine ⟨g, cap, by rw [hj], fun w' sl' h' e => ?_⟩
    rcases h' with ⟨rfl, _⟩ | ⟨g', cap', _, e', hS⟩
    · simp at hj
    · rw [e'] at e
      simp only [Value.slice.injEq, Option.some.injEq, Addr.mk.injEq, and_true, true_and] at e
      rw [← e.1]
      have hlt : j < l.length := by omega
      refine hS.cell (j * 2) _ (kvsC_get l j hlt 0 _ ?_)
      have : lastK l = l[j].1 := by
        unfold lastK
        rw [List.getLast?_eq_getElem?, hj, Nat.add_sub_cancel, List.getElem?_eq_getElem hlt]
        rfl
      rw [this]
      rfl
theorem i9 : (Tryz.prog.info? 9).map (·.size) = some 1 := by kernel_rfl
/-- What the plain Decode leaves. -/
def RdecP (er : Int) (m : List KV) (w : World) (e : Ending) (w' : World) : Prop := ∃ sl : Value, e = .returned (.tuple #[sl, .int .i64 er]) ∧ Below w.heap.size w w' ∧ (er = 0 → ∃ a cap, sl = .slice a m.length cap ∧ KA w' a m)
theorem right_raw (a v : List UInt8) (w : World) (ha : a.length ≤ 1000) (hv1 : v.length ≤ 1000) : Calls Tryz.prog 43 #[.agg #[.string ⟨a.toArray⟩, .string ⟨v.toArray⟩]] w fun e w' => e = .returned (.bool (rightP a v)) ∧ Below w.heap.size w w' := right_any a v w ha hv1
set_option maxRecDepth 100000 in
set_option maxHeartbeats 2000000 in
theorem rdecode_any (b : List UInt8) (w : World) (hl : b.length ≤ 140737488355328) : Calls Tryz.prog 11 #[.string ⟨b.toArray⟩] w (RdecP (dE b) (dM b) w) := by
  obtain ⟨iop, hi, hz, hs, hby⟩ := infoKV
  have HC := fun w1 => rcount_any ⟨b, 0, 0⟩ 1024 w1 (ok0 b) hl (by decide)
  have hqk : (dC b).1.ok := R.ok_count (ok0 b) 1024
  have hqs : (dC b).1.s = b := R.count_s _ 1024
  have hn8 := dC_le b
  have HE : Hid (dE b = (dS (dC b).1 (dC b).2).1.fin.err) := by exact rfl
  have HM : Hid (dM b = (dS (dC b).1 (dC b).2).2) := by exact rfl
  change ∀ w1, Calls Tryz.prog 41 #[.agg (rc b 0 0), .int .i64 1024] w1 fun e w' => e = .returned (.tuple #[.agg (rcR (dC b).1), .int .i64 ((dC b).2 : Nat)]) ∧ Below w1.heap.size w1 w' at HC
  generalize dE b = er at *
  generalize dM b = mD at *
  generalize dC b = q0 at *
  obtain ⟨q, n⟩ := q0
  dsimp only at *
  have HZ0 := kbsl0
  go_enter Tryz.func11, Tryz.ntmps11
  go_wp2_with (first
    | (go_at_call 41; refine (HC _).mono ?_; rintro e w1 ⟨rfl, hw1⟩; clear HC)
    | (with_reducible refine at_list ?_; first
      | (refine wpList_build (o := ⟨some 14, _, _, _, _, _⟩) rfl _ _ rfl (built39 b) ?_)
      | (refine wpList_allocRow (op := ⟨some 4, _, _, _, _, _⟩) rfl _ rfl _ zRd.1 ?_; intro w2 hw2 hs2 h4; replace hs2 := hs2.symm; have hB2 := hw1.trans (hw2.mono hw1.size))
      | (refine wpList_storeRow (op := ⟨none, .store 81 (.tmp 4) (.tmp 16), _, _, _, _⟩) rfl _ _ _ rfl w1.heap.size (rcR q) rfl rfl _ _ h4 (by simp only [rcR_size]) (by rw [rcR_size]; exact z39.2) (rcR_one _) ?_; intro w3 hg3 hs3 hb3; replace hs3 := hs3.symm; have hB3 := hB2.trans (below_of_grown hg3 hw1.size hB2.size))
      | (refine wpList_run (op := ⟨some 18, _, _, _, _, _⟩) rfl _ _ (by simp [execOp, kbsl0, Result.andThen]; rfl) ?_)))
  have hQ : RQ w (w3.alloc (.cells #[] 87)) w1.heap.size q (.slice (some ⟨w3.heap.size, 0, none⟩) 0 0) [] := by
    have hA : Below w3.heap.size w3 (w3.alloc (.cells #[] 87)) := (Below.refl _ _).alloc (Nat.le_refl _) _
    refine ⟨hb3.belowSize hA, .inr ⟨w3.heap.size, 0, hB3.size, rfl, #[], heap_alloc_last w3 _, Nat.le_refl _, Nat.le_refl _, ?_⟩, hB3.trans (hA.mono hB3.size), hw1.size⟩
    intro j v hv
    simp [kvsC] at hv
  have HZ : Hid ((dS q 0).1 = q ∧ (dS q 0).2 = []) := ⟨rfl, rfl⟩
  generalize (Value.slice (some ⟨w3.heap.size, 0, none⟩) 0 0) = sl0 at *
  generalize w3.alloc (.cells #[] 87) = w4 at *
  generalize w1.heap.size = rb at *
  clear hw1 hw2 hs2 h4 hB2 hg3 hs3 hb3 hB3
  go_loopw [6, 7] (fun v6 v7 wl => ∃ i : Nat, i ≤ n ∧ v7 = .int .i64 i ∧ RQ w wl rb (dS q i).1 v6 (dS q i).2) (fun _ v7 _ => n - (intOf v7).toNat)
  case atStart => exact ⟨0, by omega, rfl, by rw [HZ.out.1, HZ.out.2]; exact hQ⟩
  case round =>
    obtain ⟨i, hin, rfl, hQ⟩ := hrel
    by_cases hlt : i < n
    · by_cases he : (dS q i).1.err = 0
      · have e2 := hQ.c2
        rw [he] at e2
        have hik := dS_ok hqk i
        have his : (dS q i).1.s.length ≤ 140737488355328 := by rw [dS_s, hqs]; exact hl
        have G1 := fun w1 => rtext_any (dS q i).1 33 w1 hik his (by decide)
        have G2 := fun w1 => rtext_any ((dS q i).1.text 33).1 64 w1 (R.ok_text hik 33) (by rw [R.text_s]; exact his) (by decide)
        have hle1 := R.text_le (dS q i).1 33
        have hle2 := R.text_le ((dS q i).1.text 33).1 64
        change ((dS q i).1.text 33).2.length ≤ 33 at hle1
        change (((dS q i).1.text 33).1.text 64).2.length ≤ 64 at hle2
        have hol := dS_len q i
        have HS : Hid (dS q (i + 1) = (bif dBad (dS q i).2 ((dS q i).1.text 33).2 (((dS q i).1.text 33).1.text 64).2 then (((dS q i).1.text 33).1.text 64).1.fail 6 else (((dS q i).1.text 33).1.text 64).1, (dS q i).2 ++ [(((dS q i).1.text 33).2, (((dS q i).1.text 33).1.text 64).2)])) := rfl
        change ∀ w1, Calls Tryz.prog 42 #[.agg (rcR (dS q i).1), .int .i64 33] w1 fun e w' => e = .returned (.tuple #[.agg (rcR ((dS q i).1.text 33).1), .string ⟨((dS q i).1.text 33).2.toArray⟩]) ∧ Below w1.heap.size w1 w' at G1
        change ∀ w1, Calls Tryz.prog 42 #[.agg (rcR ((dS q i).1.text 33).1), .int .i64 64] w1 fun e w' => e = .returned (.tuple #[.agg (rcR (((dS q i).1.text 33).1.text 64).1), .string ⟨(((dS q i).1.text 33).1.text 64).2.toArray⟩]) ∧ Below w1.heap.size w1 w' at G2
        generalize dS q i = x at *
        obtain ⟨r, out⟩ := x
        dsimp only at *
        generalize (r.text 33).1.text 64 = t2 at *
        generalize r.text 33 = t1 at *
        obtain ⟨r1, a⟩ := t1
        obtain ⟨r2, v⟩ := t2
        dsimp only at *
        clear hik his he
        have RR := fun w1 => right_raw a v w1 (by omega) (by omega)
        have hmr := may_right a v hle1 hle2
        unfold dBad at HS
        rw [hmr] at HS
        clear hmr
        by_cases he2 : r2.err = 0
        · have hb2 : (r2.err == 0) = true := by rw [beq_iff_eq]; exact he2
          have hf : r2.fail 6 = ⟨r2.s, r2.pos, 6⟩ := if_pos he2
          rw [hf] at HS
          replace he2 : Hid (r2.err = 0) := he2
          clear hf
          cases hrt : rightP a v
          · rw [hrt] at HS RR
            rw [Bool.not_false, Bool.or_true, cond_true] at HS
            clear hrt
            go_wp2_with (first
            | (go_at_call 42; refine (G1 _).mono ?_; rintro e w1 ⟨rfl, hw1⟩; clear G1; have hQ1 := hQ.below hw1)
            | (go_at_call 42; refine (G2 _).mono ?_; rintro e w4 ⟨rfl, hw4⟩; clear G2; have hw14 := hw13.trans (hw4.mono hw13.size); have h8d := h8c.belowSize hw4)
            | (go_at_call 43; refine (RR _).mono ?_; rintro e w9 ⟨rfl, hw9⟩; have hQ9 := hQ8.below hw9; have h11c := h11b.belowSize hw9; have e9 := hQ9.c2)
            | (with_reducible refine at_list ?_; first
              | (refine wpList_loadRow (op := ⟨some 30, _, _, _, _, _⟩) rfl _ _ rfl rb rfl _ _ hQ.rd _ Tryz.underlying81 rfl (by rw [rcR_size]; exact z39.2) ?_)
              | (refine wpList_allocRow (op := ⟨some 8, _, _, _, _, _⟩) rfl _ rfl _ zRd.1 ?_; intro w2 hw2 hs2 h8; replace hs2 := hs2.symm)
              | (refine wpList_storeRow (op := ⟨none, .store 81 (.tmp 8) (.tmp 32), _, _, _, _⟩) rfl _ _ _ rfl w1.heap.size (rcR r1) rfl rfl _ _ h8 (by simp only [rcR_size]) (by rw [rcR_size]; exact z39.2) (rcR_one _) ?_; intro w3 hg3 hs3 h8c; replace hs3 := hs3.symm; have hw13 : Below w1.heap.size w1 w3 := hw2.trans (below_of_grown hg3 (Nat.le_refl _) hw2.size))
              | (refine wpList_loadRow (op := ⟨some 35, _, _, _, _, _⟩) rfl _ _ rfl w1.heap.size rfl _ _ h8c _ Tryz.underlying81 rfl (by rw [rcR_size]; exact z39.2) ?_)
              | (refine wpList_storeRow (op := ⟨none, .store 81 (.tmp 8) (.tmp 37), _, _, _, _⟩) rfl _ _ _ rfl w1.heap.size (rcR r2) rfl rfl _ _ h8d (by simp only [rcR_size]) (by rw [rcR_size]; exact z39.2) (rcR_one _) ?_; intro w5 hg5 hs5 h8e; replace hs5 := hs5.symm; have hw15 : Below w1.heap.size w1 w5 := hw14.trans (below_of_grown hg5 (Nat.le_refl _) hw14.size); have hQ5 := hQ1.below hw15)
              | (refine wpList_loadRow (op := ⟨some 39, _, _, _, _, _⟩) rfl _ _ rfl w1.heap.size rfl _ _ h8e _ Tryz.underlying81 rfl (by rw [rcR_size]; exact z39.2) ?_)
              | (refine wpList_storeRow (op := ⟨none, .store 81 (.tmp 4) (.tmp 39), _, _, _, _⟩) rfl _ _ _ rfl rb (rcR r2) rfl rfl _ _ hQ5.rd (by simp only [rcR_size]) (by rw [rcR_size]; exact z39.2) (rcR_one _) ?_; intro w6 hg6 hs6 hb6; replace hs6 := hs6.symm; have hQ6 := hQ5.set hg6 hb6)
              | (refine wpList_build (o := ⟨some 42, _, _, _, _, _⟩) rfl _ _ rfl (builtKV a v) ?_)
              | (refine wpList_allocRow (op := ⟨some 11, _, _, _, _, _⟩) rfl _ rfl _ zKV.1 ?_; intro w7 hw7 hs7 h11; replace hs7 := hs7.symm)
              | (refine wpList_storeRow (op := ⟨none, .store 87 (.tmp 11) (.tmp 42), _, _, _, _⟩) rfl _ _ _ rfl w6.heap.size (kvc (a, v)) rfl rfl _ _ h11 (by simp only [kvc_size]) (by rw [kvc_size]; exact zKV.2) (kvc_one _) ?_; intro w8 hg8 hs8 h11b; replace hs8 := hs8.symm; have hw68 : Below w6.heap.size w6 w8 := hw7.trans (below_of_grown hg8 (Nat.le_refl _) hw7.size); have hQ8 := hQ6.below hw68; have e8 := hQ8.c2; have k0 := (h11b.cell 0).trans (kvc_g0 _); have k1 := (h11b.cell 1).trans (kvc_g1 _))
              | (refine wpList_storeCell (op := ⟨none, .store 3 (.tmp 65) _, _, _, _, _⟩) rfl _ _ _ rfl rb 2 rfl (.int .i64 6) rfl _ _ hQ9.rd i3 rfl rfl (by rw [rcR_size]; decide) ?_; intro w10 hg10 hs10 hb10; replace hs10 := hs10.symm; rw [rcR_set2] at hb10; have hQ10 := hQ9.set hg10 hb10; have h11d := h11c.grown hg10 (fun e => absurd (Option.some.inj e) (Nat.ne_of_gt hQ6.rd.lt)))
              | (refine wpList_loadRow (op := ⟨some 67, _, _, _, _, _⟩) rfl _ _ rfl w6.heap.size rfl _ _ h11d _ Tryz.underlying87 rfl (by rw [kvc_size]; exact zKV.2) ?_)
              | (refine wpList_bslKV (op := ⟨some 68, _, _, _, _, _⟩) rfl _ rfl (a, v) rfl ?_; intro w11 hw11 hs11 hb11; replace hs11 := hs11.symm; have hQ11 := hQ10.below hw11)
              | (refine wpList_appendKL (op := ⟨some 69, _, _, _, _, _⟩) rfl _ _ 38 87 rfl w.heap.size u6 _ hQ11.bl.size rfl hQ11.kl w10.heap.size 1 rfl (a, v) _ hb11 iop ([], []) Tryz.underlying38 hi hz hs hby (by omega) ?_; intro w12 sl12 hB12 hK12 hL12; have hQ12 := hQ11.app hB12 hK12 hL12)))
            go_roundw
            case rel => exact ⟨i + 1, by omega, by go_num, by rw [HS.out]; exact hQ12⟩
            case measure => simp [intOf]; omega
          · rw [hrt] at HS RR
            rw [Bool.not_true, Bool.or_false] at HS
            by_cases hi0 : i = 0
            · subst hi0
              have hon : out = [] := List.length_eq_zero_iff.1 hol
              have hnl : decide (a ≤ lastK out) = false := decide_eq_false (fun h => by
                rw [hon] at h
                cases a with
                | nil => cases hrt
                | cons x t => simp [lastK] at h)
              rw [hnl, cond_false] at HS
              clear hrt hnl hon
              go_wp2_with (first
              | (go_at_call 42; refine (G1 _).mono ?_; rintro e w1 ⟨rfl, hw1⟩; clear G1; have hQ1 := hQ.below hw1)
              | (go_at_call 42; refine (G2 _).mono ?_; rintro e w4 ⟨rfl, hw4⟩; clear G2; have hw14 := hw13.trans (hw4.mono hw13.size); have h8d := h8c.belowSize hw4)
              | (go_at_call 43; refine (RR _).mono ?_; rintro e w9 ⟨rfl, hw9⟩; have hQ9 := hQ8.below hw9; have h11c := h11b.belowSize hw9; have e9 := hQ9.c2)
              | (with_reducible refine at_list ?_; first
                | (refine wpList_loadRow (op := ⟨some 30, _, _, _, _, _⟩) rfl _ _ rfl rb rfl _ _ hQ.rd _ Tryz.underlying81 rfl (by rw [rcR_size]; exact z39.2) ?_)
                | (refine wpList_allocRow (op := ⟨some 8, _, _, _, _, _⟩) rfl _ rfl _ zRd.1 ?_; intro w2 hw2 hs2 h8; replace hs2 := hs2.symm)
                | (refine wpList_storeRow (op := ⟨none, .store 81 (.tmp 8) (.tmp 32), _, _, _, _⟩) rfl _ _ _ rfl w1.heap.size (rcR r1) rfl rfl _ _ h8 (by simp only [rcR_size]) (by rw [rcR_size]; exact z39.2) (rcR_one _) ?_; intro w3 hg3 hs3 h8c; replace hs3 := hs3.symm; have hw13 : Below w1.heap.size w1 w3 := hw2.trans (below_of_grown hg3 (Nat.le_refl _) hw2.size))
                | (refine wpList_loadRow (op := ⟨some 35, _, _, _, _, _⟩) rfl _ _ rfl w1.heap.size rfl _ _ h8c _ Tryz.underlying81 rfl (by rw [rcR_size]; exact z39.2) ?_)
                | (refine wpList_storeRow (op := ⟨none, .store 81 (.tmp 8) (.tmp 37), _, _, _, _⟩) rfl _ _ _ rfl w1.heap.size (rcR r2) rfl rfl _ _ h8d (by simp only [rcR_size]) (by rw [rcR_size]; exact z39.2) (rcR_one _) ?_; intro w5 hg5 hs5 h8e; replace hs5 := hs5.symm; have hw15 : Below w1.heap.size w1 w5 := hw14.trans (below_of_grown hg5 (Nat.le_refl _) hw14.size); have hQ5 := hQ1.below hw15)
                | (refine wpList_loadRow (op := ⟨some 39, _, _, _, _, _⟩) rfl _ _ rfl w1.heap.size rfl _ _ h8e _ Tryz.underlying81 rfl (by rw [rcR_size]; exact z39.2) ?_)
                | (refine wpList_storeRow (op := ⟨none, .store 81 (.tmp 4) (.tmp 39), _, _, _, _⟩) rfl _ _ _ rfl rb (rcR r2) rfl rfl _ _ hQ5.rd (by simp only [rcR_size]) (by rw [rcR_size]; exact z39.2) (rcR_one _) ?_; intro w6 hg6 hs6 hb6; replace hs6 := hs6.symm; have hQ6 := hQ5.set hg6 hb6)
                | (refine wpList_build (o := ⟨some 42, _, _, _, _, _⟩) rfl _ _ rfl (builtKV a v) ?_)
                | (refine wpList_allocRow (op := ⟨some 11, _, _, _, _, _⟩) rfl _ rfl _ zKV.1 ?_; intro w7 hw7 hs7 h11; replace hs7 := hs7.symm)
                | (refine wpList_storeRow (op := ⟨none, .store 87 (.tmp 11) (.tmp 42), _, _, _, _⟩) rfl _ _ _ rfl w6.heap.size (kvc (a, v)) rfl rfl _ _ h11 (by simp only [kvc_size]) (by rw [kvc_size]; exact zKV.2) (kvc_one _) ?_; intro w8 hg8 hs8 h11b; replace hs8 := hs8.symm; have hw68 : Below w6.heap.size w6 w8 := hw7.trans (below_of_grown hg8 (Nat.le_refl _) hw7.size); have hQ8 := hQ6.below hw68; have e8 := hQ8.c2; have k0 := (h11b.cell 0).trans (kvc_g0 _); have k1 := (h11b.cell 1).trans (kvc_g1 _))
                | (refine wpList_storeCell (op := ⟨none, .store 3 (.tmp 65) _, _, _, _, _⟩) rfl _ _ _ rfl rb 2 rfl (.int .i64 6) rfl _ _ hQ9.rd i3 rfl rfl (by rw [rcR_size]; decide) ?_; intro w10 hg10 hs10 hb10; replace hs10 := hs10.symm; rw [rcR_set2] at hb10; have hQ10 := hQ9.set hg10 hb10; have h11d := h11c.grown hg10 (fun e => absurd (Option.some.inj e) (Nat.ne_of_gt hQ6.rd.lt)))
                | (refine wpList_loadRow (op := ⟨some 67, _, _, _, _, _⟩) rfl _ _ rfl w6.heap.size rfl _ _ h11c _ Tryz.underlying87 rfl (by rw [kvc_size]; exact zKV.2) ?_)
                | (refine wpList_bslKV (op := ⟨some 68, _, _, _, _, _⟩) rfl _ rfl (a, v) rfl ?_; intro w11 hw11 hs11 hb11; replace hs11 := hs11.symm; have hQ11 := hQ9.below hw11)
                | (refine wpList_appendKL (op := ⟨some 69, _, _, _, _, _⟩) rfl _ _ 38 87 rfl w.heap.size u6 _ hQ11.bl.size rfl hQ11.kl w9.heap.size 1 rfl (a, v) _ hb11 iop ([], []) Tryz.underlying38 hi hz hs hby (by omega) ?_; intro w12 sl12 hB12 hK12 hL12; have hQ12 := hQ11.app hB12 hK12 hL12)))
              go_roundw
              case rel => exact ⟨0 + 1, by omega, by go_num, by rw [HS.out]; exact hQ12⟩
              case measure => simp [intOf]; omega
            · obtain ⟨j, rfl⟩ : ∃ j, i = j + 1 := ⟨i - 1, by omega⟩
              obtain ⟨g, cap, rfl, hcell⟩ := hQ.kl.last hol
              have hcell2 : ∀ w', KL w' 87 w.heap.size (.slice (some ⟨g, 0, none⟩) (j + 1) cap) out → w'.cell? ⟨g, j * 2, none⟩ = some (.string ⟨(lastK out).toArray⟩) := fun w' h => hcell w' _ h rfl
              clear hcell hrt hi0
              generalize lastK out = la at *
              cases hx : Op.bytesLess la a
              · have hnl : decide (a ≤ la) = true := decide_eq_true (by rw [bytesLess_eq] at hx; exact List.not_lt.1 (of_decide_eq_false hx))
                rw [hnl, cond_true] at HS
                clear hnl
                go_wp2_with (first
                | (go_at_call 42; refine (G1 _).mono ?_; rintro e w1 ⟨rfl, hw1⟩; clear G1; have hQ1 := hQ.below hw1)
                | (go_at_call 42; refine (G2 _).mono ?_; rintro e w4 ⟨rfl, hw4⟩; clear G2; have hw14 := hw13.trans (hw4.mono hw13.size); have h8d := h8c.belowSize hw4)
                | (go_at_call 43; refine (RR _).mono ?_; rintro e w9 ⟨rfl, hw9⟩; have hQ9 := hQ8.below hw9; have h11c := h11b.belowSize hw9; have e9 := hQ9.c2; have m9 := hcell2 _ hQ9.kl)
                | (with_reducible refine at_list ?_; first
                  | (refine wpList_loadRow (op := ⟨some 30, _, _, _, _, _⟩) rfl _ _ rfl rb rfl _ _ hQ.rd _ Tryz.underlying81 rfl (by rw [rcR_size]; exact z39.2) ?_)
                  | (refine wpList_allocRow (op := ⟨some 8, _, _, _, _, _⟩) rfl _ rfl _ zRd.1 ?_; intro w2 hw2 hs2 h8; replace hs2 := hs2.symm)
                  | (refine wpList_storeRow (op := ⟨none, .store 81 (.tmp 8) (.tmp 32), _, _, _, _⟩) rfl _ _ _ rfl w1.heap.size (rcR r1) rfl rfl _ _ h8 (by simp only [rcR_size]) (by rw [rcR_size]; exact z39.2) (rcR_one _) ?_; intro w3 hg3 hs3 h8c; replace hs3 := hs3.symm; have hw13 : Below w1.heap.size w1 w3 := hw2.trans (below_of_grown hg3 (Nat.le_refl _) hw2.size))
                  | (refine wpList_loadRow (op := ⟨some 35, _, _, _, _, _⟩) rfl _ _ rfl w1.heap.size rfl _ _ h8c _ Tryz.underlying81 rfl (by rw [rcR_size]; exact z39.2) ?_)
                  | (refine wpList_storeRow (op := ⟨none, .store 81 (.tmp 8) (.tmp 37), _, _, _, _⟩) rfl _ _ _ rfl w1.heap.size (rcR r2) rfl rfl _ _ h8d (by simp only [rcR_size]) (by rw [rcR_size]; exact z39.2) (rcR_one _) ?_; intro w5 hg5 hs5 h8e; replace hs5 := hs5.symm; have hw15 : Below w1.heap.size w1 w5 := hw14.trans (below_of_grown hg5 (Nat.le_refl _) hw14.size); have hQ5 := hQ1.below hw15)
                  | (refine wpList_loadRow (op := ⟨some 39, _, _, _, _, _⟩) rfl _ _ rfl w1.heap.size rfl _ _ h8e _ Tryz.underlying81 rfl (by rw [rcR_size]; exact z39.2) ?_)
                  | (refine wpList_storeRow (op := ⟨none, .store 81 (.tmp 4) (.tmp 39), _, _, _, _⟩) rfl _ _ _ rfl rb (rcR r2) rfl rfl _ _ hQ5.rd (by simp only [rcR_size]) (by rw [rcR_size]; exact z39.2) (rcR_one _) ?_; intro w6 hg6 hs6 hb6; replace hs6 := hs6.symm; have hQ6 := hQ5.set hg6 hb6)
                  | (refine wpList_build (o := ⟨some 42, _, _, _, _, _⟩) rfl _ _ rfl (builtKV a v) ?_)
                  | (refine wpList_allocRow (op := ⟨some 11, _, _, _, _, _⟩) rfl _ rfl _ zKV.1 ?_; intro w7 hw7 hs7 h11; replace hs7 := hs7.symm)
                  | (refine wpList_storeRow (op := ⟨none, .store 87 (.tmp 11) (.tmp 42), _, _, _, _⟩) rfl _ _ _ rfl w6.heap.size (kvc (a, v)) rfl rfl _ _ h11 (by simp only [kvc_size]) (by rw [kvc_size]; exact zKV.2) (kvc_one _) ?_; intro w8 hg8 hs8 h11b; replace hs8 := hs8.symm; have hw68 : Below w6.heap.size w6 w8 := hw7.trans (below_of_grown hg8 (Nat.le_refl _) hw7.size); have hQ8 := hQ6.below hw68; have e8 := hQ8.c2; have k0 := (h11b.cell 0).trans (kvc_g0 _); have k1 := (h11b.cell 1).trans (kvc_g1 _); have m8 := hcell2 _ hQ8.kl)
                  | (refine wpList_storeCell (op := ⟨none, .store 3 (.tmp 65) _, _, _, _, _⟩) rfl _ _ _ rfl rb 2 rfl (.int .i64 6) rfl _ _ hQ9.rd i3 rfl rfl (by rw [rcR_size]; decide) ?_; intro w10 hg10 hs10 hb10; replace hs10 := hs10.symm; rw [rcR_set2] at hb10; have hQ10 := hQ9.set hg10 hb10; have h11d := h11c.grown hg10 (fun e => absurd (Option.some.inj e) (Nat.ne_of_gt hQ6.rd.lt)))
                  | (refine wpList_loadRow (op := ⟨some 67, _, _, _, _, _⟩) rfl _ _ rfl w6.heap.size rfl _ _ h11d _ Tryz.underlying87 rfl (by rw [kvc_size]; exact zKV.2) ?_)
                  | (refine wpList_bslKV (op := ⟨some 68, _, _, _, _, _⟩) rfl _ rfl (a, v) rfl ?_; intro w11 hw11 hs11 hb11; replace hs11 := hs11.symm; have hQ11 := hQ10.below hw11)
                  | (refine wpList_appendKL (op := ⟨some 69, _, _, _, _, _⟩) rfl _ _ 38 87 rfl w.heap.size (.slice (some ⟨g, 0, none⟩) (j + 1) cap) _ hQ11.bl.size rfl hQ11.kl w10.heap.size 1 rfl (a, v) _ hb11 iop ([], []) Tryz.underlying38 hi hz hs hby (by omega) ?_; intro w12 sl12 hB12 hK12 hL12; have hQ12 := hQ11.app hB12 hK12 hL12)))
                go_roundw
                case rel => exact ⟨j + 1 + 1, by omega, by go_num, by rw [HS.out]; exact hQ12⟩
                case measure => simp [intOf]; omega
              · have hnl : decide (a ≤ la) = false := decide_eq_false (fun h => by rw [bytesLess_eq] at hx; exact absurd (of_decide_eq_true hx) (List.not_lt.2 h))
                rw [hnl, cond_false] at HS
                clear hnl
                go_wp2_with (first
                | (go_at_call 42; refine (G1 _).mono ?_; rintro e w1 ⟨rfl, hw1⟩; clear G1; have hQ1 := hQ.below hw1)
                | (go_at_call 42; refine (G2 _).mono ?_; rintro e w4 ⟨rfl, hw4⟩; clear G2; have hw14 := hw13.trans (hw4.mono hw13.size); have h8d := h8c.belowSize hw4)
                | (go_at_call 43; refine (RR _).mono ?_; rintro e w9 ⟨rfl, hw9⟩; have hQ9 := hQ8.below hw9; have h11c := h11b.belowSize hw9; have e9 := hQ9.c2; have m9 := hcell2 _ hQ9.kl)
                | (with_reducible refine at_list ?_; first
                  | (refine wpList_loadRow (op := ⟨some 30, _, _, _, _, _⟩) rfl _ _ rfl rb rfl _ _ hQ.rd _ Tryz.underlying81 rfl (by rw [rcR_size]; exact z39.2) ?_)
                  | (refine wpList_allocRow (op := ⟨some 8, _, _, _, _, _⟩) rfl _ rfl _ zRd.1 ?_; intro w2 hw2 hs2 h8; replace hs2 := hs2.symm)
                  | (refine wpList_storeRow (op := ⟨none, .store 81 (.tmp 8) (.tmp 32), _, _, _, _⟩) rfl _ _ _ rfl w1.heap.size (rcR r1) rfl rfl _ _ h8 (by simp only [rcR_size]) (by rw [rcR_size]; exact z39.2) (rcR_one _) ?_; intro w3 hg3 hs3 h8c; replace hs3 := hs3.symm; have hw13 : Below w1.heap.size w1 w3 := hw2.trans (below_of_grown hg3 (Nat.le_refl _) hw2.size))
                  | (refine wpList_loadRow (op := ⟨some 35, _, _, _, _, _⟩) rfl _ _ rfl w1.heap.size rfl _ _ h8c _ Tryz.underlying81 rfl (by rw [rcR_size]; exact z39.2) ?_)
                  | (refine wpList_storeRow (op := ⟨none, .store 81 (.tmp 8) (.tmp 37), _, _, _, _⟩) rfl _ _ _ rfl w1.heap.size (rcR r2) rfl rfl _ _ h8d (by simp only [rcR_size]) (by rw [rcR_size]; exact z39.2) (rcR_one _) ?_; intro w5 hg5 hs5 h8e; replace hs5 := hs5.symm; have hw15 : Below w1.heap.size w1 w5 := hw14.trans (below_of_grown hg5 (Nat.le_refl _) hw14.size); have hQ5 := hQ1.below hw15)
                  | (refine wpList_loadRow (op := ⟨some 39, _, _, _, _, _⟩) rfl _ _ rfl w1.heap.size rfl _ _ h8e _ Tryz.underlying81 rfl (by rw [rcR_size]; exact z39.2) ?_)
                  | (refine wpList_storeRow (op := ⟨none, .store 81 (.tmp 4) (.tmp 39), _, _, _, _⟩) rfl _ _ _ rfl rb (rcR r2) rfl rfl _ _ hQ5.rd (by simp only [rcR_size]) (by rw [rcR_size]; exact z39.2) (rcR_one _) ?_; intro w6 hg6 hs6 hb6; replace hs6 := hs6.symm; have hQ6 := hQ5.set hg6 hb6)
                  | (refine wpList_build (o := ⟨some 42, _, _, _, _, _⟩) rfl _ _ rfl (builtKV a v) ?_)
                  | (refine wpList_allocRow (op := ⟨some 11, _, _, _, _, _⟩) rfl _ rfl _ zKV.1 ?_; intro w7 hw7 hs7 h11; replace hs7 := hs7.symm)
                  | (refine wpList_storeRow (op := ⟨none, .store 87 (.tmp 11) (.tmp 42), _, _, _, _⟩) rfl _ _ _ rfl w6.heap.size (kvc (a, v)) rfl rfl _ _ h11 (by simp only [kvc_size]) (by rw [kvc_size]; exact zKV.2) (kvc_one _) ?_; intro w8 hg8 hs8 h11b; replace hs8 := hs8.symm; have hw68 : Below w6.heap.size w6 w8 := hw7.trans (below_of_grown hg8 (Nat.le_refl _) hw7.size); have hQ8 := hQ6.below hw68; have e8 := hQ8.c2; have k0 := (h11b.cell 0).trans (kvc_g0 _); have k1 := (h11b.cell 1).trans (kvc_g1 _); have m8 := hcell2 _ hQ8.kl)
                  | (refine wpList_storeCell (op := ⟨none, .store 3 (.tmp 65) _, _, _, _, _⟩) rfl _ _ _ rfl rb 2 rfl (.int .i64 6) rfl _ _ hQ9.rd i3 rfl rfl (by rw [rcR_size]; decide) ?_; intro w10 hg10 hs10 hb10; replace hs10 := hs10.symm; rw [rcR_set2] at hb10; have hQ10 := hQ9.set hg10 hb10; have h11d := h11c.grown hg10 (fun e => absurd (Option.some.inj e) (Nat.ne_of_gt hQ6.rd.lt)))
                  | (refine wpList_loadRow (op := ⟨some 67, _, _, _, _, _⟩) rfl _ _ rfl w6.heap.size rfl _ _ h11c _ Tryz.underlying87 rfl (by rw [kvc_size]; exact zKV.2) ?_)
                  | (refine wpList_bslKV (op := ⟨some 68, _, _, _, _, _⟩) rfl _ rfl (a, v) rfl ?_; intro w11 hw11 hs11 hb11; replace hs11 := hs11.symm; have hQ11 := hQ9.below hw11)
                  | (refine wpList_appendKL (op := ⟨some 69, _, _, _, _, _⟩) rfl _ _ 38 87 rfl w.heap.size (.slice (some ⟨g, 0, none⟩) (j + 1) cap) _ hQ11.bl.size rfl hQ11.kl w9.heap.size 1 rfl (a, v) _ hb11 iop ([], []) Tryz.underlying38 hi hz hs hby (by omega) ?_; intro w12 sl12 hB12 hK12 hL12; have hQ12 := hQ11.app hB12 hK12 hL12)))
                go_roundw
                case rel => exact ⟨j + 1 + 1, by omega, by go_num, by rw [HS.out]; exact hQ12⟩
                case measure => simp [intOf]; omega
        · have hb2 : (r2.err == 0) = false := by rw [beq_eq_false_iff_ne]; exact he2
          rw [R.fail_keep he2, Bool.cond_self] at HS
          replace he2 : Hid (r2.err ≠ 0) := he2
          go_wp2_with (first
          | (go_at_call 42; refine (G1 _).mono ?_; rintro e w1 ⟨rfl, hw1⟩; clear G1; have hQ1 := hQ.below hw1)
          | (go_at_call 42; refine (G2 _).mono ?_; rintro e w4 ⟨rfl, hw4⟩; clear G2; have hw14 := hw13.trans (hw4.mono hw13.size); have h8d := h8c.belowSize hw4)
          | (go_at_call 43; refine (RR _).mono ?_; rintro e w9 ⟨rfl, hw9⟩; have hQ9 := hQ8.below hw9; have h11c := h11b.belowSize hw9; have e9 := hQ9.c2)
          | (with_reducible refine at_list ?_; first
            | (refine wpList_loadRow (op := ⟨some 30, _, _, _, _, _⟩) rfl _ _ rfl rb rfl _ _ hQ.rd _ Tryz.underlying81 rfl (by rw [rcR_size]; exact z39.2) ?_)
            | (refine wpList_allocRow (op := ⟨some 8, _, _, _, _, _⟩) rfl _ rfl _ zRd.1 ?_; intro w2 hw2 hs2 h8; replace hs2 := hs2.symm)
            | (refine wpList_storeRow (op := ⟨none, .store 81 (.tmp 8) (.tmp 32), _, _, _, _⟩) rfl _ _ _ rfl w1.heap.size (rcR r1) rfl rfl _ _ h8 (by simp only [rcR_size]) (by rw [rcR_size]; exact z39.2) (rcR_one _) ?_; intro w3 hg3 hs3 h8c; replace hs3 := hs3.symm; have hw13 : Below w1.heap.size w1 w3 := hw2.trans (below_of_grown hg3 (Nat.le_refl _) hw2.size))
            | (refine wpList_loadRow (op := ⟨some 35, _, _, _, _, _⟩) rfl _ _ rfl w1.heap.size rfl _ _ h8c _ Tryz.underlying81 rfl (by rw [rcR_size]; exact z39.2) ?_)
            | (refine wpList_storeRow (op := ⟨none, .store 81 (.tmp 8) (.tmp 37), _, _, _, _⟩) rfl _ _ _ rfl w1.heap.size (rcR r2) rfl rfl _ _ h8d (by simp only [rcR_size]) (by rw [rcR_size]; exact z39.2) (rcR_one _) ?_; intro w5 hg5 hs5 h8e; replace hs5 := hs5.symm; have hw15 : Below w1.heap.size w1 w5 := hw14.trans (below_of_grown hg5 (Nat.le_refl _) hw14.size); have hQ5 := hQ1.below hw15)
            | (refine wpList_loadRow (op := ⟨some 39, _, _, _, _, _⟩) rfl _ _ rfl w1.heap.size rfl _ _ h8e _ Tryz.underlying81 rfl (by rw [rcR_size]; exact z39.2) ?_)
            | (refine wpList_storeRow (op := ⟨none, .store 81 (.tmp 4) (.tmp 39), _, _, _, _⟩) rfl _ _ _ rfl rb (rcR r2) rfl rfl _ _ hQ5.rd (by simp only [rcR_size]) (by rw [rcR_size]; exact z39.2) (rcR_one _) ?_; intro w6 hg6 hs6 hb6; replace hs6 := hs6.symm; have hQ6 := hQ5.set hg6 hb6)
            | (refine wpList_build (o := ⟨some 42, _, _, _, _, _⟩) rfl _ _ rfl (builtKV a v) ?_)
            | (refine wpList_allocRow (op := ⟨some 11, _, _, _, _, _⟩) rfl _ rfl _ zKV.1 ?_; intro w7 hw7 hs7 h11; replace hs7 := hs7.symm)
            | (refine wpList_storeRow (op := ⟨none, .store 87 (.tmp 11) (.tmp 42), _, _, _, _⟩) rfl _ _ _ rfl w6.heap.size (kvc (a, v)) rfl rfl _ _ h11 (by simp only [kvc_size]) (by rw [kvc_size]; exact zKV.2) (kvc_one _) ?_; intro w8 hg8 hs8 h11b; replace hs8 := hs8.symm; have hw68 : Below w6.heap.size w6 w8 := hw7.trans (below_of_grown hg8 (Nat.le_refl _) hw7.size); have hQ8 := hQ6.below hw68; have e8 := hQ8.c2; have k0 := (h11b.cell 0).trans (kvc_g0 _); have k1 := (h11b.cell 1).trans (kvc_g1 _))
            | (refine wpList_storeCell (op := ⟨none, .store 3 (.tmp 65) _, _, _, _, _⟩) rfl _ _ _ rfl rb 2 rfl (.int .i64 6) rfl _ _ hQ8.rd i3 rfl rfl (by rw [rcR_size]; decide) ?_; intro w10 hg10 hs10 hb10; replace hs10 := hs10.symm; rw [rcR_set2] at hb10; have hQ10 := hQ8.set hg10 hb10; have h11d := h11b.grown hg10 (fun e => absurd (Option.some.inj e) (Nat.ne_of_gt hQ6.rd.lt)))
            | (refine wpList_loadRow (op := ⟨some 67, _, _, _, _, _⟩) rfl _ _ rfl w6.heap.size rfl _ _ h11b _ Tryz.underlying87 rfl (by rw [kvc_size]; exact zKV.2) ?_)
            | (refine wpList_bslKV (op := ⟨some 68, _, _, _, _, _⟩) rfl _ rfl (a, v) rfl ?_; intro w11 hw11 hs11 hb11; replace hs11 := hs11.symm; have hQ11 := hQ8.below hw11)
            | (refine wpList_appendKL (op := ⟨some 69, _, _, _, _, _⟩) rfl _ _ 38 87 rfl w.heap.size u6 _ hQ11.bl.size rfl hQ11.kl w8.heap.size 1 rfl (a, v) _ hb11 iop ([], []) Tryz.underlying38 hi hz hs hby (by omega) ?_; intro w12 sl12 hB12 hK12 hL12; have hQ12 := hQ11.app hB12 hK12 hL12)))
          go_roundw
          case rel => exact ⟨i + 1, by omega, by go_num, by rw [HS.out]; exact hQ12⟩
          case measure => simp [intOf]; omega
      · have e2 := hQ.c2
        have hb0 : ((dS q i).1.err == 0) = false := by rw [beq_eq_false_iff_ne]; exact he
        have HF := fun w1 => rend_any (dS q i).1 w1
        change ∀ w1, Calls Tryz.prog 44 #[.agg (rcR (dS q i).1)] w1 fun e w' => e = .returned (.agg (rcR (dS q i).1.fin)) ∧ Below w1.heap.size w1 w' at HF
        have hkp := dS_keep he (n - i)
        rw [show i + (n - i) = n by omega] at hkp
        rw [hkp] at HE
        have her : er ≠ 0 := fun h => he (R.fin_zero (dS_ok hqk i) (HE.out.symm.trans h)).1
        have hber : (er == 0) = false := by rw [beq_eq_false_iff_ne]; exact her
        replace HE : Hid ((dS q i).1.fin.err = er) := HE.out.symm
        generalize (dS q i).1.fin = rF at *
        generalize (dS q i).2 = lF at *
        clear hkp
        generalize (dS q i).1 = rQ at *
        generalize rQ.err = eQ at *
        go_wp2_with (first
          | (go_at_call 44; refine (HF _).mono ?_; rintro e w5 ⟨rfl, hw5⟩; have hQ5 := hQ.below hw5)
          | (with_reducible refine at_list ?_; first
            | (refine wpList_loadRow (op := ⟨some 70, _, _, _, _, _⟩) rfl _ _ rfl rb rfl _ _ hQ.rd _ Tryz.underlying81 rfl (by rw [rcR_size]; exact z39.2) ?_)
            | (refine wpList_storeRow (op := ⟨none, .store 81 (.tmp 4) (.tmp 71), _, _, _, _⟩) rfl _ _ _ rfl rb (rcR rF) rfl rfl _ _ hQ5.rd (by simp only [rcR_size]) (by rw [rcR_size]; exact z39.2) (rcR_one _) ?_; intro w6 hg6 hs6 hb6; replace hs6 := hs6.symm; have hQ6 := hQ5.set hg6 hb6; have e6 := hQ6.c2; rw [HE.out] at e6)))
        go_region
        all_goals (go_wp2_with fail)
        all_goals go_ret2
        all_goals exact ⟨.slice none 0 0, rfl, hQ6.bl.drew, fun h => absurd h her⟩
    · have hni : n = i := by omega
      subst hni
      have HF := fun w1 => rend_any (dS q n).1 w1
      change ∀ w1, Calls Tryz.prog 44 #[.agg (rcR (dS q n).1)] w1 fun e w' => e = .returned (.agg (rcR (dS q n).1.fin)) ∧ Below w1.heap.size w1 w' at HF
      replace HE : Hid ((dS q n).1.fin.err = er) := HE.out.symm
      generalize (dS q n).1.fin = rF at *
      generalize (dS q n).2 = lF at *
      generalize (dS q n).1 = rQ at *
      by_cases her : er = 0
      · have hber : (er == 0) = true := by rw [beq_iff_eq]; exact her
        go_wp2_with (first
          | (go_at_call 44; refine (HF _).mono ?_; rintro e w5 ⟨rfl, hw5⟩; have hQ5 := hQ.below hw5)
          | (with_reducible refine at_list ?_; first
            | (refine wpList_loadRow (op := ⟨some 70, _, _, _, _, _⟩) rfl _ _ rfl rb rfl _ _ hQ.rd _ Tryz.underlying81 rfl (by rw [rcR_size]; exact z39.2) ?_)
            | (refine wpList_storeRow (op := ⟨none, .store 81 (.tmp 4) (.tmp 71), _, _, _, _⟩) rfl _ _ _ rfl rb (rcR rF) rfl rfl _ _ hQ5.rd (by simp only [rcR_size]) (by rw [rcR_size]; exact z39.2) (rcR_one _) ?_; intro w6 hg6 hs6 hb6; replace hs6 := hs6.symm; have hQ6 := hQ5.set hg6 hb6; have e6 := hQ6.c2; rw [HE.out] at e6)))
        go_ret2
        exact ⟨u6, by rw [her]; rfl, hQ6.bl, fun _ => by rw [HM.out]; exact hQ6.kl.sl⟩
      · have hber : (er == 0) = false := by rw [beq_eq_false_iff_ne]; exact her
        go_wp2_with (first
          | (go_at_call 44; refine (HF _).mono ?_; rintro e w5 ⟨rfl, hw5⟩; have hQ5 := hQ.below hw5)
          | (with_reducible refine at_list ?_; first
            | (refine wpList_loadRow (op := ⟨some 70, _, _, _, _, _⟩) rfl _ _ rfl rb rfl _ _ hQ.rd _ Tryz.underlying81 rfl (by rw [rcR_size]; exact z39.2) ?_)
            | (refine wpList_storeRow (op := ⟨none, .store 81 (.tmp 4) (.tmp 71), _, _, _, _⟩) rfl _ _ _ rfl rb (rcR rF) rfl rfl _ _ hQ5.rd (by simp only [rcR_size]) (by rw [rcR_size]; exact z39.2) (rcR_one _) ?_; intro w6 hg6 hs6 hb6; replace hs6 := hs6.symm; have hQ6 := hQ5.set hg6 hb6; have e6 := hQ6.c2; rw [HE.out] at e6)))
        go_region
        all_goals (go_wp2_with fail)
        all_goals go_ret2
        all_goals exact ⟨.slice none 0 0, rfl, hQ6.bl.drew, fun h => absurd h her⟩
end Go.Proofs.YtdikilhobmkpkaaGreatDoor
