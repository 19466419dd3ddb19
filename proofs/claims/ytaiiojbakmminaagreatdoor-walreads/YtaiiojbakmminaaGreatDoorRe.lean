/- The plain reader's Bytes. The plain reader's Number. -/
import Derived.Test.YtaiiojbakmminaaGreatDoorRc
import Derived.Deep.RegionHeld3
namespace Go.Proofs.YtaiiojbakmminaaGreatDoor
open Go Go.RowKit
theorem z39 : (∀ w, (zeroValue 83).run Tryz.prog w = .ok (.agg (rc [] 0 0)) w) ∧ (Tryz.prog.info? 83).map (·.size) = some 3 := zero_of_info (by kernel_rfl)
theorem rc_size (s : List UInt8) (p : Nat) (e : Int) : (rc s p e).size = 3 := rfl
theorem rc_one (s : List UInt8) (p : Nat) (e : Int) : (rc s p e).all (·.oneCell') = true := by simp [rc, Value.oneCell']
theorem rc_g0 (s : List UInt8) (p : Nat) (e : Int) : (rc s p e)[0]? = some (.string ⟨s.toArray⟩) := rfl
theorem rc_g1 (s : List UInt8) (p : Nat) (e : Int) : (rc s p e)[1]? = some (.int .i64 (p : Nat)) := rfl
theorem rc_g2 (s : List UInt8) (p : Nat) (e : Int) : (rc s p e)[2]? = some (.int .i64 e) := rfl
theorem rc_err (s : List UInt8) (p : Nat) (e x : Int) : (rc s p e).setIfInBounds 2 (.int .i64 x) = rc s p x := rfl
theorem rc_pos (s : List UInt8) (p n : Nat) (e : Int) : (rc s p e).setIfInBounds 1 (.int .i64 ((p : Int) + (n : Int))) = rc s (p + n) e := by simp [rc]
section
variable {P : Program} {op : Oper} {a : Act} {w : World}
theorem run_loadRow (ty : TypeId) (x : Operand) (ho : op.op = .load ty x) (b : Nat) (hx : a.eval x = .pointer (some ⟨b, 0, none⟩))
    (c : Array Value) (t : TypeId) (hb : Blk w b c t) (d : TypeDesc) (hu : P.underlying ty = some d) (hd : d.isRow = true) (hi : (P.info? ty).map (·.size) = some c.size) :
    (execOp a.eval op).run P w = .ok (.value (.agg c)) w := by
  unfold execOp
  simp only [ho, hx]
  simp [Instr.loadAt, Instr.sureAddr, hb.loadVar d hu hd hi]
theorem run_loadCell (ty : TypeId) (x : Operand) (ho : op.op = .load ty x) (b o : Nat) (hx : a.eval x = .pointer (some ⟨b, o, none⟩))
    (c : Array Value) (t : TypeId) (hb : Blk w b c t) (d : TypeDesc) (hu : P.underlying ty = some d) (hd : d.isRow = false) (v : Value) (hv : c[o]? = some v) :
    (execOp a.eval op).run P w = .ok (.value v) w := by
  have hc : w.cell? ⟨b, o, none⟩ = some v := (hb.cell o).trans hv
  unfold execOp
  simp only [ho, hx]
  simp [Instr.loadAt, Instr.sureAddr, Sem.run_bind, loadVar, isAgg_run hu hd, hc, go_sem]
theorem wp_storeRow {K : Act → World → Prop} {Q : Exit → Act → World → Prop} (ty : TypeId) (x y : Operand) (ho : op.op = .store ty x y) (b : Nat) (cells : Array Value)
    (hx : a.eval x = .pointer (some ⟨b, 0, none⟩)) (hy : a.eval y = .agg cells) (c : Array Value) (t : TypeId) (hb : Blk w b c t) (hn : cells.size = c.size)
    (hi : (P.info? ty).map (·.size) = some cells.size) (h1 : cells.all (·.oneCell') = true)
    (h : ∀ w1 : World, w.grownBy w1 (some b) → w1.heap.size = w.heap.size → Blk w1 b cells t → K (a.put op.dst undef) w1) : op.wp P a w K Q := by
  refine wp_store_mid ty x y ho b 0 cells hx hy (hb.there 0 cells.size (by omega)) hi h1 (h _ (grown_setCells _ _ _ _) (size_setCells _ _ _ _) ?_)
  have := hb.setCells cells.toList 0
  rw [spl_all _ _ hn] at this
  exact this
end
theorem res_rc {fn : Func} {p u : Tmp} (h : fn.results = #[.cell p 83, .tmp u]) (tmps : Array Value) (w : World) (b : Nat) (s : List UInt8) (pos : Nat) (err : Int) (v : Value)
    (hp : tmps.getD p undef = .pointer (some ⟨b, 0, none⟩)) (hv : tmps.getD u undef = v) (hb : Blk w b (rc s pos err) 83) :
    (results fn tmps).run Tryz.prog w = .ok (.tuple #[.agg (rc s pos err), v]) w := by
  rw [results_cell_tmp h, hp, hv]
  simp [asAddr, hb.loadVar _ Tryz.underlying83 rfl z39.2]
set_option maxRecDepth 100000 in
set_option maxHeartbeats 400000 in
theorem rbytes_err (s : List UInt8) (pos : Nat) (err n : Int) (w : World) (he : err ≠ 0) :
    Calls Tryz.prog 61 #[.agg (rc s pos err), .int .i64 n] w fun e w' => e = .returned (.tuple #[.agg (rc s pos err), .string ⟨#[]⟩]) ∧ Below w.heap.size w w' := by
  have hne : (err != 0) = true := by simpa using he
  have hd0 : decide (err = 0) = false := decide_eq_false he
  go_enter Tryz.func61, Tryz.ntmps61
  go_wp2_with (with_reducible refine at_list ?_; first
    | (refine wpList_boxRow (op := ⟨some 2, _, _, _, _, _⟩) rfl _ _ rfl _ rfl ?_; intro w1 hw1 hs1 hb1; replace hs1 := hs1.symm)
    | (refine wpList_allocRow (op := ⟨some 4, _, _, _, _, _⟩) rfl _ rfl _ z39.1 ?_; intro w2 hw2 hs2 hz2; replace hs2 := hs2.symm; replace hb1 := hb1.belowSize hw2)
    | (refine wpList_loadCell (op := ⟨some 8, _, _, _, _, _⟩) rfl _ _ rfl w.heap.size 2 rfl _ _ hb1 _ Tryz.underlying3 rfl (.int .i64 err) rfl ?_)
    | (refine wpList_loadRow (op := ⟨some 10, _, _, _, _, _⟩) rfl _ _ rfl w.heap.size rfl _ _ hb1 _ Tryz.underlying83 rfl (by rw [rc_size]; exact z39.2) ?_)
    | (refine wpList_storeRow (op := ⟨none, .store 83 (.tmp 4) (.tmp 10), _, _, _, _⟩) rfl _ _ _ rfl w1.heap.size (rc s pos err) rfl rfl _ _ hz2 (by rw [rc_size, rc_size]) (by rw [rc_size]; exact z39.2) (rc_one _ _ _) ?_; intro w4 hg4 hs4 hz4))
  refine bodyPost_ret (res_rc rfl _ _ w1.heap.size s pos err _ rfl rfl hz4) rfl ⟨rfl, ?_⟩
  have hw3 : Below w.heap.size w w2 := hw1.trans (hw2.mono hw1.size)
  exact hw3.trans (below_of_grown hg4 hw1.size (by have := hw3.size; omega))
set_option maxRecDepth 100000 in
set_option maxHeartbeats 400000 in
theorem rbytes_neg (s : List UInt8) (pos : Nat) (n : Int) (w : World) (h0 : n < 0) :
    Calls Tryz.prog 61 #[.agg (rc s pos 0), .int .i64 n] w fun e w' => e = .returned (.tuple #[.agg (rc s pos 1), .string ⟨#[]⟩]) ∧ Below w.heap.size w w' := by
  have hd0 : decide (n < 0) = true := decide_eq_true h0
  go_enter Tryz.func61, Tryz.ntmps61
  go_wp2_with (with_reducible refine at_list ?_; first
    | (refine wpList_boxRow (op := ⟨some 2, _, _, _, _, _⟩) rfl _ _ rfl _ rfl ?_; intro w1 hw1 hs1 hb1; replace hs1 := hs1.symm)
    | (refine wpList_allocRow (op := ⟨some 4, _, _, _, _, _⟩) rfl _ rfl _ z39.1 ?_; intro w2 hw2 hs2 hz2; replace hs2 := hs2.symm; replace hb1 := hb1.belowSize hw2)
    | (refine wpList_loadCell (op := ⟨some 8, _, _, _, _, _⟩) rfl _ _ rfl w.heap.size 2 rfl _ _ hb1 _ Tryz.underlying3 rfl (.int .i64 0) rfl ?_)
    | (refine wpList_storeCell (op := ⟨none, .store 3 (.tmp 14) _, _, _, _, _⟩) rfl _ _ _ rfl w.heap.size 2 rfl (.int .i64 1) rfl _ _ hb1 i3 rfl rfl (by simp [rc]) ?_; intro w3 hg3 hs3 hb3; replace hz2 := hz2.grown hg3 (by simp; omega); rw [rc_err] at hb3)
    | (refine wpList_loadRow (op := ⟨some 15, _, _, _, _, _⟩) rfl _ _ rfl w.heap.size rfl _ _ hb3 _ Tryz.underlying83 rfl (by rw [rc_size]; exact z39.2) ?_)
    | (refine wpList_storeRow (op := ⟨none, .store 83 (.tmp 4) (.tmp 15), _, _, _, _⟩) rfl _ _ _ rfl w1.heap.size (rc s pos 1) rfl rfl _ _ hz2 (by rw [rc_size, rc_size]) (by rw [rc_size]; exact z39.2) (rc_one _ _ _) ?_; intro w4 hg4 hs4 hz4))
  refine bodyPost_ret (res_rc rfl _ _ w1.heap.size s pos 1 _ rfl rfl hz4) rfl ⟨rfl, ?_⟩
  have hB2 : Below w.heap.size w w2 := hw1.trans (hw2.mono hw1.size)
  have hB3 : Below w.heap.size w w3 := hB2.trans (below_of_grown hg3 (Nat.le_refl _) hB2.size)
  exact hB3.trans (below_of_grown hg4 hw1.size hB3.size)
set_option maxRecDepth 100000 in
set_option maxHeartbeats 400000 in
theorem rbytes_cut (s : List UInt8) (pos : Nat) (n : Int) (w : World) (h0 : ¬ n < 0) (hk : pos ≤ s.length) (hl : s.length ≤ 140737488355328) (h1 : (s.length : Int) - (pos : Nat) < n) :
    Calls Tryz.prog 61 #[.agg (rc s pos 0), .int .i64 n] w fun e w' => e = .returned (.tuple #[.agg (rc s pos 4), .string ⟨#[]⟩]) ∧ Below w.heap.size w w' := by
  have hd0 : decide (n < 0) = false := decide_eq_false h0
  have hd1 : decide ((s.length : Int) - (pos : Nat) < n) = true := decide_eq_true h1
  go_enter Tryz.func61, Tryz.ntmps61
  go_wp2_with (with_reducible refine at_list ?_; first
    | (refine wpList_boxRow (op := ⟨some 2, _, _, _, _, _⟩) rfl _ _ rfl _ rfl ?_; intro w1 hw1 hs1 hb1; replace hs1 := hs1.symm)
    | (refine wpList_allocRow (op := ⟨some 4, _, _, _, _, _⟩) rfl _ rfl _ z39.1 ?_; intro w2 hw2 hs2 hz2; replace hs2 := hs2.symm; replace hb1 := hb1.belowSize hw2)
    | (refine wpList_loadCell (op := ⟨some 8, _, _, _, _, _⟩) rfl _ _ rfl w.heap.size 2 rfl _ _ hb1 _ Tryz.underlying3 rfl (.int .i64 0) rfl ?_)
    | (refine wpList_loadCell (op := ⟨some 19, _, _, _, _, _⟩) rfl _ _ rfl w.heap.size 0 rfl _ _ hb1 _ Tryz.underlying9 rfl (.string ⟨s.toArray⟩) rfl ?_)
    | (refine wpList_loadCell (op := ⟨some 22, _, _, _, _, _⟩) rfl _ _ rfl w.heap.size 1 rfl _ _ hb1 _ Tryz.underlying3 rfl (.int .i64 (pos : Nat)) rfl ?_)
    | (refine wpList_storeCell (op := ⟨none, .store 3 (.tmp 25) _, _, _, _, _⟩) rfl _ _ _ rfl w.heap.size 2 rfl (.int .i64 4) rfl _ _ hb1 i3 rfl rfl (by simp [rc]) ?_; intro w3 hg3 hs3 hb3; replace hz2 := hz2.grown hg3 (by simp; omega); rw [rc_err] at hb3)
    | (refine wpList_loadRow (op := ⟨some 26, _, _, _, _, _⟩) rfl _ _ rfl w.heap.size rfl _ _ hb3 _ Tryz.underlying83 rfl (by rw [rc_size]; exact z39.2) ?_)
    | (refine wpList_storeRow (op := ⟨none, .store 83 (.tmp 4) (.tmp 26), _, _, _, _⟩) rfl _ _ _ rfl w1.heap.size (rc s pos 4) rfl rfl _ _ hz2 (by rw [rc_size, rc_size]) (by rw [rc_size]; exact z39.2) (rc_one _ _ _) ?_; intro w4 hg4 hs4 hz4))
  refine bodyPost_ret (res_rc rfl _ _ w1.heap.size s pos 4 _ rfl rfl hz4) rfl ⟨rfl, ?_⟩
  have hB2 : Below w.heap.size w w2 := hw1.trans (hw2.mono hw1.size)
  have hB3 : Below w.heap.size w w3 := hB2.trans (below_of_grown hg3 (Nat.le_refl _) hB2.size)
  exact hB3.trans (below_of_grown hg4 hw1.size hB3.size)
attribute [local go_sem] extract_mid
set_option maxRecDepth 100000 in
set_option maxHeartbeats 400000 in
theorem rbytes_yes (s : List UInt8) (pos n : Nat) (w : World) (hl : s.length ≤ 140737488355328) (h1 : pos + n ≤ s.length) :
    Calls Tryz.prog 61 #[.agg (rc s pos 0), .int .i64 (n : Nat)] w fun e w' => e = .returned (.tuple #[.agg (rc s (pos + n) 0), .string ⟨((s.drop pos).take n).toArray⟩]) ∧ Below w.heap.size w w' := by
  have hd0 : decide ((n : Int) < 0) = false := decide_eq_false (by omega)
  have hd1 : decide ((s.length : Int) - (pos : Nat) < (n : Int)) = false := decide_eq_false (by omega)
  go_enter Tryz.func61, Tryz.ntmps61
  go_wp2_with (with_reducible refine at_list ?_; first
    | (refine wpList_boxRow (op := ⟨some 2, _, _, _, _, _⟩) rfl _ _ rfl _ rfl ?_; intro w1 hw1 hs1 hb1; replace hs1 := hs1.symm)
    | (refine wpList_allocRow (op := ⟨some 4, _, _, _, _, _⟩) rfl _ rfl _ z39.1 ?_; intro w2 hw2 hs2 hz2; replace hs2 := hs2.symm; replace hb1 := hb1.belowSize hw2)
    | (refine wpList_loadCell (op := ⟨some 8, _, _, _, _, _⟩) rfl _ _ rfl w.heap.size 2 rfl _ _ hb1 _ Tryz.underlying3 rfl (.int .i64 0) rfl ?_)
    | (refine wpList_loadCell (op := ⟨some 19, _, _, _, _, _⟩) rfl _ _ rfl w.heap.size 0 rfl _ _ hb1 _ Tryz.underlying9 rfl (.string ⟨s.toArray⟩) rfl ?_)
    | (refine wpList_loadCell (op := ⟨some 22, _, _, _, _, _⟩) rfl _ _ rfl w.heap.size 1 rfl _ _ hb1 _ Tryz.underlying3 rfl (.int .i64 (pos : Nat)) rfl ?_)
    | (refine wpList_loadCell (op := ⟨some 28, _, _, _, _, _⟩) rfl _ _ rfl w.heap.size 1 rfl _ _ hb1 _ Tryz.underlying3 rfl (.int .i64 (pos : Nat)) rfl ?_)
    | (go_simp; refine wpList_storeCell (op := ⟨none, .store 3 (.tmp 31) _, _, _, _, _⟩) rfl _ _ _ rfl w.heap.size 1 rfl (.int .i64 ((pos : Int) + (n : Int))) rfl _ _ hb1 i3 rfl rfl (by simp [rc]) ?_; intro w3 hg3 hs3 hb3; replace hz2 := hz2.grown hg3 (by simp; omega); rw [rc_pos] at hb3))
  clear hd0 hd1
  refine wp_region_held_drew (S := fun w' => Blk w' w.heap.size (rc s (pos + n) 0) 83) (by kernel_rfl) hb3.drew (fun hS => ?_)
  refine wpAnyH_take (i := 0) (oi := ⟨some 32, _, _, _, _, _⟩) (v := .agg (rc s (pos + n) 0)) rfl (by kernel_rfl) (by kernel_rfl) (by kernel_rfl) (fun _ _ _ h => h) (Or.inl ⟨by rfl, fun w' hSw => run_loadRow _ _ rfl w.heap.size rfl _ _ hSw _ Tryz.underlying83 rfl (by rw [rc_size]; exact z39.2)⟩) hS ?_
  refine wpAnyH_take (i := 1) (oi := ⟨some 33, _, _, _, _, _⟩) (v := .pointer (some ⟨w.heap.size, 0, none⟩)) rfl (by kernel_rfl) (by kernel_rfl) (by kernel_rfl) (fun _ _ _ h => h) (Or.inl ⟨by rfl, fun w' hSw => by go_simp⟩) hS ?_
  refine wpAnyH_take (i := 2) (oi := ⟨some 34, _, _, _, _, _⟩) (v := .string ⟨s.toArray⟩) rfl (by kernel_rfl) (by kernel_rfl) (by kernel_rfl) (fun _ _ _ h => h) (Or.inl ⟨by rfl, fun w' hSw => run_loadCell _ _ rfl w.heap.size 0 rfl _ _ hSw _ Tryz.underlying9 rfl _ (rc_g0 _ _ _)⟩) hS ?_
  simp only [Act.put, List.setIfInBounds_toArray, List.set_cons_zero, List.set_cons_succ]
  refine wpAnyH_take (i := 3) (oi := ⟨some 35, _, _, _, _, _⟩) (v := .pointer (some ⟨w.heap.size, 1, none⟩)) rfl (by kernel_rfl) (by kernel_rfl) (by kernel_rfl) (fun _ _ _ h => h) (Or.inl ⟨by rfl, fun w' hSw => by go_simp⟩) hS ?_
  refine wpAnyH_take (i := 4) (oi := ⟨some 36, _, _, _, _, _⟩) (v := .int .i64 ((pos + n : Nat) : Int)) rfl (by kernel_rfl) (by kernel_rfl) (by kernel_rfl) (fun _ _ _ h => h) (Or.inl ⟨by rfl, fun w' hSw => run_loadCell _ _ rfl w.heap.size 1 rfl _ _ hSw _ Tryz.underlying3 rfl _ (rc_g1 _ _ _)⟩) hS ?_
  refine wpAnyH_take (i := 5) (oi := ⟨some 37, _, _, _, _, _⟩) (v := .int .i64 (n : Nat)) rfl (by kernel_rfl) (by kernel_rfl) (by kernel_rfl) (fun _ _ _ h => h) (Or.inl ⟨by rfl, fun w' hSw => by go_simp⟩) hS ?_
  simp only [Act.put, List.setIfInBounds_toArray, List.set_cons_zero, List.set_cons_succ]
  refine wpAnyH_take (i := 6) (oi := ⟨some 38, _, _, _, _, _⟩) (v := .int .i64 (pos : Nat)) rfl (by kernel_rfl) (by kernel_rfl) (by kernel_rfl) (fun _ _ _ h => h) (Or.inl ⟨by rfl, fun w' hSw => by go_simp; rw [IntKind.wrap_i64]; omega⟩) hS ?_
  refine wpAnyH_take (i := 7) (oi := ⟨some 39, _, _, _, _, _⟩) (v := .pointer (some ⟨w.heap.size, 1, none⟩)) rfl (by kernel_rfl) (by kernel_rfl) (by kernel_rfl) (fun _ _ _ h => h) (Or.inl ⟨by rfl, fun w' hSw => by go_simp⟩) hS ?_
  simp only [Act.put, List.setIfInBounds_toArray, List.set_cons_zero, List.set_cons_succ]
  refine wpAnyH_take (i := 8) (oi := ⟨some 40, _, _, _, _, _⟩) (v := .int .i64 ((pos + n : Nat) : Int)) rfl (by kernel_rfl) (by kernel_rfl) (by kernel_rfl) (fun _ _ _ h => h) (Or.inl ⟨by rfl, fun w' hSw => run_loadCell _ _ rfl w.heap.size 1 rfl _ _ hSw _ Tryz.underlying3 rfl _ (rc_g1 _ _ _)⟩) hS ?_
  simp only [Act.put, List.setIfInBounds_toArray, List.set_cons_zero, List.set_cons_succ]
  refine wpAnyH_take (i := 9) (oi := ⟨some 41, _, _, _, _, _⟩) (v := .string ⟨((s.drop pos).take n).toArray⟩) rfl (by kernel_rfl) (by kernel_rfl) (by kernel_rfl) (fun _ _ _ h => h) (Or.inl ⟨by rfl, fun w' hSw => by go_simp; rw [← extract_mid, if_pos (by omega), if_pos (by omega), show ((pos : Int) + (n : Int)).toNat = pos + n from by omega]⟩) hS ?_
  simp only [Act.put, List.setIfInBounds_toArray, List.set_cons_zero, List.set_cons_succ]
  refine wpAnyH_ready (rs := [10]) (by kernel_rfl) (by simp) ?_
  refine AllReadyH.cons (o := ⟨none, .store 83 (.tmp 4) (.tmp 32), _, _, _, _⟩) rfl (fun K hK => ?_) AllReadyH.nil
  rw [if_pos (by rfl)]
  refine wp_storeRow _ _ _ rfl w1.heap.size (rc s (pos + n) 0) rfl rfl _ _ hz2.drew (by rw [rc_size, rc_size]) (by rw [rc_size]; exact z39.2) (rc_one _ _ _) ?_
  intro w4 hg4 hs4 hz4
  refine hK.out _ _ (hS.grown hg4 (by simp; omega)) (fun hS2 => ?_)
  clear hK K hS
  have hS := hS2
  clear hS2
  simp only [Act.put]
  refine wpAnyH_take (i := 11) (oi := ⟨some 5, _, _, _, _, _⟩) (v := .string ⟨((s.drop pos).take n).toArray⟩) rfl (by kernel_rfl) (by kernel_rfl) (by kernel_rfl) (fun _ _ _ h => h) (Or.inl ⟨by rfl, fun w' hSw => by go_simp⟩) hS ?_
  refine wpAnyH_done (by kernel_rfl) ?_ _
  simp only [Act.put, List.setIfInBounds_toArray, List.set_cons_zero, List.set_cons_succ]
  go_simp
  go_wp2_with fail
  refine bodyPost_ret (res_rc rfl _ _ w1.heap.size s (pos + n) 0 _ rfl rfl hz4) rfl ⟨rfl, ?_⟩
  have hB2 : Below w.heap.size w w2 := hw1.trans (hw2.mono hw1.size)
  have hB3 : Below w.heap.size w w3 := hB2.trans (below_of_grown hg3 (Nat.le_refl _) hB2.size)
  have hB4 : Below w.heap.size w w3.drew := hB3.drew
  exact hB4.trans (below_of_grown hg4 hw1.size hB4.size)
theorem rbytes_any (r : R) (n : Int) (w : World) (hk : r.ok) (hl : r.s.length ≤ 140737488355328) :
    Calls Tryz.prog 61 #[.agg (rc r.s r.pos r.err), .int .i64 n] w fun e w' => e = .returned (.tuple #[.agg (rc (r.bytes n).1.s (r.bytes n).1.pos (r.bytes n).1.err), .string ⟨(r.bytes n).2.toArray⟩]) ∧ Below w.heap.size w w' := by
  obtain ⟨s, pos, err⟩ := r
  by_cases he : err = 0
  · subst he
    unfold R.bytes
    rw [if_neg (by simp)]
    by_cases h0 : n < 0
    · rw [if_pos h0]; exact rbytes_neg s pos n w h0
    · rw [if_neg h0]
      by_cases h1 : (s.length : Int) - (pos : Nat) < n
      · rw [if_pos h1]; exact rbytes_cut s pos n w h0 hk hl h1
      · rw [if_neg h1]
        obtain ⟨m, rfl⟩ : ∃ m : Nat, n = m := ⟨n.toNat, by omega⟩
        exact rbytes_yes s pos m w hl (by omega)
  · have e : R.bytes ⟨s, pos, err⟩ n = (⟨s, pos, err⟩, []) := by unfold R.bytes; rw [if_pos he]
    rw [e]
    exact rbytes_err s pos err n w he
end Go.Proofs.YtaiiojbakmminaaGreatDoor
namespace Go.Proofs.YtaiiojbakmminaaGreatDoor
open Go Go.RowKit
attribute [local go_sem] idx8
set_option maxRecDepth 100000 in
set_option maxHeartbeats 400000 in
theorem rnumber_plain (s : List UInt8) (pos : Nat) (err k : Int) (us : List UInt8) (up : Nat) (ue : Int) (v : List UInt8) (w : World) (h : ¬ (err = 0 ∧ 8 < k)) (hv8 : v.length ≤ 8)
    (HB : ∀ w, Calls Tryz.prog 61 #[.agg (rc s pos err), .int .i64 k] w fun e w' => e = .returned (.tuple #[.agg (rc us up ue), .string ⟨v.toArray⟩]) ∧ Below w.heap.size w w') :
    Calls Tryz.prog 60 #[.agg (rc s pos err), .int .i64 k] w fun e w' => e = .returned (.tuple #[.agg (rc us up ue), .int .u64 (val v)]) ∧ Below w.heap.size w w' := by
  by_cases he : err = 0
  · subst he
    have hd8 : decide (8 < k) = false := decide_eq_false (fun x => h ⟨rfl, x⟩)
    clear h
    go_enter Tryz.func60, Tryz.ntmps60
    go_wp2_with (first
      | (go_at_call 61; refine (HB _).mono ?_; rintro e w4 ⟨rfl, hw4⟩; replace hb1 := hb1.belowSize hw4; replace hz2 := hz2.belowSize hw4)
      | (with_reducible refine at_list ?_; first
        | (refine wpList_boxRow (op := ⟨some 2, _, _, _, _, _⟩) rfl _ _ rfl _ rfl ?_; intro w1 hw1 hs1 hb1; replace hs1 := hs1.symm)
        | (refine wpList_allocRow (op := ⟨some 4, _, _, _, _, _⟩) rfl _ rfl _ z39.1 ?_; intro w2 hw2 hs2 hz2; replace hs2 := hs2.symm; replace hb1 := hb1.belowSize hw2)
        | (refine wpList_loadCell (op := ⟨some 10, _, _, _, _, _⟩) rfl _ _ rfl w.heap.size 2 rfl _ _ hb1 _ Tryz.underlying3 rfl (.int .i64 0) rfl ?_)
        | (refine wpList_loadRow (op := ⟨some 18, _, _, _, _, _⟩) rfl _ _ rfl w.heap.size rfl _ _ hb1 _ Tryz.underlying83 rfl (by rw [rc_size]; exact z39.2) ?_)
        | (refine wpList_storeRow (op := ⟨none, .store 83 (.tmp 2) (.tmp 21), _, _, _, _⟩) rfl _ _ _ rfl w.heap.size (rc us up ue) rfl rfl _ _ hb1 (by rw [rc_size, rc_size]) (by rw [rc_size]; exact z39.2) (rc_one _ _ _) ?_; intro w5 hg5 hs5 hz5; have hb5 := hz5; clear hz5; have hz5 := hz2.grown hg5 (by simp; omega))))
    have hB2 : Below w.heap.size w w2 := hw1.trans (hw2.mono hw1.size)
    have hB4 : Below w.heap.size w w4 := hB2.trans (hw4.mono hB2.size)
    have hB5 : Below w.heap.size w w5 := hB4.trans (below_of_grown hg5 (Nat.le_refl _) hB4.size)
    clear hB2 hB4 hg5 hw4 hw2 hs2 hs5 hz2 hd8 HB
    go_loopw [7, 8] (fun v7 v8 wl => ∃ n : Nat, n ≤ v.length ∧ v7 = .int .u64 (val (v.take n)) ∧ v8 = .int .i64 n ∧ wl = w5) (fun _ v8 _ => v.length - (intOf v8).toNat)
    case atStart => exact ⟨0, by omega, rfl, rfl, rfl⟩
    case round =>
      obtain ⟨n, hn, rfl, rfl, hw⟩ := hrel
      have hw2 := hw.symm
      subst hw2
      clear hw
      by_cases hlt : n < v.length
      · have hv := val_lt n (v.take n) (by rw [List.length_take]; omega)
        have h7 : 256 ^ n ≤ 256 ^ 7 := Nat.pow_le_pow_right (by decide) (by omega)
        have h77 : 256 ^ 7 = 72057594037927936 := by decide
        have hv2 : val (v.take n) * 256 + 255 < 18446744073709551616 := by omega
        have hb : (byteOf v n).toNat < 256 := (byteOf v n).toNat_lt
        have hb2 : IntKind.u64.wrap (n8 (byteOf v n)) = ((byteOf v n).toNat : Int) := by rw [IntKind.wrap_u64]; unfold n8; omega
        have HN : Hid (val (v.take (n + 1)) = val (v.take n) * 256 + (byteOf v n).toNat) := val_take v n hlt
        clear h7 h77 hv
        generalize val (v.take n) = z at *
        generalize (byteOf v n).toNat = y at *
        go_wp2_with fail
        go_roundw
        case rel => exact ⟨n + 1, by omega, by rw [HN.out]; simp, by go_num, trivial⟩
        case measure => simp [intOf]; omega
      · have e1 : v.take n = v := List.take_of_length_le (by omega)
        rw [e1]
        go_wp2_with (with_reducible refine at_list ?_; first
          | (refine wpList_loadRow (op := ⟨some 36, _, _, _, _, _⟩) rfl _ _ rfl w.heap.size rfl _ _ hb5 _ Tryz.underlying83 rfl (by rw [rc_size]; exact z39.2) ?_)
          | (refine wpList_storeRow (op := ⟨none, .store 83 (.tmp 4) (.tmp 36), _, _, _, _⟩) rfl _ _ _ rfl w1.heap.size (rc us up ue) rfl rfl _ _ hz5 (by rw [rc_size, rc_size]) (by rw [rc_size]; exact z39.2) (rc_one _ _ _) ?_; intro w6 hg6 hs6 hz6))
        refine bodyPost_ret (res_rc rfl _ _ w1.heap.size us up ue _ rfl rfl hz6) rfl ⟨rfl, ?_⟩
        exact hB5.trans (below_of_grown hg6 hw1.size hB5.size)
  · have hd0 : decide (err = 0) = false := decide_eq_false he
    clear h
    go_enter Tryz.func60, Tryz.ntmps60
    go_wp2_with (first
      | (go_at_call 61; refine (HB _).mono ?_; rintro e w4 ⟨rfl, hw4⟩; replace hb1 := hb1.belowSize hw4; replace hz2 := hz2.belowSize hw4)
      | (with_reducible refine at_list ?_; first
        | (refine wpList_boxRow (op := ⟨some 2, _, _, _, _, _⟩) rfl _ _ rfl _ rfl ?_; intro w1 hw1 hs1 hb1; replace hs1 := hs1.symm)
        | (refine wpList_allocRow (op := ⟨some 4, _, _, _, _, _⟩) rfl _ rfl _ z39.1 ?_; intro w2 hw2 hs2 hz2; replace hs2 := hs2.symm; replace hb1 := hb1.belowSize hw2)
        | (refine wpList_loadCell (op := ⟨some 10, _, _, _, _, _⟩) rfl _ _ rfl w.heap.size 2 rfl _ _ hb1 _ Tryz.underlying3 rfl (.int .i64 err) rfl ?_)
        | (refine wpList_loadRow (op := ⟨some 18, _, _, _, _, _⟩) rfl _ _ rfl w.heap.size rfl _ _ hb1 _ Tryz.underlying83 rfl (by rw [rc_size]; exact z39.2) ?_)
        | (refine wpList_storeRow (op := ⟨none, .store 83 (.tmp 2) (.tmp 21), _, _, _, _⟩) rfl _ _ _ rfl w.heap.size (rc us up ue) rfl rfl _ _ hb1 (by rw [rc_size, rc_size]) (by rw [rc_size]; exact z39.2) (rc_one _ _ _) ?_; intro w5 hg5 hs5 hz5; have hb5 := hz5; clear hz5; have hz5 := hz2.grown hg5 (by simp; omega))))
    have hB2 : Below w.heap.size w w2 := hw1.trans (hw2.mono hw1.size)
    have hB4 : Below w.heap.size w w4 := hB2.trans (hw4.mono hB2.size)
    have hB5 : Below w.heap.size w w5 := hB4.trans (below_of_grown hg5 (Nat.le_refl _) hB4.size)
    clear hB2 hB4 hg5 hw4 hw2 hs2 hs5 hz2 hd0 HB
    go_loopw [7, 8] (fun v7 v8 wl => ∃ n : Nat, n ≤ v.length ∧ v7 = .int .u64 (val (v.take n)) ∧ v8 = .int .i64 n ∧ wl = w5) (fun _ v8 _ => v.length - (intOf v8).toNat)
    case atStart => exact ⟨0, by omega, rfl, rfl, rfl⟩
    case round =>
      obtain ⟨n, hn, rfl, rfl, hw⟩ := hrel
      have hw2 := hw.symm
      subst hw2
      clear hw
      by_cases hlt : n < v.length
      · have hv := val_lt n (v.take n) (by rw [List.length_take]; omega)
        have h7 : 256 ^ n ≤ 256 ^ 7 := Nat.pow_le_pow_right (by decide) (by omega)
        have h77 : 256 ^ 7 = 72057594037927936 := by decide
        have hv2 : val (v.take n) * 256 + 255 < 18446744073709551616 := by omega
        have hb : (byteOf v n).toNat < 256 := (byteOf v n).toNat_lt
        have hb2 : IntKind.u64.wrap (n8 (byteOf v n)) = ((byteOf v n).toNat : Int) := by rw [IntKind.wrap_u64]; unfold n8; omega
        have HN : Hid (val (v.take (n + 1)) = val (v.take n) * 256 + (byteOf v n).toNat) := val_take v n hlt
        clear h7 h77 hv
        generalize val (v.take n) = z at *
        generalize (byteOf v n).toNat = y at *
        go_wp2_with fail
        go_roundw
        case rel => exact ⟨n + 1, by omega, by rw [HN.out]; simp, by go_num, trivial⟩
        case measure => simp [intOf]; omega
      · have e1 : v.take n = v := List.take_of_length_le (by omega)
        rw [e1]
        go_wp2_with (with_reducible refine at_list ?_; first
          | (refine wpList_loadRow (op := ⟨some 36, _, _, _, _, _⟩) rfl _ _ rfl w.heap.size rfl _ _ hb5 _ Tryz.underlying83 rfl (by rw [rc_size]; exact z39.2) ?_)
          | (refine wpList_storeRow (op := ⟨none, .store 83 (.tmp 4) (.tmp 36), _, _, _, _⟩) rfl _ _ _ rfl w1.heap.size (rc us up ue) rfl rfl _ _ hz5 (by rw [rc_size, rc_size]) (by rw [rc_size]; exact z39.2) (rc_one _ _ _) ?_; intro w6 hg6 hs6 hz6))
        refine bodyPost_ret (res_rc rfl _ _ w1.heap.size us up ue _ rfl rfl hz6) rfl ⟨rfl, ?_⟩
        exact hB5.trans (below_of_grown hg6 hw1.size hB5.size)
set_option maxRecDepth 100000 in
set_option maxHeartbeats 400000 in
theorem rnumber_early (s : List UInt8) (pos : Nat) (k : Int) (w : World) (h : 8 < k) :
    Calls Tryz.prog 60 #[.agg (rc s pos 0), .int .i64 k] w fun e w' => e = .returned (.tuple #[.agg (rc s pos 1), .int .u64 (val [])]) ∧ Below w.heap.size w w' := by
  obtain ⟨us, hus⟩ : ∃ us, us = s := ⟨_, rfl⟩
  obtain ⟨up, hup⟩ : ∃ up, up = pos := ⟨_, rfl⟩
  obtain ⟨ue, hue⟩ : ∃ ue : Int, ue = 1 := ⟨_, rfl⟩
  obtain ⟨v, hv⟩ : ∃ v : List UInt8, v = [] := ⟨_, rfl⟩
  have hv8 : v.length ≤ 8 := by rw [hv]; simp
  have HB : ∀ w, Calls Tryz.prog 61 #[.agg (rc s pos 1), .int .i64 k] w fun e w' => e = .returned (.tuple #[.agg (rc us up ue), .string ⟨v.toArray⟩]) ∧ Below w.heap.size w w' := fun w => by
    rw [hus, hup, hue, hv]; exact rbytes_err s pos 1 k w (by decide)
  rw [show rc s pos 1 = rc us up ue from by rw [hus, hup, hue], show val [] = val v from by rw [hv]]
  clear hus hup hue hv
  have hd8 : decide (8 < k) = true := decide_eq_true h
  go_enter Tryz.func60, Tryz.ntmps60
  go_wp2_with (first
    | (go_at_call 61; refine (HB _).mono ?_; rintro e w4 ⟨rfl, hw4⟩; replace hb1 := hb1.belowSize hw4; replace hz2 := hz2.belowSize hw4)
    | (with_reducible refine at_list ?_; first
      | (refine wpList_boxRow (op := ⟨some 2, _, _, _, _, _⟩) rfl _ _ rfl _ rfl ?_; intro w1 hw1 hs1 hb1; replace hs1 := hs1.symm)
      | (refine wpList_allocRow (op := ⟨some 4, _, _, _, _, _⟩) rfl _ rfl _ z39.1 ?_; intro w2 hw2 hs2 hz2; replace hs2 := hs2.symm; replace hb1 := hb1.belowSize hw2)
      | (refine wpList_loadCell (op := ⟨some 10, _, _, _, _, _⟩) rfl _ _ rfl w.heap.size 2 rfl _ _ hb1 _ Tryz.underlying3 rfl (.int .i64 0) rfl ?_)
      | (refine wpList_storeCell (op := ⟨none, .store 3 (.tmp 16) _, _, _, _, _⟩) rfl _ _ _ rfl w.heap.size 2 rfl (.int .i64 1) rfl _ _ hb1 i3 rfl rfl (by simp [rc]) ?_; intro w3 hg3 hs3 hb3; replace hz2 := hz2.grown hg3 (by simp; omega); rw [rc_err] at hb3; replace hb1 := hb3; clear hb3)
      | (refine wpList_loadRow (op := ⟨some 18, _, _, _, _, _⟩) rfl _ _ rfl w.heap.size rfl _ _ hb1 _ Tryz.underlying83 rfl (by rw [rc_size]; exact z39.2) ?_)
      | (refine wpList_storeRow (op := ⟨none, .store 83 (.tmp 2) (.tmp 21), _, _, _, _⟩) rfl _ _ _ rfl w.heap.size (rc us up ue) rfl rfl _ _ hb1 (by rw [rc_size, rc_size]) (by rw [rc_size]; exact z39.2) (rc_one _ _ _) ?_; intro w5 hg5 hs5 hz5; have hb5 := hz5; clear hz5; have hz5 := hz2.grown hg5 (by simp; omega))))
  have hB2 : Below w.heap.size w w2 := hw1.trans (hw2.mono hw1.size)
  have hB3 : Below w.heap.size w w3 := hB2.trans (below_of_grown hg3 (Nat.le_refl _) hB2.size)
  have hB4 : Below w.heap.size w w4 := hB3.trans (hw4.mono hB3.size)
  have hB5 : Below w.heap.size w w5 := hB4.trans (below_of_grown hg5 (Nat.le_refl _) hB4.size)
  clear hB2 hB3 hB4 hg3 hg5 hw4 hw2 hs2 hs3 hs5 hz2 hd8 HB
  go_loopw [7, 8] (fun v7 v8 wl => ∃ n : Nat, n ≤ v.length ∧ v7 = .int .u64 (val (v.take n)) ∧ v8 = .int .i64 n ∧ wl = w5) (fun _ v8 _ => v.length - (intOf v8).toNat)
  case atStart => exact ⟨0, by omega, rfl, rfl, rfl⟩
  case round =>
    obtain ⟨n, hn, rfl, rfl, hw⟩ := hrel
    have hw2 := hw.symm
    subst hw2
    clear hw
    by_cases hlt : n < v.length
    · have hv := val_lt n (v.take n) (by rw [List.length_take]; omega)
      have h7 : 256 ^ n ≤ 256 ^ 7 := Nat.pow_le_pow_right (by decide) (by omega)
      have h77 : 256 ^ 7 = 72057594037927936 := by decide
      have hv2 : val (v.take n) * 256 + 255 < 18446744073709551616 := by omega
      have hb : (byteOf v n).toNat < 256 := (byteOf v n).toNat_lt
      have hb2 : IntKind.u64.wrap (n8 (byteOf v n)) = ((byteOf v n).toNat : Int) := by rw [IntKind.wrap_u64]; unfold n8; omega
      have HN : Hid (val (v.take (n + 1)) = val (v.take n) * 256 + (byteOf v n).toNat) := val_take v n hlt
      clear h7 h77 hv
      generalize val (v.take n) = z at *
      generalize (byteOf v n).toNat = y at *
      go_wp2_with fail
      go_roundw
      case rel => exact ⟨n + 1, by omega, by rw [HN.out]; simp, by go_num, trivial⟩
      case measure => simp [intOf]; omega
    · have e1 : v.take n = v := List.take_of_length_le (by omega)
      rw [e1]
      go_wp2_with (with_reducible refine at_list ?_; first
        | (refine wpList_loadRow (op := ⟨some 36, _, _, _, _, _⟩) rfl _ _ rfl w.heap.size rfl _ _ hb5 _ Tryz.underlying83 rfl (by rw [rc_size]; exact z39.2) ?_)
        | (refine wpList_storeRow (op := ⟨none, .store 83 (.tmp 4) (.tmp 36), _, _, _, _⟩) rfl _ _ _ rfl w1.heap.size (rc us up ue) rfl rfl _ _ hz5 (by rw [rc_size, rc_size]) (by rw [rc_size]; exact z39.2) (rc_one _ _ _) ?_; intro w6 hg6 hs6 hz6))
      refine bodyPost_ret (res_rc rfl _ _ w1.heap.size us up ue _ rfl rfl hz6) rfl ⟨rfl, ?_⟩
      exact hB5.trans (below_of_grown hg6 hw1.size hB5.size)
theorem rnumber_any (r : R) (k : Int) (w : World) (hk : r.ok) (hl : r.s.length ≤ 140737488355328) :
    Calls Tryz.prog 60 #[.agg (rc r.s r.pos r.err), .int .i64 k] w fun e w' => e = .returned (.tuple #[.agg (rc (r.number k).1.s (r.number k).1.pos (r.number k).1.err), .int .u64 ((r.number k).2 : Nat)]) ∧ Below w.heap.size w w' := by
  by_cases h : r.err = 0 ∧ 8 < k
  · obtain ⟨s, pos, err⟩ := r
    obtain ⟨h0, h1⟩ := h
    have h0 : err = 0 := h0
    subst h0
    have e : R.number ⟨s, pos, 0⟩ k = (⟨s, pos, 1⟩, val []) := by
      unfold R.number R.early
      rw [if_pos ⟨rfl, h1⟩]
      unfold R.bytes
      rw [if_pos (by simp)]
    rw [e]
    exact rnumber_early s pos k w h1
  · have e : r.early k = r := if_neg h
    have h8 := r.early_len k
    unfold R.number
    rw [e] at h8 ⊢
    exact rnumber_plain r.s r.pos r.err k _ _ _ _ w h h8 (fun w => rbytes_any r k w hk hl)
end Go.Proofs.YtaiiojbakmminaaGreatDoor
