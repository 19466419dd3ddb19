/- The plain reader's Bool and End. -/
import Derived.Test.YtncoifkchoiiaaaRf
namespace Go.Proofs.Ytncoifkchoiiaaa
open Go Go.RowKit
set_option maxRecDepth 100000 in
set_option maxHeartbeats 400000 in
theorem rend_any (r : R) (w : World) : Calls Try.prog 6 #[.agg (rc r.s r.pos r.err)] w fun e w' => e = .returned (.agg (rc r.fin.s r.fin.pos r.fin.err)) ∧ Below w.heap.size w w' := by
  obtain ⟨s, pos, err⟩ := r
  by_cases he : err = 0
  · subst he
    by_cases hp : pos < s.length
    · rw [show R.fin ⟨s, pos, 0⟩ = ⟨s, pos, 5⟩ from if_pos ⟨rfl, hp⟩]
      have hd : decide ((pos : Int) < (s.length : Int)) = true := decide_eq_true (by omega)
      go_enter Try.func6, Try.ntmps6
      go_wp2_with (with_reducible refine at_list ?_; first
        | (refine wpList_boxRow (op := ⟨some 1, _, _, _, _, _⟩) rfl _ _ rfl _ rfl ?_; intro w1 hw1 hs1 hb1; replace hs1 := hs1.symm)
        | (refine wpList_allocRow (op := ⟨some 2, _, _, _, _, _⟩) rfl _ rfl _ z39.1 ?_; intro w2 hw2 hs2 hz2; replace hs2 := hs2.symm; replace hb1 := hb1.belowSize hw2; have c0 := (hb1.cell 0).trans (rc_g0 _ _ _); have c1 := (hb1.cell 1).trans (rc_g1 _ _ _))
        | (refine wpList_loadCell (op := ⟨some 4, _, _, _, _, _⟩) rfl _ _ rfl w.heap.size 2 rfl _ _ hb1 _ Try.underlying3 rfl (.int .i64 0) rfl ?_)
        | (refine wpList_storeCell (op := ⟨none, .store 3 (.tmp 14) _, _, _, _, _⟩) rfl _ _ _ rfl w.heap.size 2 rfl (.int .i64 5) rfl _ _ hb1 i3 rfl rfl (by simp [rc]) ?_; intro w3 hg3 hs3 hb3; rw [rc_err] at hb3; replace hz2 := hz2.grown hg3 (by simp; omega))
        | (refine wpList_loadRow (op := ⟨some 15, _, _, _, _, _⟩) rfl _ _ rfl w.heap.size rfl _ _ hb3 _ Try.underlying30 rfl (by rw [rc_size]; exact z39.2) ?_)
        | (refine wpList_storeRow (op := ⟨none, .store 30 (.tmp 2) (.tmp 15), _, _, _, _⟩) rfl _ _ _ rfl w1.heap.size (rc s pos 5) rfl rfl _ _ hz2 (by rw [rc_size, rc_size]) (by rw [rc_size]; exact z39.2) (rc_one _ _ _) ?_; intro w8 hg8 hs8 hz8))
      have hB2 : Below w.heap.size w w2 := hw1.trans (hw2.mono hw1.size)
      have hB3 : Below w.heap.size w w3 := hB2.trans (below_of_grown hg3 (Nat.le_refl _) hB2.size)
      refine bodyPost_ret (v := .agg (rc s pos 5)) ?_ rfl ⟨rfl, hB3.trans (below_of_grown hg8 hw1.size hB3.size)⟩
      exact results_cell_row rfl _ _ w1.heap.size _ _ _ _ rfl hz8.out Try.underlying30 rfl (by rw [rc_size]; exact z39.2)
    · rw [show R.fin ⟨s, pos, 0⟩ = ⟨s, pos, 0⟩ from if_neg (fun x => hp x.2)]
      have hd : decide ((pos : Int) < (s.length : Int)) = false := decide_eq_false (by omega)
      go_enter Try.func6, Try.ntmps6
      go_wp2_with (with_reducible refine at_list ?_; first
        | (refine wpList_boxRow (op := ⟨some 1, _, _, _, _, _⟩) rfl _ _ rfl _ rfl ?_; intro w1 hw1 hs1 hb1; replace hs1 := hs1.symm)
        | (refine wpList_allocRow (op := ⟨some 2, _, _, _, _, _⟩) rfl _ rfl _ z39.1 ?_; intro w2 hw2 hs2 hz2; replace hs2 := hs2.symm; replace hb1 := hb1.belowSize hw2; have c0 := (hb1.cell 0).trans (rc_g0 _ _ _); have c1 := (hb1.cell 1).trans (rc_g1 _ _ _))
        | (refine wpList_loadCell (op := ⟨some 4, _, _, _, _, _⟩) rfl _ _ rfl w.heap.size 2 rfl _ _ hb1 _ Try.underlying3 rfl (.int .i64 0) rfl ?_)
        | (refine wpList_loadRow (op := ⟨some 15, _, _, _, _, _⟩) rfl _ _ rfl w.heap.size rfl _ _ hb1 _ Try.underlying30 rfl (by rw [rc_size]; exact z39.2) ?_)
        | (refine wpList_storeRow (op := ⟨none, .store 30 (.tmp 2) (.tmp 15), _, _, _, _⟩) rfl _ _ _ rfl w1.heap.size (rc s pos 0) rfl rfl _ _ hz2 (by rw [rc_size, rc_size]) (by rw [rc_size]; exact z39.2) (rc_one _ _ _) ?_; intro w8 hg8 hs8 hz8))
      have hB2 : Below w.heap.size w w2 := hw1.trans (hw2.mono hw1.size)
      refine bodyPost_ret (v := .agg (rc s pos 0)) ?_ rfl ⟨rfl, hB2.trans (below_of_grown hg8 hw1.size hB2.size)⟩
      exact results_cell_row rfl _ _ w1.heap.size _ _ _ _ rfl hz8.out Try.underlying30 rfl (by rw [rc_size]; exact z39.2)
  · rw [show R.fin ⟨s, pos, err⟩ = ⟨s, pos, err⟩ from if_neg (fun x => he x.1)]
    have hd : decide (err = 0) = false := decide_eq_false he
    have hb0 : (err == 0) = false := by simpa using he
    go_enter Try.func6, Try.ntmps6
    go_wp2_with (with_reducible refine at_list ?_; first
      | (refine wpList_boxRow (op := ⟨some 1, _, _, _, _, _⟩) rfl _ _ rfl _ rfl ?_; intro w1 hw1 hs1 hb1; replace hs1 := hs1.symm)
      | (refine wpList_allocRow (op := ⟨some 2, _, _, _, _, _⟩) rfl _ rfl _ z39.1 ?_; intro w2 hw2 hs2 hz2; replace hs2 := hs2.symm; replace hb1 := hb1.belowSize hw2; have c0 := (hb1.cell 0).trans (rc_g0 _ _ _); have c1 := (hb1.cell 1).trans (rc_g1 _ _ _))
      | (refine wpList_loadCell (op := ⟨some 4, _, _, _, _, _⟩) rfl _ _ rfl w.heap.size 2 rfl _ _ hb1 _ Try.underlying3 rfl (.int .i64 err) rfl ?_)
      | (refine wpList_loadRow (op := ⟨some 15, _, _, _, _, _⟩) rfl _ _ rfl w.heap.size rfl _ _ hb1 _ Try.underlying30 rfl (by rw [rc_size]; exact z39.2) ?_)
      | (refine wpList_storeRow (op := ⟨none, .store 30 (.tmp 2) (.tmp 15), _, _, _, _⟩) rfl _ _ _ rfl w1.heap.size (rc s pos err) rfl rfl _ _ hz2 (by rw [rc_size, rc_size]) (by rw [rc_size]; exact z39.2) (rc_one _ _ _) ?_; intro w8 hg8 hs8 hz8))
    have hB2 : Below w.heap.size w w2 := hw1.trans (hw2.mono hw1.size)
    refine bodyPost_ret (v := .agg (rc s pos err)) ?_ rfl ⟨rfl, hB2.trans (below_of_grown hg8 hw1.size hB2.size)⟩
    exact results_cell_row rfl _ _ w1.heap.size _ _ _ _ rfl hz8.out Try.underlying30 rfl (by rw [rc_size]; exact z39.2)
theorem built39 (s : List UInt8) : Try.prog.built 30 [(0, .string ⟨s.toArray⟩)] = some (rc s 0 0) := by kernel_rfl
end Go.Proofs.Ytncoifkchoiiaaa
