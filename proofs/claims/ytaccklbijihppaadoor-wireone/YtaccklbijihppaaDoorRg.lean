/- The plain reader's Bool and End. -/
import Derived.Test.YtaccklbijihppaaDoorRf
namespace Go.Proofs.YtaccklbijihppaaDoor
open Go Go.RowKit
set_option maxRecDepth 100000 in
set_option maxHeartbeats 400000 in
theorem rbool_out (s : List UInt8) (pos : Nat) (err : Int) (us : List UInt8) (up : Nat) (ue : Int) (n : Nat) (w : World)
    (HN : ∀ w, Calls Tryd.prog 40 #[.agg (rc s pos err), .int .i64 1] w fun e w' => e = .returned (.tuple #[.agg (rc us up ue), .int .u64 (n : Nat)]) ∧ Below w.heap.size w w') (h0 : ue = 0) (h1 : 1 < n) :
    Calls Tryd.prog 43 #[.agg (rc s pos err)] w fun e w' => e = .returned (.tuple #[.agg (rc s pos 6), .bool false]) ∧ Below w.heap.size w w' := by
  subst h0
  have hd1 : decide ((1 : Int) < (n : Int)) = true := decide_eq_true (by omega)
  go_enter Tryd.func43, Tryd.ntmps43
  go_wp2_with (first
    | (go_at_call 40; refine (HN _).mono ?_; rintro e w4 ⟨rfl, hw4⟩; replace hb1 := hb1.belowSize hw4; replace hz2 := hz2.belowSize hw4)
    | (with_reducible refine at_list ?_; first
      | (refine wpList_boxRow (op := ⟨some 1, _, _, _, _, _⟩) rfl _ _ rfl _ rfl ?_; intro w1 hw1 hs1 hb1; replace hs1 := hs1.symm)
      | (refine wpList_allocRow (op := ⟨some 2, _, _, _, _, _⟩) rfl _ rfl _ z39.1 ?_; intro w2 hw2 hs2 hz2; replace hs2 := hs2.symm; replace hb1 := hb1.belowSize hw2)
      | (refine wpList_loadRow (op := ⟨some 7, _, _, _, _, _⟩) rfl _ _ rfl w.heap.size rfl _ _ hb1 _ Tryd.underlying39 rfl (by rw [rc_size]; exact z39.2) ?_)
      | (refine wpList_allocRow (op := ⟨some 4, _, _, _, _, _⟩) rfl _ rfl _ z39.1 ?_; intro w5 hw5 hs5 hk5; replace hs5 := hs5.symm; have hl5 : w2.heap.size ≤ w4.heap.size := hw4.size; replace hb1 := hb1.belowSize hw5; replace hz2 := hz2.belowSize hw5)
      | (refine wpList_storeRow (op := ⟨none, .store 39 (.tmp 4) (.tmp 9), _, _, _, _⟩) rfl _ _ _ rfl w4.heap.size (rc us up 0) rfl rfl _ _ hk5 (by rw [rc_size, rc_size]) (by rw [rc_size]; exact z39.2) (rc_one _ _ _) ?_; intro w6 hg6 hs6 hz6; have hk6 := hz6; clear hz6; replace hb1 := hb1.grown hg6 (by simp; omega); replace hz2 := hz2.grown hg6 (by simp; omega))
      | (refine wpList_loadCell (op := ⟨some 12, _, _, _, _, _⟩) rfl _ _ rfl w4.heap.size 2 rfl _ _ hk6 _ Tryd.underlying3 rfl (.int .i64 0) rfl ?_)
      | (refine wpList_storeCell (op := ⟨none, .store 3 (.tmp 18) _, _, _, _, _⟩) rfl _ _ _ rfl w.heap.size 2 rfl (.int .i64 6) rfl _ _ hb1 i3 rfl rfl (by simp [rc]) ?_; intro w7 hg7 hs7 hb7; rw [rc_err] at hb7; replace hz2 := hz2.grown hg7 (by simp; omega))
      | (refine wpList_loadRow (op := ⟨some 19, _, _, _, _, _⟩) rfl _ _ rfl w.heap.size rfl _ _ hb7 _ Tryd.underlying39 rfl (by rw [rc_size]; exact z39.2) ?_)
      | (refine wpList_storeRow (op := ⟨none, .store 39 (.tmp 2) (.tmp 19), _, _, _, _⟩) rfl _ _ _ rfl w1.heap.size (rc s pos 6) rfl rfl _ _ hz2 (by rw [rc_size, rc_size]) (by rw [rc_size]; exact z39.2) (rc_one _ _ _) ?_; intro w8 hg8 hs8 hz8)))
  have hB2 : Below w.heap.size w w2 := hw1.trans (hw2.mono hw1.size)
  have hB4 : Below w.heap.size w w4 := hB2.trans (hw4.mono hB2.size)
  have hB5 : Below w.heap.size w w5 := hB4.trans (hw5.mono hB4.size)
  have hB6 : Below w.heap.size w w6 := hB5.trans (below_of_grown hg6 hB4.size hB5.size)
  have hB7 : Below w.heap.size w w7 := hB6.trans (below_of_grown hg7 (Nat.le_refl _) hB6.size)
  refine bodyPost_ret (res_rc rfl _ _ w1.heap.size s pos 6 _ rfl rfl hz8) rfl ⟨rfl, ?_⟩
  exact hB7.trans (below_of_grown hg8 hw1.size hB7.size)
set_option maxRecDepth 100000 in
set_option maxHeartbeats 400000 in
theorem rbool_in (s : List UInt8) (pos : Nat) (err : Int) (us : List UInt8) (up : Nat) (ue : Int) (n : Nat) (w : World)
    (HN : ∀ w, Calls Tryd.prog 40 #[.agg (rc s pos err), .int .i64 1] w fun e w' => e = .returned (.tuple #[.agg (rc us up ue), .int .u64 (n : Nat)]) ∧ Below w.heap.size w w') (h : ¬ (ue = 0 ∧ 1 < n)) (hn : ue ≠ 0 → n = 0) :
    Calls Tryd.prog 43 #[.agg (rc s pos err)] w fun e w' => e = .returned (.tuple #[.agg (rc us up ue), .bool (decide (n = 1))]) ∧ Below w.heap.size w w' := by
  by_cases h0 : ue = 0
  · subst h0
    have hn2 : n = 0 ∨ n = 1 := by have : ¬ 1 < n := fun x => h ⟨rfl, x⟩; omega
    clear h hn
    rcases hn2 with rfl | rfl
    · skip
      go_enter Tryd.func43, Tryd.ntmps43
      go_wp2_with (first
        | (go_at_call 40; refine (HN _).mono ?_; rintro e w4 ⟨rfl, hw4⟩; replace hb1 := hb1.belowSize hw4; replace hz2 := hz2.belowSize hw4)
        | (with_reducible refine at_list ?_; first
          | (refine wpList_boxRow (op := ⟨some 1, _, _, _, _, _⟩) rfl _ _ rfl _ rfl ?_; intro w1 hw1 hs1 hb1; replace hs1 := hs1.symm)
          | (refine wpList_allocRow (op := ⟨some 2, _, _, _, _, _⟩) rfl _ rfl _ z39.1 ?_; intro w2 hw2 hs2 hz2; replace hs2 := hs2.symm; replace hb1 := hb1.belowSize hw2)
          | (refine wpList_loadRow (op := ⟨some 7, _, _, _, _, _⟩) rfl _ _ rfl w.heap.size rfl _ _ hb1 _ Tryd.underlying39 rfl (by rw [rc_size]; exact z39.2) ?_)
          | (refine wpList_allocRow (op := ⟨some 4, _, _, _, _, _⟩) rfl _ rfl _ z39.1 ?_; intro w5 hw5 hs5 hk5; replace hs5 := hs5.symm; have hl5 : w2.heap.size ≤ w4.heap.size := hw4.size; replace hb1 := hb1.belowSize hw5; replace hz2 := hz2.belowSize hw5)
          | (refine wpList_storeRow (op := ⟨none, .store 39 (.tmp 4) (.tmp 9), _, _, _, _⟩) rfl _ _ _ rfl w4.heap.size (rc us up 0) rfl rfl _ _ hk5 (by rw [rc_size, rc_size]) (by rw [rc_size]; exact z39.2) (rc_one _ _ _) ?_; intro w6 hg6 hs6 hz6; have hk6 := hz6; clear hz6; replace hb1 := hb1.grown hg6 (by simp; omega); replace hz2 := hz2.grown hg6 (by simp; omega))
          | (refine wpList_loadCell (op := ⟨some 12, _, _, _, _, _⟩) rfl _ _ rfl w4.heap.size 2 rfl _ _ hk6 _ Tryd.underlying3 rfl (.int .i64 0) rfl ?_)
          | (refine wpList_loadRow (op := ⟨some 20, _, _, _, _, _⟩) rfl _ _ rfl w4.heap.size rfl _ _ hk6 _ Tryd.underlying39 rfl (by rw [rc_size]; exact z39.2) ?_)
          | (refine wpList_storeRow (op := ⟨none, .store 39 (.tmp 2) (.tmp 20), _, _, _, _⟩) rfl _ _ _ rfl w1.heap.size (rc us up 0) rfl rfl _ _ hz2 (by rw [rc_size, rc_size]) (by rw [rc_size]; exact z39.2) (rc_one _ _ _) ?_; intro w8 hg8 hs8 hz8)))
      have hB2 : Below w.heap.size w w2 := hw1.trans (hw2.mono hw1.size)
      have hB4 : Below w.heap.size w w4 := hB2.trans (hw4.mono hB2.size)
      have hB5 : Below w.heap.size w w5 := hB4.trans (hw5.mono hB4.size)
      have hB6 : Below w.heap.size w w6 := hB5.trans (below_of_grown hg6 hB4.size hB5.size)
      refine bodyPost_ret (res_rc rfl _ _ w1.heap.size us up 0 _ rfl rfl hz8) rfl ⟨rfl, ?_⟩
      exact hB6.trans (below_of_grown hg8 hw1.size hB6.size)
    · skip
      go_enter Tryd.func43, Tryd.ntmps43
      go_wp2_with (first
        | (go_at_call 40; refine (HN _).mono ?_; rintro e w4 ⟨rfl, hw4⟩; replace hb1 := hb1.belowSize hw4; replace hz2 := hz2.belowSize hw4)
        | (with_reducible refine at_list ?_; first
          | (refine wpList_boxRow (op := ⟨some 1, _, _, _, _, _⟩) rfl _ _ rfl _ rfl ?_; intro w1 hw1 hs1 hb1; replace hs1 := hs1.symm)
          | (refine wpList_allocRow (op := ⟨some 2, _, _, _, _, _⟩) rfl _ rfl _ z39.1 ?_; intro w2 hw2 hs2 hz2; replace hs2 := hs2.symm; replace hb1 := hb1.belowSize hw2)
          | (refine wpList_loadRow (op := ⟨some 7, _, _, _, _, _⟩) rfl _ _ rfl w.heap.size rfl _ _ hb1 _ Tryd.underlying39 rfl (by rw [rc_size]; exact z39.2) ?_)
          | (refine wpList_allocRow (op := ⟨some 4, _, _, _, _, _⟩) rfl _ rfl _ z39.1 ?_; intro w5 hw5 hs5 hk5; replace hs5 := hs5.symm; have hl5 : w2.heap.size ≤ w4.heap.size := hw4.size; replace hb1 := hb1.belowSize hw5; replace hz2 := hz2.belowSize hw5)
          | (refine wpList_storeRow (op := ⟨none, .store 39 (.tmp 4) (.tmp 9), _, _, _, _⟩) rfl _ _ _ rfl w4.heap.size (rc us up 0) rfl rfl _ _ hk5 (by rw [rc_size, rc_size]) (by rw [rc_size]; exact z39.2) (rc_one _ _ _) ?_; intro w6 hg6 hs6 hz6; have hk6 := hz6; clear hz6; replace hb1 := hb1.grown hg6 (by simp; omega); replace hz2 := hz2.grown hg6 (by simp; omega))
          | (refine wpList_loadCell (op := ⟨some 12, _, _, _, _, _⟩) rfl _ _ rfl w4.heap.size 2 rfl _ _ hk6 _ Tryd.underlying3 rfl (.int .i64 0) rfl ?_)
          | (refine wpList_loadRow (op := ⟨some 20, _, _, _, _, _⟩) rfl _ _ rfl w4.heap.size rfl _ _ hk6 _ Tryd.underlying39 rfl (by rw [rc_size]; exact z39.2) ?_)
          | (refine wpList_storeRow (op := ⟨none, .store 39 (.tmp 2) (.tmp 20), _, _, _, _⟩) rfl _ _ _ rfl w1.heap.size (rc us up 0) rfl rfl _ _ hz2 (by rw [rc_size, rc_size]) (by rw [rc_size]; exact z39.2) (rc_one _ _ _) ?_; intro w8 hg8 hs8 hz8)))
      have hB2 : Below w.heap.size w w2 := hw1.trans (hw2.mono hw1.size)
      have hB4 : Below w.heap.size w w4 := hB2.trans (hw4.mono hB2.size)
      have hB5 : Below w.heap.size w w5 := hB4.trans (hw5.mono hB4.size)
      have hB6 : Below w.heap.size w w6 := hB5.trans (below_of_grown hg6 hB4.size hB5.size)
      refine bodyPost_ret (res_rc rfl _ _ w1.heap.size us up 0 _ rfl rfl hz8) rfl ⟨rfl, ?_⟩
      exact hB6.trans (below_of_grown hg8 hw1.size hB6.size)
  · have hd0 : decide (ue = 0) = false := decide_eq_false h0
    have hb0 : (ue == 0) = false := by simpa using h0
    have hn := hn h0
    subst hn
    clear h h0
    go_enter Tryd.func43, Tryd.ntmps43
    go_wp2_with (first
      | (go_at_call 40; refine (HN _).mono ?_; rintro e w4 ⟨rfl, hw4⟩; replace hb1 := hb1.belowSize hw4; replace hz2 := hz2.belowSize hw4)
      | (with_reducible refine at_list ?_; first
        | (refine wpList_boxRow (op := ⟨some 1, _, _, _, _, _⟩) rfl _ _ rfl _ rfl ?_; intro w1 hw1 hs1 hb1; replace hs1 := hs1.symm)
        | (refine wpList_allocRow (op := ⟨some 2, _, _, _, _, _⟩) rfl _ rfl _ z39.1 ?_; intro w2 hw2 hs2 hz2; replace hs2 := hs2.symm; replace hb1 := hb1.belowSize hw2)
        | (refine wpList_loadRow (op := ⟨some 7, _, _, _, _, _⟩) rfl _ _ rfl w.heap.size rfl _ _ hb1 _ Tryd.underlying39 rfl (by rw [rc_size]; exact z39.2) ?_)
        | (refine wpList_allocRow (op := ⟨some 4, _, _, _, _, _⟩) rfl _ rfl _ z39.1 ?_; intro w5 hw5 hs5 hk5; replace hs5 := hs5.symm; have hl5 : w2.heap.size ≤ w4.heap.size := hw4.size; replace hb1 := hb1.belowSize hw5; replace hz2 := hz2.belowSize hw5)
        | (refine wpList_storeRow (op := ⟨none, .store 39 (.tmp 4) (.tmp 9), _, _, _, _⟩) rfl _ _ _ rfl w4.heap.size (rc us up ue) rfl rfl _ _ hk5 (by rw [rc_size, rc_size]) (by rw [rc_size]; exact z39.2) (rc_one _ _ _) ?_; intro w6 hg6 hs6 hz6; have hk6 := hz6; clear hz6; replace hb1 := hb1.grown hg6 (by simp; omega); replace hz2 := hz2.grown hg6 (by simp; omega))
        | (refine wpList_loadCell (op := ⟨some 12, _, _, _, _, _⟩) rfl _ _ rfl w4.heap.size 2 rfl _ _ hk6 _ Tryd.underlying3 rfl (.int .i64 ue) rfl ?_)
        | (refine wpList_loadRow (op := ⟨some 20, _, _, _, _, _⟩) rfl _ _ rfl w4.heap.size rfl _ _ hk6 _ Tryd.underlying39 rfl (by rw [rc_size]; exact z39.2) ?_)
        | (refine wpList_storeRow (op := ⟨none, .store 39 (.tmp 2) (.tmp 20), _, _, _, _⟩) rfl _ _ _ rfl w1.heap.size (rc us up ue) rfl rfl _ _ hz2 (by rw [rc_size, rc_size]) (by rw [rc_size]; exact z39.2) (rc_one _ _ _) ?_; intro w8 hg8 hs8 hz8)))
    have hB2 : Below w.heap.size w w2 := hw1.trans (hw2.mono hw1.size)
    have hB4 : Below w.heap.size w w4 := hB2.trans (hw4.mono hB2.size)
    have hB5 : Below w.heap.size w w5 := hB4.trans (hw5.mono hB4.size)
    have hB6 : Below w.heap.size w w6 := hB5.trans (below_of_grown hg6 hB4.size hB5.size)
    refine bodyPost_ret (res_rc rfl _ _ w1.heap.size us up ue _ rfl rfl hz8) rfl ⟨rfl, ?_⟩
    exact hB6.trans (below_of_grown hg8 hw1.size hB6.size)
theorem rbool_any (r : R) (w : World) (hk : r.ok) (hl : r.s.length ≤ 1099511627776) :
    Calls Tryd.prog 43 #[.agg (rc r.s r.pos r.err)] w fun e w' => e = .returned (.tuple #[.agg (rc r.bool.1.s r.bool.1.pos r.bool.1.err), .bool r.bool.2]) ∧ Below w.heap.size w w' := by
  have HN := fun w => rnumber_any r 1 w hk hl
  unfold R.bool
  by_cases h : (r.number 1).1.err = 0 ∧ 1 < (r.number 1).2
  · rw [if_pos h]
    exact rbool_out r.s r.pos r.err _ _ _ _ w HN h.1 h.2
  · rw [if_neg h]
    exact rbool_in r.s r.pos r.err _ _ _ _ w HN h (fun he => (R.number_bad he).2)
set_option maxRecDepth 100000 in
set_option maxHeartbeats 400000 in
theorem rend_any (r : R) (w : World) : Calls Tryd.prog 44 #[.agg (rc r.s r.pos r.err)] w fun e w' => e = .returned (.agg (rc r.fin.s r.fin.pos r.fin.err)) ∧ Below w.heap.size w w' := by
  obtain ⟨s, pos, err⟩ := r
  by_cases he : err = 0
  · subst he
    by_cases hp : pos < s.length
    · rw [show R.fin ⟨s, pos, 0⟩ = ⟨s, pos, 5⟩ from if_pos ⟨rfl, hp⟩]
      have hd : decide ((pos : Int) < (s.length : Int)) = true := decide_eq_true (by omega)
      go_enter Tryd.func44, Tryd.ntmps44
      go_wp2_with (with_reducible refine at_list ?_; first
        | (refine wpList_boxRow (op := ⟨some 1, _, _, _, _, _⟩) rfl _ _ rfl _ rfl ?_; intro w1 hw1 hs1 hb1; replace hs1 := hs1.symm)
        | (refine wpList_allocRow (op := ⟨some 2, _, _, _, _, _⟩) rfl _ rfl _ z39.1 ?_; intro w2 hw2 hs2 hz2; replace hs2 := hs2.symm; replace hb1 := hb1.belowSize hw2; have c0 := (hb1.cell 0).trans (rc_g0 _ _ _); have c1 := (hb1.cell 1).trans (rc_g1 _ _ _))
        | (refine wpList_loadCell (op := ⟨some 4, _, _, _, _, _⟩) rfl _ _ rfl w.heap.size 2 rfl _ _ hb1 _ Tryd.underlying3 rfl (.int .i64 0) rfl ?_)
        | (refine wpList_storeCell (op := ⟨none, .store 3 (.tmp 14) _, _, _, _, _⟩) rfl _ _ _ rfl w.heap.size 2 rfl (.int .i64 5) rfl _ _ hb1 i3 rfl rfl (by simp [rc]) ?_; intro w3 hg3 hs3 hb3; rw [rc_err] at hb3; replace hz2 := hz2.grown hg3 (by simp; omega))
        | (refine wpList_loadRow (op := ⟨some 15, _, _, _, _, _⟩) rfl _ _ rfl w.heap.size rfl _ _ hb3 _ Tryd.underlying39 rfl (by rw [rc_size]; exact z39.2) ?_)
        | (refine wpList_storeRow (op := ⟨none, .store 39 (.tmp 2) (.tmp 15), _, _, _, _⟩) rfl _ _ _ rfl w1.heap.size (rc s pos 5) rfl rfl _ _ hz2 (by rw [rc_size, rc_size]) (by rw [rc_size]; exact z39.2) (rc_one _ _ _) ?_; intro w8 hg8 hs8 hz8))
      have hB2 : Below w.heap.size w w2 := hw1.trans (hw2.mono hw1.size)
      have hB3 : Below w.heap.size w w3 := hB2.trans (below_of_grown hg3 (Nat.le_refl _) hB2.size)
      refine bodyPost_ret (v := .agg (rc s pos 5)) ?_ rfl ⟨rfl, hB3.trans (below_of_grown hg8 hw1.size hB3.size)⟩
      exact results_cell_row rfl _ _ w1.heap.size _ _ _ _ rfl hz8.out Tryd.underlying39 rfl (by rw [rc_size]; exact z39.2)
    · rw [show R.fin ⟨s, pos, 0⟩ = ⟨s, pos, 0⟩ from if_neg (fun x => hp x.2)]
      have hd : decide ((pos : Int) < (s.length : Int)) = false := decide_eq_false (by omega)
      go_enter Tryd.func44, Tryd.ntmps44
      go_wp2_with (with_reducible refine at_list ?_; first
        | (refine wpList_boxRow (op := ⟨some 1, _, _, _, _, _⟩) rfl _ _ rfl _ rfl ?_; intro w1 hw1 hs1 hb1; replace hs1 := hs1.symm)
        | (refine wpList_allocRow (op := ⟨some 2, _, _, _, _, _⟩) rfl _ rfl _ z39.1 ?_; intro w2 hw2 hs2 hz2; replace hs2 := hs2.symm; replace hb1 := hb1.belowSize hw2; have c0 := (hb1.cell 0).trans (rc_g0 _ _ _); have c1 := (hb1.cell 1).trans (rc_g1 _ _ _))
        | (refine wpList_loadCell (op := ⟨some 4, _, _, _, _, _⟩) rfl _ _ rfl w.heap.size 2 rfl _ _ hb1 _ Tryd.underlying3 rfl (.int .i64 0) rfl ?_)
        | (refine wpList_loadRow (op := ⟨some 15, _, _, _, _, _⟩) rfl _ _ rfl w.heap.size rfl _ _ hb1 _ Tryd.underlying39 rfl (by rw [rc_size]; exact z39.2) ?_)
        | (refine wpList_storeRow (op := ⟨none, .store 39 (.tmp 2) (.tmp 15), _, _, _, _⟩) rfl _ _ _ rfl w1.heap.size (rc s pos 0) rfl rfl _ _ hz2 (by rw [rc_size, rc_size]) (by rw [rc_size]; exact z39.2) (rc_one _ _ _) ?_; intro w8 hg8 hs8 hz8))
      have hB2 : Below w.heap.size w w2 := hw1.trans (hw2.mono hw1.size)
      refine bodyPost_ret (v := .agg (rc s pos 0)) ?_ rfl ⟨rfl, hB2.trans (below_of_grown hg8 hw1.size hB2.size)⟩
      exact results_cell_row rfl _ _ w1.heap.size _ _ _ _ rfl hz8.out Tryd.underlying39 rfl (by rw [rc_size]; exact z39.2)
  · rw [show R.fin ⟨s, pos, err⟩ = ⟨s, pos, err⟩ from if_neg (fun x => he x.1)]
    have hd : decide (err = 0) = false := decide_eq_false he
    have hb0 : (err == 0) = false := by simpa using he
    go_enter Tryd.func44, Tryd.ntmps44
    go_wp2_with (with_reducible refine at_list ?_; first
      | (refine wpList_boxRow (op := ⟨some 1, _, _, _, _, _⟩) rfl _ _ rfl _ rfl ?_; intro w1 hw1 hs1 hb1; replace hs1 := hs1.symm)
      | (refine wpList_allocRow (op := ⟨some 2, _, _, _, _, _⟩) rfl _ rfl _ z39.1 ?_; intro w2 hw2 hs2 hz2; replace hs2 := hs2.symm; replace hb1 := hb1.belowSize hw2; have c0 := (hb1.cell 0).trans (rc_g0 _ _ _); have c1 := (hb1.cell 1).trans (rc_g1 _ _ _))
      | (refine wpList_loadCell (op := ⟨some 4, _, _, _, _, _⟩) rfl _ _ rfl w.heap.size 2 rfl _ _ hb1 _ Tryd.underlying3 rfl (.int .i64 err) rfl ?_)
      | (refine wpList_loadRow (op := ⟨some 15, _, _, _, _, _⟩) rfl _ _ rfl w.heap.size rfl _ _ hb1 _ Tryd.underlying39 rfl (by rw [rc_size]; exact z39.2) ?_)
      | (refine wpList_storeRow (op := ⟨none, .store 39 (.tmp 2) (.tmp 15), _, _, _, _⟩) rfl _ _ _ rfl w1.heap.size (rc s pos err) rfl rfl _ _ hz2 (by rw [rc_size, rc_size]) (by rw [rc_size]; exact z39.2) (rc_one _ _ _) ?_; intro w8 hg8 hs8 hz8))
    have hB2 : Below w.heap.size w w2 := hw1.trans (hw2.mono hw1.size)
    refine bodyPost_ret (v := .agg (rc s pos err)) ?_ rfl ⟨rfl, hB2.trans (below_of_grown hg8 hw1.size hB2.size)⟩
    exact results_cell_row rfl _ _ w1.heap.size _ _ _ _ rfl hz8.out Tryd.underlying39 rfl (by rw [rc_size]; exact z39.2)
end Go.Proofs.YtaccklbijihppaaDoor
