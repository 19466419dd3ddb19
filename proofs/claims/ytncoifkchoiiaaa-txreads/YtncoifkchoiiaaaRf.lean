/- The plain reader's Count, Text, Bool and End. -/
import Derived.Test.YtncoifkchoiiaaaRe
namespace Go.Proofs.Ytncoifkchoiiaaa
open Go Go.RowKit
set_option maxRecDepth 100000 in
set_option maxHeartbeats 400000 in
theorem rcount_out (s : List UInt8) (pos : Nat) (err m : Int) (us : List UInt8) (up : Nat) (ue : Int) (n : Nat) (w : World) (hn : n < 4294967296) (hm : m ≤ 9223372036854775807)
    (HN : ∀ w, Calls Try.prog 13 #[.agg (rc s pos err), .int .i64 4] w fun e w' => e = .returned (.tuple #[.agg (rc us up ue), .int .u64 (n : Nat)]) ∧ Below w.heap.size w w') (h0 : ue = 0) (h1 : m < 0 ∨ m < n) :
    Calls Try.prog 14 #[.agg (rc s pos err), .int .i64 m] w fun e w' => e = .returned (.tuple #[.agg (rc s pos 3), .int .i64 0]) ∧ Below w.heap.size w w' := by
  subst h0
  have hn64 := wrap_u64_nat n (by omega)
  by_cases h2 : m < 0
  · have hd : decide (m < 0) = true := decide_eq_true h2
    go_enter Try.func14, Try.ntmps14
    go_wp2_with (first
      | (go_at_call 13; refine (HN _).mono ?_; rintro e w4 ⟨rfl, hw4⟩; replace hb1 := hb1.belowSize hw4; replace hz2 := hz2.belowSize hw4)
      | (with_reducible refine at_list ?_; first
        | (refine wpList_boxRow (op := ⟨some 2, _, _, _, _, _⟩) rfl _ _ rfl _ rfl ?_; intro w1 hw1 hs1 hb1; replace hs1 := hs1.symm)
        | (refine wpList_allocRow (op := ⟨some 4, _, _, _, _, _⟩) rfl _ rfl _ z39.1 ?_; intro w2 hw2 hs2 hz2; replace hs2 := hs2.symm; replace hb1 := hb1.belowSize hw2)
        | (refine wpList_loadRow (op := ⟨some 9, _, _, _, _, _⟩) rfl _ _ rfl w.heap.size rfl _ _ hb1 _ Try.underlying30 rfl (by rw [rc_size]; exact z39.2) ?_)
        | (refine wpList_allocRow (op := ⟨some 6, _, _, _, _, _⟩) rfl _ rfl _ z39.1 ?_; intro w5 hw5 hs5 hk5; replace hs5 := hs5.symm; have hl5 : w2.heap.size ≤ w4.heap.size := hw4.size; replace hb1 := hb1.belowSize hw5; replace hz2 := hz2.belowSize hw5)
        | (refine wpList_storeRow (op := ⟨none, .store 30 (.tmp 6) (.tmp 11), _, _, _, _⟩) rfl _ _ _ rfl w4.heap.size (rc us up 0) rfl rfl _ _ hk5 (by rw [rc_size, rc_size]) (by rw [rc_size]; exact z39.2) (rc_one _ _ _) ?_; intro w6 hg6 hs6 hz6; have hk6 := hz6; clear hz6; replace hb1 := hb1.grown hg6 (by simp; omega); replace hz2 := hz2.grown hg6 (by simp; omega))
        | (refine wpList_loadCell (op := ⟨some 14, _, _, _, _, _⟩) rfl _ _ rfl w4.heap.size 2 rfl _ _ hk6 _ Try.underlying3 rfl (.int .i64 0) rfl ?_)
        | (refine wpList_storeCell (op := ⟨none, .store 3 (.tmp 26) _, _, _, _, _⟩) rfl _ _ _ rfl w.heap.size 2 rfl (.int .i64 3) rfl _ _ hb1 i3 rfl rfl (by simp [rc]) ?_; intro w7 hg7 hs7 hb7; rw [rc_err] at hb7; replace hz2 := hz2.grown hg7 (by simp; omega))
        | (refine wpList_loadRow (op := ⟨some 27, _, _, _, _, _⟩) rfl _ _ rfl w.heap.size rfl _ _ hb7 _ Try.underlying30 rfl (by rw [rc_size]; exact z39.2) ?_)
        | (refine wpList_storeRow (op := ⟨none, .store 30 (.tmp 4) (.tmp 27), _, _, _, _⟩) rfl _ _ _ rfl w1.heap.size (rc s pos 3) rfl rfl _ _ hz2 (by rw [rc_size, rc_size]) (by rw [rc_size]; exact z39.2) (rc_one _ _ _) ?_; intro w8 hg8 hs8 hz8)))
    have hB2 : Below w.heap.size w w2 := hw1.trans (hw2.mono hw1.size)
    have hB4 : Below w.heap.size w w4 := hB2.trans (hw4.mono hB2.size)
    have hB5 : Below w.heap.size w w5 := hB4.trans (hw5.mono hB4.size)
    have hB6 : Below w.heap.size w w6 := hB5.trans (below_of_grown hg6 hB4.size hB5.size)
    have hB7 : Below w.heap.size w w7 := hB6.trans (below_of_grown hg7 (Nat.le_refl _) hB6.size)
    refine bodyPost_ret (res_rc rfl _ _ w1.heap.size s pos 3 _ rfl rfl hz8) rfl ⟨rfl, ?_⟩
    exact hB7.trans (below_of_grown hg8 hw1.size hB7.size)
  · have hd : decide (m < 0) = false := decide_eq_false h2
    obtain ⟨k, rfl⟩ : ∃ k : Nat, m = k := ⟨m.toNat, by omega⟩
    have hk64 := wrap_u64_nat k (by omega)
    have hd1 : decide ((k : Int) < (n : Int)) = true := decide_eq_true (by omega)
    go_enter Try.func14, Try.ntmps14
    go_wp2_with (first
      | (go_at_call 13; refine (HN _).mono ?_; rintro e w4 ⟨rfl, hw4⟩; replace hb1 := hb1.belowSize hw4; replace hz2 := hz2.belowSize hw4)
      | (with_reducible refine at_list ?_; first
        | (refine wpList_boxRow (op := ⟨some 2, _, _, _, _, _⟩) rfl _ _ rfl _ rfl ?_; intro w1 hw1 hs1 hb1; replace hs1 := hs1.symm)
        | (refine wpList_allocRow (op := ⟨some 4, _, _, _, _, _⟩) rfl _ rfl _ z39.1 ?_; intro w2 hw2 hs2 hz2; replace hs2 := hs2.symm; replace hb1 := hb1.belowSize hw2)
        | (refine wpList_loadRow (op := ⟨some 9, _, _, _, _, _⟩) rfl _ _ rfl w.heap.size rfl _ _ hb1 _ Try.underlying30 rfl (by rw [rc_size]; exact z39.2) ?_)
        | (refine wpList_allocRow (op := ⟨some 6, _, _, _, _, _⟩) rfl _ rfl _ z39.1 ?_; intro w5 hw5 hs5 hk5; replace hs5 := hs5.symm; have hl5 : w2.heap.size ≤ w4.heap.size := hw4.size; replace hb1 := hb1.belowSize hw5; replace hz2 := hz2.belowSize hw5)
        | (refine wpList_storeRow (op := ⟨none, .store 30 (.tmp 6) (.tmp 11), _, _, _, _⟩) rfl _ _ _ rfl w4.heap.size (rc us up 0) rfl rfl _ _ hk5 (by rw [rc_size, rc_size]) (by rw [rc_size]; exact z39.2) (rc_one _ _ _) ?_; intro w6 hg6 hs6 hz6; have hk6 := hz6; clear hz6; replace hb1 := hb1.grown hg6 (by simp; omega); replace hz2 := hz2.grown hg6 (by simp; omega))
        | (refine wpList_loadCell (op := ⟨some 14, _, _, _, _, _⟩) rfl _ _ rfl w4.heap.size 2 rfl _ _ hk6 _ Try.underlying3 rfl (.int .i64 0) rfl ?_)
        | (refine wpList_storeCell (op := ⟨none, .store 3 (.tmp 26) _, _, _, _, _⟩) rfl _ _ _ rfl w.heap.size 2 rfl (.int .i64 3) rfl _ _ hb1 i3 rfl rfl (by simp [rc]) ?_; intro w7 hg7 hs7 hb7; rw [rc_err] at hb7; replace hz2 := hz2.grown hg7 (by simp; omega))
        | (refine wpList_loadRow (op := ⟨some 27, _, _, _, _, _⟩) rfl _ _ rfl w.heap.size rfl _ _ hb7 _ Try.underlying30 rfl (by rw [rc_size]; exact z39.2) ?_)
        | (refine wpList_storeRow (op := ⟨none, .store 30 (.tmp 4) (.tmp 27), _, _, _, _⟩) rfl _ _ _ rfl w1.heap.size (rc s pos 3) rfl rfl _ _ hz2 (by rw [rc_size, rc_size]) (by rw [rc_size]; exact z39.2) (rc_one _ _ _) ?_; intro w8 hg8 hs8 hz8)))
    have hB2 : Below w.heap.size w w2 := hw1.trans (hw2.mono hw1.size)
    have hB4 : Below w.heap.size w w4 := hB2.trans (hw4.mono hB2.size)
    have hB5 : Below w.heap.size w w5 := hB4.trans (hw5.mono hB4.size)
    have hB6 : Below w.heap.size w w6 := hB5.trans (below_of_grown hg6 hB4.size hB5.size)
    have hB7 : Below w.heap.size w w7 := hB6.trans (below_of_grown hg7 (Nat.le_refl _) hB6.size)
    refine bodyPost_ret (res_rc rfl _ _ w1.heap.size s pos 3 _ rfl rfl hz8) rfl ⟨rfl, ?_⟩
    exact hB7.trans (below_of_grown hg8 hw1.size hB7.size)
set_option maxRecDepth 100000 in
set_option maxHeartbeats 400000 in
theorem rcount_in (s : List UInt8) (pos : Nat) (err m : Int) (us : List UInt8) (up : Nat) (ue : Int) (n : Nat) (w : World) (hn : n < 4294967296) (hm : m ≤ 9223372036854775807)
    (HN : ∀ w, Calls Try.prog 13 #[.agg (rc s pos err), .int .i64 4] w fun e w' => e = .returned (.tuple #[.agg (rc us up ue), .int .u64 (n : Nat)]) ∧ Below w.heap.size w w') (h : ¬ (ue = 0 ∧ (m < 0 ∨ m < n))) :
    Calls Try.prog 14 #[.agg (rc s pos err), .int .i64 m] w fun e w' => e = .returned (.tuple #[.agg (rc us up ue), .int .i64 (n : Nat)]) ∧ Below w.heap.size w w' := by
  have hn64 := wrap_u64_nat n (by omega)
  by_cases h0 : ue = 0
  · subst h0
    have hd : decide (m < 0) = false := decide_eq_false (fun x => h ⟨rfl, .inl x⟩)
    have hm0 : 0 ≤ m := by have := of_decide_eq_false hd; omega
    obtain ⟨k, rfl⟩ : ∃ k : Nat, m = k := ⟨m.toNat, by omega⟩
    have hk64 := wrap_u64_nat k (by omega)
    have hd1 : decide ((k : Int) < (n : Int)) = false := decide_eq_false (fun x => h ⟨rfl, .inr x⟩)
    have hkn : ¬ k < n := fun x => h ⟨rfl, .inr (by omega)⟩
    clear h
    go_enter Try.func14, Try.ntmps14
    go_wp2_with (first
      | (go_at_call 13; refine (HN _).mono ?_; rintro e w4 ⟨rfl, hw4⟩; replace hb1 := hb1.belowSize hw4; replace hz2 := hz2.belowSize hw4)
      | (with_reducible refine at_list ?_; first
        | (refine wpList_boxRow (op := ⟨some 2, _, _, _, _, _⟩) rfl _ _ rfl _ rfl ?_; intro w1 hw1 hs1 hb1; replace hs1 := hs1.symm)
        | (refine wpList_allocRow (op := ⟨some 4, _, _, _, _, _⟩) rfl _ rfl _ z39.1 ?_; intro w2 hw2 hs2 hz2; replace hs2 := hs2.symm; replace hb1 := hb1.belowSize hw2)
        | (refine wpList_loadRow (op := ⟨some 9, _, _, _, _, _⟩) rfl _ _ rfl w.heap.size rfl _ _ hb1 _ Try.underlying30 rfl (by rw [rc_size]; exact z39.2) ?_)
        | (refine wpList_allocRow (op := ⟨some 6, _, _, _, _, _⟩) rfl _ rfl _ z39.1 ?_; intro w5 hw5 hs5 hk5; replace hs5 := hs5.symm; have hl5 : w2.heap.size ≤ w4.heap.size := hw4.size; replace hb1 := hb1.belowSize hw5; replace hz2 := hz2.belowSize hw5)
        | (refine wpList_storeRow (op := ⟨none, .store 30 (.tmp 6) (.tmp 11), _, _, _, _⟩) rfl _ _ _ rfl w4.heap.size (rc us up 0) rfl rfl _ _ hk5 (by rw [rc_size, rc_size]) (by rw [rc_size]; exact z39.2) (rc_one _ _ _) ?_; intro w6 hg6 hs6 hz6; have hk6 := hz6; clear hz6; replace hb1 := hb1.grown hg6 (by simp; omega); replace hz2 := hz2.grown hg6 (by simp; omega))
        | (refine wpList_loadCell (op := ⟨some 14, _, _, _, _, _⟩) rfl _ _ rfl w4.heap.size 2 rfl _ _ hk6 _ Try.underlying3 rfl (.int .i64 0) rfl ?_)
        | (refine wpList_loadRow (op := ⟨some 28, _, _, _, _, _⟩) rfl _ _ rfl w4.heap.size rfl _ _ hk6 _ Try.underlying30 rfl (by rw [rc_size]; exact z39.2) ?_)
        | (refine wpList_storeRow (op := ⟨none, .store 30 (.tmp 4) (.tmp 28), _, _, _, _⟩) rfl _ _ _ rfl w1.heap.size (rc us up 0) rfl rfl _ _ hz2 (by rw [rc_size, rc_size]) (by rw [rc_size]; exact z39.2) (rc_one _ _ _) ?_; intro w8 hg8 hs8 hz8)))
    have hB2 : Below w.heap.size w w2 := hw1.trans (hw2.mono hw1.size)
    have hB4 : Below w.heap.size w w4 := hB2.trans (hw4.mono hB2.size)
    have hB5 : Below w.heap.size w w5 := hB4.trans (hw5.mono hB4.size)
    have hB6 : Below w.heap.size w w6 := hB5.trans (below_of_grown hg6 hB4.size hB5.size)
    refine bodyPost_ret (res_rc rfl _ _ w1.heap.size us up 0 _ rfl rfl hz8) rfl ⟨rfl, ?_⟩
    exact hB6.trans (below_of_grown hg8 hw1.size hB6.size)
  · have hd0 : decide (ue = 0) = false := decide_eq_false h0
    have hb0 : (ue == 0) = false := by simpa using h0
    clear h h0
    go_enter Try.func14, Try.ntmps14
    go_wp2_with (first
      | (go_at_call 13; refine (HN _).mono ?_; rintro e w4 ⟨rfl, hw4⟩; replace hb1 := hb1.belowSize hw4; replace hz2 := hz2.belowSize hw4)
      | (with_reducible refine at_list ?_; first
        | (refine wpList_boxRow (op := ⟨some 2, _, _, _, _, _⟩) rfl _ _ rfl _ rfl ?_; intro w1 hw1 hs1 hb1; replace hs1 := hs1.symm)
        | (refine wpList_allocRow (op := ⟨some 4, _, _, _, _, _⟩) rfl _ rfl _ z39.1 ?_; intro w2 hw2 hs2 hz2; replace hs2 := hs2.symm; replace hb1 := hb1.belowSize hw2)
        | (refine wpList_loadRow (op := ⟨some 9, _, _, _, _, _⟩) rfl _ _ rfl w.heap.size rfl _ _ hb1 _ Try.underlying30 rfl (by rw [rc_size]; exact z39.2) ?_)
        | (refine wpList_allocRow (op := ⟨some 6, _, _, _, _, _⟩) rfl _ rfl _ z39.1 ?_; intro w5 hw5 hs5 hk5; replace hs5 := hs5.symm; have hl5 : w2.heap.size ≤ w4.heap.size := hw4.size; replace hb1 := hb1.belowSize hw5; replace hz2 := hz2.belowSize hw5)
        | (refine wpList_storeRow (op := ⟨none, .store 30 (.tmp 6) (.tmp 11), _, _, _, _⟩) rfl _ _ _ rfl w4.heap.size (rc us up ue) rfl rfl _ _ hk5 (by rw [rc_size, rc_size]) (by rw [rc_size]; exact z39.2) (rc_one _ _ _) ?_; intro w6 hg6 hs6 hz6; have hk6 := hz6; clear hz6; replace hb1 := hb1.grown hg6 (by simp; omega); replace hz2 := hz2.grown hg6 (by simp; omega))
        | (refine wpList_loadCell (op := ⟨some 14, _, _, _, _, _⟩) rfl _ _ rfl w4.heap.size 2 rfl _ _ hk6 _ Try.underlying3 rfl (.int .i64 ue) rfl ?_)
        | (refine wpList_loadRow (op := ⟨some 28, _, _, _, _, _⟩) rfl _ _ rfl w4.heap.size rfl _ _ hk6 _ Try.underlying30 rfl (by rw [rc_size]; exact z39.2) ?_)
        | (refine wpList_storeRow (op := ⟨none, .store 30 (.tmp 4) (.tmp 28), _, _, _, _⟩) rfl _ _ _ rfl w1.heap.size (rc us up ue) rfl rfl _ _ hz2 (by rw [rc_size, rc_size]) (by rw [rc_size]; exact z39.2) (rc_one _ _ _) ?_; intro w8 hg8 hs8 hz8)))
    have hB2 : Below w.heap.size w w2 := hw1.trans (hw2.mono hw1.size)
    have hB4 : Below w.heap.size w w4 := hB2.trans (hw4.mono hB2.size)
    have hB5 : Below w.heap.size w w5 := hB4.trans (hw5.mono hB4.size)
    have hB6 : Below w.heap.size w w6 := hB5.trans (below_of_grown hg6 hB4.size hB5.size)
    refine bodyPost_ret (res_rc rfl _ _ w1.heap.size us up ue _ rfl rfl hz8) rfl ⟨rfl, ?_⟩
    exact hB6.trans (below_of_grown hg8 hw1.size hB6.size)
theorem rcount_any (r : R) (m : Int) (w : World) (hk : r.ok) (hl : r.s.length ≤ 140737488355328) (hm : m ≤ 9223372036854775807) :
    Calls Try.prog 14 #[.agg (rc r.s r.pos r.err), .int .i64 m] w fun e w' => e = .returned (.tuple #[.agg (rc (r.count m).1.s (r.count m).1.pos (r.count m).1.err), .int .i64 ((r.count m).2 : Nat)]) ∧ Below w.heap.size w w' := by
  have HN := fun w => rnumber_any r 4 w hk hl
  have hn := r.number4_lt
  unfold R.count
  by_cases h : (r.number 4).1.err = 0 ∧ (m < 0 ∨ m < (r.number 4).2)
  · rw [if_pos h]
    exact rcount_out r.s r.pos r.err m _ _ _ _ w hn hm HN h.1 h.2
  · rw [if_neg h]
    exact rcount_in r.s r.pos r.err m _ _ _ _ w hn hm HN h
set_option maxRecDepth 100000 in
set_option maxHeartbeats 400000 in
theorem rtext_good (s : List UInt8) (pos : Nat) (err m : Int) (cs : List UInt8) (cp : Nat) (ce : Int) (n : Nat) (us : List UInt8) (up : Nat) (ue : Int) (v : List UInt8) (w : World)
    (HC : ∀ w, Calls Try.prog 14 #[.agg (rc s pos err), .int .i64 m] w fun e w' => e = .returned (.tuple #[.agg (rc cs cp ce), .int .i64 (n : Nat)]) ∧ Below w.heap.size w w')
    (HB : ∀ w, Calls Try.prog 27 #[.agg (rc cs cp ce), .int .i64 (n : Nat)] w fun e w' => e = .returned (.tuple #[.agg (rc us up ue), .string ⟨v.toArray⟩]) ∧ Below w.heap.size w w') (h0 : ue = 0) :
    Calls Try.prog 15 #[.agg (rc s pos err), .int .i64 m] w fun e w' => e = .returned (.tuple #[.agg (rc us up ue), .string ⟨v.toArray⟩]) ∧ Below w.heap.size w w' := by
  subst h0
  go_enter Try.func15, Try.ntmps15
  go_wp2_with (first
    | (go_at_call 14; refine (HC _).mono ?_; rintro e w4 ⟨rfl, hw4⟩; replace hb1 := hb1.belowSize hw4; replace hz2 := hz2.belowSize hw4)
    | (go_at_call 27; refine (HB _).mono ?_; rintro e w7 ⟨rfl, hw7⟩; replace hb1 := hb1.belowSize hw7; replace hz2 := hz2.belowSize hw7; replace hk6 := hk6.belowSize hw7)
    | (with_reducible refine at_list ?_; first
      | (refine wpList_boxRow (op := ⟨some 2, _, _, _, _, _⟩) rfl _ _ rfl _ rfl ?_; intro w1 hw1 hs1 hb1; replace hs1 := hs1.symm)
      | (refine wpList_allocRow (op := ⟨some 4, _, _, _, _, _⟩) rfl _ rfl _ z39.1 ?_; intro w2 hw2 hs2 hz2; replace hs2 := hs2.symm; replace hb1 := hb1.belowSize hw2)
      | (refine wpList_loadRow (op := ⟨some 10, _, _, _, _, _⟩) rfl _ _ rfl w.heap.size rfl _ _ hb1 _ Try.underlying30 rfl (by rw [rc_size]; exact z39.2) ?_)
      | (refine wpList_allocRow (op := ⟨some 6, _, _, _, _, _⟩) rfl _ rfl _ z39.1 ?_; intro w5 hw5 hs5 hk5; replace hs5 := hs5.symm; have hl5 : w2.heap.size ≤ w4.heap.size := hw4.size; replace hb1 := hb1.belowSize hw5; replace hz2 := hz2.belowSize hw5)
      | (refine wpList_storeRow (op := ⟨none, .store 30 (.tmp 6) (.tmp 13), _, _, _, _⟩) rfl _ _ _ rfl w4.heap.size (rc cs cp ce) rfl rfl _ _ hk5 (by rw [rc_size, rc_size]) (by rw [rc_size]; exact z39.2) (rc_one _ _ _) ?_; intro w6 hg6 hs6 hz6; have hk6 := hz6; clear hz6; replace hb1 := hb1.grown hg6 (by simp; omega); replace hz2 := hz2.grown hg6 (by simp; omega))
      | (refine wpList_loadRow (op := ⟨some 16, _, _, _, _, _⟩) rfl _ _ rfl w4.heap.size rfl _ _ hk6 _ Try.underlying30 rfl (by rw [rc_size]; exact z39.2) ?_)
      | (refine wpList_storeRow (op := ⟨none, .store 30 (.tmp 6) (.tmp 19), _, _, _, _⟩) rfl _ _ _ rfl w4.heap.size (rc us up 0) rfl rfl _ _ hk6 (by rw [rc_size, rc_size]) (by rw [rc_size]; exact z39.2) (rc_one _ _ _) ?_; intro w8 hg8 hs8 hz8; have hk8 := hz8; clear hz8; replace hb1 := hb1.grown hg8 (by simp; omega); replace hz2 := hz2.grown hg8 (by simp; omega))
      | (refine wpList_loadCell (op := ⟨some 22, _, _, _, _, _⟩) rfl _ _ rfl w4.heap.size 2 rfl _ _ hk8 _ Try.underlying3 rfl (.int .i64 0) rfl ?_)
      | (refine wpList_loadRow (op := ⟨some 31, _, _, _, _, _⟩) rfl _ _ rfl w4.heap.size rfl _ _ hk8 _ Try.underlying30 rfl (by rw [rc_size]; exact z39.2) ?_)
      | (refine wpList_storeRow (op := ⟨none, .store 30 (.tmp 4) (.tmp 31), _, _, _, _⟩) rfl _ _ _ rfl w1.heap.size (rc us up 0) rfl rfl _ _ hz2 (by rw [rc_size, rc_size]) (by rw [rc_size]; exact z39.2) (rc_one _ _ _) ?_; intro w9 hg9 hs9 hz9)))
  have hB2 : Below w.heap.size w w2 := hw1.trans (hw2.mono hw1.size)
  have hB4 : Below w.heap.size w w4 := hB2.trans (hw4.mono hB2.size)
  have hB5 : Below w.heap.size w w5 := hB4.trans (hw5.mono hB4.size)
  have hB6 : Below w.heap.size w w6 := hB5.trans (below_of_grown hg6 hB4.size hB5.size)
  have hB7 : Below w.heap.size w w7 := hB6.trans (hw7.mono hB6.size)
  have hB8 : Below w.heap.size w w8 := hB7.trans (below_of_grown hg8 hB4.size hB7.size)
  refine bodyPost_ret (res_rc rfl _ _ w1.heap.size us up 0 _ rfl rfl hz9) rfl ⟨rfl, ?_⟩
  exact hB8.trans (below_of_grown hg9 hw1.size hB8.size)
set_option maxRecDepth 100000 in
set_option maxHeartbeats 400000 in
theorem rtext_bad (s : List UInt8) (pos : Nat) (err m : Int) (cs : List UInt8) (cp : Nat) (ce : Int) (n : Nat) (us : List UInt8) (up : Nat) (ue : Int) (v : List UInt8) (w : World)
    (HC : ∀ w, Calls Try.prog 14 #[.agg (rc s pos err), .int .i64 m] w fun e w' => e = .returned (.tuple #[.agg (rc cs cp ce), .int .i64 (n : Nat)]) ∧ Below w.heap.size w w')
    (HB : ∀ w, Calls Try.prog 27 #[.agg (rc cs cp ce), .int .i64 (n : Nat)] w fun e w' => e = .returned (.tuple #[.agg (rc us up ue), .string ⟨v.toArray⟩]) ∧ Below w.heap.size w w') (h0 : ue ≠ 0) :
    Calls Try.prog 15 #[.agg (rc s pos err), .int .i64 m] w fun e w' => e = .returned (.tuple #[.agg (rc s pos (if err = 0 then ue else err)), .string ⟨#[]⟩]) ∧ Below w.heap.size w w' := by
  have hne : (ue != 0) = true := by simpa using h0
  have hd0 : decide (ue = 0) = false := decide_eq_false h0
  by_cases he : err = 0
  · subst he
    rw [if_pos rfl]
    go_enter Try.func15, Try.ntmps15
    go_wp2_with (first
      | (go_at_call 14; refine (HC _).mono ?_; rintro e w4 ⟨rfl, hw4⟩; replace hb1 := hb1.belowSize hw4; replace hz2 := hz2.belowSize hw4)
      | (go_at_call 27; refine (HB _).mono ?_; rintro e w7 ⟨rfl, hw7⟩; replace hb1 := hb1.belowSize hw7; replace hz2 := hz2.belowSize hw7; replace hk6 := hk6.belowSize hw7)
      | (with_reducible refine at_list ?_; first
        | (refine wpList_boxRow (op := ⟨some 2, _, _, _, _, _⟩) rfl _ _ rfl _ rfl ?_; intro w1 hw1 hs1 hb1; replace hs1 := hs1.symm)
        | (refine wpList_allocRow (op := ⟨some 4, _, _, _, _, _⟩) rfl _ rfl _ z39.1 ?_; intro w2 hw2 hs2 hz2; replace hs2 := hs2.symm; replace hb1 := hb1.belowSize hw2)
        | (refine wpList_loadRow (op := ⟨some 10, _, _, _, _, _⟩) rfl _ _ rfl w.heap.size rfl _ _ hb1 _ Try.underlying30 rfl (by rw [rc_size]; exact z39.2) ?_)
        | (refine wpList_allocRow (op := ⟨some 6, _, _, _, _, _⟩) rfl _ rfl _ z39.1 ?_; intro w5 hw5 hs5 hk5; replace hs5 := hs5.symm; have hl5 : w2.heap.size ≤ w4.heap.size := hw4.size; replace hb1 := hb1.belowSize hw5; replace hz2 := hz2.belowSize hw5)
        | (refine wpList_storeRow (op := ⟨none, .store 30 (.tmp 6) (.tmp 13), _, _, _, _⟩) rfl _ _ _ rfl w4.heap.size (rc cs cp ce) rfl rfl _ _ hk5 (by rw [rc_size, rc_size]) (by rw [rc_size]; exact z39.2) (rc_one _ _ _) ?_; intro w6 hg6 hs6 hz6; have hk6 := hz6; clear hz6; replace hb1 := hb1.grown hg6 (by simp; omega); replace hz2 := hz2.grown hg6 (by simp; omega))
        | (refine wpList_loadRow (op := ⟨some 16, _, _, _, _, _⟩) rfl _ _ rfl w4.heap.size rfl _ _ hk6 _ Try.underlying30 rfl (by rw [rc_size]; exact z39.2) ?_)
        | (refine wpList_storeRow (op := ⟨none, .store 30 (.tmp 6) (.tmp 19), _, _, _, _⟩) rfl _ _ _ rfl w4.heap.size (rc us up ue) rfl rfl _ _ hk6 (by rw [rc_size, rc_size]) (by rw [rc_size]; exact z39.2) (rc_one _ _ _) ?_; intro w8 hg8 hs8 hz8; have hk8 := hz8; clear hz8; replace hb1 := hb1.grown hg8 (by simp; omega); replace hz2 := hz2.grown hg8 (by simp; omega))
        | (refine wpList_loadCell (op := ⟨some 22, _, _, _, _, _⟩) rfl _ _ rfl w4.heap.size 2 rfl _ _ hk8 _ Try.underlying3 rfl (.int .i64 ue) rfl ?_)
        | (refine wpList_loadCell (op := ⟨some 25, _, _, _, _, _⟩) rfl _ _ rfl w.heap.size 2 rfl _ _ hb1 _ Try.underlying3 rfl (.int .i64 0) rfl ?_)
        | (refine wpList_loadCell (op := ⟨some 28, _, _, _, _, _⟩) rfl _ _ rfl w4.heap.size 2 rfl _ _ hk8 _ Try.underlying3 rfl (.int .i64 ue) rfl ?_)
        | (refine wpList_storeCell (op := ⟨none, .store 3 (.tmp 29) _, _, _, _, _⟩) rfl _ _ _ rfl w.heap.size 2 rfl (.int .i64 ue) rfl _ _ hb1 i3 rfl rfl (by simp [rc]) ?_; intro w10 hg10 hs10 hb10; rw [rc_err] at hb10; replace hz2 := hz2.grown hg10 (by simp; omega))
        | (refine wpList_loadRow (op := ⟨some 30, _, _, _, _, _⟩) rfl _ _ rfl w.heap.size rfl _ _ hb10 _ Try.underlying30 rfl (by rw [rc_size]; exact z39.2) ?_)
        | (refine wpList_storeRow (op := ⟨none, .store 30 (.tmp 4) (.tmp 30), _, _, _, _⟩) rfl _ _ _ rfl w1.heap.size (rc s pos ue) rfl rfl _ _ hz2 (by rw [rc_size, rc_size]) (by rw [rc_size]; exact z39.2) (rc_one _ _ _) ?_; intro w9 hg9 hs9 hz9)))
    have hB2 : Below w.heap.size w w2 := hw1.trans (hw2.mono hw1.size)
    have hB4 : Below w.heap.size w w4 := hB2.trans (hw4.mono hB2.size)
    have hB5 : Below w.heap.size w w5 := hB4.trans (hw5.mono hB4.size)
    have hB6 : Below w.heap.size w w6 := hB5.trans (below_of_grown hg6 hB4.size hB5.size)
    have hB7 : Below w.heap.size w w7 := hB6.trans (hw7.mono hB6.size)
    have hB8 : Below w.heap.size w w8 := hB7.trans (below_of_grown hg8 hB4.size hB7.size)
    have hB10 : Below w.heap.size w w10 := hB8.trans (below_of_grown hg10 (Nat.le_refl _) hB8.size)
    refine bodyPost_ret (res_rc rfl _ _ w1.heap.size s pos ue _ rfl rfl hz9) rfl ⟨rfl, ?_⟩
    exact hB10.trans (below_of_grown hg9 hw1.size hB10.size)
  · rw [if_neg he]
    have hd1 : decide (err = 0) = false := decide_eq_false he
    go_enter Try.func15, Try.ntmps15
    go_wp2_with (first
      | (go_at_call 14; refine (HC _).mono ?_; rintro e w4 ⟨rfl, hw4⟩; replace hb1 := hb1.belowSize hw4; replace hz2 := hz2.belowSize hw4)
      | (go_at_call 27; refine (HB _).mono ?_; rintro e w7 ⟨rfl, hw7⟩; replace hb1 := hb1.belowSize hw7; replace hz2 := hz2.belowSize hw7; replace hk6 := hk6.belowSize hw7)
      | (with_reducible refine at_list ?_; first
        | (refine wpList_boxRow (op := ⟨some 2, _, _, _, _, _⟩) rfl _ _ rfl _ rfl ?_; intro w1 hw1 hs1 hb1; replace hs1 := hs1.symm)
        | (refine wpList_allocRow (op := ⟨some 4, _, _, _, _, _⟩) rfl _ rfl _ z39.1 ?_; intro w2 hw2 hs2 hz2; replace hs2 := hs2.symm; replace hb1 := hb1.belowSize hw2)
        | (refine wpList_loadRow (op := ⟨some 10, _, _, _, _, _⟩) rfl _ _ rfl w.heap.size rfl _ _ hb1 _ Try.underlying30 rfl (by rw [rc_size]; exact z39.2) ?_)
        | (refine wpList_allocRow (op := ⟨some 6, _, _, _, _, _⟩) rfl _ rfl _ z39.1 ?_; intro w5 hw5 hs5 hk5; replace hs5 := hs5.symm; have hl5 : w2.heap.size ≤ w4.heap.size := hw4.size; replace hb1 := hb1.belowSize hw5; replace hz2 := hz2.belowSize hw5)
        | (refine wpList_storeRow (op := ⟨none, .store 30 (.tmp 6) (.tmp 13), _, _, _, _⟩) rfl _ _ _ rfl w4.heap.size (rc cs cp ce) rfl rfl _ _ hk5 (by rw [rc_size, rc_size]) (by rw [rc_size]; exact z39.2) (rc_one _ _ _) ?_; intro w6 hg6 hs6 hz6; have hk6 := hz6; clear hz6; replace hb1 := hb1.grown hg6 (by simp; omega); replace hz2 := hz2.grown hg6 (by simp; omega))
        | (refine wpList_loadRow (op := ⟨some 16, _, _, _, _, _⟩) rfl _ _ rfl w4.heap.size rfl _ _ hk6 _ Try.underlying30 rfl (by rw [rc_size]; exact z39.2) ?_)
        | (refine wpList_storeRow (op := ⟨none, .store 30 (.tmp 6) (.tmp 19), _, _, _, _⟩) rfl _ _ _ rfl w4.heap.size (rc us up ue) rfl rfl _ _ hk6 (by rw [rc_size, rc_size]) (by rw [rc_size]; exact z39.2) (rc_one _ _ _) ?_; intro w8 hg8 hs8 hz8; have hk8 := hz8; clear hz8; replace hb1 := hb1.grown hg8 (by simp; omega); replace hz2 := hz2.grown hg8 (by simp; omega))
        | (refine wpList_loadCell (op := ⟨some 22, _, _, _, _, _⟩) rfl _ _ rfl w4.heap.size 2 rfl _ _ hk8 _ Try.underlying3 rfl (.int .i64 ue) rfl ?_)
        | (refine wpList_loadCell (op := ⟨some 25, _, _, _, _, _⟩) rfl _ _ rfl w.heap.size 2 rfl _ _ hb1 _ Try.underlying3 rfl (.int .i64 err) rfl ?_)
        | (refine wpList_loadRow (op := ⟨some 30, _, _, _, _, _⟩) rfl _ _ rfl w.heap.size rfl _ _ hb1 _ Try.underlying30 rfl (by rw [rc_size]; exact z39.2) ?_)
        | (refine wpList_storeRow (op := ⟨none, .store 30 (.tmp 4) (.tmp 30), _, _, _, _⟩) rfl _ _ _ rfl w1.heap.size (rc s pos err) rfl rfl _ _ hz2 (by rw [rc_size, rc_size]) (by rw [rc_size]; exact z39.2) (rc_one _ _ _) ?_; intro w9 hg9 hs9 hz9)))
    have hB2 : Below w.heap.size w w2 := hw1.trans (hw2.mono hw1.size)
    have hB4 : Below w.heap.size w w4 := hB2.trans (hw4.mono hB2.size)
    have hB5 : Below w.heap.size w w5 := hB4.trans (hw5.mono hB4.size)
    have hB6 : Below w.heap.size w w6 := hB5.trans (below_of_grown hg6 hB4.size hB5.size)
    have hB7 : Below w.heap.size w w7 := hB6.trans (hw7.mono hB6.size)
    have hB8 : Below w.heap.size w w8 := hB7.trans (below_of_grown hg8 hB4.size hB7.size)
    refine bodyPost_ret (res_rc rfl _ _ w1.heap.size s pos err _ rfl rfl hz9) rfl ⟨rfl, ?_⟩
    exact hB8.trans (below_of_grown hg9 hw1.size hB8.size)
theorem R.count_keep {r : R} (m : Int) (h : r.err ≠ 0) : (r.count m).1 = r := by
  have e : r.early 4 = r := if_neg (fun x => h x.1)
  have e2 : (r.number 4).1 = r := by unfold R.number; rw [e]; exact R.bytes_keep 4 h
  unfold R.count
  rw [if_neg (fun x => h (by rw [← e2]; exact x.1)), e2]
theorem rtext_any (r : R) (m : Int) (w : World) (hk : r.ok) (hl : r.s.length ≤ 140737488355328) (hm : m ≤ 9223372036854775807) :
    Calls Try.prog 15 #[.agg (rc r.s r.pos r.err), .int .i64 m] w fun e w' => e = .returned (.tuple #[.agg (rc (r.text m).1.s (r.text m).1.pos (r.text m).1.err), .string ⟨(r.text m).2.toArray⟩]) ∧ Below w.heap.size w w' := by
  have HC := fun w => rcount_any r m w hk hl hm
  have HB := fun w => rbytes_any (r.count m).1 ((r.count m).2 : Nat) w (R.ok_count hk m) (by rw [R.count_s]; exact hl)
  by_cases h : ((r.count m).1.bytes ((r.count m).2 : Nat)).1.err = 0
  · rw [R.text_good h]
    exact rtext_good r.s r.pos r.err m _ _ _ _ _ _ _ _ w HC HB h
  · have e : r.text m = (⟨r.s, r.pos, if r.err = 0 then ((r.count m).1.bytes ((r.count m).2 : Nat)).1.err else r.err⟩, []) := by
      unfold R.text
      rw [if_pos h]
      by_cases he : r.err = 0
      · rw [if_pos he]
      · rw [if_neg he, R.count_keep m he, R.bytes_keep _ he]
    rw [e]
    exact rtext_bad r.s r.pos r.err m _ _ _ _ _ _ _ _ w HC HB h
end Go.Proofs.Ytncoifkchoiiaaa
