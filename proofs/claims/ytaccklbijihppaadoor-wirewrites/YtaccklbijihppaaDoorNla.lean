/- Nil readers and writers. -/
import Derived.Test.YtaccklbijihppaaDoorWrb
namespace Go.Proofs.YtaccklbijihppaaDoor
open Go Go.RowKit
theorem err_nil (w : World) : Calls Tryd.prog 21 #[.pointer none] w fun e w' => e = .returned (.int .i64 1) ∧ w' = w := by
  go_enter Tryd.func21, Tryd.ntmps21
  go_wp2_with fail
  go_ret
  exact ⟨rfl, rfl⟩
theorem at_nil (w : World) : Calls Tryd.prog 22 #[.pointer none] w fun e w' => e = .returned (.int .i64 0) ∧ w' = w := by
  go_enter Tryd.func22, Tryd.ntmps22
  go_wp2_with fail
  go_ret
  exact ⟨rfl, rfl⟩
theorem left_nil (w : World) : Calls Tryd.prog 23 #[.pointer none] w fun e w' => e = .returned (.int .i64 0) ∧ w' = w := by
  go_enter Tryd.func23, Tryd.ntmps23
  go_wp2_with fail
  go_ret
  exact ⟨rfl, rfl⟩
theorem fail_nil (x : Int) (w : World) : Calls Tryd.prog 36 #[.pointer none, .int .i64 x] w fun e w' => e = .returned (.tuple #[]) ∧ w' = w := by
  go_enter Tryd.func36, Tryd.ntmps36
  go_wp2_with fail
  refine bodyPost_end (results_none rfl _ _ _) rfl ⟨rfl, rfl⟩
theorem refuse_nil (n x : Int) (w : World) : Calls Tryd.prog 53 #[.pointer none, .int .i64 n, .int .i64 x] w fun e w' => e = .returned (.tuple #[]) ∧ w' = w := by
  go_enter Tryd.func53, Tryd.ntmps53
  go_wp2_with (go_at_call 36; refine (fail_nil _ _).mono ?_; rintro e w' ⟨rfl, rfl⟩)
  refine bodyPost_end (results_none rfl _ _ _) rfl ⟨rfl, rfl⟩
theorem bytes_nil (n : Int) (w : World) : Calls Tryd.prog 28 #[.pointer none, .int .i64 n] w fun e w' => e = .returned (.string ⟨#[]⟩) ∧ w' = w := by
  by_cases h0 : n < 0
  · have hd : decide (n < 0) = true := decide_eq_true h0
    have hd2 : decide (0 < n) = false := decide_eq_false (by omega)
    go_enter Tryd.func28, Tryd.ntmps28
    go_wp2_with (first
      | (go_at_call 36; refine (fail_nil _ _).mono ?_; rintro e w' ⟨rfl, rfl⟩)
      | (go_at_call 23; refine (left_nil _).mono ?_; rintro e w' ⟨rfl, rfl⟩)
      | (go_at_call 21; refine (err_nil _).mono ?_; rintro e w' ⟨rfl, rfl⟩))
    go_ret
    exact ⟨rfl, rfl⟩
  · have hd : decide (n < 0) = false := decide_eq_false h0
    by_cases h1 : 0 < n
    · have hd2 : decide (0 < n) = true := decide_eq_true h1
      go_enter Tryd.func28, Tryd.ntmps28
      go_wp2_with (first
        | (go_at_call 36; refine (fail_nil _ _).mono ?_; rintro e w' ⟨rfl, rfl⟩)
        | (go_at_call 23; refine (left_nil _).mono ?_; rintro e w' ⟨rfl, rfl⟩)
        | (go_at_call 21; refine (err_nil _).mono ?_; rintro e w' ⟨rfl, rfl⟩))
      go_ret
      exact ⟨rfl, rfl⟩
    · have hd2 : decide (0 < n) = false := decide_eq_false h1
      go_enter Tryd.func28, Tryd.ntmps28
      go_wp2_with (first
        | (go_at_call 36; refine (fail_nil _ _).mono ?_; rintro e w' ⟨rfl, rfl⟩)
        | (go_at_call 23; refine (left_nil _).mono ?_; rintro e w' ⟨rfl, rfl⟩)
        | (go_at_call 21; refine (err_nil _).mono ?_; rintro e w' ⟨rfl, rfl⟩))
      go_ret
      exact ⟨rfl, rfl⟩
theorem value_nil (w : World) : Calls Tryd.prog 52 #[.string ⟨#[]⟩] w fun e w' => e = .returned (.int .u64 0) ∧ w' = w := value_any [] w (by simp)
theorem number_nil (n : Int) (w : World) : Calls Tryd.prog 29 #[.pointer none, .int .i64 n] w fun e w' => e = .returned (.int .u64 0) ∧ w' = w := by
  by_cases h0 : 8 < n
  · have hd : decide (8 < n) = true := decide_eq_true h0
    go_enter Tryd.func29, Tryd.ntmps29
    go_wp2_with (first
      | (go_at_call 36; refine (fail_nil _ _).mono ?_; rintro e w' ⟨rfl, rfl⟩)
      | (go_at_call 28; refine (bytes_nil _ _).mono ?_; rintro e w' ⟨rfl, rfl⟩)
      | (go_at_call 52; refine (value_nil _).mono ?_; rintro e w' ⟨rfl, rfl⟩))
    go_ret
    exact ⟨rfl, rfl⟩
  · have hd : decide (8 < n) = false := decide_eq_false h0
    go_enter Tryd.func29, Tryd.ntmps29
    go_wp2_with (first
      | (go_at_call 28; refine (bytes_nil _ _).mono ?_; rintro e w' ⟨rfl, rfl⟩)
      | (go_at_call 52; refine (value_nil _).mono ?_; rintro e w' ⟨rfl, rfl⟩))
    go_ret
    exact ⟨rfl, rfl⟩
theorem count_nil (n : Int) (w : World) (hn : n ≤ 9223372036854775807) : Calls Tryd.prog 30 #[.pointer none, .int .i64 n] w fun e w' => e = .returned (.int .i64 0) ∧ w' = w := by
  by_cases h0 : n < 0
  · have hd : decide (n < 0) = true := decide_eq_true h0
    go_enter Tryd.func30, Tryd.ntmps30
    go_wp2_with (first
      | (go_at_call 22; refine (at_nil _).mono ?_; rintro e w' ⟨rfl, rfl⟩)
      | (go_at_call 29; refine (number_nil _ _).mono ?_; rintro e w' ⟨rfl, rfl⟩)
      | (go_at_call 53; refine (refuse_nil _ _ _).mono ?_; rintro e w' ⟨rfl, rfl⟩))
    go_ret
    exact ⟨rfl, rfl⟩
  · have hd : decide (n < 0) = false := decide_eq_false h0
    obtain ⟨m, rfl⟩ : ∃ m : Nat, n = m := ⟨n.toNat, by omega⟩
    have hm := wrap_u64_nat m (by omega)
    have hd2 : decide ((m : Int) < 0) = false := decide_eq_false (by omega)
    go_enter Tryd.func30, Tryd.ntmps30
    go_wp2_with (first
      | (go_at_call 22; refine (at_nil _).mono ?_; rintro e w' ⟨rfl, rfl⟩)
      | (go_at_call 29; refine (number_nil _ _).mono ?_; rintro e w' ⟨rfl, rfl⟩)
      | (go_at_call 53; refine (refuse_nil _ _ _).mono ?_; rintro e w' ⟨rfl, rfl⟩))
    go_ret
    exact ⟨rfl, rfl⟩
theorem text_nil (n : Int) (w : World) (hn : n ≤ 9223372036854775807) : Calls Tryd.prog 31 #[.pointer none, .int .i64 n] w fun e w' => e = .returned (.string ⟨#[]⟩) ∧ w' = w := by
  go_enter Tryd.func31, Tryd.ntmps31
  go_wp2_with (first
    | (go_at_call 22; refine (at_nil _).mono ?_; rintro e w' ⟨rfl, rfl⟩)
    | (go_at_call 30; refine (count_nil _ _ hn).mono ?_; rintro e w' ⟨rfl, rfl⟩)
    | (go_at_call 28; refine (bytes_nil _ _).mono ?_; rintro e w' ⟨rfl, rfl⟩)
    | (go_at_call 21; refine (err_nil _).mono ?_; rintro e w' ⟨rfl, rfl⟩)
    | (go_at_call 53; refine (refuse_nil _ _ _).mono ?_; rintro e w' ⟨rfl, rfl⟩))
  go_ret
  exact ⟨rfl, rfl⟩
theorem hash_nil (w : World) : Calls Tryd.prog 32 #[.pointer none] w fun e w' => e = .returned (.string ⟨#[]⟩) ∧ w' = w := by
  go_enter Tryd.func32, Tryd.ntmps32
  go_wp2_with (go_at_call 28; refine (bytes_nil _ _).mono ?_; rintro e w' ⟨rfl, rfl⟩)
  go_ret
  exact ⟨rfl, rfl⟩
theorem bool_nil (w : World) : Calls Tryd.prog 34 #[.pointer none] w fun e w' => e = .returned (.bool false) ∧ w' = w := by
  go_enter Tryd.func34, Tryd.ntmps34
  go_wp2_with (first
    | (go_at_call 22; refine (at_nil _).mono ?_; rintro e w' ⟨rfl, rfl⟩)
    | (go_at_call 29; refine (number_nil _ _).mono ?_; rintro e w' ⟨rfl, rfl⟩))
  go_ret
  exact ⟨rfl, rfl⟩
theorem end_nil (w : World) : Calls Tryd.prog 35 #[.pointer none] w fun e w' => e = .returned (.int .i64 1) ∧ w' = w := by
  go_enter Tryd.func35, Tryd.ntmps35
  go_wp2_with (first
    | (go_at_call 23; refine (left_nil _).mono ?_; rintro e w' ⟨rfl, rfl⟩)
    | (go_at_call 21; refine (err_nil _).mono ?_; rintro e w' ⟨rfl, rfl⟩))
  go_ret
  exact ⟨rfl, rfl⟩
theorem wlen_nil (w : World) : Calls Tryd.prog 26 #[.pointer none] w fun e w' => e = .returned (.int .i64 0) ∧ w' = w := by
  go_enter Tryd.func26, Tryd.ntmps26
  go_wp2_with fail
  go_ret
  exact ⟨rfl, rfl⟩
theorem wall_nil (w : World) : Calls Tryd.prog 27 #[.pointer none] w fun e w' => e = .returned (.string ⟨#[]⟩) ∧ w' = w := by
  go_enter Tryd.func27, Tryd.ntmps27
  go_wp2_with fail
  go_ret
  exact ⟨rfl, rfl⟩
theorem wbytes_nil (s : ByteArray) (w : World) : Calls Tryd.prog 45 #[.pointer none, .string s] w fun e w' => e = .returned (.tuple #[]) ∧ w' = w := by
  go_enter Tryd.func45, Tryd.ntmps45
  go_wp2_with fail
  refine bodyPost_end (results_none rfl _ _ _) rfl ⟨rfl, rfl⟩
theorem wnumber_nil (n : Nat) (k : Int) (w : World) : Calls Tryd.prog 46 #[.pointer none, .int .u64 n, .int .i64 k] w fun e w' => e = .returned (.tuple #[]) ∧ Below w.heap.size w w' := by
  go_enter Tryd.func46, Tryd.ntmps46
  go_wp2_with (first
    | (go_at_call 10; refine (number_any n k w).mono ?_; rintro e w1 ⟨rfl, hw1⟩)
    | (go_at_call 45; refine (wbytes_nil _ _).mono ?_; rintro e w' ⟨rfl, hw'⟩; have hw2 := hw'.symm; subst hw2; clear hw'))
  refine bodyPost_end (results_none rfl _ _ _) rfl ⟨rfl, hw1⟩
theorem wcount_nil (n : Int) (w : World) (hn : n ≤ 9223372036854775807) : Calls Tryd.prog 47 #[.pointer none, .int .i64 n] w fun e w' => e = .returned (.tuple #[]) ∧ Below w.heap.size w w' := by
  have HN := wnumber_nil n.toNat 4 w
  by_cases h0 : n < 0
  · rw [show n.toNat = 0 from by omega] at HN
    go_enter Tryd.func47, Tryd.ntmps47
    go_wp2_with (go_at_call 46; refine HN.mono ?_; rintro e w1 ⟨rfl, hP⟩)
    refine bodyPost_end (results_none rfl _ _ _) rfl ⟨rfl, hP⟩
  · obtain ⟨m, rfl⟩ : ∃ m : Nat, n = m := ⟨n.toNat, by omega⟩
    rw [Int.toNat_natCast] at HN
    have hd : decide ((m : Int) < 0) = false := by simp
    have hm := wrap_u64_nat m (by omega)
    go_enter Tryd.func47, Tryd.ntmps47
    go_wp2_with (go_at_call 46; refine HN.mono ?_; rintro e w1 ⟨rfl, hP⟩)
    refine bodyPost_end (results_none rfl _ _ _) rfl ⟨rfl, hP⟩
theorem wtext_nil (s : List UInt8) (w : World) (hl : s.length ≤ 1099511627776) : Calls Tryd.prog 48 #[.pointer none, .string ⟨s.toArray⟩] w fun e w' => e = .returned (.tuple #[]) ∧ Below w.heap.size w w' := by
  go_enter Tryd.func48, Tryd.ntmps48
  go_wp2_with (first
    | (go_at_call 47; refine (wcount_nil s.length w (by omega)).mono ?_; rintro e w1 ⟨rfl, hw1⟩)
    | (go_at_call 45; refine (wbytes_nil _ _).mono ?_; rintro e w' ⟨rfl, hw'⟩; have hw2 := hw'.symm; subst hw2; clear hw'))
  refine bodyPost_end (results_none rfl _ _ _) rfl ⟨rfl, hw1⟩
set_option maxRecDepth 100000 in
set_option maxHeartbeats 400000 in
theorem whash_nil (s : List UInt8) (w : World) : Calls Tryd.prog 50 #[.pointer none, .string ⟨s.toArray⟩] w fun e w' => e = .returned (.tuple #[]) ∧ Below w.heap.size w w' := by
  have HM : Hid (Nat.min s.length 32 ≤ 32) := Nat.min_le_right _ _
  have HM2 : Hid ((s.take (Nat.min s.length 32)).length ≤ 32) := by rw [List.length_take]; exact Nat.le_trans (Nat.min_le_left _ _) (Nat.min_le_right _ _)
  go_enter Tryd.func50, Tryd.ntmps50
  go_wp2_with (first
    | (go_at_call 45; refine (wbytes_nil _ _).mono ?_; rintro e w' ⟨rfl, hw'⟩; have hw2 := hw'.symm; subst hw2; clear hw')
    | (with_reducible refine at_list ?_; first
      | (refine wpList_allocRow (op := ⟨some 4, _, _, _, _, _⟩) rfl _ rfl _ z81.1 ?_; intro w1 hw1 hs1 hb1; replace hs1 := hs1.symm)
      | (refine wpList_sliceAll (op := ⟨some 5, _, _, _, _, _⟩) rfl _ _ rfl w.heap.size 0 rfl 32 _ Tryd.underlying81 i5 ?_)
      | (refine wpList_copyStr (op := ⟨some 7, _, _, _, _, _⟩) rfl _ _ _ _ rfl w.heap.size 0 32 32 rfl s rfl _ Tryd.underlying57 i5 _ _ hb1 (Nat.min s.length 32) rfl (by rw [row8_size, Nat.zero_add]; exact HM.out) ?_; intro w2 hg2 hs2 hb2; rw [row8_splice _ _ _ _ (by rw [Nat.zero_add]; exact HM2.out)] at hb2)
      | (refine wpList_sliceAll (op := ⟨some 9, _, _, _, _, _⟩) rfl _ _ rfl w.heap.size 0 rfl 32 _ Tryd.underlying81 i5 ?_)
      | (refine wpList_bytesString (op := ⟨some 10, _, _, _, _, _⟩) rfl _ _ _ rfl w.heap.size 32 32 rfl _ Tryd.underlying57 Tryd.underlying5 Tryd.underlying9 _ _ _ hb2 (Nat.le_refl _) ?_)))
  refine bodyPost_end (results_none rfl _ _ _) rfl ⟨rfl, ?_⟩
  exact hw1.trans (below_of_grown hg2 (Nat.le_refl _) hw1.size)
theorem wbool_nil (y : Bool) (w : World) : Calls Tryd.prog 51 #[.pointer none, .bool y] w fun e w' => e = .returned (.tuple #[]) ∧ Below w.heap.size w w' := by
  have HN := wnumber_nil y.toNat 1 w
  cases y
  · go_enter Tryd.func51, Tryd.ntmps51
    go_wp2_with (go_at_call 46; refine HN.mono ?_; rintro e w1 ⟨rfl, hP⟩)
    refine bodyPost_end (results_none rfl _ _ _) rfl ⟨rfl, hP⟩
  · go_enter Tryd.func51, Tryd.ntmps51
    go_wp2_with (go_at_call 46; refine HN.mono ?_; rintro e w1 ⟨rfl, hP⟩)
    refine bodyPost_end (results_none rfl _ _ _) rfl ⟨rfl, hP⟩
end Go.Proofs.YtaccklbijihppaaDoor
