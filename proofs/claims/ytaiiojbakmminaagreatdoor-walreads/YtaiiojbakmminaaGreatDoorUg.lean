/- The plain reader's Count, Text, Bool and End. What the plain Unframe does. -/
import Derived.Test.YtaiiojbakmminaaGreatDoorRe
import Derived.Test.YtaiiojbakmminaaGreatDoorUfr
namespace Go.Proofs.YtaiiojbakmminaaGreatDoor
open Go Go.RowKit
set_option maxRecDepth 100000 in
set_option maxHeartbeats 400000 in
theorem rcount_out (s : List UInt8) (pos : Nat) (err m : Int) (us : List UInt8) (up : Nat) (ue : Int) (n : Nat) (w : World) (hn : n < 4294967296) (hm : m ≤ 9223372036854775807)
    (HN : ∀ w, Calls Tryz.prog 60 #[.agg (rc s pos err), .int .i64 4] w fun e w' => e = .returned (.tuple #[.agg (rc us up ue), .int .u64 (n : Nat)]) ∧ Below w.heap.size w w') (h0 : ue = 0) (h1 : m < 0 ∨ m < n) :
    Calls Tryz.prog 59 #[.agg (rc s pos err), .int .i64 m] w fun e w' => e = .returned (.tuple #[.agg (rc s pos 3), .int .i64 0]) ∧ Below w.heap.size w w' := by
  subst h0
  have hn64 := wrap_u64_nat n (by omega)
  by_cases h2 : m < 0
  · have hd : decide (m < 0) = true := decide_eq_true h2
    go_enter Tryz.func59, Tryz.ntmps59
    go_wp2_with (first
      | (go_at_call 60; refine (HN _).mono ?_; rintro e w4 ⟨rfl, hw4⟩; replace hb1 := hb1.belowSize hw4; replace hz2 := hz2.belowSize hw4)
      | (with_reducible refine at_list ?_; first
        | (refine wpList_boxRow (op := ⟨some 2, _, _, _, _, _⟩) rfl _ _ rfl _ rfl ?_; intro w1 hw1 hs1 hb1; replace hs1 := hs1.symm)
        | (refine wpList_allocRow (op := ⟨some 4, _, _, _, _, _⟩) rfl _ rfl _ z39.1 ?_; intro w2 hw2 hs2 hz2; replace hs2 := hs2.symm; replace hb1 := hb1.belowSize hw2)
        | (refine wpList_loadRow (op := ⟨some 9, _, _, _, _, _⟩) rfl _ _ rfl w.heap.size rfl _ _ hb1 _ Tryz.underlying83 rfl (by rw [rc_size]; exact z39.2) ?_)
        | (refine wpList_allocRow (op := ⟨some 6, _, _, _, _, _⟩) rfl _ rfl _ z39.1 ?_; intro w5 hw5 hs5 hk5; replace hs5 := hs5.symm; have hl5 : w2.heap.size ≤ w4.heap.size := hw4.size; replace hb1 := hb1.belowSize hw5; replace hz2 := hz2.belowSize hw5)
        | (refine wpList_storeRow (op := ⟨none, .store 83 (.tmp 6) (.tmp 11), _, _, _, _⟩) rfl _ _ _ rfl w4.heap.size (rc us up 0) rfl rfl _ _ hk5 (by rw [rc_size, rc_size]) (by rw [rc_size]; exact z39.2) (rc_one _ _ _) ?_; intro w6 hg6 hs6 hz6; have hk6 := hz6; clear hz6; replace hb1 := hb1.grown hg6 (by simp; omega); replace hz2 := hz2.grown hg6 (by simp; omega))
        | (refine wpList_loadCell (op := ⟨some 14, _, _, _, _, _⟩) rfl _ _ rfl w4.heap.size 2 rfl _ _ hk6 _ Tryz.underlying3 rfl (.int .i64 0) rfl ?_)
        | (refine wpList_storeCell (op := ⟨none, .store 3 (.tmp 26) _, _, _, _, _⟩) rfl _ _ _ rfl w.heap.size 2 rfl (.int .i64 3) rfl _ _ hb1 i3 rfl rfl (by simp [rc]) ?_; intro w7 hg7 hs7 hb7; rw [rc_err] at hb7; replace hz2 := hz2.grown hg7 (by simp; omega))
        | (refine wpList_loadRow (op := ⟨some 27, _, _, _, _, _⟩) rfl _ _ rfl w.heap.size rfl _ _ hb7 _ Tryz.underlying83 rfl (by rw [rc_size]; exact z39.2) ?_)
        | (refine wpList_storeRow (op := ⟨none, .store 83 (.tmp 4) (.tmp 27), _, _, _, _⟩) rfl _ _ _ rfl w1.heap.size (rc s pos 3) rfl rfl _ _ hz2 (by rw [rc_size, rc_size]) (by rw [rc_size]; exact z39.2) (rc_one _ _ _) ?_; intro w8 hg8 hs8 hz8)))
    have hB2 : Below w.heap.size w w2 := hw1.trans (hw2.mono hw1.size)
    have hB4 : Below w.heap.size w w4 := hB2.trans (hw4.mono hB2.size)
    have hB5 : Below w.heap.size w w5 := hB4.trans (hw5.mono hB4.size)
    have hB6 : Below w.heap.size w w6 := hB5.trans (below_of_grown hg6 hB4.size hB5.size)
    have hB7 : Below w.heap.size w w7 := hB6.trans (below_of_grown hg7 (Nat.le_refl _) hB6.size)
    refine bodyPost_ret (res_rc rfl _ _ w1.heap.size s pos 3 _ rfl rfl hz8) rfl ⟨rfl, ?_⟩
    exact hB7.trans (below_of_grown hg8 hw1.size hB7.size)
  · have hd : decide (m < 0) = false := decide_eq_false h2
    obtain ⟨k, rfl⟩ : ∃ k : Nat, m = k := ⟨m.toNat, by omega⟩
    have hk64 := wrap_u64_nat k (by omega)
    have hd1 : decide ((k : Int) < (n : Int)) = true := decide_eq_true (by omega)
    go_enter Tryz.func59, Tryz.ntmps59
    go_wp2_with (first
      | (go_at_call 60; refine (HN _).mono ?_; rintro e w4 ⟨rfl, hw4⟩; replace hb1 := hb1.belowSize hw4; replace hz2 := hz2.belowSize hw4)
      | (with_reducible refine at_list ?_; first
        | (refine wpList_boxRow (op := ⟨some 2, _, _, _, _, _⟩) rfl _ _ rfl _ rfl ?_; intro w1 hw1 hs1 hb1; replace hs1 := hs1.symm)
        | (refine wpList_allocRow (op := ⟨some 4, _, _, _, _, _⟩) rfl _ rfl _ z39.1 ?_; intro w2 hw2 hs2 hz2; replace hs2 := hs2.symm; replace hb1 := hb1.belowSize hw2)
        | (refine wpList_loadRow (op := ⟨some 9, _, _, _, _, _⟩) rfl _ _ rfl w.heap.size rfl _ _ hb1 _ Tryz.underlying83 rfl (by rw [rc_size]; exact z39.2) ?_)
        | (refine wpList_allocRow (op := ⟨some 6, _, _, _, _, _⟩) rfl _ rfl _ z39.1 ?_; intro w5 hw5 hs5 hk5; replace hs5 := hs5.symm; have hl5 : w2.heap.size ≤ w4.heap.size := hw4.size; replace hb1 := hb1.belowSize hw5; replace hz2 := hz2.belowSize hw5)
        | (refine wpList_storeRow (op := ⟨none, .store 83 (.tmp 6) (.tmp 11), _, _, _, _⟩) rfl _ _ _ rfl w4.heap.size (rc us up 0) rfl rfl _ _ hk5 (by rw [rc_size, rc_size]) (by rw [rc_size]; exact z39.2) (rc_one _ _ _) ?_; intro w6 hg6 hs6 hz6; have hk6 := hz6; clear hz6; replace hb1 := hb1.grown hg6 (by simp; omega); replace hz2 := hz2.grown hg6 (by simp; omega))
        | (refine wpList_loadCell (op := ⟨some 14, _, _, _, _, _⟩) rfl _ _ rfl w4.heap.size 2 rfl _ _ hk6 _ Tryz.underlying3 rfl (.int .i64 0) rfl ?_)
        | (refine wpList_storeCell (op := ⟨none, .store 3 (.tmp 26) _, _, _, _, _⟩) rfl _ _ _ rfl w.heap.size 2 rfl (.int .i64 3) rfl _ _ hb1 i3 rfl rfl (by simp [rc]) ?_; intro w7 hg7 hs7 hb7; rw [rc_err] at hb7; replace hz2 := hz2.grown hg7 (by simp; omega))
        | (refine wpList_loadRow (op := ⟨some 27, _, _, _, _, _⟩) rfl _ _ rfl w.heap.size rfl _ _ hb7 _ Tryz.underlying83 rfl (by rw [rc_size]; exact z39.2) ?_)
        | (refine wpList_storeRow (op := ⟨none, .store 83 (.tmp 4) (.tmp 27), _, _, _, _⟩) rfl _ _ _ rfl w1.heap.size (rc s pos 3) rfl rfl _ _ hz2 (by rw [rc_size, rc_size]) (by rw [rc_size]; exact z39.2) (rc_one _ _ _) ?_; intro w8 hg8 hs8 hz8)))
    have hB2 : Below w.heap.size w w2 := hw1.trans (hw2.mono hw1.size)
    have hB4 : Below w.heap.size w w4 := hB2.trans (hw4.mono hB2.size)
    have hB5 : Below w.heap.size w w5 := hB4.trans (hw5.mono hB4.size)
    have hB6 : Below w.heap.size w w6 := hB5.trans (below_of_grown hg6 hB4.size hB5.size)
    have hB7 : Below w.heap.size w w7 := hB6.trans (below_of_grown hg7 (Nat.le_refl _) hB6.size)
    refine bodyPost_ret (res_rc rfl _ _ w1.heap.size s pos 3 _ rfl rfl hz8) rfl ⟨rfl, ?_⟩
    exact hB7.trans (below_of_grown hg8 hw1.size hB7.size)
set_option maxRecDepth 100000 in
set_option maxHeartbeats 400000 in
theorem rcount_in (s : List UInt8) (pos : Nat) (err m : Int) (us : List UInt8) (up : Nat) (ue : Int) (n : Nat) (w : World) (hn : n < 4294967296) (hm : m ≤ 9223372036854775807)
    (HN : ∀ w, Calls Tryz.prog 60 #[.agg (rc s pos err), .int .i64 4] w fun e w' => e = .returned (.tuple #[.agg (rc us up ue), .int .u64 (n : Nat)]) ∧ Below w.heap.size w w') (h : ¬ (ue = 0 ∧ (m < 0 ∨ m < n))) :
    Calls Tryz.prog 59 #[.agg (rc s pos err), .int .i64 m] w fun e w' => e = .returned (.tuple #[.agg (rc us up ue), .int .i64 (n : Nat)]) ∧ Below w.heap.size w w' := by
  have hn64 := wrap_u64_nat n (by omega)
  by_cases h0 : ue = 0
  · subst h0
    have hd : decide (m < 0) = false := decide_eq_false (fun x => h ⟨rfl, .inl x⟩)
    have hm0 : 0 ≤ m := by have := of_decide_eq_false hd; omega
    obtain ⟨k, rfl⟩ : ∃ k : Nat, m = k := ⟨m.toNat, by omega⟩
    have hk64 := wrap_u64_nat k (by omega)
    have hd1 : decide ((k : Int) < (n : Int)) = false := decide_eq_false (fun x => h ⟨rfl, .inr x⟩)
    have hkn : ¬ k < n := fun x => h ⟨rfl, .inr (by omega)⟩
    clear h
    go_enter Tryz.func59, Tryz.ntmps59
    go_wp2_with (first
      | (go_at_call 60; refine (HN _).mono ?_; rintro e w4 ⟨rfl, hw4⟩; replace hb1 := hb1.belowSize hw4; replace hz2 := hz2.belowSize hw4)
      | (with_reducible refine at_list ?_; first
        | (refine wpList_boxRow (op := ⟨some 2, _, _, _, _, _⟩) rfl _ _ rfl _ rfl ?_; intro w1 hw1 hs1 hb1; replace hs1 := hs1.symm)
        | (refine wpList_allocRow (op := ⟨some 4, _, _, _, _, _⟩) rfl _ rfl _ z39.1 ?_; intro w2 hw2 hs2 hz2; replace hs2 := hs2.symm; replace hb1 := hb1.belowSize hw2)
        | (refine wpList_loadRow (op := ⟨some 9, _, _, _, _, _⟩) rfl _ _ rfl w.heap.size rfl _ _ hb1 _ Tryz.underlying83 rfl (by rw [rc_size]; exact z39.2) ?_)
        | (refine wpList_allocRow (op := ⟨some 6, _, _, _, _, _⟩) rfl _ rfl _ z39.1 ?_; intro w5 hw5 hs5 hk5; replace hs5 := hs5.symm; have hl5 : w2.heap.size ≤ w4.heap.size := hw4.size; replace hb1 := hb1.belowSize hw5; replace hz2 := hz2.belowSize hw5)
        | (refine wpList_storeRow (op := ⟨none, .store 83 (.tmp 6) (.tmp 11), _, _, _, _⟩) rfl _ _ _ rfl w4.heap.size (rc us up 0) rfl rfl _ _ hk5 (by rw [rc_size, rc_size]) (by rw [rc_size]; exact z39.2) (rc_one _ _ _) ?_; intro w6 hg6 hs6 hz6; have hk6 := hz6; clear hz6; replace hb1 := hb1.grown hg6 (by simp; omega); replace hz2 := hz2.grown hg6 (by simp; omega))
        | (refine wpList_loadCell (op := ⟨some 14, _, _, _, _, _⟩) rfl _ _ rfl w4.heap.size 2 rfl _ _ hk6 _ Tryz.underlying3 rfl (.int .i64 0) rfl ?_)
        | (refine wpList_loadRow (op := ⟨some 28, _, _, _, _, _⟩) rfl _ _ rfl w4.heap.size rfl _ _ hk6 _ Tryz.underlying83 rfl (by rw [rc_size]; exact z39.2) ?_)
        | (refine wpList_storeRow (op := ⟨none, .store 83 (.tmp 4) (.tmp 28), _, _, _, _⟩) rfl _ _ _ rfl w1.heap.size (rc us up 0) rfl rfl _ _ hz2 (by rw [rc_size, rc_size]) (by rw [rc_size]; exact z39.2) (rc_one _ _ _) ?_; intro w8 hg8 hs8 hz8)))
    have hB2 : Below w.heap.size w w2 := hw1.trans (hw2.mono hw1.size)
    have hB4 : Below w.heap.size w w4 := hB2.trans (hw4.mono hB2.size)
    have hB5 : Below w.heap.size w w5 := hB4.trans (hw5.mono hB4.size)
    have hB6 : Below w.heap.size w w6 := hB5.trans (below_of_grown hg6 hB4.size hB5.size)
    refine bodyPost_ret (res_rc rfl _ _ w1.heap.size us up 0 _ rfl rfl hz8) rfl ⟨rfl, ?_⟩
    exact hB6.trans (below_of_grown hg8 hw1.size hB6.size)
  · have hd0 : decide (ue = 0) = false := decide_eq_false h0
    have hb0 : (ue == 0) = false := by simpa using h0
    clear h h0
    go_enter Tryz.func59, Tryz.ntmps59
    go_wp2_with (first
      | (go_at_call 60; refine (HN _).mono ?_; rintro e w4 ⟨rfl, hw4⟩; replace hb1 := hb1.belowSize hw4; replace hz2 := hz2.belowSize hw4)
      | (with_reducible refine at_list ?_; first
        | (refine wpList_boxRow (op := ⟨some 2, _, _, _, _, _⟩) rfl _ _ rfl _ rfl ?_; intro w1 hw1 hs1 hb1; replace hs1 := hs1.symm)
        | (refine wpList_allocRow (op := ⟨some 4, _, _, _, _, _⟩) rfl _ rfl _ z39.1 ?_; intro w2 hw2 hs2 hz2; replace hs2 := hs2.symm; replace hb1 := hb1.belowSize hw2)
        | (refine wpList_loadRow (op := ⟨some 9, _, _, _, _, _⟩) rfl _ _ rfl w.heap.size rfl _ _ hb1 _ Tryz.underlying83 rfl (by rw [rc_size]; exact z39.2) ?_)
        | (refine wpList_allocRow (op := ⟨some 6, _, _, _, _, _⟩) rfl _ rfl _ z39.1 ?_; intro w5 hw5 hs5 hk5; replace hs5 := hs5.symm; have hl5 : w2.heap.size ≤ w4.heap.size := hw4.size; replace hb1 := hb1.belowSize hw5; replace hz2 := hz2.belowSize hw5)
        | (refine wpList_storeRow (op := ⟨none, .store 83 (.tmp 6) (.tmp 11), _, _, _, _⟩) rfl _ _ _ rfl w4.heap.size (rc us up ue) rfl rfl _ _ hk5 (by rw [rc_size, rc_size]) (by rw [rc_size]; exact z39.2) (rc_one _ _ _) ?_; intro w6 hg6 hs6 hz6; have hk6 := hz6; clear hz6; replace hb1 := hb1.grown hg6 (by simp; omega); replace hz2 := hz2.grown hg6 (by simp; omega))
        | (refine wpList_loadCell (op := ⟨some 14, _, _, _, _, _⟩) rfl _ _ rfl w4.heap.size 2 rfl _ _ hk6 _ Tryz.underlying3 rfl (.int .i64 ue) rfl ?_)
        | (refine wpList_loadRow (op := ⟨some 28, _, _, _, _, _⟩) rfl _ _ rfl w4.heap.size rfl _ _ hk6 _ Tryz.underlying83 rfl (by rw [rc_size]; exact z39.2) ?_)
        | (refine wpList_storeRow (op := ⟨none, .store 83 (.tmp 4) (.tmp 28), _, _, _, _⟩) rfl _ _ _ rfl w1.heap.size (rc us up ue) rfl rfl _ _ hz2 (by rw [rc_size, rc_size]) (by rw [rc_size]; exact z39.2) (rc_one _ _ _) ?_; intro w8 hg8 hs8 hz8)))
    have hB2 : Below w.heap.size w w2 := hw1.trans (hw2.mono hw1.size)
    have hB4 : Below w.heap.size w w4 := hB2.trans (hw4.mono hB2.size)
    have hB5 : Below w.heap.size w w5 := hB4.trans (hw5.mono hB4.size)
    have hB6 : Below w.heap.size w w6 := hB5.trans (below_of_grown hg6 hB4.size hB5.size)
    refine bodyPost_ret (res_rc rfl _ _ w1.heap.size us up ue _ rfl rfl hz8) rfl ⟨rfl, ?_⟩
    exact hB6.trans (below_of_grown hg8 hw1.size hB6.size)
theorem rcount_any (r : R) (m : Int) (w : World) (hk : r.ok) (hl : r.s.length ≤ 140737488355328) (hm : m ≤ 9223372036854775807) :
    Calls Tryz.prog 59 #[.agg (rc r.s r.pos r.err), .int .i64 m] w fun e w' => e = .returned (.tuple #[.agg (rc (r.count m).1.s (r.count m).1.pos (r.count m).1.err), .int .i64 ((r.count m).2 : Nat)]) ∧ Below w.heap.size w w' := by
  have HN := fun w => rnumber_any r 4 w hk hl
  have hn := r.number4_lt
  unfold R.count
  by_cases h : (r.number 4).1.err = 0 ∧ (m < 0 ∨ m < (r.number 4).2)
  · rw [if_pos h]
    exact rcount_out r.s r.pos r.err m _ _ _ _ w hn hm HN h.1 h.2
  · rw [if_neg h]
    exact rcount_in r.s r.pos r.err m _ _ _ _ w hn hm HN h
end Go.Proofs.YtaiiojbakmminaaGreatDoor
namespace Go.Proofs.YtaiiojbakmminaaGreatDoor
open Go Go.RowKit
set_option maxRecDepth 100000 in
set_option maxHeartbeats 400000 in
theorem runframe_out (s : List UInt8) (p : Int) (w : World) (h : p < 0 ∨ (s.length : Int) < p) :
    Calls Tryz.prog 26 #[.string ⟨s.toArray⟩, .int .i64 p] w fun e w' => e = .returned (.tuple #[.string ⟨#[]⟩, .int .i64 0, .int .i64 1]) ∧ w' = w := by
  by_cases h0 : p < 0
  · have hd : decide (p < 0) = true := decide_eq_true h0
    go_enter Tryz.func26, Tryz.ntmps26
    go_wp2_with fail
    go_ret3
    exact ⟨rfl, rfl⟩
  · have hd : decide (p < 0) = false := decide_eq_false h0
    have hd1 : decide ((s.length : Int) < p) = true := decide_eq_true (by omega)
    go_enter Tryz.func26, Tryz.ntmps26
    go_wp2_with fail
    go_ret3
    exact ⟨rfl, rfl⟩
attribute [local go_sem] extract_drop n32_wrap64 mkApp2
set_option maxRecDepth 100000 in
set_option maxHeartbeats 400000 in
theorem runframe_in (s : List UInt8) (p : Nat) (w : World) (hl : s.length ≤ 549755813888) (h : p ≤ s.length) :
    Calls Tryz.prog 26 #[.string ⟨s.toArray⟩, .int .i64 (p : Nat)] w fun e w' => e = .returned (.tuple #[.string ⟨(unfR p (rdB (s.drop p)).2 (rdC (s.drop p))).1.toArray⟩, .int .i64 (unfR p (rdB (s.drop p)).2 (rdC (s.drop p))).2.1, .int .i64 (unfR p (rdB (s.drop p)).2 (rdC (s.drop p))).2.2]) ∧ Below w.heap.size w w' := by
  have hsl : (s.drop p).length ≤ s.length := by rw [List.length_drop]; omega
  have hsl2 : (s.drop p).length = s.length - p := by rw [List.length_drop]
  have HA := fun w => rcount_any ⟨s.drop p, 0, 0⟩ 2147483647 w (Nat.zero_le _) (by show (s.drop p).length ≤ _; omega) (by omega)
  rw [show (⟨s.drop p, 0, 0⟩ : R).count 2147483647 = rdA (s.drop p) from rfl] at HA
  have HB := fun w => rnumber_any (rdA (s.drop p)).1 4 w (rdA_ok _) (by rw [rdA_s]; omega)
  rw [show (rdA (s.drop p)).1.number 4 = rdB (s.drop p) from rfl] at HB
  have HC := fun w => rbytes_any (rdB (s.drop p)).1 ((rdA (s.drop p)).2 : Nat) w (rdB_ok _) (by rw [rdB_s]; omega)
  rw [show (rdB (s.drop p)).1.bytes ((rdA (s.drop p)).2 : Nat) = rdC (s.drop p) from rfl] at HC
  have hA4 : (rdA (s.drop p)).2 < 4294967296 := R.count_lt _ _
  have hok := rdC_ok (s.drop p)
  have hcs := rdC_s (s.drop p)
  have hlen : (rdC (s.drop p)).1.err = 0 → (rdC (s.drop p)).2.length ≤ s.length ∧ (rdC (s.drop p)).2.length = (rdA (s.drop p)).2 := fun he => by
    obtain ⟨_, h2, _, h4⟩ := R.bytes_good (rdB_ok (s.drop p)) he
    rw [rdB_s] at h2
    have : (rdC (s.drop p)).2.length = (rdA (s.drop p)).2 := h4
    omega
  generalize rdC (s.drop p) = C at *
  generalize rdB (s.drop p) = B at *
  generalize rdA (s.drop p) = A at *
  obtain ⟨⟨s1, p1, e1⟩, n⟩ := A
  obtain ⟨⟨s2, p2, e2⟩, u⟩ := B
  obtain ⟨⟨s3, p3, e3⟩, v⟩ := C
  simp only at HA HB HC hlen hA4
  have hpos : p3 ≤ s.length := by have : p3 ≤ s3.length := hok; rw [show s3 = s.drop p from hcs] at this; omega
  clear hsl hsl2
  unfold unfR
  simp only
  by_cases he : e3 = 0
  · subst he
    obtain ⟨hlv, hvn⟩ := hlen rfl
    have HN := fun w => rnum_any n 4 w (by omega)
    rw [cut8_4] at HN
    have hnl := num_length 4 n
    have HK := fun w' (h : (num n 4 ++ v).length ≤ 1099511627776) => rcrc_any (num n 4 ++ v) w' h
    rw [show crc (num n 4 ++ v) = fcheck v from by unfold fcheck; rw [hvn]] at HK
    rw [if_neg (by simp)]
    clear hlen hok hcs hvn
    generalize num n 4 = t at *
    generalize fcheck v = c at *
    by_cases hc : u = c.toNat
    · rw [if_neg (by simpa using hc)]
      have hcu : (((u : Nat) : Int) != (c.toNat : Int)) = false := by rw [bne_eq_false_iff_eq, hc]
      have hcd : decide (((u : Nat) : Int) = (c.toNat : Int)) = true := decide_eq_true (by omega)
      have hcd2 : decide (u = c.toNat) = true := decide_eq_true hc
      clear hc
      go_enter Tryz.func26, Tryz.ntmps26
      go_wp2_with (first
        | (go_at_call 59; refine (HA _).mono ?_; rintro e w1 ⟨rfl, hw1⟩)
        | (go_at_call 60; refine (HB _).mono ?_; rintro e w4 ⟨rfl, hw4⟩; replace hk3 := hk3.belowSize hw4)
        | (go_at_call 61; refine (HC _).mono ?_; rintro e w6 ⟨rfl, hw6⟩; replace hk5 := hk5.belowSize hw6)
        | (go_at_call 55; refine (HN _).mono ?_; rintro e w8 ⟨rfl, hw8⟩; replace hk7 := hk7.belowSize hw8; have c1 := (hk7.cell 1).trans (rc_g1 _ _ _))
        | (go_at_call 56; refine (HK _ (by rw [List.length_append]; omega)).mono ?_; rintro e w' ⟨rfl, hw'⟩; have hw2' := hw'.symm; subst hw2'; clear hw')
        | (with_reducible refine at_list ?_; first
          | (refine wpList_allocRow (op := ⟨some 7, _, _, _, _, _⟩) rfl _ rfl _ z39.1 ?_; intro w2 hw2 hs2 hk2; replace hs2 := hs2.symm)
          | (refine wpList_storeRow (op := ⟨none, .store 83 (.tmp 7) (.tmp 25), _, _, _, _⟩) rfl _ _ _ rfl w1.heap.size (rc s1 p1 e1) rfl rfl _ _ hk2 (by rw [rc_size, rc_size]) (by rw [rc_size]; exact z39.2) (rc_one _ _ _) ?_; intro w3 hg3 hs3 hz3; have hk3 := hz3; clear hz3)
          | (refine wpList_loadRow (op := ⟨some 28, _, _, _, _, _⟩) rfl _ _ rfl w1.heap.size rfl _ _ hk3 _ Tryz.underlying83 rfl (by rw [rc_size]; exact z39.2) ?_)
          | (refine wpList_storeRow (op := ⟨none, .store 83 (.tmp 7) (.tmp 30), _, _, _, _⟩) rfl _ _ _ rfl w1.heap.size (rc s2 p2 e2) rfl rfl _ _ hk3 (by rw [rc_size, rc_size]) (by rw [rc_size]; exact z39.2) (rc_one _ _ _) ?_; intro w5 hg5 hs5 hz5; have hk5 := hz5; clear hz5)
          | (refine wpList_loadRow (op := ⟨some 33, _, _, _, _, _⟩) rfl _ _ rfl w1.heap.size rfl _ _ hk5 _ Tryz.underlying83 rfl (by rw [rc_size]; exact z39.2) ?_)
          | (refine wpList_storeRow (op := ⟨none, .store 83 (.tmp 7) (.tmp 36), _, _, _, _⟩) rfl _ _ _ rfl w1.heap.size (rc s3 p3 0) rfl rfl _ _ hk5 (by rw [rc_size, rc_size]) (by rw [rc_size]; exact z39.2) (rc_one _ _ _) ?_; intro w7 hg7 hs7 hz7; have hk7 := hz7; clear hz7)
          | (refine wpList_loadCell (op := ⟨some 39, _, _, _, _, _⟩) rfl _ _ rfl w1.heap.size 2 rfl _ _ hk7 _ Tryz.underlying3 rfl (.int .i64 0) rfl ?_)))
      go_quiet (fail)
      go_wp2_with fail
      go_ret3
      refine ⟨rfl, ?_⟩
      have hB2 : Below w.heap.size w w2 := hw1.trans (hw2.mono hw1.size)
      have hB3 : Below w.heap.size w w3 := hB2.trans (below_of_grown hg3 hw1.size hB2.size)
      have hB4 : Below w.heap.size w w4 := hB3.trans (hw4.mono hB3.size)
      have hB5 : Below w.heap.size w w5 := hB4.trans (below_of_grown hg5 hw1.size hB4.size)
      have hB6 : Below w.heap.size w w6 := hB5.trans (hw6.mono hB5.size)
      have hB7 : Below w.heap.size w w7 := hB6.trans (below_of_grown hg7 hw1.size hB6.size)
      exact below_draws (hB7.trans (hw8.mono hB7.size)) _
    · rw [if_pos (by simpa using hc)]
      have hcu : (((u : Nat) : Int) != (c.toNat : Int)) = true := by rw [bne_iff_ne]; omega
      have hcd : decide (((u : Nat) : Int) = (c.toNat : Int)) = false := decide_eq_false (by omega)
      have hcd2 : decide (u = c.toNat) = false := decide_eq_false hc
      clear hc
      go_enter Tryz.func26, Tryz.ntmps26
      go_wp2_with (first
        | (go_at_call 59; refine (HA _).mono ?_; rintro e w1 ⟨rfl, hw1⟩)
        | (go_at_call 60; refine (HB _).mono ?_; rintro e w4 ⟨rfl, hw4⟩; replace hk3 := hk3.belowSize hw4)
        | (go_at_call 61; refine (HC _).mono ?_; rintro e w6 ⟨rfl, hw6⟩; replace hk5 := hk5.belowSize hw6)
        | (go_at_call 55; refine (HN _).mono ?_; rintro e w8 ⟨rfl, hw8⟩; replace hk7 := hk7.belowSize hw8; have c1 := (hk7.cell 1).trans (rc_g1 _ _ _))
        | (go_at_call 56; refine (HK _ (by rw [List.length_append]; omega)).mono ?_; rintro e w' ⟨rfl, hw'⟩; have hw2' := hw'.symm; subst hw2'; clear hw')
        | (with_reducible refine at_list ?_; first
          | (refine wpList_allocRow (op := ⟨some 7, _, _, _, _, _⟩) rfl _ rfl _ z39.1 ?_; intro w2 hw2 hs2 hk2; replace hs2 := hs2.symm)
          | (refine wpList_storeRow (op := ⟨none, .store 83 (.tmp 7) (.tmp 25), _, _, _, _⟩) rfl _ _ _ rfl w1.heap.size (rc s1 p1 e1) rfl rfl _ _ hk2 (by rw [rc_size, rc_size]) (by rw [rc_size]; exact z39.2) (rc_one _ _ _) ?_; intro w3 hg3 hs3 hz3; have hk3 := hz3; clear hz3)
          | (refine wpList_loadRow (op := ⟨some 28, _, _, _, _, _⟩) rfl _ _ rfl w1.heap.size rfl _ _ hk3 _ Tryz.underlying83 rfl (by rw [rc_size]; exact z39.2) ?_)
          | (refine wpList_storeRow (op := ⟨none, .store 83 (.tmp 7) (.tmp 30), _, _, _, _⟩) rfl _ _ _ rfl w1.heap.size (rc s2 p2 e2) rfl rfl _ _ hk3 (by rw [rc_size, rc_size]) (by rw [rc_size]; exact z39.2) (rc_one _ _ _) ?_; intro w5 hg5 hs5 hz5; have hk5 := hz5; clear hz5)
          | (refine wpList_loadRow (op := ⟨some 33, _, _, _, _, _⟩) rfl _ _ rfl w1.heap.size rfl _ _ hk5 _ Tryz.underlying83 rfl (by rw [rc_size]; exact z39.2) ?_)
          | (refine wpList_storeRow (op := ⟨none, .store 83 (.tmp 7) (.tmp 36), _, _, _, _⟩) rfl _ _ _ rfl w1.heap.size (rc s3 p3 0) rfl rfl _ _ hk5 (by rw [rc_size, rc_size]) (by rw [rc_size]; exact z39.2) (rc_one _ _ _) ?_; intro w7 hg7 hs7 hz7; have hk7 := hz7; clear hz7)
          | (refine wpList_loadCell (op := ⟨some 39, _, _, _, _, _⟩) rfl _ _ rfl w1.heap.size 2 rfl _ _ hk7 _ Tryz.underlying3 rfl (.int .i64 0) rfl ?_)))
      go_ret3
      refine ⟨rfl, ?_⟩
      have hB2 : Below w.heap.size w w2 := hw1.trans (hw2.mono hw1.size)
      have hB3 : Below w.heap.size w w3 := hB2.trans (below_of_grown hg3 hw1.size hB2.size)
      have hB4 : Below w.heap.size w w4 := hB3.trans (hw4.mono hB3.size)
      have hB5 : Below w.heap.size w w5 := hB4.trans (below_of_grown hg5 hw1.size hB4.size)
      have hB6 : Below w.heap.size w w6 := hB5.trans (hw6.mono hB5.size)
      have hB7 : Below w.heap.size w w7 := hB6.trans (below_of_grown hg7 hw1.size hB6.size)
      exact hB7.trans (hw8.mono hB7.size)
  · have hne : (e3 != 0) = true := by simpa using he
    have hd : decide (e3 = 0) = false := decide_eq_false he
    rw [if_pos he]
    clear hlen hok hcs
    go_enter Tryz.func26, Tryz.ntmps26
    go_wp2_with (first
      | (go_at_call 59; refine (HA _).mono ?_; rintro e w1 ⟨rfl, hw1⟩)
      | (go_at_call 60; refine (HB _).mono ?_; rintro e w4 ⟨rfl, hw4⟩; replace hk3 := hk3.belowSize hw4)
      | (go_at_call 61; refine (HC _).mono ?_; rintro e w6 ⟨rfl, hw6⟩; replace hk5 := hk5.belowSize hw6)
      | (with_reducible refine at_list ?_; first
        | (refine wpList_allocRow (op := ⟨some 7, _, _, _, _, _⟩) rfl _ rfl _ z39.1 ?_; intro w2 hw2 hs2 hk2; replace hs2 := hs2.symm)
        | (refine wpList_storeRow (op := ⟨none, .store 83 (.tmp 7) (.tmp 25), _, _, _, _⟩) rfl _ _ _ rfl w1.heap.size (rc s1 p1 e1) rfl rfl _ _ hk2 (by rw [rc_size, rc_size]) (by rw [rc_size]; exact z39.2) (rc_one _ _ _) ?_; intro w3 hg3 hs3 hz3; have hk3 := hz3; clear hz3)
        | (refine wpList_loadRow (op := ⟨some 28, _, _, _, _, _⟩) rfl _ _ rfl w1.heap.size rfl _ _ hk3 _ Tryz.underlying83 rfl (by rw [rc_size]; exact z39.2) ?_)
        | (refine wpList_storeRow (op := ⟨none, .store 83 (.tmp 7) (.tmp 30), _, _, _, _⟩) rfl _ _ _ rfl w1.heap.size (rc s2 p2 e2) rfl rfl _ _ hk3 (by rw [rc_size, rc_size]) (by rw [rc_size]; exact z39.2) (rc_one _ _ _) ?_; intro w5 hg5 hs5 hz5; have hk5 := hz5; clear hz5)
        | (refine wpList_loadRow (op := ⟨some 33, _, _, _, _, _⟩) rfl _ _ rfl w1.heap.size rfl _ _ hk5 _ Tryz.underlying83 rfl (by rw [rc_size]; exact z39.2) ?_)
        | (refine wpList_storeRow (op := ⟨none, .store 83 (.tmp 7) (.tmp 36), _, _, _, _⟩) rfl _ _ _ rfl w1.heap.size (rc s3 p3 e3) rfl rfl _ _ hk5 (by rw [rc_size, rc_size]) (by rw [rc_size]; exact z39.2) (rc_one _ _ _) ?_; intro w7 hg7 hs7 hz7; have hk7 := hz7; clear hz7)
        | (refine wpList_loadCell (op := ⟨some 39, _, _, _, _, _⟩) rfl _ _ rfl w1.heap.size 2 rfl _ _ hk7 _ Tryz.underlying3 rfl (.int .i64 e3) rfl ?_)))
    have c2 := (hk7.cell 2).trans (rc_g2 _ _ _)
    go_quiet (fail)
    go_wp2_with fail
    go_ret3
    refine ⟨rfl, ?_⟩
    have hB2 : Below w.heap.size w w2 := hw1.trans (hw2.mono hw1.size)
    have hB3 : Below w.heap.size w w3 := hB2.trans (below_of_grown hg3 hw1.size hB2.size)
    have hB4 : Below w.heap.size w w4 := hB3.trans (hw4.mono hB3.size)
    have hB5 : Below w.heap.size w w5 := hB4.trans (below_of_grown hg5 hw1.size hB4.size)
    have hB6 : Below w.heap.size w w6 := hB5.trans (hw6.mono hB5.size)
    have hB7 : Below w.heap.size w w7 := hB6.trans (below_of_grown hg7 hw1.size hB6.size)
    exact below_draws hB7 _
theorem runframe_any (s : List UInt8) (p : Int) (w : World) (hl : s.length ≤ 549755813888) :
    Calls Tryz.prog 26 #[.string ⟨s.toArray⟩, .int .i64 p] w fun e w' => e = .returned (.tuple #[.string ⟨(unframe s p).1.toArray⟩, .int .i64 (unframe s p).2.1, .int .i64 (unframe s p).2.2]) ∧ Below w.heap.size w w' := by
  unfold unframe
  by_cases h : p < 0 ∨ (s.length : Int) < p
  · rw [if_pos h]
    exact (runframe_out s p w h).mono fun e w' ⟨h1, h2⟩ => by subst h2; exact ⟨h1, Below.refl _ _⟩
  · rw [if_neg h]
    obtain ⟨q, rfl⟩ : ∃ q : Nat, p = q := ⟨p.toNat, by omega⟩
    exact runframe_in s q w hl (by omega)
end Go.Proofs.YtaiiojbakmminaaGreatDoor
