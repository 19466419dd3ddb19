/- What named, there and Read of a disk do; New, Room, Up, Changes; and a nil disk. -/
import Derived.Test.YtgkkpmliociieaaRdf
namespace Go.Proofs.Ytgkkpmliociieaa
open Go Go.RowKit
/-- The error of a name. -/
def namE (m : DM) (n : B) : Nat := if m.dead = true then 7 else if okN n = true then 0 else 110
set_option maxRecDepth 100000 in
set_option maxHeartbeats 1000000 in
theorem named_any (p : Nat) (sl : Value) (m : DM) (n : B) (w : World) (h : Blk w p (dC sl m) 73) (hn : n.length ≤ 9223372036854775807) :
    Calls Try.prog 44 #[.pointer (some ⟨p, 0, none⟩), .string ⟨n.toArray⟩] w fun e w' => e = .returned (.int .i64 (namE m n : Nat)) ∧ w' = w := by
  have HD := dead_any p sl m w h
  have HN := name_any n w hn
  unfold namE
  generalize okN n = k at *
  generalize m.dead = d at *
  cases d <;> cases k <;>
  · go_enter Try.func44, Try.ntmps44
    go_wp2_with (first
      | (go_at_call 26; refine HD.mono ?_; rintro e w' ⟨rfl, hw'⟩; subst hw')
      | (go_at_call 24; refine HN.mono ?_; rintro e w' ⟨rfl, hw'⟩; subst hw'))
    go_ret
    exact ⟨rfl, rfl⟩
set_option maxRecDepth 100000 in
theorem named_nil (s : Value) (w : World) : Calls Try.prog 44 #[.pointer none, s] w fun e w' => e = .returned (.int .i64 7) ∧ w' = w := by
  have HD := dead_nil w
  go_enter Try.func44, Try.ntmps44
  go_wp2_with (go_at_call 26; refine HD.mono ?_; rintro e w' ⟨rfl, hw'⟩; subst hw')
  go_ret
  exact ⟨rfl, rfl⟩
/-- What is there of a name, and the error. -/
def theC (m : DM) (n : B) : Option B := if namE m n = 0 then atL n m.l else none
def theE (m : DM) (n : B) : Nat := if namE m n = 0 then (if (atL n m.l).isSome = true then 0 else 2) else namE m n
set_option maxRecDepth 100000 in
set_option maxHeartbeats 1000000 in
theorem there_any (p : Nat) (b : Option Nat) (m : DM) (n : B) (w : World) (h : DK w p b m) (hr : Ris m.l) (hl : m.l.length ≤ 1000000) (hn : n.length ≤ 9223372036854775807) :
    Calls Try.prog 39 #[.pointer (some ⟨p, 0, none⟩), .string ⟨n.toArray⟩] w fun e w' => e = .returned (.tuple #[.agg (cC (theC m n)), .int .i64 (theE m n : Nat)]) ∧ Below w.heap.size w w' := by
  have HA := fun w1 (hB : Below w.heap.size w w1) => at_any p b m n w1 (h.below hB) hr hl
  have HN : ∀ w1, Below w.heap.size w w1 → Calls Try.prog 44 #[.pointer (some ⟨p, 0, none⟩), .string ⟨n.toArray⟩] w1 fun e w' => e = .returned (.int .i64 (namE m n : Nat)) ∧ w' = w1 := fun w1 hB => by
    obtain ⟨sl, hD, _, _⟩ := h.out
    exact named_any p sl m n w1 (hD.belowSize hB) hn
  unfold theC theE
  generalize namE m n = k at *
  by_cases hk : k = 0
  · subst hk
    rw [if_pos rfl, if_pos rfl]
    generalize atL n m.l = c at *
    cases c with
    | none =>
      rw [show (if (none : Option B).isSome = true then 0 else 2) = 2 from rfl]
      go_enter Try.func39, Try.ntmps39
      go_wp2_with (first
        | (go_at_call 44; refine (HN _ hw1).mono ?_; rintro e w2 ⟨rfl, hw2⟩; subst hw2)
        | (go_at_call 55; refine (HA _ hw1).mono ?_; rintro e w3 ⟨rfl, hw3⟩; replace h4 := h4.belowSize hw3; have hB3 := hw1.trans (hw3.mono hw1.size); have h47 := h4.lt)
        | (with_reducible refine at_list ?_; first
          | (refine wpList_allocRow (op := ⟨some 4, _, _, _, _, _⟩) rfl _ rfl _ zCon.1 ?_; intro w1 hw1 hs1 h4; clear hs1)
          | (refine wpList_allocRow (op := ⟨some 7, _, _, _, _, _⟩) rfl _ rfl _ zCon.1 ?_; intro w4 hw4 hs4 h7; clear hs4; replace h4 := h4.belowSize hw4; have hB4 := hB3.trans (hw4.mono hB3.size))
          | (refine wpList_storeRow (op := ⟨none, .store 75 (.tmp 7) (.tmp 17), _, _, _, _⟩) rfl _ _ _ rfl w3.heap.size (cC none) rfl rfl _ _ h7 rfl (iCon _) (cC_one _) ?_; intro w5 hg5 hs5 h7b; clear hs5; replace h4 := h4.grown hg5 (by simp; omega); have hB5 := hB4.trans (below_of_grown hg5 (by omega) hB4.size))
          | (refine wpList_loadCell (op := ⟨some 19, _, _, _, _, _⟩) rfl _ _ rfl w3.heap.size 0 rfl _ _ h7b _ Try.underlying4 rfl _ (cC_g0 _) ?_)
          | (refine wpList_run (op := ⟨some 21, _, _, _, _, _⟩) rfl _ _ (run_built0 _ rfl _ built0) ?_)
          | (refine wpList_storeRow (op := ⟨none, .store 75 (.tmp 4) (.tmp 21), _, _, _, _⟩) rfl _ _ _ rfl w.heap.size (cC none) rfl rfl _ _ h4 rfl (iCon _) (cC_one _) ?_; intro w6 hg6 hs6 h4b; clear hs6)))
      refine bodyPost_ret (v := .tuple #[.agg (cC none), .int .i64 2]) ?_ rfl ⟨rfl, hB5.trans (below_of_grown hg6 (Nat.le_refl _) hB5.size)⟩
      exact res_cv rfl _ _ w.heap.size _ _ _ _ rfl rfl h4b Try.underlying75 rfl (iCon _)
    | some s =>
      rw [show (if (some s : Option B).isSome = true then 0 else 2) = 0 from rfl]
      go_enter Try.func39, Try.ntmps39
      go_wp2_with (first
        | (go_at_call 44; refine (HN _ hw1).mono ?_; rintro e w2 ⟨rfl, hw2⟩; subst hw2)
        | (go_at_call 55; refine (HA _ hw1).mono ?_; rintro e w3 ⟨rfl, hw3⟩; replace h4 := h4.belowSize hw3; have hB3 := hw1.trans (hw3.mono hw1.size); have h47 := h4.lt)
        | (with_reducible refine at_list ?_; first
          | (refine wpList_allocRow (op := ⟨some 4, _, _, _, _, _⟩) rfl _ rfl _ zCon.1 ?_; intro w1 hw1 hs1 h4; clear hs1)
          | (refine wpList_allocRow (op := ⟨some 7, _, _, _, _, _⟩) rfl _ rfl _ zCon.1 ?_; intro w4 hw4 hs4 h7; clear hs4; replace h4 := h4.belowSize hw4; have hB4 := hB3.trans (hw4.mono hB3.size))
          | (refine wpList_storeRow (op := ⟨none, .store 75 (.tmp 7) (.tmp 17), _, _, _, _⟩) rfl _ _ _ rfl w3.heap.size (cC (some s)) rfl rfl _ _ h7 rfl (iCon _) (cC_one _) ?_; intro w5 hg5 hs5 h7b; clear hs5; replace h4 := h4.grown hg5 (by simp; omega); have hB5 := hB4.trans (below_of_grown hg5 (by omega) hB4.size))
          | (refine wpList_loadCell (op := ⟨some 19, _, _, _, _, _⟩) rfl _ _ rfl w3.heap.size 0 rfl _ _ h7b _ Try.underlying4 rfl _ (cC_g0 _) ?_)
          | (refine wpList_loadRow (op := ⟨some 22, _, _, _, _, _⟩) rfl _ _ rfl w3.heap.size rfl _ _ h7b _ Try.underlying75 rfl (iCon _) ?_)
          | (refine wpList_storeRow (op := ⟨none, .store 75 (.tmp 4) (.tmp 22), _, _, _, _⟩) rfl _ _ _ rfl w.heap.size (cC (some s)) rfl rfl _ _ h4 rfl (iCon _) (cC_one _) ?_; intro w6 hg6 hs6 h4b; clear hs6)))
      refine bodyPost_ret (v := .tuple #[.agg (cC (some s)), .int .i64 0]) ?_ rfl ⟨rfl, hB5.trans (below_of_grown hg6 (Nat.le_refl _) hB5.size)⟩
      exact res_cv rfl _ _ w.heap.size _ _ _ _ rfl rfl h4b Try.underlying75 rfl (iCon _)
  · rw [if_neg hk, if_neg hk]
    have hd : decide ((k : Int) = 0) = false := decide_eq_false (by omega)
    have hkz : ¬ (k : Int) = 0 := by omega
    go_enter Try.func39, Try.ntmps39
    go_wp2_with (first
      | (go_at_call 44; refine (HN _ hw1).mono ?_; rintro e w2 ⟨rfl, hw2⟩; subst hw2)
      | (with_reducible refine at_list ?_; first
        | (refine wpList_allocRow (op := ⟨some 4, _, _, _, _, _⟩) rfl _ rfl _ zCon.1 ?_; intro w1 hw1 hs1 h4; clear hs1)
        | (refine wpList_run (op := ⟨some 13, _, _, _, _, _⟩) rfl _ _ (run_built0 _ rfl _ built0) ?_)
        | (refine wpList_storeRow (op := ⟨none, .store 75 (.tmp 4) (.tmp 13), _, _, _, _⟩) rfl _ _ _ rfl w.heap.size (cC none) rfl rfl _ _ h4 rfl (iCon _) (cC_one _) ?_; intro w6 hg6 hs6 h4b; clear hs6)))
    refine bodyPost_ret (v := .tuple #[.agg (cC none), .int .i64 (k : Nat)]) ?_ rfl ⟨rfl, hw1.trans (below_of_grown hg6 (Nat.le_refl _) hw1.size)⟩
    exact res_cv rfl _ _ w.heap.size _ _ _ _ rfl rfl h4b Try.underlying75 rfl (iCon _)
set_option maxRecDepth 100000 in
set_option maxHeartbeats 1000000 in
theorem there_nil (s : Value) (w : World) :
    Calls Try.prog 39 #[.pointer none, s] w fun e w' => e = .returned (.tuple #[.agg (cC none), .int .i64 7]) ∧ Below w.heap.size w w' := by
  have HN := fun w1 => named_nil s w1
  go_enter Try.func39, Try.ntmps39
  go_wp2_with (first
    | (go_at_call 44; refine (HN _).mono ?_; rintro e w2 ⟨rfl, hw2⟩; subst hw2)
    | (with_reducible refine at_list ?_; first
      | (refine wpList_allocRow (op := ⟨some 4, _, _, _, _, _⟩) rfl _ rfl _ zCon.1 ?_; intro w1 hw1 hs1 h4; clear hs1)
      | (refine wpList_run (op := ⟨some 13, _, _, _, _, _⟩) rfl _ _ (run_built0 _ rfl _ built0) ?_)
      | (refine wpList_storeRow (op := ⟨none, .store 75 (.tmp 4) (.tmp 13), _, _, _, _⟩) rfl _ _ _ rfl w.heap.size (cC none) rfl rfl _ _ h4 rfl (iCon _) (cC_one _) ?_; intro w6 hg6 hs6 h4b; clear hs6)))
  refine bodyPost_ret (v := .tuple #[.agg (cC none), .int .i64 7]) ?_ rfl ⟨rfl, hw1.trans (below_of_grown hg6 (Nat.le_refl _) hw1.size)⟩
  exact res_cv rfl _ _ w.heap.size _ _ _ _ rfl rfl h4b Try.underlying75 rfl (iCon _)
set_option maxRecDepth 100000 in
set_option maxHeartbeats 1000000 in
theorem readD (pv s : Value) (c : Option B) (k : Nat) (w : World)
    (HT : Calls Try.prog 39 #[pv, s] w fun e w' => e = .returned (.tuple #[.agg (cC c), .int .i64 (k : Nat)]) ∧ Below w.heap.size w w') :
    Calls Try.prog 16 #[pv, s] w fun e w' => e = .returned (.tuple #[.string ⟨(byt c).toArray⟩, .int .i64 (k : Nat)]) ∧ Below w.heap.size w w' := by
  go_enter Try.func16, Try.ntmps16
  go_wp2_with (first
    | (go_at_call 39; refine HT.mono ?_; rintro e w1 ⟨rfl, hw1⟩)
    | (with_reducible refine at_list ?_; first
      | (refine wpList_allocRow (op := ⟨some 6, _, _, _, _, _⟩) rfl _ rfl _ zCon.1 ?_; intro w2 hw2 hs2 h6; clear hs2; have hB2 := hw1.trans (hw2.mono hw1.size); have hsz := hw1.size)
      | (refine wpList_storeRow (op := ⟨none, .store 75 (.tmp 6) (.tmp 12), _, _, _, _⟩) rfl _ _ _ rfl w1.heap.size (cC c) rfl rfl _ _ h6 rfl (iCon _) (cC_one _) ?_; intro w3 hg3 hs3 h6b; clear hs3; have hB3 := hB2.trans (below_of_grown hg3 (by omega) hB2.size))
      | (refine wpList_loadCell (op := ⟨some 15, _, _, _, _, _⟩) rfl _ _ rfl w1.heap.size 1 rfl _ _ h6b _ Try.underlying9 rfl _ (cC_g1 _) ?_)))
  go_ret2
  exact ⟨rfl, hB3⟩
theorem read_any (p : Nat) (b : Option Nat) (m : DM) (n : B) (w : World) (h : DK w p b m) (hr : Ris m.l) (hl : m.l.length ≤ 1000000) (hn : n.length ≤ 9223372036854775807) :
    Calls Try.prog 16 #[.pointer (some ⟨p, 0, none⟩), .string ⟨n.toArray⟩] w fun e w' => e = .returned (.tuple #[.string ⟨(byt (theC m n)).toArray⟩, .int .i64 (theE m n : Nat)]) ∧ Below w.heap.size w w' :=
  readD _ _ _ _ w (there_any p b m n w h hr hl hn)
theorem read_nil (s : Value) (w : World) : Calls Try.prog 16 #[.pointer none, s] w fun e w' => e = .returned (.tuple #[.string ⟨(byt none).toArray⟩, .int .i64 ((7 : Nat) : Int)]) ∧ Below w.heap.size w w' :=
  readD _ _ _ _ w (there_nil s w)
theorem builtD : Try.prog.built 73 [] = some (dC (.slice none 0 0) ⟨[], false, false, 0, 0⟩) := by kernel_rfl
set_option maxRecDepth 100000 in
theorem new_any (w : World) : Calls Try.prog 21 #[] w fun e w' => e = .returned (.pointer (some ⟨w.heap.size, 0, none⟩)) ∧ Below w.heap.size w w' ∧ DK w' w.heap.size none ⟨[], false, false, 0, 0⟩ := by
  go_enter Try.func21, Try.ntmps21
  go_wp2_with (with_reducible refine at_list ?_; first
    | (refine wpList_run (op := ⟨some 1, _, _, _, _, _⟩) rfl _ _ (run_built0 _ rfl _ builtD) ?_)
    | (refine wpList_boxRow (op := ⟨some 2, _, _, _, _, _⟩) rfl _ _ rfl _ rfl ?_; intro w1 hw1 hs1 hb1; clear hs1))
  go_ret
  exact ⟨rfl, hw1, ⟨_, hb1, GL.nil _ _ _ _, rfl⟩⟩
theorem iBool : (Try.prog.info? 4).map (·.size) = some 1 := by kernel_rfl
theorem iInt : (Try.prog.info? 3).map (·.size) = some 1 := by kernel_rfl
theorem iSlF : (Try.prog.info? 71).map (·.size) = some 1 := by kernel_rfl
set_option maxRecDepth 100000 in
theorem up_any (p : Nat) (b : Option Nat) (m : DM) (w : World) (h : DK w p b m) : Calls Try.prog 15 #[.pointer (some ⟨p, 0, none⟩)] w fun e w' => e = .returned (.bool m.dead) ∧ Chg w w' p b b ∧ DK w' p b { m with dead := false } := by
  obtain ⟨sl, hD, hF, hb⟩ := h.out
  go_enter Try.func15, Try.ntmps15
  go_wp2_with (with_reducible refine at_list ?_; first
    | (refine wpList_loadCell (op := ⟨some 9, _, _, _, _, _⟩) rfl _ _ rfl p 1 rfl _ _ hD _ Try.underlying4 rfl _ (dC_g1 _ _) ?_)
    | (refine wpList_storeCell (op := ⟨none, .store 4 (.tmp 12) (.const (.bool false)), _, _, _, _⟩) rfl _ _ _ rfl p 1 rfl (.bool false) rfl _ _ hD iBool rfl rfl (by rw [dC_size]; decide) ?_; intro w1 hg1 hs1 hD1; rw [dC_s1] at hD1))
  go_ret
  exact ⟨rfl, Chg.own hg1, ⟨sl, hD1, hF.grown hg1 (hF.ne hD (by decide)), hb⟩⟩
set_option maxRecDepth 100000 in
theorem up_nil (w : World) : Calls Try.prog 15 #[.pointer none] w fun e w' => e = .returned (.bool false) ∧ w' = w := by
  go_enter Try.func15, Try.ntmps15
  go_wp2_with fail
  go_ret
  exact ⟨rfl, rfl⟩
set_option maxRecDepth 100000 in
theorem changes_any (p : Nat) (sl : Value) (m : DM) (w : World) (hD : Blk w p (dC sl m) 73) : Calls Try.prog 29 #[.pointer (some ⟨p, 0, none⟩)] w fun e w' => e = .returned (.int .i64 (m.ch : Nat)) ∧ w' = w := by
  go_enter Try.func29, Try.ntmps29
  go_wp2_with (with_reducible refine at_list ?_; first
    | (refine wpList_loadCell (op := ⟨some 8, _, _, _, _, _⟩) rfl _ _ rfl p 5 rfl _ _ hD _ Try.underlying3 rfl _ (dC_g5 _ _) ?_))
  go_ret
  exact ⟨rfl, rfl⟩
set_option maxRecDepth 100000 in
theorem changes_nil (w : World) : Calls Try.prog 29 #[.pointer none] w fun e w' => e = .returned (.int .i64 0) ∧ w' = w := by
  go_enter Try.func29, Try.ntmps29
  go_wp2_with fail
  go_ret
  exact ⟨rfl, rfl⟩
theorem dC_s23 (sl : Value) (m : DM) (b : Bool) (r : Int) : ((dC sl m).setIfInBounds 2 (.bool b)).setIfInBounds 3 (.int .i64 r) = dC sl { m with lim := b, room := r } := rfl
set_option maxRecDepth 100000 in
theorem room_any (p : Nat) (b : Option Nat) (m : DM) (r : Int) (w : World) (h : DK w p b m) : Calls Try.prog 19 #[.pointer (some ⟨p, 0, none⟩), .int .i64 r] w fun e w' => e = .returned (.tuple #[]) ∧ Chg w w' p b b ∧ DK w' p b { m with lim := decide (0 ≤ r), room := r } := by
  obtain ⟨sl, hD, hF, hb⟩ := h.out
  go_enter Try.func19, Try.ntmps19
  go_wp2_with (with_reducible refine at_list ?_; first
    | (refine wpList_storeCell (op := ⟨none, .store 4 (.tmp 12) (.tmp 9), _, _, _, _⟩) rfl _ _ _ rfl p 2 rfl (.bool (decide (0 ≤ r))) rfl _ _ hD iBool rfl rfl (by rw [dC_size]; decide) ?_; intro w1 hg1 hs1 hD1; clear hs1)
    | (refine wpList_storeCell (op := ⟨none, .store 3 (.tmp 14) (.tmp 10), _, _, _, _⟩) rfl _ _ _ rfl p 3 rfl (.int .i64 r) rfl _ _ hD1 iInt rfl rfl (by rw [Array.size_setIfInBounds, dC_size]; decide) ?_; intro w2 hg2 hs2 hD2; clear hs2; rw [dC_s23] at hD2))
  refine bodyPost_end (results_none rfl _ _ _) rfl ⟨rfl, (Chg.own hg1).trans (Chg.own hg2), ⟨sl, hD2, (hF.grown hg1 (hF.ne hD (by decide))).grown hg2 (hF.ne hD (by decide)), hb⟩⟩
set_option maxRecDepth 100000 in
theorem room_nil (r : Value) (w : World) : Calls Try.prog 19 #[.pointer none, r] w fun e w' => e = .returned (.tuple #[]) ∧ w' = w := by
  go_enter Try.func19, Try.ntmps19
  go_wp2_with fail
  refine bodyPost_end (results_none rfl _ _ _) rfl ⟨rfl, rfl⟩
end Go.Proofs.Ytgkkpmliociieaa
