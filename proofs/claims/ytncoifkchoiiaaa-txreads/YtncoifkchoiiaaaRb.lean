/- What a reader's Bytes does. -/
import Derived.Test.YtncoifkchoiiaaaRa
namespace Go.Proofs.Ytncoifkchoiiaaa
open Go.RowKit
theorem extract_mid (l : List UInt8) (n m : Nat) : (ByteArray.mk l.toArray).extract n (n + m) = ⟨((l.drop n).take m).toArray⟩ := by
  have : ((ByteArray.mk l.toArray).extract n (n + m)).data = ((l.drop n).take m).toArray := by
    apply Array.ext'
    simp [ByteArray.extract, ByteArray.copySlice]
  rw [show (ByteArray.mk l.toArray).extract n (n + m) = ⟨((ByteArray.mk l.toArray).extract n (n + m)).data⟩ from rfl, this]
set_option maxRecDepth 100000 in
set_option maxHeartbeats 400000 in
/-- There is an error already. -/
theorem bytes_err (b : Nat) (r : R) (n : Int) (w : World) (h : RD w b r) (hk : r.pos ≤ r.s.length) (hl : r.s.length ≤ 140737488355328) (he : r.err ≠ 0) :
    Calls Try.prog 30 #[.pointer (some ⟨b, 0, none⟩), .int .i64 n] w fun e w' => e = .returned (.string ⟨#[]⟩) ∧ To w w' b r := by
  have HF : ∀ x w, RD w b r → Calls Try.prog 23 #[.pointer (some ⟨b, 0, none⟩), .int .i64 x] w fun e w' => e = .returned (.tuple #[]) ∧ To w w' b r := fun x w h => by
    have := fail_any b r x w h
    rw [show r.fail x = r from if_neg he] at this
    exact this
  have hne : (r.err != 0) = true := by simpa using he
  have hd0 : decide (r.err = 0) = false := decide_eq_false he
  by_cases h0 : n < 0
  · have hlt : decide ((r.s.length : Int) - (r.pos : Nat) < n) = false := decide_eq_false (by omega)
    go_enter Try.func30, Try.ntmps30
    go_wp2_with (first
      | (go_at_call 23; refine (HF _ _ h).mono ?_; rintro e w1 ⟨rfl, hT⟩)
      | (go_at_call 26; refine (left_any b r _ hT.rd hk hl).mono ?_; rintro e w2 ⟨rfl, hD⟩)
      | (go_at_call 25; refine (err_any b r _ (hT.draws hD).rd).mono ?_; rintro e w' ⟨rfl, hw'⟩; have hw2 := hw'.symm; subst hw2; clear hw'))
    go_ret
    exact ⟨rfl, hT.draws hD⟩
  · have h1 : decide (n < 0) = false := decide_eq_false h0
    by_cases hlt : (r.s.length : Int) - (r.pos : Nat) < n
    · have hlt : decide ((r.s.length : Int) - (r.pos : Nat) < n) = true := decide_eq_true hlt
      go_enter Try.func30, Try.ntmps30
      go_wp2_with (first
        | (go_at_call 26; refine (left_any b r _ h hk hl).mono ?_; rintro e w2 ⟨rfl, hD⟩)
        | (go_at_call 23; refine (HF _ _ (h.drew hD)).mono ?_; rintro e w1 ⟨rfl, hT⟩)
        | (go_at_call 25; refine (err_any b r _ hT.rd).mono ?_; rintro e w' ⟨rfl, hw'⟩; have hw2 := hw'.symm; subst hw2; clear hw'))
      go_ret
      exact ⟨rfl, (To.of_draws h hD).trans hT⟩
    · have hlt : decide ((r.s.length : Int) - (r.pos : Nat) < n) = false := decide_eq_false hlt
      go_enter Try.func30, Try.ntmps30
      go_wp2_with (first
        | (go_at_call 26; refine (left_any b r _ h hk hl).mono ?_; rintro e w2 ⟨rfl, hD⟩)
        | (go_at_call 25; refine (err_any b r _ (h.drew hD)).mono ?_; rintro e w' ⟨rfl, hw'⟩; have hw2 := hw'.symm; subst hw2; clear hw'))
      go_ret
      exact ⟨rfl, To.of_draws h hD⟩
attribute [local go_sem] extract_mid
set_option maxRecDepth 100000 in
set_option maxHeartbeats 400000 in
theorem bytes_neg (b : Nat) (s : List UInt8) (pos : Nat) (n : Int) (w : World) (h : RD w b ⟨s, pos, 0⟩) (hk : pos ≤ s.length) (hl : s.length ≤ 140737488355328) (h0 : n < 0) :
    Calls Try.prog 30 #[.pointer (some ⟨b, 0, none⟩), .int .i64 n] w fun e w' => e = .returned (.string ⟨#[]⟩) ∧ To w w' b ⟨s, pos, 1⟩ := by
  have hlt : decide ((s.length : Int) - (pos : Nat) < n) = false := decide_eq_false (by omega)
  go_enter Try.func30, Try.ntmps30
  go_wp2_with (first
    | (go_at_call 23; refine (fail_any b ⟨s, pos, 0⟩ 1 _ h).mono ?_; rintro e w1 ⟨rfl, hT⟩; replace hT : To w w1 b ⟨s, pos, 1⟩ := hT)
    | (go_at_call 26; refine (left_any b ⟨s, pos, 1⟩ _ hT.rd hk hl).mono ?_; rintro e w2 ⟨rfl, hD⟩)
    | (go_at_call 25; refine (err_any b ⟨s, pos, 1⟩ _ (hT.draws hD).rd).mono ?_; rintro e w' ⟨rfl, hw'⟩; have hw2 := hw'.symm; subst hw2; clear hw'))
  go_ret
  exact ⟨rfl, hT.draws hD⟩
set_option maxRecDepth 100000 in
set_option maxHeartbeats 400000 in
theorem bytes_cut (b : Nat) (s : List UInt8) (pos : Nat) (n : Int) (w : World) (h : RD w b ⟨s, pos, 0⟩) (hk : pos ≤ s.length) (hl : s.length ≤ 140737488355328) (h0 : ¬ n < 0) (h1 : (s.length : Int) - (pos : Nat) < n) :
    Calls Try.prog 30 #[.pointer (some ⟨b, 0, none⟩), .int .i64 n] w fun e w' => e = .returned (.string ⟨#[]⟩) ∧ To w w' b ⟨s, pos, 4⟩ := by
  have hlt : decide ((s.length : Int) - (pos : Nat) < n) = true := decide_eq_true h1
  have hd0 : decide (n < 0) = false := decide_eq_false h0
  go_enter Try.func30, Try.ntmps30
  go_wp2_with (first
    | (go_at_call 26; refine (left_any b ⟨s, pos, 0⟩ _ h hk hl).mono ?_; rintro e w2 ⟨rfl, hD⟩)
    | (go_at_call 23; refine (fail_any b ⟨s, pos, 0⟩ 4 _ (h.drew hD)).mono ?_; rintro e w1 ⟨rfl, hT⟩; replace hT : To w2 w1 b ⟨s, pos, 4⟩ := hT)
    | (go_at_call 25; refine (err_any b ⟨s, pos, 4⟩ _ hT.rd).mono ?_; rintro e w' ⟨rfl, hw'⟩; have hw2 := hw'.symm; subst hw2; clear hw'))
  go_ret
  exact ⟨rfl, (To.of_draws h hD).trans hT⟩
set_option maxRecDepth 100000 in
set_option maxHeartbeats 400000 in
theorem bytes_yes (b : Nat) (s : List UInt8) (pos n : Nat) (w : World) (h : RD w b ⟨s, pos, 0⟩) (hl : s.length ≤ 140737488355328) (h1 : pos + n ≤ s.length) :
    Calls Try.prog 30 #[.pointer (some ⟨b, 0, none⟩), .int .i64 (n : Nat)] w fun e w' => e = .returned (.string ⟨((s.drop pos).take n).toArray⟩) ∧ To w w' b ⟨s, pos + n, 0⟩ := by
  have hlt : decide ((s.length : Int) - (pos : Nat) < (n : Int)) = false := decide_eq_false (by omega)
  have hd0 : decide ((n : Int) < 0) = false := decide_eq_false (by omega)
  go_enter Try.func30, Try.ntmps30
  go_wp2_with (first
    | (go_at_call 26; refine (left_any b ⟨s, pos, 0⟩ _ h (by show pos ≤ s.length; omega) hl).mono ?_; rintro e w2 ⟨rfl, hD⟩; have c1 := (h.drew hD).c1)
    | (go_at_call 25; refine (err_any b ⟨s, pos, 0⟩ _ (h.drew hD)).mono ?_; rintro e w' ⟨rfl, hw'⟩; have hw2 := hw'.symm; subst hw2; clear hw')
    | (with_reducible refine at_list ?_; go_simp; refine wpList_storeCell rfl _ _ _ rfl b 1 rfl (.int .i64 ((pos : Int) + (n : Int))) rfl _ _ (h.drew hD).blk i3 rfl rfl (by simp [rc]) ?_; intro w3 hg3 hs3 hb3; clear c1))
  have hR : RD w3 b ⟨s, pos + n, 0⟩ := ⟨by
    have : rc s (pos + n) 0 = (rc s pos 0).setIfInBounds 1 (.int .i64 ((pos : Int) + (n : Int))) := by simp [rc]
    show Blk w3 b (rc s (pos + n) 0) 60
    rw [this]; exact hb3⟩
  have hT : To w w3 b ⟨s, pos + n, 0⟩ := ⟨grown_trans hD.grown hg3, hR⟩
  clear hb3 hg3 hs3
  have c0 := hR.c0
  have c1 := hR.c1
  go_wp2_with fail
  go_quiet (fail)
  go_wp2_with fail
  go_ret
  refine ⟨?_, hT.draws ⟨_, rfl⟩⟩
  rw [← extract_mid]
  rfl
theorem bytes_any (b : Nat) (r : R) (n : Int) (w : World) (h : RD w b r) (hk : r.ok) (hl : r.s.length ≤ 140737488355328) :
    Calls Try.prog 30 #[.pointer (some ⟨b, 0, none⟩), .int .i64 n] w fun e w' => e = .returned (.string ⟨(r.bytes n).2.toArray⟩) ∧ To w w' b (r.bytes n).1 := by
  by_cases he : r.err = 0
  · obtain ⟨s, pos, err⟩ := r
    have he : err = 0 := he
    subst he
    unfold R.bytes
    rw [if_neg (by simp)]
    by_cases h0 : n < 0
    · rw [if_pos h0]; exact bytes_neg b s pos n w h hk hl h0
    · rw [if_neg h0]
      by_cases h1 : (s.length : Int) - (pos : Nat) < n
      · rw [if_pos h1]; exact bytes_cut b s pos n w h hk hl h0 h1
      · rw [if_neg h1]
        obtain ⟨m, rfl⟩ : ∃ m : Nat, n = m := ⟨n.toNat, by omega⟩
        exact bytes_yes b s pos m w h hl (by omega)
  · have e : r.bytes n = (r, []) := by unfold R.bytes; rw [if_pos he]
    rw [e]
    exact bytes_err b r n w h hk hl he
end Go.Proofs.Ytncoifkchoiiaaa
