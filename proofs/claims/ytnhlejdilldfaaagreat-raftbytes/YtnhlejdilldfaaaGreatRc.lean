/- A reader's memory; what Err, At, Left, Fail and refuse do. What a reader's Bytes does. What a reader's Number, Count, Text, Hash, Bool and End do. -/
import Derived.Test.YtnhlejdilldfaaaGreatWc
namespace Go.Proofs.YtnhlejdilldfaaaGreat
open Go.RowKit
theorem i3 : (Tryz.prog.info? 3).map (·.size) = some 1 := by kernel_rfl
theorem i29 : (Tryz.prog.info? 34).map (·.size) = some 1 := by kernel_rfl
/-- w' is w with draws. -/
structure Draws (w w' : World) : Prop where
  out : ∃ n, w' = w.drewN n
theorem Draws.grown {w w' : World} {row : Option Nat} (h : Draws w w') : w.grownBy w' row := by
  obtain ⟨n, rfl⟩ := h.out
  exact ⟨rfl, rfl, rfl, Nat.le_refl _, fun _ _ _ => rfl⟩
theorem Draws.blk {w w' : World} {b : Nat} {c : Array Value} {t : TypeId} (h : Draws w w') (k : Blk w b c t) : Blk w' b c t := by
  obtain ⟨n, rfl⟩ := h.out
  exact k.drewN n
/-- The cells of a reader. -/
def rc (s : List UInt8) (pos : Nat) (err : Int) : Array Value := #[.string ⟨s.toArray⟩, .int .i64 (pos : Nat), .int .i64 err]
/-- Block b is the reader r. -/
structure RD (w : World) (b : Nat) (r : R) : Prop where
  blk : Blk w b (rc r.s r.pos r.err) 93
theorem RD.c0 {w : World} {b : Nat} {s : List UInt8} {pos : Nat} {err : Int} (h : RD w b ⟨s, pos, err⟩) : w.cell? ⟨b, 0, none⟩ = some (.string ⟨s.toArray⟩) := (h.blk.cell 0).trans rfl
theorem RD.c1 {w : World} {b : Nat} {s : List UInt8} {pos : Nat} {err : Int} (h : RD w b ⟨s, pos, err⟩) : w.cell? ⟨b, 1, none⟩ = some (.int .i64 (pos : Nat)) := (h.blk.cell 1).trans rfl
theorem RD.c2 {w : World} {b : Nat} {s : List UInt8} {pos : Nat} {err : Int} (h : RD w b ⟨s, pos, err⟩) : w.cell? ⟨b, 2, none⟩ = some (.int .i64 err) := (h.blk.cell 2).trans rfl
theorem RD.drew {w w' : World} {b : Nat} {r : R} (h : RD w b r) (hd : Draws w w') : RD w' b r := ⟨hd.blk h.blk⟩
theorem RD.below {w w' : World} {b : Nat} {r : R} (h : RD w b r) (hd : Below w.heap.size w w') : RD w' b r := ⟨h.blk.belowSize hd⟩
/-- What a call on the reader in block b leaves. -/
structure To (w w' : World) (b : Nat) (r : R) : Prop where
  grown : w.grownBy w' (some b)
  rd : RD w' b r
theorem To.trans {w w1 w2 : World} {b : Nat} {r r2 : R} (h : To w w1 b r) (k : To w1 w2 b r2) : To w w2 b r2 := ⟨grown_trans h.grown k.grown, k.rd⟩
theorem To.refl {w : World} {b : Nat} {r : R} (h : RD w b r) : To w w b r := ⟨grown_refl w _, h⟩
theorem To.draws {w w1 w2 : World} {b : Nat} {r : R} (h : To w w1 b r) (k : Draws w1 w2) : To w w2 b r := ⟨grown_trans h.grown k.grown, h.rd.drew k⟩
theorem To.of_draws {w w1 : World} {b : Nat} {r : R} (h : RD w b r) (k : Draws w w1) : To w w1 b r := (To.refl h).draws k
theorem err_any (b : Nat) (r : R) (w : World) (h : RD w b r) : Calls Tryz.prog 15 #[.pointer (some ⟨b, 0, none⟩)] w fun e w' => e = .returned (.int .i64 r.err) ∧ w' = w := by
  obtain ⟨s, pos, err⟩ := r
  have c2 := h.c2
  go_enter Tryz.func15, Tryz.ntmps15
  go_wp2_with fail
  go_ret
  exact ⟨rfl, rfl⟩
set_option maxHeartbeats 400000 in
theorem left_any (b : Nat) (r : R) (w : World) (h : RD w b r) (hk : r.pos ≤ r.s.length) (hl : r.s.length ≤ 140737488355328) : Calls Tryz.prog 77 #[.pointer (some ⟨b, 0, none⟩)] w fun e w' => e = .returned (.int .i64 ((r.s.length : Int) - (r.pos : Nat))) ∧ Draws w w' := by
  obtain ⟨s, pos, err⟩ := r
  have c0 := h.c0
  have c1 := h.c1
  replace hk : pos ≤ s.length := hk
  replace hl : s.length ≤ 140737488355328 := hl
  go_enter Tryz.func77, Tryz.ntmps77
  go_wp2_with fail
  go_quiet (fail)
  go_wp2_with fail
  go_ret
  exact ⟨rfl, ⟨_, rfl⟩⟩
set_option maxHeartbeats 400000 in
theorem fail_any (b : Nat) (r : R) (x : Int) (w : World) (h : RD w b r) : Calls Tryz.prog 78 #[.pointer (some ⟨b, 0, none⟩), .int .i64 x] w fun e w' => e = .returned (.tuple #[]) ∧ To w w' b (r.fail x) := by
  obtain ⟨s, pos, err⟩ := r
  have c2 := h.c2
  by_cases he : err = 0
  · subst he
    go_enter Tryz.func78, Tryz.ntmps78
    go_wp2_with (with_reducible refine at_list ?_; refine wpList_storeCell rfl _ _ _ rfl b 2 rfl (.int .i64 x) rfl _ _ h.blk i29 rfl rfl (by simp [rc]) ?_; intro w1 hg1 hs1 hb1)
    refine bodyPost_end (results_none rfl _ _ _) rfl ⟨rfl, hg1, ⟨hb1⟩⟩
  · have hd : decide (err = 0) = false := decide_eq_false he
    go_enter Tryz.func78, Tryz.ntmps78
    go_wp2_with fail
    refine bodyPost_end (results_none rfl _ _ _) rfl ⟨rfl, ?_⟩
    rw [show R.fail ⟨s, pos, err⟩ x = ⟨s, pos, err⟩ from if_neg he]
    exact To.refl h
/-- What refuse leaves. -/
def R.refuse (r : R) (n : Nat) (e : Int) : R := ⟨r.s, n, (r.fail e).err⟩
end Go.Proofs.YtnhlejdilldfaaaGreat
namespace Go.Proofs.YtnhlejdilldfaaaGreat
open Go.RowKit
theorem extract_mid (l : List UInt8) (n m : Nat) : (ByteArray.mk l.toArray).extract n (n + m) = ⟨((l.drop n).take m).toArray⟩ := by
  have : ((ByteArray.mk l.toArray).extract n (n + m)).data = ((l.drop n).take m).toArray := by
    apply Array.ext'
    simp [ByteArray.extract, ByteArray.copySlice]
  rw [show (ByteArray.mk l.toArray).extract n (n + m) = ⟨((ByteArray.mk l.toArray).extract n (n + m)).data⟩ from rfl, this]
set_option maxRecDepth 100000 in
set_option maxHeartbeats 400000 in
/-- There is an error already. -/
theorem bytes_err (b : Nat) (r : R) (n : Int) (w : World) (h : RD w b r) (hk : r.pos ≤ r.s.length) (hl : r.s.length ≤ 140737488355328) (he : r.err ≠ 0) :
    Calls Tryz.prog 81 #[.pointer (some ⟨b, 0, none⟩), .int .i64 n] w fun e w' => e = .returned (.string ⟨#[]⟩) ∧ To w w' b r := by
  have HF : ∀ x w, RD w b r → Calls Tryz.prog 78 #[.pointer (some ⟨b, 0, none⟩), .int .i64 x] w fun e w' => e = .returned (.tuple #[]) ∧ To w w' b r := fun x w h => by
    have := fail_any b r x w h
    rw [show r.fail x = r from if_neg he] at this
    exact this
  have hne : (r.err != 0) = true := by simpa using he
  have hd0 : decide (r.err = 0) = false := decide_eq_false he
  by_cases h0 : n < 0
  · have hlt : decide ((r.s.length : Int) - (r.pos : Nat) < n) = false := decide_eq_false (by omega)
    go_enter Tryz.func81, Tryz.ntmps81
    go_wp2_with (first
      | (go_at_call 78; refine (HF _ _ h).mono ?_; rintro e w1 ⟨rfl, hT⟩)
      | (go_at_call 77; refine (left_any b r _ hT.rd hk hl).mono ?_; rintro e w2 ⟨rfl, hD⟩)
      | (go_at_call 15; refine (err_any b r _ (hT.draws hD).rd).mono ?_; rintro e w' ⟨rfl, hw'⟩; have hw2 := hw'.symm; subst hw2; clear hw'))
    go_ret
    exact ⟨rfl, hT.draws hD⟩
  · have h1 : decide (n < 0) = false := decide_eq_false h0
    by_cases hlt : (r.s.length : Int) - (r.pos : Nat) < n
    · have hlt : decide ((r.s.length : Int) - (r.pos : Nat) < n) = true := decide_eq_true hlt
      go_enter Tryz.func81, Tryz.ntmps81
      go_wp2_with (first
        | (go_at_call 77; refine (left_any b r _ h hk hl).mono ?_; rintro e w2 ⟨rfl, hD⟩)
        | (go_at_call 78; refine (HF _ _ (h.drew hD)).mono ?_; rintro e w1 ⟨rfl, hT⟩)
        | (go_at_call 15; refine (err_any b r _ hT.rd).mono ?_; rintro e w' ⟨rfl, hw'⟩; have hw2 := hw'.symm; subst hw2; clear hw'))
      go_ret
      exact ⟨rfl, (To.of_draws h hD).trans hT⟩
    · have hlt : decide ((r.s.length : Int) - (r.pos : Nat) < n) = false := decide_eq_false hlt
      go_enter Tryz.func81, Tryz.ntmps81
      go_wp2_with (first
        | (go_at_call 77; refine (left_any b r _ h hk hl).mono ?_; rintro e w2 ⟨rfl, hD⟩)
        | (go_at_call 15; refine (err_any b r _ (h.drew hD)).mono ?_; rintro e w' ⟨rfl, hw'⟩; have hw2 := hw'.symm; subst hw2; clear hw'))
      go_ret
      exact ⟨rfl, To.of_draws h hD⟩
attribute [local go_sem] extract_mid
set_option maxRecDepth 100000 in
set_option maxHeartbeats 400000 in
theorem bytes_neg (b : Nat) (s : List UInt8) (pos : Nat) (n : Int) (w : World) (h : RD w b ⟨s, pos, 0⟩) (hk : pos ≤ s.length) (hl : s.length ≤ 140737488355328) (h0 : n < 0) :
    Calls Tryz.prog 81 #[.pointer (some ⟨b, 0, none⟩), .int .i64 n] w fun e w' => e = .returned (.string ⟨#[]⟩) ∧ To w w' b ⟨s, pos, 1⟩ := by
  have hlt : decide ((s.length : Int) - (pos : Nat) < n) = false := decide_eq_false (by omega)
  go_enter Tryz.func81, Tryz.ntmps81
  go_wp2_with (first
    | (go_at_call 78; refine (fail_any b ⟨s, pos, 0⟩ 1 _ h).mono ?_; rintro e w1 ⟨rfl, hT⟩; replace hT : To w w1 b ⟨s, pos, 1⟩ := hT)
    | (go_at_call 77; refine (left_any b ⟨s, pos, 1⟩ _ hT.rd hk hl).mono ?_; rintro e w2 ⟨rfl, hD⟩)
    | (go_at_call 15; refine (err_any b ⟨s, pos, 1⟩ _ (hT.draws hD).rd).mono ?_; rintro e w' ⟨rfl, hw'⟩; have hw2 := hw'.symm; subst hw2; clear hw'))
  go_ret
  exact ⟨rfl, hT.draws hD⟩
set_option maxRecDepth 100000 in
set_option maxHeartbeats 400000 in
theorem bytes_cut (b : Nat) (s : List UInt8) (pos : Nat) (n : Int) (w : World) (h : RD w b ⟨s, pos, 0⟩) (hk : pos ≤ s.length) (hl : s.length ≤ 140737488355328) (h0 : ¬ n < 0) (h1 : (s.length : Int) - (pos : Nat) < n) :
    Calls Tryz.prog 81 #[.pointer (some ⟨b, 0, none⟩), .int .i64 n] w fun e w' => e = .returned (.string ⟨#[]⟩) ∧ To w w' b ⟨s, pos, 4⟩ := by
  have hlt : decide ((s.length : Int) - (pos : Nat) < n) = true := decide_eq_true h1
  have hd0 : decide (n < 0) = false := decide_eq_false h0
  go_enter Tryz.func81, Tryz.ntmps81
  go_wp2_with (first
    | (go_at_call 77; refine (left_any b ⟨s, pos, 0⟩ _ h hk hl).mono ?_; rintro e w2 ⟨rfl, hD⟩)
    | (go_at_call 78; refine (fail_any b ⟨s, pos, 0⟩ 4 _ (h.drew hD)).mono ?_; rintro e w1 ⟨rfl, hT⟩; replace hT : To w2 w1 b ⟨s, pos, 4⟩ := hT)
    | (go_at_call 15; refine (err_any b ⟨s, pos, 4⟩ _ hT.rd).mono ?_; rintro e w' ⟨rfl, hw'⟩; have hw2 := hw'.symm; subst hw2; clear hw'))
  go_ret
  exact ⟨rfl, (To.of_draws h hD).trans hT⟩
set_option maxRecDepth 100000 in
set_option maxHeartbeats 400000 in
theorem bytes_yes (b : Nat) (s : List UInt8) (pos n : Nat) (w : World) (h : RD w b ⟨s, pos, 0⟩) (hl : s.length ≤ 140737488355328) (h1 : pos + n ≤ s.length) :
    Calls Tryz.prog 81 #[.pointer (some ⟨b, 0, none⟩), .int .i64 (n : Nat)] w fun e w' => e = .returned (.string ⟨((s.drop pos).take n).toArray⟩) ∧ To w w' b ⟨s, pos + n, 0⟩ := by
  have hlt : decide ((s.length : Int) - (pos : Nat) < (n : Int)) = false := decide_eq_false (by omega)
  have hd0 : decide ((n : Int) < 0) = false := decide_eq_false (by omega)
  go_enter Tryz.func81, Tryz.ntmps81
  go_wp2_with (first
    | (go_at_call 77; refine (left_any b ⟨s, pos, 0⟩ _ h (by show pos ≤ s.length; omega) hl).mono ?_; rintro e w2 ⟨rfl, hD⟩; have c1 := (h.drew hD).c1)
    | (go_at_call 15; refine (err_any b ⟨s, pos, 0⟩ _ (h.drew hD)).mono ?_; rintro e w' ⟨rfl, hw'⟩; have hw2 := hw'.symm; subst hw2; clear hw')
    | (with_reducible refine at_list ?_; go_simp; refine wpList_storeCell rfl _ _ _ rfl b 1 rfl (.int .i64 ((pos : Int) + (n : Int))) rfl _ _ (h.drew hD).blk i3 rfl rfl (by simp [rc]) ?_; intro w3 hg3 hs3 hb3; clear c1))
  have hR : RD w3 b ⟨s, pos + n, 0⟩ := ⟨by
    have : rc s (pos + n) 0 = (rc s pos 0).setIfInBounds 1 (.int .i64 ((pos : Int) + (n : Int))) := by simp [rc]
    show Blk w3 b (rc s (pos + n) 0) 93
    rw [this]; exact hb3⟩
  have hT : To w w3 b ⟨s, pos + n, 0⟩ := ⟨grown_trans hD.grown hg3, hR⟩
  clear hb3 hg3 hs3
  have c0 := hR.c0
  have c1 := hR.c1
  go_wp2_with fail
  go_quiet (fail)
  go_wp2_with fail
  go_ret
  refine ⟨?_, hT.draws ⟨_, rfl⟩⟩
  rw [← extract_mid]
  rfl
theorem bytes_any (b : Nat) (r : R) (n : Int) (w : World) (h : RD w b r) (hk : r.ok) (hl : r.s.length ≤ 140737488355328) :
    Calls Tryz.prog 81 #[.pointer (some ⟨b, 0, none⟩), .int .i64 n] w fun e w' => e = .returned (.string ⟨(r.bytes n).2.toArray⟩) ∧ To w w' b (r.bytes n).1 := by
  by_cases he : r.err = 0
  · obtain ⟨s, pos, err⟩ := r
    have he : err = 0 := he
    subst he
    unfold R.bytes
    rw [if_neg (by simp)]
    by_cases h0 : n < 0
    · rw [if_pos h0]; exact bytes_neg b s pos n w h hk hl h0
    · rw [if_neg h0]
      by_cases h1 : (s.length : Int) - (pos : Nat) < n
      · rw [if_pos h1]; exact bytes_cut b s pos n w h hk hl h0 h1
      · rw [if_neg h1]
        obtain ⟨m, rfl⟩ : ∃ m : Nat, n = m := ⟨n.toNat, by omega⟩
        exact bytes_yes b s pos m w h hl (by omega)
  · have e : r.bytes n = (r, []) := by unfold R.bytes; rw [if_pos he]
    rw [e]
    exact bytes_err b r n w h hk hl he
end Go.Proofs.YtnhlejdilldfaaaGreat
namespace Go.Proofs.YtnhlejdilldfaaaGreat
open Go.RowKit
theorem R.bytes_bad {r : R} {n : Int} (h : (r.bytes n).1.err ≠ 0) : (r.bytes n).1.pos = r.pos ∧ (r.bytes n).2 = [] := by
  unfold R.bytes at *
  split
  · exact ⟨rfl, rfl⟩
  · rename_i h1
    split
    · exact ⟨rfl, rfl⟩
    · rename_i h2
      split
      · exact ⟨rfl, rfl⟩
      · rename_i h3
        rw [if_neg h1, if_neg h2, if_neg h3] at h
        exact absurd h h1
theorem R.number_bad {r : R} {n : Int} (h : (r.number n).1.err ≠ 0) : (r.number n).1.pos = r.pos ∧ (r.number n).2 = 0 := by
  obtain ⟨h1, h2⟩ := R.bytes_bad (r := r.early n) (n := n) h
  unfold R.number
  rw [h1, h2, R.early_pos]
  exact ⟨rfl, rfl⟩
theorem R.bytes_keep {r : R} (n : Int) (h : r.err ≠ 0) : (r.bytes n).1 = r := by unfold R.bytes; rw [if_pos h]
theorem R.eta (r : R) : (⟨r.s, r.pos, r.err⟩ : R) = r := rfl
theorem R.count_out {r : R} {m : Int} (h : m < 0 ∨ m < (r.number 4).2) : r.count m = ((r.number 4).1.refuse r.pos 3, 0) := by
  unfold R.count R.refuse
  have hs := r.number_s 4
  by_cases he : (r.number 4).1.err = 0
  · rw [if_pos ⟨he, h⟩, hs, R.fail, if_pos he]
  · rw [if_neg (fun x => he x.1)]
    obtain ⟨h1, h2⟩ := R.number_bad he
    rw [R.fail, if_neg he, ← h1, R.eta, ← h2]
theorem R.count_in {r : R} {m : Int} (h : ¬ (m < 0 ∨ m < (r.number 4).2)) : r.count m = r.number 4 := by
  unfold R.count
  rw [if_neg (fun x => h x.2)]
theorem R.text_bad {r : R} {m : Int} (h : ((r.count m).1.bytes (r.count m).2).1.err ≠ 0) : r.text m = (((r.count m).1.bytes (r.count m).2).1.refuse r.pos ((r.count m).1.bytes (r.count m).2).1.err, []) := by
  unfold R.text R.refuse
  rw [if_pos h, R.bytes_s, R.count_s, R.fail, if_neg h]
theorem R.text_good {r : R} {m : Int} (h : ((r.count m).1.bytes (r.count m).2).1.err = 0) : r.text m = (r.count m).1.bytes (r.count m).2 := by
  unfold R.text
  rw [if_neg (by simpa using h)]
theorem R.bool_out {r : R} (h : 1 < (r.number 1).2) : r.bool = ((r.number 1).1.refuse r.pos 6, false) := by
  unfold R.bool R.refuse
  have he : (r.number 1).1.err = 0 := by
    by_cases he : (r.number 1).1.err = 0
    · exact he
    · rw [(R.number_bad he).2] at h; omega
  rw [if_pos ⟨he, h⟩, R.number_s, R.fail, if_pos he]
theorem R.bool_in {r : R} (h : ¬ 1 < (r.number 1).2) : r.bool = ((r.number 1).1, decide ((r.number 1).2 = 1)) := by
  unfold R.bool
  rw [if_neg (fun x => h x.2)]
set_option maxRecDepth 100000 in
set_option maxHeartbeats 400000 in
theorem number_r (b : Nat) (r : R) (k : Int) (w : World) (h : RD w b r) (hk : r.ok) (hl : r.s.length ≤ 140737488355328) :
    Calls Tryz.prog 79 #[.pointer (some ⟨b, 0, none⟩), .int .i64 k] w fun e w' => e = .returned (.int .u64 (r.number k).2) ∧ To w w' b (r.number k).1 := by
  have hk8 := r.early_len k
  have HB := fun w (h : RD w b (r.early k)) => bytes_any b (r.early k) k w h (R.ok_early hk k) (by rw [R.early_s]; exact hl)
  have HV := fun w => value_any ((r.early k).bytes k).2 w hk8
  have HN : Hid (r.number k = (((r.early k).bytes k).1, val ((r.early k).bytes k).2)) := by exact rfl
  rw [HN.out]
  clear HN hk8
  by_cases h8 : 8 < k
  · have HF := fail_any b r 1 w h
    rw [show r.fail 1 = r.early k from by unfold R.fail R.early; by_cases he : r.err = 0 <;> simp [he, h8]] at HF
    generalize r.early k = q at *
    generalize (q.bytes k).2 = v at *
    generalize (q.bytes k).1 = u at *
    generalize val v = z at *
    go_enter Tryz.func79, Tryz.ntmps79
    go_wp2_with (first
      | (go_at_call 78; refine HF.mono ?_; rintro e w1 ⟨rfl, hT⟩)
      | (go_at_call 81; refine (HB _ hT.rd).mono ?_; rintro e w2 ⟨rfl, hU⟩)
      | (go_at_call 104; refine (HV _).mono ?_; rintro e w' ⟨rfl, hw'⟩; have hw2 := hw'.symm; subst hw2; clear hw'))
    go_ret
    exact ⟨rfl, hT.trans hU⟩
  · have hd : decide (8 < k) = false := decide_eq_false h8
    rw [show r.early k = r from if_neg (fun x => h8 x.2)] at HB HV ⊢
    generalize (r.bytes k).2 = v at *
    generalize (r.bytes k).1 = u at *
    generalize val v = z at *
    go_enter Tryz.func79, Tryz.ntmps79
    go_wp2_with (first
      | (go_at_call 81; refine (HB _ h).mono ?_; rintro e w2 ⟨rfl, hU⟩)
      | (go_at_call 104; refine (HV _).mono ?_; rintro e w' ⟨rfl, hw'⟩; have hw2 := hw'.symm; subst hw2; clear hw'))
    go_ret
    exact ⟨rfl, hU⟩
theorem wrap_u64_nat (m : Nat) (h : m < 18446744073709551616) : IntKind.u64.wrap (m : Int) = (m : Int) := by rw [IntKind.wrap_u64]; omega
end Go.Proofs.YtnhlejdilldfaaaGreat
