/- What a reader's Number, Count, Text, Hash, Bool and End do. -/
import Derived.Test.YtncoifkchoiiaaaRb
namespace Go.Proofs.Ytncoifkchoiiaaa
open Go.RowKit
theorem R.bytes_bad {r : R} {n : Int} (h : (r.bytes n).1.err ≠ 0) : (r.bytes n).1.pos = r.pos ∧ (r.bytes n).2 = [] := by
  unfold R.bytes at *
  split
  · exact ⟨rfl, rfl⟩
  · rename_i h1
    split
    · exact ⟨rfl, rfl⟩
    · rename_i h2
      split
      · exact ⟨rfl, rfl⟩
      · rename_i h3
        rw [if_neg h1, if_neg h2, if_neg h3] at h
        exact absurd h h1
theorem R.number_bad {r : R} {n : Int} (h : (r.number n).1.err ≠ 0) : (r.number n).1.pos = r.pos ∧ (r.number n).2 = 0 := by
  obtain ⟨h1, h2⟩ := R.bytes_bad (r := r.early n) (n := n) h
  unfold R.number
  rw [h1, h2, R.early_pos]
  exact ⟨rfl, rfl⟩
theorem R.bytes_keep {r : R} (n : Int) (h : r.err ≠ 0) : (r.bytes n).1 = r := by unfold R.bytes; rw [if_pos h]
theorem R.eta (r : R) : (⟨r.s, r.pos, r.err⟩ : R) = r := rfl
theorem R.count_out {r : R} {m : Int} (h : m < 0 ∨ m < (r.number 4).2) : r.count m = ((r.number 4).1.refuse r.pos 3, 0) := by
  unfold R.count R.refuse
  have hs := r.number_s 4
  by_cases he : (r.number 4).1.err = 0
  · rw [if_pos ⟨he, h⟩, hs, R.fail, if_pos he]
  · rw [if_neg (fun x => he x.1)]
    obtain ⟨h1, h2⟩ := R.number_bad he
    rw [R.fail, if_neg he, ← h1, R.eta, ← h2]
theorem R.count_in {r : R} {m : Int} (h : ¬ (m < 0 ∨ m < (r.number 4).2)) : r.count m = r.number 4 := by
  unfold R.count
  rw [if_neg (fun x => h x.2)]
theorem R.text_bad {r : R} {m : Int} (h : ((r.count m).1.bytes (r.count m).2).1.err ≠ 0) : r.text m = (((r.count m).1.bytes (r.count m).2).1.refuse r.pos ((r.count m).1.bytes (r.count m).2).1.err, []) := by
  unfold R.text R.refuse
  rw [if_pos h, R.bytes_s, R.count_s, R.fail, if_neg h]
theorem R.text_good {r : R} {m : Int} (h : ((r.count m).1.bytes (r.count m).2).1.err = 0) : r.text m = (r.count m).1.bytes (r.count m).2 := by
  unfold R.text
  rw [if_neg (by simpa using h)]
theorem R.bool_out {r : R} (h : 1 < (r.number 1).2) : r.bool = ((r.number 1).1.refuse r.pos 6, false) := by
  unfold R.bool R.refuse
  have he : (r.number 1).1.err = 0 := by
    by_cases he : (r.number 1).1.err = 0
    · exact he
    · rw [(R.number_bad he).2] at h; omega
  rw [if_pos ⟨he, h⟩, R.number_s, R.fail, if_pos he]
theorem R.bool_in {r : R} (h : ¬ 1 < (r.number 1).2) : r.bool = ((r.number 1).1, decide ((r.number 1).2 = 1)) := by
  unfold R.bool
  rw [if_neg (fun x => h x.2)]
set_option maxRecDepth 100000 in
set_option maxHeartbeats 400000 in
theorem number_r (b : Nat) (r : R) (k : Int) (w : World) (h : RD w b r) (hk : r.ok) (hl : r.s.length ≤ 140737488355328) :
    Calls Try.prog 20 #[.pointer (some ⟨b, 0, none⟩), .int .i64 k] w fun e w' => e = .returned (.int .u64 (r.number k).2) ∧ To w w' b (r.number k).1 := by
  have hk8 := r.early_len k
  have HB := fun w (h : RD w b (r.early k)) => bytes_any b (r.early k) k w h (R.ok_early hk k) (by rw [R.early_s]; exact hl)
  have HV := fun w => value_any ((r.early k).bytes k).2 w hk8
  have HN : Hid (r.number k = (((r.early k).bytes k).1, val ((r.early k).bytes k).2)) := by exact rfl
  rw [HN.out]
  clear HN hk8
  by_cases h8 : 8 < k
  · have HF := fail_any b r 1 w h
    rw [show r.fail 1 = r.early k from by unfold R.fail R.early; by_cases he : r.err = 0 <;> simp [he, h8]] at HF
    generalize r.early k = q at *
    generalize (q.bytes k).2 = v at *
    generalize (q.bytes k).1 = u at *
    generalize val v = z at *
    go_enter Try.func20, Try.ntmps20
    go_wp2_with (first
      | (go_at_call 23; refine HF.mono ?_; rintro e w1 ⟨rfl, hT⟩)
      | (go_at_call 30; refine (HB _ hT.rd).mono ?_; rintro e w2 ⟨rfl, hU⟩)
      | (go_at_call 29; refine (HV _).mono ?_; rintro e w' ⟨rfl, hw'⟩; have hw2 := hw'.symm; subst hw2; clear hw'))
    go_ret
    exact ⟨rfl, hT.trans hU⟩
  · have hd : decide (8 < k) = false := decide_eq_false h8
    rw [show r.early k = r from if_neg (fun x => h8 x.2)] at HB HV ⊢
    generalize (r.bytes k).2 = v at *
    generalize (r.bytes k).1 = u at *
    generalize val v = z at *
    go_enter Try.func20, Try.ntmps20
    go_wp2_with (first
      | (go_at_call 30; refine (HB _ h).mono ?_; rintro e w2 ⟨rfl, hU⟩)
      | (go_at_call 29; refine (HV _).mono ?_; rintro e w' ⟨rfl, hw'⟩; have hw2 := hw'.symm; subst hw2; clear hw'))
    go_ret
    exact ⟨rfl, hU⟩
theorem wrap_u64_nat (m : Nat) (h : m < 18446744073709551616) : IntKind.u64.wrap (m : Int) = (m : Int) := by rw [IntKind.wrap_u64]; omega
set_option maxRecDepth 100000 in
set_option maxHeartbeats 400000 in
theorem count_any (b : Nat) (r : R) (m : Int) (w : World) (h : RD w b r) (hk : r.ok) (hl : r.s.length ≤ 140737488355328) (hm : m ≤ 9223372036854775807) :
    Calls Try.prog 21 #[.pointer (some ⟨b, 0, none⟩), .int .i64 m] w fun e w' => e = .returned (.int .i64 ((r.count m).2 : Nat)) ∧ To w w' b (r.count m).1 := by
  have HN := fun w (h : RD w b r) => number_r b r 4 w h hk hl
  have hn := r.number4_lt
  have HA := at_any b r w h
  have HC1 := @R.count_out r m
  have HC2 := @R.count_in r m
  obtain ⟨qn, hq⟩ : ∃ qn, qn = r.number 4 := ⟨_, rfl⟩
  rw [← hq] at HN hn HC1 HC2
  clear hq
  obtain ⟨q, n⟩ := qn
  simp only at HN hn HC1 HC2
  have HR := fun w (h : RD w b q) => refuse_any b q r.pos 3 w h
  have hn64 := wrap_u64_nat n (by omega)
  by_cases h0 : m < 0
  · have hd : decide (m < 0) = true := decide_eq_true h0
    have HE := HC1 (.inl h0)
    rw [HE]
    clear HC1 HC2 HE
    generalize q.refuse r.pos 3 = z at *
    generalize r.pos = p at *
    go_enter Try.func21, Try.ntmps21
    go_wp2_with (first
      | (go_at_call 31; refine HA.mono ?_; rintro e w' ⟨rfl, hw'⟩; have hw2 := hw'.symm; subst hw2; clear hw')
      | (go_at_call 20; refine (HN _ h).mono ?_; rintro e w1 ⟨rfl, hT⟩)
      | (go_at_call 32; refine (HR _ hT.rd).mono ?_; rintro e w2 ⟨rfl, hU⟩))
    go_ret
    exact ⟨rfl, hT.trans hU⟩
  · have hd : decide (m < 0) = false := decide_eq_false h0
    obtain ⟨k, rfl⟩ : ∃ k : Nat, m = k := ⟨m.toNat, by omega⟩
    have hk64 := wrap_u64_nat k (by omega)
    by_cases h1 : k < n
    · have hd1 : decide ((k : Int) < (n : Int)) = true := decide_eq_true (by omega)
      have HE := HC1 (.inr (by omega))
      rw [HE]
      clear HC1 HC2 HE
      generalize q.refuse r.pos 3 = z at *
      generalize r.pos = p at *
      go_enter Try.func21, Try.ntmps21
      go_wp2_with (first
        | (go_at_call 31; refine HA.mono ?_; rintro e w' ⟨rfl, hw'⟩; have hw2 := hw'.symm; subst hw2; clear hw')
        | (go_at_call 20; refine (HN _ h).mono ?_; rintro e w1 ⟨rfl, hT⟩)
        | (go_at_call 32; refine (HR _ hT.rd).mono ?_; rintro e w2 ⟨rfl, hU⟩))
      go_ret
      exact ⟨rfl, hT.trans hU⟩
    · have hd1 : decide ((k : Int) < (n : Int)) = false := decide_eq_false (by omega)
      have HE := HC2 (by omega)
      rw [HE]
      clear HC1 HC2 HE HR
      generalize r.pos = p at *
      go_enter Try.func21, Try.ntmps21
      go_wp2_with (first
        | (go_at_call 31; refine HA.mono ?_; rintro e w' ⟨rfl, hw'⟩; have hw2 := hw'.symm; subst hw2; clear hw')
        | (go_at_call 20; refine (HN _ h).mono ?_; rintro e w1 ⟨rfl, hT⟩))
      go_ret
      exact ⟨rfl, hT⟩
set_option maxRecDepth 100000 in
set_option maxHeartbeats 400000 in
theorem text_any (b : Nat) (r : R) (m : Int) (w : World) (h : RD w b r) (hk : r.ok) (hl : r.s.length ≤ 140737488355328) (hm : m ≤ 9223372036854775807) :
    Calls Try.prog 33 #[.pointer (some ⟨b, 0, none⟩), .int .i64 m] w fun e w' => e = .returned (.string ⟨(r.text m).2.toArray⟩) ∧ To w w' b (r.text m).1 := by
  have HA := at_any b r w h
  have HC := fun w (h : RD w b r) => count_any b r m w h hk hl hm
  have HB := fun w (h : RD w b (r.count m).1) => bytes_any b (r.count m).1 ((r.count m).2 : Nat) w h (R.ok_count hk m) (by rw [R.count_s]; exact hl)
  have HT1 := @R.text_bad r m
  have HT2 := @R.text_good r m
  have HV := @R.bytes_bad (r.count m).1 ((r.count m).2 : Nat)
  obtain ⟨q, hq⟩ : ∃ q, q = r.count m := ⟨_, rfl⟩
  rw [← hq] at HC HB HT1 HT2 HV
  clear hq
  obtain ⟨q, n⟩ := q
  simp only at HC HB HT1 HT2 HV
  obtain ⟨x, hx⟩ : ∃ x, x = q.bytes (n : Nat) := ⟨_, rfl⟩
  rw [← hx] at HB HT1 HT2 HV
  clear hx
  obtain ⟨x, t⟩ := x
  simp only at HB HT1 HT2 HV
  have HX := fun w (h : RD w b x) => err_any b x w h
  by_cases he : x.err = 0
  · rw [HT2 he]
    have hne : (x.err != 0) = false := by simp [he]
    rw [he] at HX
    clear HT1 HT2 HV hne
    generalize r.pos = p at *
    go_enter Try.func33, Try.ntmps33
    go_wp2_with (first
      | (go_at_call 31; refine HA.mono ?_; rintro e w' ⟨rfl, hw'⟩; have hw2 := hw'.symm; subst hw2; clear hw')
      | (go_at_call 21; refine (HC _ h).mono ?_; rintro e w1 ⟨rfl, hT⟩)
      | (go_at_call 30; refine (HB _ hT.rd).mono ?_; rintro e w2 ⟨rfl, hU⟩)
      | (go_at_call 25; refine (HX _ hU.rd).mono ?_; rintro e w' ⟨rfl, hw'⟩; have hw2 := hw'.symm; subst hw2; clear hw'))
    go_ret
    exact ⟨rfl, hT.trans hU⟩
  · rw [HT1 he]
    obtain ⟨_, hv⟩ := HV he
    have hv : t = [] := hv
    subst hv
    have HR := fun w (h : RD w b x) => refuse_any b x r.pos x.err w h
    have hne : (x.err != 0) = true := by simpa using he
    have hd : decide (x.err = 0) = false := decide_eq_false he
    clear HT1 HT2 HV
    generalize x.refuse r.pos x.err = z at *
    generalize r.pos = p at *
    generalize x.err = y at *
    go_enter Try.func33, Try.ntmps33
    go_wp2_with (first
      | (go_at_call 31; refine HA.mono ?_; rintro e w' ⟨rfl, hw'⟩; have hw2 := hw'.symm; subst hw2; clear hw')
      | (go_at_call 21; refine (HC _ h).mono ?_; rintro e w1 ⟨rfl, hT⟩)
      | (go_at_call 30; refine (HB _ hT.rd).mono ?_; rintro e w2 ⟨rfl, hU⟩)
      | (go_at_call 25; refine (HX _ hU.rd).mono ?_; rintro e w' ⟨rfl, hw'⟩; have hw2 := hw'.symm; subst hw2; clear hw')
      | (go_at_call 32; refine (HR _ hU.rd).mono ?_; rintro e w3 ⟨rfl, hV⟩))
    go_ret
    exact ⟨rfl, (hT.trans hU).trans hV⟩
set_option maxRecDepth 100000 in
set_option maxHeartbeats 400000 in
theorem end_any (b : Nat) (r : R) (w : World) (h : RD w b r) (hk : r.ok) (hl : r.s.length ≤ 140737488355328) :
    Calls Try.prog 12 #[.pointer (some ⟨b, 0, none⟩)] w fun e w' => e = .returned (.int .i64 r.fin.err) ∧ To w w' b r.fin := by
  have HL := left_any b r w h hk hl
  by_cases hp : r.pos < r.s.length
  · have HF := fun w (h : RD w b r) => fail_any b r 5 w h
    rw [show r.fail 5 = r.fin from by unfold R.fail R.fin; by_cases he : r.err = 0 <;> simp [he, hp]] at HF
    have HX := fun w (h : RD w b r.fin) => err_any b r.fin w h
    have hd : decide (0 < (r.s.length : Int) - (r.pos : Nat)) = true := decide_eq_true (by omega)
    generalize r.fin = q at *
    generalize q.err = y at *
    go_enter Try.func12, Try.ntmps12
    go_wp2_with (first
      | (go_at_call 26; refine HL.mono ?_; rintro e w1 ⟨rfl, hD⟩)
      | (go_at_call 23; refine (HF _ (h.drew hD)).mono ?_; rintro e w2 ⟨rfl, hT⟩)
      | (go_at_call 25; refine (HX _ hT.rd).mono ?_; rintro e w' ⟨rfl, hw'⟩; have hw2 := hw'.symm; subst hw2; clear hw'))
    go_ret
    exact ⟨rfl, (To.of_draws h hD).trans hT⟩
  · have hd : decide (0 < (r.s.length : Int) - (r.pos : Nat)) = false := decide_eq_false (by omega)
    rw [show r.fin = r from if_neg (fun x => hp x.2)]
    have HX := fun w (h : RD w b r) => err_any b r w h
    generalize r.err = y at *
    go_enter Try.func12, Try.ntmps12
    go_wp2_with (first
      | (go_at_call 26; refine HL.mono ?_; rintro e w1 ⟨rfl, hD⟩)
      | (go_at_call 25; refine (HX _ (h.drew hD)).mono ?_; rintro e w' ⟨rfl, hw'⟩; have hw2 := hw'.symm; subst hw2; clear hw'))
    go_ret
    exact ⟨rfl, To.of_draws h hD⟩
end Go.Proofs.Ytncoifkchoiiaaa
