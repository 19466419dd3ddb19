/- What strings.CutPrefix does, as the library of contracts has it, at this program's numbers. What a reader's At, refuse, Count, Text and End do, and isLast of a state. Decode, plainly. What mayHave does; a text is put by its entry. What Decode does. -/
import Derived.Shelf.Small.Wraps
import Derived.Test.YtmbdhngoldganaaGreatDoorChecked
import Derived.Test.YtmbdhngoldganaaGreatDoorChk
import Derived.Test.YtmbdhngoldganaaGreatDoorRc
import Derived.Test.YtmbdhngoldganaaGreatDoorEnc
import Derived.WideKeyEntry
namespace Go.Proofs.YtmbdhngoldganaaGreatDoor
open Go.Shelf
def layCut_ren : Go.Shelf.Ren := ⟨fun | 103 => 136 | 210 => 164 | 206 => 195 | n => n, fun | 9 => 9 | 4 => 4 | 24 => 64 | 3 => 3 | n => n, fun | n => n⟩
theorem layCut : Go.Proofs.Lays.n103 Tryz.prog layCut_ren := {
  mixed := by kernel_rfl
  f103 := Tryz.func136.trans (congrArg some (by kernel_rfl))
  f206 := Tryz.func195.trans (congrArg some (by kernel_rfl))
  f210 := Tryz.func164.trans (congrArg some (by kernel_rfl))
  t3 := Tryz.underlying3
  a3 := Tryz.isAgg3
  z3 := Tryz.sizeOf3
  v3 := Tryz.zeroValue3
  t4 := Tryz.underlying4
  a4 := Tryz.isAgg4
  z4 := Tryz.sizeOf4
  v4 := Tryz.zeroValue4
  t9 := Tryz.underlying9
  a9 := Tryz.isAgg9
  z9 := Tryz.sizeOf9
  v9 := Tryz.zeroValue9
  t24 := Tryz.underlying64
  a24 := Tryz.isAgg64
  z24 := Tryz.sizeOf64
  v24 := Tryz.zeroValue64 }
end Go.Proofs.YtmbdhngoldganaaGreatDoor
namespace Go.Proofs.YtmbdhngoldganaaGreatDoor
open Go Go.RowKit
theorem at_any (b : Nat) (r : R) (w : World) (h : RD w b r) : Calls Tryz.prog 87 #[.pointer (some ⟨b, 0, none⟩)] w fun e w' => e = .returned (.int .i64 (r.pos : Nat)) ∧ w' = w := by
  obtain ⟨s, pos, err⟩ := r
  have c1 := h.c1
  go_enter Tryz.func87, Tryz.ntmps87
  go_wp2_with fail
  go_ret
  exact ⟨rfl, rfl⟩
set_option maxHeartbeats 400000 in
theorem refuse_any (b : Nat) (r : R) (n : Nat) (x : Int) (w : World) (h : RD w b r) : Calls Tryz.prog 91 #[.pointer (some ⟨b, 0, none⟩), .int .i64 (n : Nat), .int .i64 x] w fun e w' => e = .returned (.tuple #[]) ∧ To w w' b (r.refuse n x) := by
  have hs := r.fail_s x
  have HF := fail_any b r x w h
  have HR : Hid (r.refuse n x = ⟨(r.fail x).s, n, (r.fail x).err⟩) := by rw [hs]; exact rfl
  clear hs
  generalize r.fail x = q at *
  obtain ⟨s, pos, err⟩ := q
  go_enter Tryz.func91, Tryz.ntmps91
  go_wp2_with (first
    | (go_at_call 92; refine HF.mono ?_; rintro e w1 ⟨rfl, hT⟩)
    | (with_reducible refine at_list ?_; refine wpList_storeCell rfl _ _ _ rfl b 1 rfl (.int .i64 (n : Nat)) rfl _ _ hT.rd.blk i3 rfl rfl (by simp [rc]) ?_; intro w2 hg2 hs2 hb2))
  refine bodyPost_end (results_none rfl _ _ _) rfl ⟨rfl, ?_⟩
  rw [HR.out]
  exact ⟨grown_trans hT.grown hg2, ⟨hb2⟩⟩
set_option maxRecDepth 100000 in
set_option maxHeartbeats 400000 in
theorem count_any (b : Nat) (r : R) (m : Int) (w : World) (h : RD w b r) (hk : r.ok) (hl : r.s.length ≤ 140737488355328) (hm : m ≤ 9223372036854775807) :
    Calls Tryz.prog 89 #[.pointer (some ⟨b, 0, none⟩), .int .i64 m] w fun e w' => e = .returned (.int .i64 ((r.count m).2 : Nat)) ∧ To w w' b (r.count m).1 := by
  have HN := fun w (h : RD w b r) => number_r b r 4 w h hk hl
  have hn := r.number4_lt
  have HA := at_any b r w h
  have HC1 := @R.count_out r m
  have HC2 := @R.count_in r m
  obtain ⟨qn, hq⟩ : ∃ qn, qn = r.number 4 := ⟨_, rfl⟩
  rw [← hq] at HN hn HC1 HC2
  clear hq
  obtain ⟨q, n⟩ := qn
  simp only at HN hn HC1 HC2
  have HR := fun w (h : RD w b q) => refuse_any b q r.pos 3 w h
  have hn64 := wrap_u64_nat n (by omega)
  by_cases h0 : m < 0
  · have hd : decide (m < 0) = true := decide_eq_true h0
    have HE := HC1 (.inl h0)
    rw [HE]
    clear HC1 HC2 HE
    generalize q.refuse r.pos 3 = z at *
    generalize r.pos = p at *
    go_enter Tryz.func89, Tryz.ntmps89
    go_wp2_with (first
      | (go_at_call 87; refine HA.mono ?_; rintro e w' ⟨rfl, hw'⟩; have hw2 := hw'.symm; subst hw2; clear hw')
      | (go_at_call 41; refine (HN _ h).mono ?_; rintro e w1 ⟨rfl, hT⟩)
      | (go_at_call 91; refine (HR _ hT.rd).mono ?_; rintro e w2 ⟨rfl, hU⟩))
    go_ret
    exact ⟨rfl, hT.trans hU⟩
  · have hd : decide (m < 0) = false := decide_eq_false h0
    obtain ⟨k, rfl⟩ : ∃ k : Nat, m = k := ⟨m.toNat, by omega⟩
    have hk64 := wrap_u64_nat k (by omega)
    by_cases h1 : k < n
    · have hd1 : decide ((k : Int) < (n : Int)) = true := decide_eq_true (by omega)
      have HE := HC1 (.inr (by omega))
      rw [HE]
      clear HC1 HC2 HE
      generalize q.refuse r.pos 3 = z at *
      generalize r.pos = p at *
      go_enter Tryz.func89, Tryz.ntmps89
      go_wp2_with (first
        | (go_at_call 87; refine HA.mono ?_; rintro e w' ⟨rfl, hw'⟩; have hw2 := hw'.symm; subst hw2; clear hw')
        | (go_at_call 41; refine (HN _ h).mono ?_; rintro e w1 ⟨rfl, hT⟩)
        | (go_at_call 91; refine (HR _ hT.rd).mono ?_; rintro e w2 ⟨rfl, hU⟩))
      go_ret
      exact ⟨rfl, hT.trans hU⟩
    · have hd1 : decide ((k : Int) < (n : Int)) = false := decide_eq_false (by omega)
      have HE := HC2 (by omega)
      rw [HE]
      clear HC1 HC2 HE HR
      generalize r.pos = p at *
      go_enter Tryz.func89, Tryz.ntmps89
      go_wp2_with (first
        | (go_at_call 87; refine HA.mono ?_; rintro e w' ⟨rfl, hw'⟩; have hw2 := hw'.symm; subst hw2; clear hw')
        | (go_at_call 41; refine (HN _ h).mono ?_; rintro e w1 ⟨rfl, hT⟩))
      go_ret
      exact ⟨rfl, hT⟩
set_option maxRecDepth 100000 in
set_option maxHeartbeats 400000 in
theorem text_any (b : Nat) (r : R) (m : Int) (w : World) (h : RD w b r) (hk : r.ok) (hl : r.s.length ≤ 140737488355328) (hm : m ≤ 9223372036854775807) :
    Calls Tryz.prog 39 #[.pointer (some ⟨b, 0, none⟩), .int .i64 m] w fun e w' => e = .returned (.string ⟨(r.text m).2.toArray⟩) ∧ To w w' b (r.text m).1 := by
  have HA := at_any b r w h
  have HC := fun w (h : RD w b r) => count_any b r m w h hk hl hm
  have HB := fun w (h : RD w b (r.count m).1) => bytes_any b (r.count m).1 ((r.count m).2 : Nat) w h (R.ok_count hk m) (by rw [R.count_s]; exact hl)
  have HT1 := @R.text_bad r m
  have HT2 := @R.text_good r m
  have HV := @R.bytes_bad (r.count m).1 ((r.count m).2 : Nat)
  obtain ⟨q, hq⟩ : ∃ q, q = r.count m := ⟨_, rfl⟩
  rw [← hq] at HC HB HT1 HT2 HV
  clear hq
  obtain ⟨q, n⟩ := q
  simp only at HC HB HT1 HT2 HV
  obtain ⟨x, hx⟩ : ∃ x, x = q.bytes (n : Nat) := ⟨_, rfl⟩
  rw [← hx] at HB HT1 HT2 HV
  clear hx
  obtain ⟨x, t⟩ := x
  simp only at HB HT1 HT2 HV
  have HX := fun w (h : RD w b x) => err_any b x w h
  by_cases he : x.err = 0
  · rw [HT2 he]
    have hne : (x.err != 0) = false := by simp [he]
    rw [he] at HX
    clear HT1 HT2 HV hne
    generalize r.pos = p at *
    go_enter Tryz.func39, Tryz.ntmps39
    go_wp2_with (first
      | (go_at_call 87; refine HA.mono ?_; rintro e w' ⟨rfl, hw'⟩; have hw2 := hw'.symm; subst hw2; clear hw')
      | (go_at_call 89; refine (HC _ h).mono ?_; rintro e w1 ⟨rfl, hT⟩)
      | (go_at_call 88; refine (HB _ hT.rd).mono ?_; rintro e w2 ⟨rfl, hU⟩)
      | (go_at_call 90; refine (HX _ hU.rd).mono ?_; rintro e w' ⟨rfl, hw'⟩; have hw2 := hw'.symm; subst hw2; clear hw'))
    go_ret
    exact ⟨rfl, hT.trans hU⟩
  · rw [HT1 he]
    obtain ⟨_, hv⟩ := HV he
    have hv : t = [] := hv
    subst hv
    have HR := fun w (h : RD w b x) => refuse_any b x r.pos x.err w h
    have hne : (x.err != 0) = true := by simpa using he
    have hd : decide (x.err = 0) = false := decide_eq_false he
    clear HT1 HT2 HV
    generalize x.refuse r.pos x.err = z at *
    generalize r.pos = p at *
    generalize x.err = y at *
    go_enter Tryz.func39, Tryz.ntmps39
    go_wp2_with (first
      | (go_at_call 87; refine HA.mono ?_; rintro e w' ⟨rfl, hw'⟩; have hw2 := hw'.symm; subst hw2; clear hw')
      | (go_at_call 89; refine (HC _ h).mono ?_; rintro e w1 ⟨rfl, hT⟩)
      | (go_at_call 88; refine (HB _ hT.rd).mono ?_; rintro e w2 ⟨rfl, hU⟩)
      | (go_at_call 90; refine (HX _ hU.rd).mono ?_; rintro e w' ⟨rfl, hw'⟩; have hw2 := hw'.symm; subst hw2; clear hw')
      | (go_at_call 91; refine (HR _ hU.rd).mono ?_; rintro e w3 ⟨rfl, hV⟩))
    go_ret
    exact ⟨rfl, (hT.trans hU).trans hV⟩
set_option maxRecDepth 100000 in
set_option maxHeartbeats 400000 in
theorem end_any (b : Nat) (r : R) (w : World) (h : RD w b r) (hk : r.ok) (hl : r.s.length ≤ 140737488355328) :
    Calls Tryz.prog 43 #[.pointer (some ⟨b, 0, none⟩)] w fun e w' => e = .returned (.int .i64 r.fin.err) ∧ To w w' b r.fin := by
  have HL := left_any b r w h hk hl
  by_cases hp : r.pos < r.s.length
  · have HF := fun w (h : RD w b r) => fail_any b r 5 w h
    rw [show r.fail 5 = r.fin from by unfold R.fail R.fin; by_cases he : r.err = 0 <;> simp [he, hp]] at HF
    have HX := fun w (h : RD w b r.fin) => err_any b r.fin w h
    have hd : decide (0 < (r.s.length : Int) - (r.pos : Nat)) = true := decide_eq_true (by omega)
    generalize r.fin = q at *
    generalize q.err = y at *
    go_enter Tryz.func43, Tryz.ntmps43
    go_wp2_with (first
      | (go_at_call 95; refine HL.mono ?_; rintro e w1 ⟨rfl, hD⟩)
      | (go_at_call 92; refine (HF _ (h.drew hD)).mono ?_; rintro e w2 ⟨rfl, hT⟩)
      | (go_at_call 90; refine (HX _ hT.rd).mono ?_; rintro e w' ⟨rfl, hw'⟩; have hw2 := hw'.symm; subst hw2; clear hw'))
    go_ret
    exact ⟨rfl, (To.of_draws h hD).trans hT⟩
  · have hd : decide (0 < (r.s.length : Int) - (r.pos : Nat)) = false := decide_eq_false (by omega)
    rw [show r.fin = r from if_neg (fun x => hp x.2)]
    have HX := fun w (h : RD w b r) => err_any b r w h
    generalize r.err = y at *
    go_enter Tryz.func43, Tryz.ntmps43
    go_wp2_with (first
      | (go_at_call 95; refine HL.mono ?_; rintro e w1 ⟨rfl, hD⟩)
      | (go_at_call 90; refine (HX _ (h.drew hD)).mono ?_; rintro e w' ⟨rfl, hw'⟩; have hw2 := hw'.symm; subst hw2; clear hw'))
    go_ret
    exact ⟨rfl, To.of_draws h hD⟩
set_option maxRecDepth 100000 in
theorem isLast_any (v : List UInt8) (w : World) (hv1 : v.length ≤ 140737488355328) : Calls Tryz.prog 137 #[.string ⟨v.toArray⟩] w fun e w' => e = .returned (.bool (isLst v)) ∧ Below w.heap.size w w' := by
  have HR := newr_any v w
  have HT := fun w1 (h : RD w1 w.heap.size ⟨v, 0, 0⟩) => takeLast_any w.heap.size _ w1 h (ok0 _) hv1
  have HE := fun w1 (h : RD w1 w.heap.size ((((⟨v, 0, 0⟩ : R).number 8).1).bytes 32).1) => end_any w.heap.size _ w1 h (R.ok_bytes (R.ok_number (ok0 _) 8) 32) (by rw [R.bytes_s, R.number_s]; exact hv1)
  unfold isLst lastN
  generalize ((⟨v, 0, 0⟩ : R).number 8).2 = n1 at *
  generalize ((((⟨v, 0, 0⟩ : R).number 8).1).bytes 32).2 = d1 at *
  generalize ((((⟨v, 0, 0⟩ : R).number 8).1).bytes 32).1 = r1 at *
  generalize r1.fin = r2 at *
  generalize r2.err = er at *
  by_cases h0 : er = 0
  · subst h0
    have HD : Hid (decide ((0 : Int) = 0 ∧ 0 < n1) = decide (0 < n1)) := decide_eq_decide.2 (by omega)
    rw [HD.out]
    go_enter Tryz.func137, Tryz.ntmps137
    go_wp2_with (first
      | (go_at_call 38; refine HR.mono ?_; rintro e w1 ⟨rfl, hw1, hR1⟩)
      | (go_at_call 116; refine (HT _ hR1).mono ?_; rintro e w2 ⟨rfl, hT2⟩)
      | (go_at_call 43; refine (HE _ hT2.rd).mono ?_; rintro e w3 ⟨rfl, hT3⟩))
    go_ret
    exact ⟨rfl, (hT2.trans hT3).belowNew hw1 (Nat.le_refl _)⟩
  · have hb : (er == 0) = false := by rw [beq_eq_false_iff_ne]; exact h0
    have HD : Hid (decide (er = 0 ∧ 0 < n1) = false) := decide_eq_false (fun h => h0 h.1)
    rw [HD.out]
    go_enter Tryz.func137, Tryz.ntmps137
    go_wp2_with (first
      | (go_at_call 38; refine HR.mono ?_; rintro e w1 ⟨rfl, hw1, hR1⟩)
      | (go_at_call 116; refine (HT _ hR1).mono ?_; rintro e w2 ⟨rfl, hT2⟩)
      | (go_at_call 43; refine (HE _ hT2.rd).mono ?_; rintro e w3 ⟨rfl, hT3⟩))
    go_ret
    exact ⟨rfl, (hT2.trans hT3).belowNew hw1 (Nat.le_refl _)⟩
end Go.Proofs.YtmbdhngoldganaaGreatDoor
namespace Go.Proofs.YtmbdhngoldganaaGreatDoor
open Go Go.RowKit Go.Maps
/-- May a text have this, as the program asks it? -/
def mayP (a v : List UInt8) : Bool := bif Lib.hasPrefix a [107] then !(Lib.trimPrefix a [107]).isEmpty else (Lib.hasPrefix a [110] && (decide ((Lib.trimPrefix a [110]).length = 8) && isLst v))
/-- The last text. -/
def lastK (l : List KV) : List UInt8 := (l.getLast?.map (·.1)).getD []
theorem lastK_snoc (l : List KV) (p : KV) : lastK (l ++ [p]) = p.1 := by simp [lastK]
/-- Is the next text wrong? -/
def dBad (out : List KV) (a v : List UInt8) : Bool := decide (a ≤ lastK out) || !mayP a v
/-- The reader and the texts behind so many rounds. -/
def dS (r0 : R) : Nat → R × List KV
  | 0 => (r0, [])
  | i + 1 => (bif dBad (dS r0 i).2 ((dS r0 i).1.text 33).2 (((dS r0 i).1.text 33).1.text 64).2 then (((dS r0 i).1.text 33).1.text 64).1.fail 6 else (((dS r0 i).1.text 33).1.text 64).1, (dS r0 i).2 ++ [(((dS r0 i).1.text 33).2, (((dS r0 i).1.text 33).1.text 64).2)])
def dC (b : List UInt8) : R × Nat := (⟨b, 0, 0⟩ : R).count 1024
/-- The error that Decode tells. -/
def dE (b : List UInt8) : Int := (dS (dC b).1 (dC b).2).1.fin.err
/-- The texts that were read. -/
def dM (b : List UInt8) : List KV := (dS (dC b).1 (dC b).2).2
theorem dS_len (r0 : R) : ∀ i, (dS r0 i).2.length = i
  | 0 => rfl
  | i + 1 => by simp [dS, dS_len r0 i]
theorem dS_ok {r0 : R} (h : r0.ok) : ∀ i, (dS r0 i).1.ok
  | 0 => h
  | i + 1 => by
    have h2 := R.ok_text (R.ok_text (dS_ok h i) 33) 64
    unfold dS
    cases dBad (dS r0 i).2 ((dS r0 i).1.text 33).2 (((dS r0 i).1.text 33).1.text 64).2
    · exact h2
    · exact R.ok_fail h2 6
theorem dS_s (r0 : R) : ∀ i, (dS r0 i).1.s = r0.s
  | 0 => rfl
  | i + 1 => by
    have h2 := dS_s r0 i
    unfold dS
    cases dBad (dS r0 i).2 ((dS r0 i).1.text 33).2 (((dS r0 i).1.text 33).1.text 64).2
    · simp only [cond_false, R.text_s, h2]
    · simp only [cond_true, R.fail_s, R.text_s, h2]
theorem R.text_le (r : R) (m : Nat) : (r.text (m : Nat)).2.length ≤ m := by
  have hc := R.count_le r m
  unfold R.text
  split
  · simp
  · unfold R.bytes
    split
    · simp
    · split
      · simp
      · split
        · simp
        · simp only [List.length_take, Int.toNat_natCast]
          omega
theorem R.text_err {r : R} {m : Int} (h : (r.text m).1.err = 0) : r.err = 0 := by
  by_cases e : r.err = 0
  · exact e
  · rw [R.text_keep m e] at h
    exact h
/-- What was read without an error. -/
structure DG (out : List KV) : Prop where
  ris : Ris out
  each : ∀ p ∈ out, mayP p.1 p.2 = true ∧ p.1.length ≤ 33 ∧ p.2.length ≤ 64
theorem ris_last {out : List KV} (h : Ris out) {q : KV} (hq : q ∈ out) : q.1 ≤ lastK out := by
  rcases List.eq_nil_or_concat out with e | ⟨l, p, e⟩
  · subst e
    cases hq
  · subst e
    rw [List.concat_eq_append, lastK_snoc]
    rw [List.concat_eq_append] at h hq
    rcases List.mem_append.1 hq with h1 | h1
    · exact before_le ((List.pairwise_append.1 h).2.2 q h1 p (by simp))
    · simp at h1
      subst h1
      exact List.le_refl _
theorem ris_snoc {out : List KV} (h : Ris out) {p : KV} (hp : ¬ p.1 ≤ lastK out) : Ris (out ++ [p]) := by
  refine List.pairwise_append.2 ⟨h, by simp, fun q hq x hx => ?_⟩
  simp at hx
  subst hx
  rw [before_lt]
  exact Std.lt_of_le_of_lt (ris_last h hq) (List.not_le.1 hp)
theorem dS_good {r0 : R} : ∀ i, (dS r0 i).1.err = 0 → DG (dS r0 i).2
  | 0, _ => ⟨List.Pairwise.nil, by simp [dS]⟩
  | i + 1, h => by
    have hle1 := R.text_le (dS r0 i).1 33
    have hle2 := R.text_le ((dS r0 i).1.text 33).1 64
    rw [dS] at h ⊢
    simp only at h ⊢
    change ((dS r0 i).1.text 33).2.length ≤ 33 at hle1
    change (((dS r0 i).1.text 33).1.text 64).2.length ≤ 64 at hle2
    cases hb : dBad (dS r0 i).2 ((dS r0 i).1.text 33).2 (((dS r0 i).1.text 33).1.text 64).2
    · rw [hb, cond_false] at h
      have hg := dS_good i (R.text_err (R.text_err h))
      unfold dBad at hb
      simp only [Bool.or_eq_false_iff, decide_eq_false_iff_not, Bool.not_eq_false'] at hb
      refine ⟨ris_snoc hg.ris hb.1, fun p hp => ?_⟩
      rcases List.mem_append.1 hp with h1 | h1
      · exact hg.each p h1
      · simp at h1
        subst h1
        exact ⟨hb.2, hle1, hle2⟩
    · rw [hb, cond_true] at h
      exact absurd (R.fail_zero h).2 (by decide)
end Go.Proofs.YtmbdhngoldganaaGreatDoor
namespace Go.Proofs.YtmbdhngoldganaaGreatDoor
open Go Go.RowKit Go.Maps
theorem cut_any (s p : List UInt8) (w : World) : Calls Tryz.prog 136 #[.string ⟨s.toArray⟩, .string ⟨p.toArray⟩] w fun e w' => e = .returned (.tuple #[.string ⟨(Lib.trimPrefix s p).toArray⟩, .bool (Lib.hasPrefix s p)]) ∧ w' = w := Any.strings_CutPrefix layCut ⟨s.toArray⟩ ⟨p.toArray⟩ w
theorem mayHave_any (a v : List UInt8) (w : World) (ha : a.length ≤ 1000) (hv1 : v.length ≤ 140737488355328) : Calls Tryz.prog 97 #[.string ⟨a.toArray⟩, .string ⟨v.toArray⟩] w fun e w' => e = .returned (.bool (mayP a v)) ∧ Below w.heap.size w w' := by
  have HK := fun w => cut_any a [107] w
  have HN := fun w => cut_any a [110] w
  have HL := fun w => isLast_any v w hv1
  unfold mayP
  have hl : (Lib.trimPrefix a [110]).length ≤ 1000 := by
    unfold Lib.trimPrefix
    split
    · rw [List.length_drop]; omega
    · exact ha
  generalize Lib.trimPrefix a [107] = t1 at *
  generalize Lib.trimPrefix a [110] = t2 at *
  generalize isLst v = b3 at *
  generalize Lib.hasPrefix a [107] = b1 at *
  generalize Lib.hasPrefix a [110] = b2 at *
  cases b1
  · rw [cond_false]
    cases b2
    · rw [Bool.false_and]
      go_enter Tryz.func97, Tryz.ntmps97
      go_wp2_with (first
        | (go_at_call 136; first | (refine (HK _).mono ?_; clear HK; rintro e w1 ⟨rfl, hw1⟩; have hw1 := hw1.symm; subst hw1) | (refine (HN _).mono ?_; rintro e w2 ⟨rfl, hw2⟩; have hw2 := hw2.symm; subst hw2))
        | (go_at_call 137; refine (HL _).mono ?_; rintro e w3 ⟨rfl, hw3⟩))
      go_ret
      exact ⟨rfl, Below.refl _ _⟩
    · rw [Bool.true_and]
      by_cases h8 : t2.length = 8
      · have hd : decide (t2.length = 8) = true := decide_eq_true h8
        rw [hd, Bool.true_and]
        have hb : ((t2.length : Int) == 8) = true := by rw [beq_iff_eq]; omega
        have h8 : Hid (t2.length = 8) := h8
        go_enter Tryz.func97, Tryz.ntmps97
        go_wp2_with (first
          | (go_at_call 136; first | (refine (HK _).mono ?_; clear HK; rintro e w1 ⟨rfl, hw1⟩; have hw1 := hw1.symm; subst hw1) | (refine (HN _).mono ?_; rintro e w2 ⟨rfl, hw2⟩; have hw2 := hw2.symm; subst hw2))
          | (go_at_call 137; refine (HL _).mono ?_; rintro e w3 ⟨rfl, hw3⟩))
        go_ret
        exact ⟨rfl, hw3⟩
      · have hd : decide (t2.length = 8) = false := decide_eq_false h8
        rw [hd, Bool.false_and]
        have hb : ((t2.length : Int) == 8) = false := by rw [beq_eq_false_iff_ne]; omega
        have h8 : Hid (¬ t2.length = 8) := h8
        go_enter Tryz.func97, Tryz.ntmps97
        go_wp2_with (first
          | (go_at_call 136; first | (refine (HK _).mono ?_; clear HK; rintro e w1 ⟨rfl, hw1⟩; have hw1 := hw1.symm; subst hw1) | (refine (HN _).mono ?_; rintro e w2 ⟨rfl, hw2⟩; have hw2 := hw2.symm; subst hw2))
          | (go_at_call 137; refine (HL _).mono ?_; rintro e w3 ⟨rfl, hw3⟩))
        go_ret
        exact ⟨rfl, Below.refl _ _⟩
  · rw [cond_true]
    go_enter Tryz.func97, Tryz.ntmps97
    go_wp2_with (first
      | (go_at_call 136; first | (refine (HK _).mono ?_; clear HK; rintro e w1 ⟨rfl, hw1⟩; have hw1 := hw1.symm; subst hw1)))
    go_ret
    refine ⟨?_, Below.refl _ _⟩
    congr 2
theorem set_set (w : World) (b : Nat) (x y : Obj) : Go.ChangeMaps.setBlock (Go.ChangeMaps.setBlock w b x) b y = Go.ChangeMaps.setBlock w b y := by
  unfold Go.ChangeMaps.setBlock
  simp
theorem run_entryM {w : World} {b : Nat} {m : List KV} (hown : MB w b m) (hn : m.length < maxLen) {s v : List UInt8} (hs : s.length ≤ maxLen) (hv1 : v.length ≤ maxLen) :
    ∃ (v0 : Value) (st : Nat) (w1 w2 : World), (Instr.mapEntry 165 (.map (some b)) (.string ⟨s.toArray⟩)).run Tryz.prog w = .ok (.tuple #[v0, .int .i64 st]) w1 ∧
      (Instr.entryStore 165 (.map (some b)) (.int .i64 st) (.agg #[.string ⟨v.toArray⟩])).run Tryz.prog w1 = .ok () w2 ∧ MB w2 b (putM s v m) ∧ w.grownBy w2 (some b) := by
  obtain ⟨w3, hrun, r1, r2⟩ := run_putM hown hn hs hv1
  obtain ⟨es, clock, hb, F, hz, hD⟩ := hown
  obtain ⟨v0, st, es1, c1, e1, _, e2⟩ := Go.WideElems.entry_then_store (Go.WideMaps.string_law Tryz.underlying9) Tryz.underlying165 (fun u => zHeld.1 u) hb F (key9 hs)
  obtain ⟨es2, c2, e3, e4⟩ := e2 (Go.ChangeMaps.setBlock w b (.map es1 c1)) (hv v) (by have hlt : b < w.heap.size := World.ownsMap.lt ⟨es, clock, hb, F, hz, hD⟩; unfold Go.ChangeMaps.setBlock; show (w.heap.setIfInBounds b _)[b]? = _; rw [Array.getElem?_setIfInBounds_self, if_pos hlt])
  rw [set_set] at e3
  have := hrun.symm.trans e4
  cases this
  exact ⟨v0, st, _, _, e1, e3, r1, r2⟩
end Go.Proofs.YtmbdhngoldganaaGreatDoor
namespace Go.Proofs.YtmbdhngoldganaaGreatDoor
open Go Go.RowKit Go.Maps
set_option maxRecDepth 100000 in
theorem new_mb (w : World) : Calls Tryz.prog 96 #[] w fun e w' => e = .returned (.pointer (some ⟨w.heap.size + 1, 0, none⟩)) ∧ Below w.heap.size w w' ∧ Blk w' (w.heap.size + 1) #[.map (some w.heap.size)] 167 ∧ MB w' w.heap.size [] := by
  have hmm := @run_makeMap Tryz.prog
  go_enter Tryz.func96, Tryz.ntmps96
  go_wp2
  go_ret
  refine ⟨rfl, ((Below.refl _ w).alloc (Nat.le_refl _) _).alloc (by simp) _, ?_, ?_⟩
  · have := Blk.new (w.alloc (.map #[] 0)) #[.map (some w.heap.size)] 167
    simpa using this
  · exact MP.of (World.ownsMap.alloc (World.ownsMap_made w Tryz.prog 9 hld) _) rfl
/-- A reader and a state that grows. -/
structure DQ (w wl : World) (rb ob mb : Nat) (r : R) (m : List KV) : Prop where
  rd : RD wl rb r
  st : Blk wl ob #[.map (some mb)] 167
  mp : MB wl mb m
  bl : Below w.heap.size w wl
  ne : ob ≠ rb
  lor : w.heap.size ≤ rb
  lom : w.heap.size ≤ mb
theorem DQ.to {w wl w2 : World} {rb ob mb : Nat} {r r2 : R} {m : List KV} (h : DQ w wl rb ob mb r m) (k : To wl w2 rb r2) : DQ w w2 rb ob mb r2 m :=
  ⟨k.rd, h.st.grown k.grown (fun e => h.ne (Option.some.inj e)), h.mp.kept k.grown (fun e => h.mp.blk_ne h.rd.blk (Option.some.inj e).symm), h.bl.trans (below_of_grown k.grown h.lor h.bl.size), h.ne, h.lor, h.lom⟩
theorem DQ.below {w wl w2 : World} {rb ob mb : Nat} {r : R} {m : List KV} (h : DQ w wl rb ob mb r m) (k : Below wl.heap.size wl w2) : DQ w w2 rb ob mb r m :=
  ⟨h.rd.below k, h.st.belowSize k, h.mp.below k, h.bl.trans (k.mono h.bl.size), h.ne, h.lor, h.lom⟩
theorem DQ.put {w wl w2 : World} {rb ob mb : Nat} {r : R} {m m2 : List KV} (h : DQ w wl rb ob mb r m) (hM : MB w2 mb m2) (hg : wl.grownBy w2 (some mb)) : DQ w w2 rb ob mb r m2 :=
  ⟨⟨h.rd.blk.grown hg (fun e => h.mp.blk_ne h.rd.blk (Option.some.inj e))⟩, h.st.grown hg (fun e => h.mp.blk_ne h.st (Option.some.inj e)), hM, h.bl.trans (below_of_grown hg h.lom h.bl.size), h.ne, h.lor, h.lom⟩
theorem DQ.c0 {w wl : World} {rb ob mb : Nat} {r : R} {m : List KV} (h : DQ w wl rb ob mb r m) : wl.cell? ⟨ob, 0, none⟩ = some (.map (some mb)) := h.st.cell 0
def mapD (l : List KV) : List KV := l.foldl (fun m p => putM p.1 p.2 m) []
theorem mapD_snoc (l : List KV) (p : KV) : mapD (l ++ [p]) = putM p.1 p.2 (mapD l) := by unfold mapD; rw [List.foldl_append]; rfl
theorem fold_len : ∀ (l : List KV) (m : List KV), (l.foldl (fun m p => putM p.1 p.2 m) m).length ≤ m.length + l.length
  | [], m => by simp
  | p :: l, m => by
    have h1 := putM_length p.1 p.2 m
    have h2 := fold_len l (putM p.1 p.2 m)
    simp only [List.foldl_cons, List.length_cons]
    omega
theorem mapD_len (l : List KV) : (mapD l).length ≤ l.length := by
  have := fold_len l []
  simpa [mapD] using this
/-- What Decode leaves. -/
def DecP (er : Int) (m : List KV) (w : World) (e : Ending) (w' : World) : Prop := ∃ p : Value, e = .returned (.tuple #[p, .int .i64 er]) ∧ Below w.heap.size w w' ∧ (er ≠ 0 → p = .pointer none) ∧ (er = 0 → ∃ ob, w.heap.size ≤ ob ∧ p = .pointer (some ⟨ob, 0, none⟩) ∧ ST w' ob m)
theorem dC_le (b : List UInt8) : (dC b).2 ≤ 1024 := R.count_le _ 1024
set_option maxRecDepth 100000 in
set_option maxHeartbeats 1000000 in
theorem decode_any (b : List UInt8) (w : World) (hl : b.length ≤ 140737488355328) : Calls Tryz.prog 44 #[.string ⟨b.toArray⟩] w (DecP (dE b) (mapD (dM b)) w) := by
  have HR := newr_any b w
  have HC := fun w1 (h : RD w1 w.heap.size ⟨b, 0, 0⟩) => count_any w.heap.size _ 1024 w1 h (ok0 b) hl (by decide)
  have hqk : (dC b).1.ok := R.ok_count (ok0 b) 1024
  have hqs : (dC b).1.s = b := R.count_s _ 1024
  have hn8 := dC_le b
  have HE : Hid (dE b = (dS (dC b).1 (dC b).2).1.fin.err) := by exact rfl
  have HM : Hid (dM b = (dS (dC b).1 (dC b).2).2) := by exact rfl
  change ∀ w1, RD w1 w.heap.size ⟨b, 0, 0⟩ → Calls Tryz.prog 89 _ w1 fun e w' => e = .returned (.int .i64 ((dC b).2 : Nat)) ∧ To w1 w' w.heap.size (dC b).1 at HC
  generalize dE b = er at *
  generalize dM b = mD at *
  generalize dC b = q0 at *
  obtain ⟨q, n⟩ := q0
  dsimp only at *
  go_enter Tryz.func44, Tryz.ntmps44
  go_wp2_with (first
    | (go_at_call 38; refine HR.mono ?_; rintro e w1 ⟨rfl, hw1, hR1⟩)
    | (go_at_call 96; refine (new_mb _).mono ?_; rintro e w2 ⟨rfl, hw2, hS2, hM2⟩; have hQ2 : DQ w w2 w.heap.size (w1.heap.size + 1) w1.heap.size ⟨b, 0, 0⟩ [] := ⟨hR1.below hw2, hS2, hM2, hw1.trans (hw2.mono hw1.size), by have := hw1.size; omega, Nat.le_refl _, hw1.size⟩)
    | (go_at_call 89; refine (HC _ hQ2.rd).mono ?_; rintro e w3 ⟨rfl, hT3⟩; have hQ3 := hQ2.to hT3))
  have HZ : Hid (lastK (dS q 0).2 = [] ∧ (dS q 0).1 = q ∧ mapD (dS q 0).2 = []) := ⟨rfl, rfl, rfl⟩
  clear hw2 hR1 hS2 hM2 hQ2 hT3 HR HC
  have hlo : w.heap.size ≤ w1.heap.size + 1 := Nat.le_succ_of_le hw1.size
  clear hw1
  generalize hob : w1.heap.size + 1 = ob at *
  generalize hmb : w1.heap.size = mb at *
  clear hob hmb
  go_loopw [6, 15] (fun v6 v15 wl => ∃ i : Nat, i ≤ n ∧ v15 = .int .i64 i ∧ v6 = .string ⟨(lastK (dS q i).2).toArray⟩ ∧ DQ w wl w.heap.size ob mb (dS q i).1 (mapD (dS q i).2)) (fun _ v15 _ => n - (intOf v15).toNat)
  case atStart => exact ⟨0, by omega, rfl, by rw [HZ.out.1], by rw [HZ.out.2.1, HZ.out.2.2]; exact hQ3⟩
  case round =>
    obtain ⟨i, hi, rfl, rfl, hQ⟩ := hrel
    clear hQ3
    by_cases hlt : i < n
    · have hok := dS_ok hqk i
      have hss := (dS_s q i).trans hqs
      have H1 := fun w1 (h : RD w1 w.heap.size (dS q i).1) => text_any w.heap.size _ 33 w1 h hok (by rw [hss]; exact hl) (by decide)
      have H2 := fun w1 (h : RD w1 w.heap.size ((dS q i).1.text 33).1) => text_any w.heap.size _ 64 w1 h (R.ok_text hok 33) (by rw [R.text_s, hss]; exact hl) (by decide)
      have hle1 := R.text_le (dS q i).1 33
      have hle2 := R.text_le ((dS q i).1.text 33).1 64
      change ((dS q i).1.text 33).2.length ≤ 33 at hle1
      change (((dS q i).1.text 33).1.text 64).2.length ≤ 64 at hle2
      have hml := mapD_len (dS q i).2
      rw [dS_len] at hml
      have HS : Hid (dS q (i + 1) = (bif dBad (dS q i).2 ((dS q i).1.text 33).2 (((dS q i).1.text 33).1.text 64).2 then (((dS q i).1.text 33).1.text 64).1.fail 6 else (((dS q i).1.text 33).1.text 64).1, (dS q i).2 ++ [(((dS q i).1.text 33).2, (((dS q i).1.text 33).1.text 64).2)])) := rfl
      generalize dS q i = x at *
      obtain ⟨r, out⟩ := x
      dsimp only at *
      generalize (r.text 33).1.text 64 = t2 at *
      generalize r.text 33 = t1 at *
      obtain ⟨r1, a⟩ := t1
      obtain ⟨r2, v⟩ := t2
      dsimp only at *
      have HL : Hid (lastK (out ++ [(a, v)]) = a) := lastK_snoc _ _
      have HD : Hid (mapD (out ++ [(a, v)]) = putM a v (mapD out)) := mapD_snoc _ _
      have HF := fun w1 (h : RD w1 w.heap.size r2) => fail_any w.heap.size r2 6 w1 h
      have HY := fun w1 => mayHave_any a v w1 (by omega) (by omega)
      have HP := fun w1 (h : MB w1 mb (mapD out)) => run_entryM h (by unfold maxLen; omega) (s := a) (v := v) (by unfold maxLen; omega) (by unfold maxLen; omega)
      unfold dBad at HS
      generalize mapD out = m at *
      generalize putM a v m = m2 at *
      generalize lastK out = la at *
      -- ROUNDS
      cases hx1 : Op.bytesLess a la
      · by_cases hae : a = la
        · have hx2 : (a == la) = true := by rw [beq_iff_eq]; exact hae
          have hbad : Hid (decide (a ≤ la) = true) := decide_eq_true (by rw [hae]; exact List.le_refl _)
          rw [hbad.out, Bool.true_or, cond_true] at HS
          clear hae
          go_wp2_with (first
            | (go_at_call 39; refine (H1 _ hQ.rd).mono ?_; clear H1; rintro e w4 ⟨rfl, hT4⟩; have hQ4 := hQ.to hT4)
            | (go_at_call 39; refine (H2 _ hQ4.rd).mono ?_; clear H2; rintro e w5 ⟨rfl, hT5⟩; have hQ5 := hQ4.to hT5)
            | (go_at_call 92; refine (HF _ hQ5.rd).mono ?_; rintro e w6 ⟨rfl, hT6⟩; have hQ7 := hQ5.to hT6; obtain ⟨v0, st, w8, w9, hr1, hr2, hM9, hg9⟩ := HP _ hQ7.mp; have c7 := hQ7.c0; have hQ9 := hQ7.put hM9 hg9))
          go_roundw
          case rel => exact ⟨i + 1, by omega, by go_num, by rw [HS.out]; exact congrArg (fun z : List UInt8 => Value.string ⟨z.toArray⟩) HL.out.symm, by rw [HS.out]; simp only [HD.out]; exact hQ9⟩
          case measure => simp [intOf]; omega
        · have hx2 : (a == la) = false := by rw [beq_eq_false_iff_ne]; exact hae
          have hbad : Hid (decide (a ≤ la) = false) := decide_eq_false (fun h => by
            rw [bytesLess_eq] at hx1
            exact absurd (Std.lt_of_le_of_ne h hae) (of_decide_eq_false hx1))
          rw [hbad.out, Bool.false_or] at HS
          clear hae
          cases hmy : mayP a v
          · rw [hmy] at HY HS
            rw [show (!false) = true from rfl, cond_true] at HS
            clear hmy
            go_wp2_with (first
              | (go_at_call 39; refine (H1 _ hQ.rd).mono ?_; clear H1; rintro e w4 ⟨rfl, hT4⟩; have hQ4 := hQ.to hT4)
              | (go_at_call 39; refine (H2 _ hQ4.rd).mono ?_; clear H2; rintro e w5 ⟨rfl, hT5⟩; have hQ5 := hQ4.to hT5)
              | (go_at_call 97; refine (HY _).mono ?_; rintro e w6 ⟨rfl, hw6⟩; have hQ6 := hQ5.below hw6)
              | (go_at_call 92; refine (HF _ hQ6.rd).mono ?_; rintro e w7 ⟨rfl, hT7⟩; have hQ7 := hQ6.to hT7; obtain ⟨v0, st, w8, w9, hr1, hr2, hM9, hg9⟩ := HP _ hQ7.mp; have c7 := hQ7.c0; have hQ9 := hQ7.put hM9 hg9))
            go_roundw
            case rel => exact ⟨i + 1, by omega, by go_num, by rw [HS.out]; exact congrArg (fun z : List UInt8 => Value.string ⟨z.toArray⟩) HL.out.symm, by rw [HS.out]; simp only [HD.out]; exact hQ9⟩
            case measure => simp [intOf]; omega
          · rw [hmy] at HY HS
            rw [show (!true) = false from rfl, cond_false] at HS
            clear hmy
            go_wp2_with (first
              | (go_at_call 39; refine (H1 _ hQ.rd).mono ?_; clear H1; rintro e w4 ⟨rfl, hT4⟩; have hQ4 := hQ.to hT4)
              | (go_at_call 39; refine (H2 _ hQ4.rd).mono ?_; clear H2; rintro e w5 ⟨rfl, hT5⟩; have hQ5 := hQ4.to hT5)
              | (go_at_call 97; refine (HY _).mono ?_; rintro e w6 ⟨rfl, hw6⟩; have hQ7 := hQ5.below hw6; obtain ⟨v0, st, w8, w9, hr1, hr2, hM9, hg9⟩ := HP _ hQ7.mp; have c7 := hQ7.c0; have hQ9 := hQ7.put hM9 hg9))
            go_roundw
            case rel => exact ⟨i + 1, by omega, by go_num, by rw [HS.out]; exact congrArg (fun z : List UInt8 => Value.string ⟨z.toArray⟩) HL.out.symm, by rw [HS.out]; simp only [HD.out]; exact hQ9⟩
            case measure => simp [intOf]; omega
      · have hbad : Hid (decide (a ≤ la) = true) := decide_eq_true (List.le_of_lt (by rw [bytesLess_eq] at hx1; exact of_decide_eq_true hx1))
        rw [hbad.out, Bool.true_or, cond_true] at HS
        go_wp2_with (first
          | (go_at_call 39; refine (H1 _ hQ.rd).mono ?_; clear H1; rintro e w4 ⟨rfl, hT4⟩; have hQ4 := hQ.to hT4)
          | (go_at_call 39; refine (H2 _ hQ4.rd).mono ?_; clear H2; rintro e w5 ⟨rfl, hT5⟩; have hQ5 := hQ4.to hT5)
          | (go_at_call 92; refine (HF _ hQ5.rd).mono ?_; rintro e w6 ⟨rfl, hT6⟩; have hQ7 := hQ5.to hT6; obtain ⟨v0, st, w8, w9, hr1, hr2, hM9, hg9⟩ := HP _ hQ7.mp; have c7 := hQ7.c0; have hQ9 := hQ7.put hM9 hg9))
        go_roundw
        case rel => exact ⟨i + 1, by omega, by go_num, by rw [HS.out]; exact congrArg (fun z : List UInt8 => Value.string ⟨z.toArray⟩) HL.out.symm, by rw [HS.out]; simp only [HD.out]; exact hQ9⟩
        case measure => simp [intOf]; omega
    · have hin : i = n := by omega
      subst hin
      clear hlt hi
      have HF := fun w1 (h : RD w1 w.heap.size (dS q i).1) => end_any w.heap.size _ w1 h (dS_ok hqk i) (by rw [(dS_s q i).trans hqs]; exact hl)
      rw [← HE.out] at HF
      by_cases he : er = 0
      · have hb : (er == 0) = true := by rw [beq_iff_eq]; exact he
        go_wp2_with (go_at_call 43; refine (HF _ hQ.rd).mono ?_; rintro e w4 ⟨rfl, hT4⟩; have hQ4 := hQ.to hT4)
        go_ret2
        exact ⟨.pointer (some ⟨ob, 0, none⟩), by rw [he]; rfl, hQ4.bl, fun h => absurd he h, fun _ => ⟨ob, hlo, rfl, ⟨mb, hQ4.st, by rw [HM.out]; exact hQ4.mp⟩⟩⟩
      · have hb : (er == 0) = false := by rw [beq_eq_false_iff_ne]; exact he
        go_wp2_with (go_at_call 43; refine (HF _ hQ.rd).mono ?_; rintro e w4 ⟨rfl, hT4⟩; have hQ4 := hQ.to hT4)
        go_ret2
        exact ⟨.pointer none, rfl, hQ4.bl, fun _ => rfl, fun h => absurd h he⟩
end Go.Proofs.YtmbdhngoldganaaGreatDoor
