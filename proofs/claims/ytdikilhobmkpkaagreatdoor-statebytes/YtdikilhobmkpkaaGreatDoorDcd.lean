/- Decode, plainly. What mayHave does; a text is put by its entry. What Decode does. -/
import Derived.Test.YtdikilhobmkpkaaGreatDoorEql
import Derived.Shelf.Small.Wraps
import Derived.Test.YtdikilhobmkpkaaGreatDoorLay
import Derived.WideKeyEntry
namespace Go.Proofs.YtdikilhobmkpkaaGreatDoor
open Go Go.RowKit Go.Maps
def zs8 : List UInt8 := [0, 0, 0, 0, 0, 0, 0, 0]
theorem val_zs : val zs8 = 0 := by decide
theorem num_zs : num 0 8 = zs8 := by decide
theorem val_pos (x : List UInt8) (h : x.length = 8) : decide (0 < val x) = !(x == zs8) := by
  by_cases h0 : val x = 0
  · have e := num_val 8 x h
    rw [h0, num_zs] at e
    subst e
    decide
  · rw [decide_eq_true (by omega)]
    have : (x == zs8) = false := by
      rw [beq_eq_false_iff_ne]
      intro e
      rw [e, val_zs] at h0
      exact h0 rfl
    rw [this]
    rfl
theorem isLst_eq (v : List UInt8) : isLst v = (decide (v.length = 40) && !(v.take 8 == zs8)) := by
  unfold isLst lastN
  by_cases h : v.length = 40
  · obtain ⟨x, y, rfl, hx, hy⟩ : ∃ x y, v = x ++ y ∧ x.length = 8 ∧ y.length = 32 := ⟨v.take 8, v.drop 8, (List.take_append_drop 8 v).symm, by rw [List.length_take]; omega, by rw [List.length_drop]; omega⟩
    have h1 := R.number_at [] x y 8 (by rw [hx]; rfl) (by omega)
    rw [List.nil_append, List.length_nil, hx, Nat.zero_add] at h1
    have h2 := R.bytes_at x y []
    rw [List.append_nil, hx, hy] at h2
    rw [h1]
    simp only
    rw [show ((32 : Int)) = ((32 : Nat) : Int) from rfl, h2]
    have h3 : ((⟨x ++ y, 8 + 32, 0⟩ : R).fin).err = 0 := by
      unfold R.fin
      rw [if_neg (by simp only [List.length_append]; omega)]
    rw [decide_eq_true h, Bool.true_and, List.take_left' hx, ← val_pos x hx]
    exact decide_eq_decide.2 ⟨fun h => h.2, fun h => ⟨h3, h⟩⟩
  · rw [decide_eq_false h, Bool.false_and]
    refine decide_eq_false (fun hh => ?_)
    obtain ⟨hz, _⟩ := R.fin_zero (R.ok_bytes (R.ok_number (ok0 v) 8) 32) hh.1
    have hp := (R.fin_zero (R.ok_bytes (R.ok_number (ok0 v) 8) 32) hh.1).2
    rw [R.bytes_s, R.number_s] at hp
    have hn0 : ((⟨v, 0, 0⟩ : R).number 8).1.err = 0 := by
      by_cases e : ((⟨v, 0, 0⟩ : R).number 8).1.err = 0
      · exact e
      · rw [R.bytes_keep 32 e] at hz
        exact absurd hz e
    have g1 := (number_goes (k := 8) (ok0 v) (by omega) hn0).at'
    have g2 := bytes_goes (k := 32) (R.ok_number (ok0 v) 8) hz
    have l1 := congrArg List.length g1
    have l2 := congrArg List.length g2.1.at'
    have o1 : ((⟨v, 0, 0⟩ : R).number 8).1.pos ≤ v.length := by have := R.ok_number (ok0 v) 8; unfold R.ok at this; rw [R.number_s] at this; exact this
    have o2 := hp
    rw [List.length_append, g2.2, R.number_s, List.length_take, List.length_take] at l2
    rw [List.length_append, num_length, List.length_take, List.length_take] at l1
    change ((((⟨v, 0, 0⟩ : R).number 8).1).bytes 32).1.pos = v.length at hp
    change min ((((⟨v, 0, 0⟩ : R).number 8).1).bytes 32).1.pos v.length = min ((⟨v, 0, 0⟩ : R).number 8).1.pos v.length + 32 at l2
    change min ((⟨v, 0, 0⟩ : R).number 8).1.pos v.length = min 0 v.length + 8 at l1
    omega
/-- May a text have this, as the program asks it? -/
def mayP (a v : List UInt8) : Bool := bif Lib.hasPrefix a [107] then !(Lib.trimPrefix a [107]).isEmpty else (Lib.hasPrefix a [110] && (decide ((Lib.trimPrefix a [110]).length = 8) && isLst v))
/-- May a text have this, as the plain model asks it? -/
def rightP (a v : List UInt8) : Bool := bif (decide (2 ≤ a.length) && (a.getD 0 0 == 107)) then (decide (a.length ≤ 33) && decide (v.length ≤ 64)) else ((decide (a.length = 9) && (a.getD 0 0 == 110)) && (decide (v.length = 40) && !(v.take 8 == zs8)))
theorem pre_one (x c : UInt8) (r : List UInt8) : Lib.hasPrefix (x :: r) [c] = (c == x) := by simp [Lib.hasPrefix, List.isPrefixOf]
theorem may_right (a v : List UInt8) (ha : a.length ≤ 33) (hv : v.length ≤ 64) : mayP a v = rightP a v := by
  unfold mayP rightP
  rw [isLst_eq]
  cases a with
  | nil => simp [Lib.hasPrefix, List.isPrefixOf]
  | cons x r =>
    rw [pre_one, pre_one]
    unfold Lib.trimPrefix
    rw [pre_one, pre_one]
    simp only [List.length_cons] at ha
    by_cases h1 : x = 107
    · subst h1
      cases r with
      | nil => simp
      | cons y r =>
        simp only [List.length_cons] at ha
        simp
        omega
    · have e1 : ((107 : UInt8) == x) = false := by rw [beq_eq_false_iff_ne]; exact fun e => h1 e.symm
      have e2 : (x == (107 : UInt8)) = false := by rw [beq_eq_false_iff_ne]; exact h1
      rw [e1, cond_false]
      simp only [List.getD_cons_zero, e2, Bool.and_false, cond_false]
      by_cases h2 : x = 110
      · subst h2
        simp
      · have e3 : ((110 : UInt8) == x) = false := by rw [beq_eq_false_iff_ne]; exact fun e => h2 e.symm
        have e4 : (x == (110 : UInt8)) = false := by rw [beq_eq_false_iff_ne]; exact h2
        rw [e3, e4]
        simp
/-- The last text. -/
def lastK (l : List KV) : List UInt8 := (l.getLast?.map (·.1)).getD []
theorem lastK_snoc (l : List KV) (p : KV) : lastK (l ++ [p]) = p.1 := by simp [lastK]
/-- Is the next text wrong? -/
def dBad (out : List KV) (a v : List UInt8) : Bool := decide (a ≤ lastK out) || !mayP a v
/-- The reader and the texts behind so many rounds. -/
def dS (r0 : R) : Nat → R × List KV
  | 0 => (r0, [])
  | i + 1 => (bif dBad (dS r0 i).2 ((dS r0 i).1.text 33).2 (((dS r0 i).1.text 33).1.text 64).2 then (((dS r0 i).1.text 33).1.text 64).1.fail 6 else (((dS r0 i).1.text 33).1.text 64).1, (dS r0 i).2 ++ [(((dS r0 i).1.text 33).2, (((dS r0 i).1.text 33).1.text 64).2)])
def dC (b : List UInt8) : R × Nat := (⟨b, 0, 0⟩ : R).count 1024
/-- The error that Decode tells. -/
def dE (b : List UInt8) : Int := (dS (dC b).1 (dC b).2).1.fin.err
/-- The texts that were read. -/
def dM (b : List UInt8) : List KV := (dS (dC b).1 (dC b).2).2
theorem dS_len (r0 : R) : ∀ i, (dS r0 i).2.length = i
  | 0 => rfl
  | i + 1 => by simp [dS, dS_len r0 i]
theorem dS_ok {r0 : R} (h : r0.ok) : ∀ i, (dS r0 i).1.ok
  | 0 => h
  | i + 1 => by
    have h2 := R.ok_text (R.ok_text (dS_ok h i) 33) 64
    unfold dS
    cases dBad (dS r0 i).2 ((dS r0 i).1.text 33).2 (((dS r0 i).1.text 33).1.text 64).2
    · exact h2
    · exact R.ok_fail h2 6
theorem dS_s (r0 : R) : ∀ i, (dS r0 i).1.s = r0.s
  | 0 => rfl
  | i + 1 => by
    have h2 := dS_s r0 i
    unfold dS
    cases dBad (dS r0 i).2 ((dS r0 i).1.text 33).2 (((dS r0 i).1.text 33).1.text 64).2
    · simp only [cond_false, R.text_s, h2]
    · simp only [cond_true, R.fail_s, R.text_s, h2]
theorem R.fail_keep {r : R} {e : Int} (h : r.err ≠ 0) : r.fail e = r := if_neg h
theorem dS_next {r0 : R} {i : Nat} (h : (dS r0 i).1.err ≠ 0) : (dS r0 (i + 1)).1 = (dS r0 i).1 := by
  rw [dS]
  simp only [R.text_keep 33 h, R.text_keep 64 h, R.fail_keep h, Bool.cond_self]
theorem dS_keep {r0 : R} {i : Nat} (h : (dS r0 i).1.err ≠ 0) : ∀ k, (dS r0 (i + k)).1 = (dS r0 i).1
  | 0 => rfl
  | k + 1 => by
    have h1 := dS_keep h k
    rw [← Nat.add_assoc, dS_next (by rw [h1]; exact h), h1]
theorem R.text_le (r : R) (m : Nat) : (r.text (m : Nat)).2.length ≤ m := by
  have hc := R.count_le r m
  unfold R.text
  split
  · simp
  · unfold R.bytes
    split
    · simp
    · split
      · simp
      · split
        · simp
        · simp only [List.length_take, Int.toNat_natCast]
          omega
theorem R.text_err {r : R} {m : Int} (h : (r.text m).1.err = 0) : r.err = 0 := by
  by_cases e : r.err = 0
  · exact e
  · rw [R.text_keep m e] at h
    exact h
/-- What was read without an error. -/
structure DG (out : List KV) : Prop where
  ris : Ris out
  each : ∀ p ∈ out, mayP p.1 p.2 = true ∧ p.1.length ≤ 33 ∧ p.2.length ≤ 64
theorem ris_last {out : List KV} (h : Ris out) {q : KV} (hq : q ∈ out) : q.1 ≤ lastK out := by
  rcases List.eq_nil_or_concat out with e | ⟨l, p, e⟩
  · subst e
    cases hq
  · subst e
    rw [List.concat_eq_append, lastK_snoc]
    rw [List.concat_eq_append] at h hq
    rcases List.mem_append.1 hq with h1 | h1
    · exact before_le ((List.pairwise_append.1 h).2.2 q h1 p (by simp))
    · simp at h1
      subst h1
      exact List.le_refl _
theorem ris_snoc {out : List KV} (h : Ris out) {p : KV} (hp : ¬ p.1 ≤ lastK out) : Ris (out ++ [p]) := by
  refine List.pairwise_append.2 ⟨h, by simp, fun q hq x hx => ?_⟩
  simp at hx
  subst hx
  rw [before_lt]
  exact Std.lt_of_le_of_lt (ris_last h hq) (List.not_le.1 hp)
theorem dS_good {r0 : R} : ∀ i, (dS r0 i).1.err = 0 → DG (dS r0 i).2
  | 0, _ => ⟨List.Pairwise.nil, by simp [dS]⟩
  | i + 1, h => by
    have hle1 := R.text_le (dS r0 i).1 33
    have hle2 := R.text_le ((dS r0 i).1.text 33).1 64
    rw [dS] at h ⊢
    simp only at h ⊢
    change ((dS r0 i).1.text 33).2.length ≤ 33 at hle1
    change (((dS r0 i).1.text 33).1.text 64).2.length ≤ 64 at hle2
    cases hb : dBad (dS r0 i).2 ((dS r0 i).1.text 33).2 (((dS r0 i).1.text 33).1.text 64).2
    · rw [hb, cond_false] at h
      have hg := dS_good i (R.text_err (R.text_err h))
      unfold dBad at hb
      simp only [Bool.or_eq_false_iff, decide_eq_false_iff_not, Bool.not_eq_false'] at hb
      refine ⟨ris_snoc hg.ris hb.1, fun p hp => ?_⟩
      rcases List.mem_append.1 hp with h1 | h1
      · exact hg.each p h1
      · simp at h1
        subst h1
        exact ⟨hb.2, hle1, hle2⟩
    · rw [hb, cond_true] at h
      exact absurd (R.fail_zero h).2 (by decide)
end Go.Proofs.YtdikilhobmkpkaaGreatDoor
namespace Go.Proofs.YtdikilhobmkpkaaGreatDoor
open Go Go.RowKit Go.Maps
theorem cut_any (s p : List UInt8) (w : World) : Calls Tryz.prog 68 #[.string ⟨s.toArray⟩, .string ⟨p.toArray⟩] w fun e w' => e = .returned (.tuple #[.string ⟨(Lib.trimPrefix s p).toArray⟩, .bool (Lib.hasPrefix s p)]) ∧ w' = w := Any.strings_CutPrefix layCut ⟨s.toArray⟩ ⟨p.toArray⟩ w
theorem mayHave_any (a v : List UInt8) (w : World) (ha : a.length ≤ 1000) (hv1 : v.length ≤ 140737488355328) : Calls Tryz.prog 33 #[.string ⟨a.toArray⟩, .string ⟨v.toArray⟩] w fun e w' => e = .returned (.bool (mayP a v)) ∧ Below w.heap.size w w' := by
  have HK := fun w => cut_any a [107] w
  have HN := fun w => cut_any a [110] w
  have HL := fun w => isLast_any v w hv1
  unfold mayP
  have hl : (Lib.trimPrefix a [110]).length ≤ 1000 := by
    unfold Lib.trimPrefix
    split
    · rw [List.length_drop]; omega
    · exact ha
  generalize Lib.trimPrefix a [107] = t1 at *
  generalize Lib.trimPrefix a [110] = t2 at *
  generalize isLst v = b3 at *
  generalize Lib.hasPrefix a [107] = b1 at *
  generalize Lib.hasPrefix a [110] = b2 at *
  cases b1
  · rw [cond_false]
    cases b2
    · rw [Bool.false_and]
      go_enter Tryz.func33, Tryz.ntmps33
      go_wp2_with (first
        | (go_at_call 68; first | (refine (HK _).mono ?_; clear HK; rintro e w1 ⟨rfl, hw1⟩; have hw1 := hw1.symm; subst hw1) | (refine (HN _).mono ?_; rintro e w2 ⟨rfl, hw2⟩; have hw2 := hw2.symm; subst hw2))
        | (go_at_call 69; refine (HL _).mono ?_; rintro e w3 ⟨rfl, hw3⟩))
      go_ret
      exact ⟨rfl, Below.refl _ _⟩
    · rw [Bool.true_and]
      by_cases h8 : t2.length = 8
      · have hd : decide (t2.length = 8) = true := decide_eq_true h8
        rw [hd, Bool.true_and]
        have hb : ((t2.length : Int) == 8) = true := by rw [beq_iff_eq]; omega
        have h8 : Hid (t2.length = 8) := h8
        go_enter Tryz.func33, Tryz.ntmps33
        go_wp2_with (first
          | (go_at_call 68; first | (refine (HK _).mono ?_; clear HK; rintro e w1 ⟨rfl, hw1⟩; have hw1 := hw1.symm; subst hw1) | (refine (HN _).mono ?_; rintro e w2 ⟨rfl, hw2⟩; have hw2 := hw2.symm; subst hw2))
          | (go_at_call 69; refine (HL _).mono ?_; rintro e w3 ⟨rfl, hw3⟩))
        go_ret
        exact ⟨rfl, hw3⟩
      · have hd : decide (t2.length = 8) = false := decide_eq_false h8
        rw [hd, Bool.false_and]
        have hb : ((t2.length : Int) == 8) = false := by rw [beq_eq_false_iff_ne]; omega
        have h8 : Hid (¬ t2.length = 8) := h8
        go_enter Tryz.func33, Tryz.ntmps33
        go_wp2_with (first
          | (go_at_call 68; first | (refine (HK _).mono ?_; clear HK; rintro e w1 ⟨rfl, hw1⟩; have hw1 := hw1.symm; subst hw1) | (refine (HN _).mono ?_; rintro e w2 ⟨rfl, hw2⟩; have hw2 := hw2.symm; subst hw2))
          | (go_at_call 69; refine (HL _).mono ?_; rintro e w3 ⟨rfl, hw3⟩))
        go_ret
        exact ⟨rfl, Below.refl _ _⟩
  · rw [cond_true]
    go_enter Tryz.func33, Tryz.ntmps33
    go_wp2_with (first
      | (go_at_call 68; first | (refine (HK _).mono ?_; clear HK; rintro e w1 ⟨rfl, hw1⟩; have hw1 := hw1.symm; subst hw1)))
    go_ret
    refine ⟨?_, Below.refl _ _⟩
    congr 2
theorem set_set (w : World) (b : Nat) (x y : Obj) : Go.ChangeMaps.setBlock (Go.ChangeMaps.setBlock w b x) b y = Go.ChangeMaps.setBlock w b y := by
  unfold Go.ChangeMaps.setBlock
  simp
theorem run_entryM {w : World} {b : Nat} {m : List KV} (hown : MB w b m) (hn : m.length < maxLen) {s v : List UInt8} (hs : s.length ≤ maxLen) (hv1 : v.length ≤ maxLen) :
    ∃ (v0 : Value) (st : Nat) (w1 w2 : World), (Instr.mapEntry 55 (.map (some b)) (.string ⟨s.toArray⟩)).run Tryz.prog w = .ok (.tuple #[v0, .int .i64 st]) w1 ∧
      (Instr.entryStore 55 (.map (some b)) (.int .i64 st) (.agg #[.string ⟨v.toArray⟩])).run Tryz.prog w1 = .ok () w2 ∧ MB w2 b (putM s v m) ∧ w.grownBy w2 (some b) := by
  obtain ⟨w3, hrun, r1, r2⟩ := run_putM hown hn hs hv1
  obtain ⟨es, clock, hb, F, hz, hD⟩ := hown
  obtain ⟨v0, st, es1, c1, e1, _, e2⟩ := Go.WideElems.entry_then_store (Go.WideMaps.string_law Tryz.underlying9) Tryz.underlying55 (fun u => zHeld.1 u) hb F (key9 hs)
  obtain ⟨es2, c2, e3, e4⟩ := e2 (Go.ChangeMaps.setBlock w b (.map es1 c1)) (hv v) (by have hlt : b < w.heap.size := World.ownsMap.lt ⟨es, clock, hb, F, hz, hD⟩; unfold Go.ChangeMaps.setBlock; show (w.heap.setIfInBounds b _)[b]? = _; rw [Array.getElem?_setIfInBounds_self, if_pos hlt])
  rw [set_set] at e3
  have := hrun.symm.trans e4
  cases this
  exact ⟨v0, st, _, _, e1, e3, r1, r2⟩
end Go.Proofs.YtdikilhobmkpkaaGreatDoor
namespace Go.Proofs.YtdikilhobmkpkaaGreatDoor
open Go Go.RowKit Go.Maps
set_option maxRecDepth 100000 in
theorem new_mb (w : World) : Calls Tryz.prog 5 #[] w fun e w' => e = .returned (.pointer (some ⟨w.heap.size + 1, 0, none⟩)) ∧ Below w.heap.size w w' ∧ Blk w' (w.heap.size + 1) #[.map (some w.heap.size)] 57 ∧ MB w' w.heap.size [] := by
  have hmm := @run_makeMap Tryz.prog
  go_enter Tryz.func5, Tryz.ntmps5
  go_wp2
  go_ret
  refine ⟨rfl, ((Below.refl _ w).alloc (Nat.le_refl _) _).alloc (by simp) _, ?_, ?_⟩
  · have := Blk.new (w.alloc (.map #[] 0)) #[.map (some w.heap.size)] 57
    simpa using this
  · exact MP.of (World.ownsMap.alloc (World.ownsMap_made w Tryz.prog 9 hld) _) rfl
/-- A reader and a state that grows. -/
structure DQ (w wl : World) (rb ob mb : Nat) (r : R) (m : List KV) : Prop where
  rd : RD wl rb r
  st : Blk wl ob #[.map (some mb)] 57
  mp : MB wl mb m
  bl : Below w.heap.size w wl
  ne : ob ≠ rb
  lor : w.heap.size ≤ rb
  lom : w.heap.size ≤ mb
theorem DQ.to {w wl w2 : World} {rb ob mb : Nat} {r r2 : R} {m : List KV} (h : DQ w wl rb ob mb r m) (k : To wl w2 rb r2) : DQ w w2 rb ob mb r2 m :=
  ⟨k.rd, h.st.grown k.grown (fun e => h.ne (Option.some.inj e)), h.mp.kept k.grown (fun e => h.mp.blk_ne h.rd.blk (Option.some.inj e).symm), h.bl.trans (below_of_grown k.grown h.lor h.bl.size), h.ne, h.lor, h.lom⟩
theorem DQ.below {w wl w2 : World} {rb ob mb : Nat} {r : R} {m : List KV} (h : DQ w wl rb ob mb r m) (k : Below wl.heap.size wl w2) : DQ w w2 rb ob mb r m :=
  ⟨h.rd.below k, h.st.belowSize k, h.mp.below k, h.bl.trans (k.mono h.bl.size), h.ne, h.lor, h.lom⟩
theorem DQ.put {w wl w2 : World} {rb ob mb : Nat} {r : R} {m m2 : List KV} (h : DQ w wl rb ob mb r m) (hM : MB w2 mb m2) (hg : wl.grownBy w2 (some mb)) : DQ w w2 rb ob mb r m2 :=
  ⟨⟨h.rd.blk.grown hg (fun e => h.mp.blk_ne h.rd.blk (Option.some.inj e))⟩, h.st.grown hg (fun e => h.mp.blk_ne h.st (Option.some.inj e)), hM, h.bl.trans (below_of_grown hg h.lom h.bl.size), h.ne, h.lor, h.lom⟩
theorem DQ.c0 {w wl : World} {rb ob mb : Nat} {r : R} {m : List KV} (h : DQ w wl rb ob mb r m) : wl.cell? ⟨ob, 0, none⟩ = some (.map (some mb)) := h.st.cell 0
def mapD (l : List KV) : List KV := l.foldl (fun m p => putM p.1 p.2 m) []
theorem mapD_snoc (l : List KV) (p : KV) : mapD (l ++ [p]) = putM p.1 p.2 (mapD l) := by unfold mapD; rw [List.foldl_append]; rfl
theorem fold_len : ∀ (l : List KV) (m : List KV), (l.foldl (fun m p => putM p.1 p.2 m) m).length ≤ m.length + l.length
  | [], m => by simp
  | p :: l, m => by
    have h1 := putM_length p.1 p.2 m
    have h2 := fold_len l (putM p.1 p.2 m)
    simp only [List.foldl_cons, List.length_cons]
    omega
theorem mapD_len (l : List KV) : (mapD l).length ≤ l.length := by
  have := fold_len l []
  simpa [mapD] using this
/-- What Decode leaves. -/
def DecP (er : Int) (m : List KV) (w : World) (e : Ending) (w' : World) : Prop := ∃ p : Value, e = .returned (.tuple #[p, .int .i64 er]) ∧ Below w.heap.size w w' ∧ (er ≠ 0 → p = .pointer none) ∧ (er = 0 → ∃ ob, w.heap.size ≤ ob ∧ p = .pointer (some ⟨ob, 0, none⟩) ∧ ST w' ob m)
theorem dC_le (b : List UInt8) : (dC b).2 ≤ 1024 := R.count_le _ 1024
set_option maxRecDepth 100000 in
set_option maxHeartbeats 1000000 in
theorem decode_any (b : List UInt8) (w : World) (hl : b.length ≤ 140737488355328) : Calls Tryz.prog 8 #[.string ⟨b.toArray⟩] w (DecP (dE b) (mapD (dM b)) w) := by
  have HR := newr_any b w
  have HC := fun w1 (h : RD w1 w.heap.size ⟨b, 0, 0⟩) => count_any w.heap.size _ 1024 w1 h (ok0 b) hl (by decide)
  have hqk : (dC b).1.ok := R.ok_count (ok0 b) 1024
  have hqs : (dC b).1.s = b := R.count_s _ 1024
  have hn8 := dC_le b
  have HE : Hid (dE b = (dS (dC b).1 (dC b).2).1.fin.err) := by exact rfl
  have HM : Hid (dM b = (dS (dC b).1 (dC b).2).2) := by exact rfl
  change ∀ w1, RD w1 w.heap.size ⟨b, 0, 0⟩ → Calls Tryz.prog 31 _ w1 fun e w' => e = .returned (.int .i64 ((dC b).2 : Nat)) ∧ To w1 w' w.heap.size (dC b).1 at HC
  generalize dE b = er at *
  generalize dM b = mD at *
  generalize dC b = q0 at *
  obtain ⟨q, n⟩ := q0
  dsimp only at *
  go_enter Tryz.func8, Tryz.ntmps8
  go_wp2_with (first
    | (go_at_call 30; refine HR.mono ?_; rintro e w1 ⟨rfl, hw1, hR1⟩)
    | (go_at_call 5; refine (new_mb _).mono ?_; rintro e w2 ⟨rfl, hw2, hS2, hM2⟩; have hQ2 : DQ w w2 w.heap.size (w1.heap.size + 1) w1.heap.size ⟨b, 0, 0⟩ [] := ⟨hR1.below hw2, hS2, hM2, hw1.trans (hw2.mono hw1.size), by have := hw1.size; omega, Nat.le_refl _, hw1.size⟩)
    | (go_at_call 31; refine (HC _ hQ2.rd).mono ?_; rintro e w3 ⟨rfl, hT3⟩; have hQ3 := hQ2.to hT3))
  have HZ : Hid (lastK (dS q 0).2 = [] ∧ (dS q 0).1 = q ∧ mapD (dS q 0).2 = []) := ⟨rfl, rfl, rfl⟩
  clear hw2 hR1 hS2 hM2 hQ2 hT3 HR HC
  have hlo : w.heap.size ≤ w1.heap.size + 1 := Nat.le_succ_of_le hw1.size
  clear hw1
  generalize hob : w1.heap.size + 1 = ob at *
  generalize hmb : w1.heap.size = mb at *
  clear hob hmb
  go_loopw [6, 15] (fun v6 v15 wl => ∃ i : Nat, i ≤ n ∧ v15 = .int .i64 i ∧ v6 = .string ⟨(lastK (dS q i).2).toArray⟩ ∧ DQ w wl w.heap.size ob mb (dS q i).1 (mapD (dS q i).2)) (fun _ v15 _ => n - (intOf v15).toNat)
  case atStart => exact ⟨0, by omega, rfl, by rw [HZ.out.1], by rw [HZ.out.2.1, HZ.out.2.2]; exact hQ3⟩
  case round =>
    obtain ⟨i, hi, rfl, rfl, hQ⟩ := hrel
    clear hQ3
    by_cases hlt : i < n
    · have hok := dS_ok hqk i
      have hss := (dS_s q i).trans hqs
      have H1 := fun w1 (h : RD w1 w.heap.size (dS q i).1) => text_any w.heap.size _ 33 w1 h hok (by rw [hss]; exact hl) (by decide)
      have H2 := fun w1 (h : RD w1 w.heap.size ((dS q i).1.text 33).1) => text_any w.heap.size _ 64 w1 h (R.ok_text hok 33) (by rw [R.text_s, hss]; exact hl) (by decide)
      have hle1 := R.text_le (dS q i).1 33
      have hle2 := R.text_le ((dS q i).1.text 33).1 64
      change ((dS q i).1.text 33).2.length ≤ 33 at hle1
      change (((dS q i).1.text 33).1.text 64).2.length ≤ 64 at hle2
      have hml := mapD_len (dS q i).2
      rw [dS_len] at hml
      have HS : Hid (dS q (i + 1) = (bif dBad (dS q i).2 ((dS q i).1.text 33).2 (((dS q i).1.text 33).1.text 64).2 then (((dS q i).1.text 33).1.text 64).1.fail 6 else (((dS q i).1.text 33).1.text 64).1, (dS q i).2 ++ [(((dS q i).1.text 33).2, (((dS q i).1.text 33).1.text 64).2)])) := rfl
      generalize dS q i = x at *
      obtain ⟨r, out⟩ := x
      dsimp only at *
      generalize (r.text 33).1.text 64 = t2 at *
      generalize r.text 33 = t1 at *
      obtain ⟨r1, a⟩ := t1
      obtain ⟨r2, v⟩ := t2
      dsimp only at *
      have HL : Hid (lastK (out ++ [(a, v)]) = a) := lastK_snoc _ _
      have HD : Hid (mapD (out ++ [(a, v)]) = putM a v (mapD out)) := mapD_snoc _ _
      have HF := fun w1 (h : RD w1 w.heap.size r2) => fail_any w.heap.size r2 6 w1 h
      have HY := fun w1 => mayHave_any a v w1 (by omega) (by omega)
      have HP := fun w1 (h : MB w1 mb (mapD out)) => run_entryM h (by unfold maxLen; omega) (s := a) (v := v) (by unfold maxLen; omega) (by unfold maxLen; omega)
      unfold dBad at HS
      generalize mapD out = m at *
      generalize putM a v m = m2 at *
      generalize lastK out = la at *
      -- ROUNDS
      cases hx1 : Op.bytesLess a la
      · by_cases hae : a = la
        · have hx2 : (a == la) = true := by rw [beq_iff_eq]; exact hae
          have hbad : Hid (decide (a ≤ la) = true) := decide_eq_true (by rw [hae]; exact List.le_refl _)
          rw [hbad.out, Bool.true_or, cond_true] at HS
          clear hae
          go_wp2_with (first
            | (go_at_call 32; refine (H1 _ hQ.rd).mono ?_; clear H1; rintro e w4 ⟨rfl, hT4⟩; have hQ4 := hQ.to hT4)
            | (go_at_call 32; refine (H2 _ hQ4.rd).mono ?_; clear H2; rintro e w5 ⟨rfl, hT5⟩; have hQ5 := hQ4.to hT5)
            | (go_at_call 34; refine (HF _ hQ5.rd).mono ?_; rintro e w6 ⟨rfl, hT6⟩; have hQ7 := hQ5.to hT6; obtain ⟨v0, st, w8, w9, hr1, hr2, hM9, hg9⟩ := HP _ hQ7.mp; have c7 := hQ7.c0; have hQ9 := hQ7.put hM9 hg9))
          go_roundw
          case rel => exact ⟨i + 1, by omega, by go_num, by rw [HS.out]; exact congrArg (fun z : List UInt8 => Value.string ⟨z.toArray⟩) HL.out.symm, by rw [HS.out]; simp only [HD.out]; exact hQ9⟩
          case measure => simp [intOf]; omega
        · have hx2 : (a == la) = false := by rw [beq_eq_false_iff_ne]; exact hae
          have hbad : Hid (decide (a ≤ la) = false) := decide_eq_false (fun h => by
            rw [bytesLess_eq] at hx1
            exact absurd (Std.lt_of_le_of_ne h hae) (of_decide_eq_false hx1))
          rw [hbad.out, Bool.false_or] at HS
          clear hae
          cases hmy : mayP a v
          · rw [hmy] at HY HS
            rw [show (!false) = true from rfl, cond_true] at HS
            clear hmy
            go_wp2_with (first
              | (go_at_call 32; refine (H1 _ hQ.rd).mono ?_; clear H1; rintro e w4 ⟨rfl, hT4⟩; have hQ4 := hQ.to hT4)
              | (go_at_call 32; refine (H2 _ hQ4.rd).mono ?_; clear H2; rintro e w5 ⟨rfl, hT5⟩; have hQ5 := hQ4.to hT5)
              | (go_at_call 33; refine (HY _).mono ?_; rintro e w6 ⟨rfl, hw6⟩; have hQ6 := hQ5.below hw6)
              | (go_at_call 34; refine (HF _ hQ6.rd).mono ?_; rintro e w7 ⟨rfl, hT7⟩; have hQ7 := hQ6.to hT7; obtain ⟨v0, st, w8, w9, hr1, hr2, hM9, hg9⟩ := HP _ hQ7.mp; have c7 := hQ7.c0; have hQ9 := hQ7.put hM9 hg9))
            go_roundw
            case rel => exact ⟨i + 1, by omega, by go_num, by rw [HS.out]; exact congrArg (fun z : List UInt8 => Value.string ⟨z.toArray⟩) HL.out.symm, by rw [HS.out]; simp only [HD.out]; exact hQ9⟩
            case measure => simp [intOf]; omega
          · rw [hmy] at HY HS
            rw [show (!true) = false from rfl, cond_false] at HS
            clear hmy
            go_wp2_with (first
              | (go_at_call 32; refine (H1 _ hQ.rd).mono ?_; clear H1; rintro e w4 ⟨rfl, hT4⟩; have hQ4 := hQ.to hT4)
              | (go_at_call 32; refine (H2 _ hQ4.rd).mono ?_; clear H2; rintro e w5 ⟨rfl, hT5⟩; have hQ5 := hQ4.to hT5)
              | (go_at_call 33; refine (HY _).mono ?_; rintro e w6 ⟨rfl, hw6⟩; have hQ7 := hQ5.below hw6; obtain ⟨v0, st, w8, w9, hr1, hr2, hM9, hg9⟩ := HP _ hQ7.mp; have c7 := hQ7.c0; have hQ9 := hQ7.put hM9 hg9))
            go_roundw
            case rel => exact ⟨i + 1, by omega, by go_num, by rw [HS.out]; exact congrArg (fun z : List UInt8 => Value.string ⟨z.toArray⟩) HL.out.symm, by rw [HS.out]; simp only [HD.out]; exact hQ9⟩
            case measure => simp [intOf]; omega
      · have hbad : Hid (decide (a ≤ la) = true) := decide_eq_true (List.le_of_lt (by rw [bytesLess_eq] at hx1; exact of_decide_eq_true hx1))
        rw [hbad.out, Bool.true_or, cond_true] at HS
        go_wp2_with (first
          | (go_at_call 32; refine (H1 _ hQ.rd).mono ?_; clear H1; rintro e w4 ⟨rfl, hT4⟩; have hQ4 := hQ.to hT4)
          | (go_at_call 32; refine (H2 _ hQ4.rd).mono ?_; clear H2; rintro e w5 ⟨rfl, hT5⟩; have hQ5 := hQ4.to hT5)
          | (go_at_call 34; refine (HF _ hQ5.rd).mono ?_; rintro e w6 ⟨rfl, hT6⟩; have hQ7 := hQ5.to hT6; obtain ⟨v0, st, w8, w9, hr1, hr2, hM9, hg9⟩ := HP _ hQ7.mp; have c7 := hQ7.c0; have hQ9 := hQ7.put hM9 hg9))
        go_roundw
        case rel => exact ⟨i + 1, by omega, by go_num, by rw [HS.out]; exact congrArg (fun z : List UInt8 => Value.string ⟨z.toArray⟩) HL.out.symm, by rw [HS.out]; simp only [HD.out]; exact hQ9⟩
        case measure => simp [intOf]; omega
    · have hin : i = n := by omega
      subst hin
      clear hlt hi
      have HF := fun w1 (h : RD w1 w.heap.size (dS q i).1) => end_any w.heap.size _ w1 h (dS_ok hqk i) (by rw [(dS_s q i).trans hqs]; exact hl)
      rw [← HE.out] at HF
      by_cases he : er = 0
      · have hb : (er == 0) = true := by rw [beq_iff_eq]; exact he
        go_wp2_with (go_at_call 35; refine (HF _ hQ.rd).mono ?_; rintro e w4 ⟨rfl, hT4⟩; have hQ4 := hQ.to hT4)
        go_ret2
        exact ⟨.pointer (some ⟨ob, 0, none⟩), by rw [he]; rfl, hQ4.bl, fun h => absurd he h, fun _ => ⟨ob, hlo, rfl, ⟨mb, hQ4.st, by rw [HM.out]; exact hQ4.mp⟩⟩⟩
      · have hb : (er == 0) = false := by rw [beq_eq_false_iff_ne]; exact he
        go_wp2_with (go_at_call 35; refine (HF _ hQ.rd).mono ?_; rintro e w4 ⟨rfl, hT4⟩; have hQ4 := hQ.to hT4)
        go_ret2
        exact ⟨.pointer none, rfl, hQ4.bl, fun _ => rfl, fun h => absurd h he⟩
end Go.Proofs.YtdikilhobmkpkaaGreatDoor
