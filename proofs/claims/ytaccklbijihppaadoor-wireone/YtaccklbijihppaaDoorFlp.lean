/- Bits that are turned over, one by one; what Unframe tells of a frame with something changed. -/
import Derived.Test.YtaccklbijihppaaDoorBst
namespace Go.Proofs.YtaccklbijihppaaDoor
open Go
def bitAt (l : List UInt8) (p : Nat) : Bool := (l.getD (p / 8) 0).toNat.testBit (p % 8)
theorem bitsOf_get : ∀ (l : List UInt8) (p : Nat), p < 8 * l.length → (bitsOf l)[p]? = some (bitAt l p)
  | [], p, h => by simp at h
  | b :: l, p, h => by
    show (bits8 b ++ bitsOf l)[p]? = _
    by_cases hp : p < 8
    · rw [List.getElem?_append_left (by rw [bits8_length]; exact hp)]
      unfold bitAt bits8
      rw [show p / 8 = 0 from by omega, show p % 8 = p from by omega, List.getElem?_map, List.getElem?_range hp]
      rfl
    · rw [List.getElem?_append_right (by rw [bits8_length]; omega), bits8_length, bitsOf_get l (p - 8) (by simp only [List.length_cons] at h; omega)]
      unfold bitAt
      rw [show p / 8 = (p - 8) / 8 + 1 from by omega, show (p - 8) % 8 = p % 8 from by omega, List.getD_cons_succ]
def bit8 (i : Nat) : UInt8 := UInt8.ofNat (2 ^ i)
theorem bit8_toNat (i : Nat) (h : i < 8) : (bit8 i).toNat = 2 ^ i := by
  unfold bit8
  rw [UInt8.toNat_ofNat', Nat.mod_eq_of_lt (Nat.pow_lt_pow_right (by decide) h)]
/-- The bit p turned over. -/
def flip (l : List UInt8) (p : Nat) : List UInt8 := l.set (p / 8) (byteOf l (p / 8) ^^^ bit8 (p % 8))
theorem flip_length (l : List UInt8) (p : Nat) : (flip l p).length = l.length := by simp [flip]
theorem bitAt_flip (l : List UInt8) (p q : Nat) (hp : p < 8 * l.length) : bitAt (flip l p) q = (bitAt l q ^^ decide (p = q)) := by
  unfold bitAt flip
  by_cases h : p / 8 = q / 8
  · rw [← h, List.getD_eq_getElem?_getD, List.getElem?_set_self (by omega)]
    show (byteOf l (p / 8) ^^^ bit8 (p % 8)).toNat.testBit (q % 8) = _
    rw [UInt8.toNat_xor, Nat.testBit_xor, bit8_toNat _ (by omega), Nat.testBit_two_pow]
    unfold byteOf
    congr 1
    by_cases h2 : p = q
    · subst h2; simp
    · have : ¬ p % 8 = q % 8 := by omega
      rw [decide_eq_false this, decide_eq_false h2]
  · have h2 : ¬ p = q := fun e => h (by rw [e])
    rw [decide_eq_false h2, Bool.xor_false, List.getD_eq_getElem?_getD, List.getD_eq_getElem?_getD, List.getElem?_set_ne (by omega)]
/-- Whether step k turns a bit over. -/
def hit (P : List UInt8) (first u k : Nat) : Bool := decide (first + k < 8 * P.length) && u.testBit k
/-- Behind k steps. -/
def fl (P : List UInt8) (first u : Nat) : Nat → List UInt8
  | 0 => P
  | k + 1 => if hit P first u k = true then flip (fl P first u k) (first + k) else fl P first u k
def ch (P : List UInt8) (first u : Nat) : Nat → Bool
  | 0 => false
  | k + 1 => if hit P first u k = true then true else ch P first u k
theorem fl_length (P : List UInt8) (first u : Nat) : ∀ k, (fl P first u k).length = P.length
  | 0 => rfl
  | k + 1 => by
    rw [fl]
    split
    · rw [flip_length, fl_length P first u k]
    · exact fl_length P first u k
theorem fl_bit (P : List UInt8) (first u : Nat) : ∀ k q, q < 8 * P.length → bitAt (fl P first u k) q = (bitAt P q ^^ (decide (first ≤ q ∧ q < first + k) && u.testBit (q - first)))
  | 0, q, _ => by
    rw [decide_eq_false (by omega)]
    simp [fl]
  | k + 1, q, hq => by
    have ih := fl_bit P first u k q hq
    rw [fl]
    by_cases hh : hit P first u k = true
    · rw [if_pos hh]
      have hh2 := hh
      unfold hit at hh2
      rw [Bool.and_eq_true, decide_eq_true_eq] at hh2
      rw [bitAt_flip _ _ _ (by rw [fl_length]; exact hh2.1), ih]
      by_cases h1 : first + k = q
      · rw [decide_eq_true h1, decide_eq_false (by omega), decide_eq_true (by omega), show q - first = k from by omega, hh2.2]
        simp
      · rw [decide_eq_false h1]
        by_cases h2 : first ≤ q ∧ q < first + k
        · rw [decide_eq_true h2, decide_eq_true (by omega)]; simp
        · rw [decide_eq_false h2, decide_eq_false (by omega)]; simp
    · rw [if_neg hh, ih]
      by_cases h1 : first + k = q
      · have hu : u.testBit k = false := by
          unfold hit at hh
          rw [decide_eq_true (by omega), Bool.true_and] at hh
          simpa using hh
        rw [decide_eq_false (by omega), show q - first = k from by omega, hu]
        simp
      · by_cases h2 : first ≤ q ∧ q < first + k
        · rw [decide_eq_true h2, decide_eq_true (by omega)]
        · rw [decide_eq_false h2, decide_eq_false (by omega)]
theorem fl_take (P : List UInt8) (first u k : Nat) : (bitsOf P).take first = (bitsOf (fl P first u k)).take first := by
  apply List.ext_getElem?
  intro q
  by_cases hq : q < first
  · rw [List.getElem?_take_of_lt hq, List.getElem?_take_of_lt hq]
    by_cases hl : q < 8 * P.length
    · rw [bitsOf_get _ _ hl, bitsOf_get _ _ (by rw [fl_length]; exact hl), fl_bit _ _ _ _ _ hl, decide_eq_false (by omega)]
      simp
    · rw [List.getElem?_eq_none (by rw [bitsOf_length]; omega), List.getElem?_eq_none (by rw [bitsOf_length, fl_length]; omega)]
  · rw [List.getElem?_eq_none (by rw [List.length_take]; omega), List.getElem?_eq_none (by rw [List.length_take]; omega)]
theorem fl_drop (P : List UInt8) (first u k : Nat) (hk : k ≤ 32) : (bitsOf P).drop (first + 32) = (bitsOf (fl P first u k)).drop (first + 32) := by
  apply List.ext_getElem?
  intro i
  rw [List.getElem?_drop, List.getElem?_drop]
  by_cases hl : first + 32 + i < 8 * P.length
  · rw [bitsOf_get _ _ hl, bitsOf_get _ _ (by rw [fl_length]; exact hl), fl_bit _ _ _ _ _ hl, decide_eq_false (by omega)]
    simp
  · rw [List.getElem?_eq_none (by rw [bitsOf_length]; omega), List.getElem?_eq_none (by rw [bitsOf_length, fl_length]; omega)]
theorem ch_same (P : List UInt8) (first u : Nat) : ∀ k, ch P first u k = false → fl P first u k = P
  | 0, _ => rfl
  | k + 1, h => by
    rw [ch] at h
    rw [fl]
    by_cases hh : hit P first u k = true
    · rw [if_pos hh] at h; cases h
    · rw [if_neg hh] at h ⊢
      exact ch_same P first u k h
theorem ch_hit (P : List UInt8) (first u : Nat) : ∀ k, ch P first u k = true → ∃ j, j < k ∧ hit P first u j = true
  | 0, h => by cases h
  | k + 1, h => by
    rw [ch] at h
    by_cases hh : hit P first u k = true
    · exact ⟨k, by omega, hh⟩
    · rw [if_neg hh] at h
      obtain ⟨j, hj, h2⟩ := ch_hit P first u k h
      exact ⟨j, by omega, h2⟩
theorem ch_other (P : List UInt8) (first u k : Nat) (h : ch P first u k = true) : fl P first u k ≠ P := by
  obtain ⟨j, hj, h2⟩ := ch_hit P first u k h
  unfold hit at h2
  rw [Bool.and_eq_true, decide_eq_true_eq] at h2
  intro e
  have hb := fl_bit P first u k (first + j) h2.1
  rw [e, decide_eq_true (by omega), show first + j - first = j from by omega, h2.2] at hb
  cases hq : bitAt P (first + j) <;> rw [hq] at hb <;> cases hb
/-- What Unframe tells of a count, four bytes and a text. -/
theorem unframe_parts (C x : List UInt8) (hC : C.length = 4) (h : x.length ≤ 2147483647) : unframe (num x.length 4 ++ (C ++ x)) 0 = if val C ≠ (fcheck x).toNat then ([], 0, 6) else (x, (x.length : Int) + 8, 0) := by
  obtain ⟨F, hF⟩ : ∃ F, F = num x.length 4 ++ (C ++ x) := ⟨_, rfl⟩
  have hn := num_length 4 x.length
  have f1 : F = [] ++ (num x.length 4 ++ (C ++ x)) := hF
  have f3 : F = (num x.length 4 ++ C) ++ (x ++ []) := by rw [hF, List.append_nil, List.append_assoc]
  have hA : rdA F = (⟨F, 4, 0⟩, x.length) := by
    unfold rdA
    have := R.count_at [] (C ++ x) x.length 2147483647 (by omega) (by omega)
    rw [← f1] at this
    exact this
  have hB : rdB F = (⟨F, 8, 0⟩, val C) := by
    unfold rdB
    rw [hA]
    have := R.number_at (num x.length 4) C x 4 (by rw [hC]; rfl) (by omega)
    rw [← hF, hn, hC] at this
    exact this
  have hR : rdC F = (⟨F, 8 + x.length, 0⟩, x) := by
    unfold rdC
    rw [hA, hB]
    have := R.bytes_at (num x.length 4 ++ C) x []
    rw [← f3, List.length_append, hn, hC] at this
    exact this
  rw [← hF]
  unfold unframe
  rw [if_neg (by omega)]
  show unfR 0 (rdB F).2 (rdC F) = _
  rw [hB, hR]
  unfold unfR
  rw [if_neg (by simp)]
  simp only
  split
  · rfl
  · simp only [Prod.mk.injEq, true_and, and_true]
    omega
theorem R.number_good {r : R} (hk : r.ok) (h : (r.number 4).1.err = 0) : r.err = 0 ∧ r.pos + 4 ≤ r.s.length ∧ r.number 4 = (⟨r.s, r.pos + 4, 0⟩, val ((r.s.drop r.pos).take 4)) := by
  have e : r.early 4 = r := if_neg (by omega)
  unfold R.number at h ⊢
  rw [e] at h ⊢
  obtain ⟨h1, h2, h3, _⟩ := R.bytes_good (n := 4) hk h
  have h3 : r.bytes 4 = (⟨r.s, r.pos + 4, 0⟩, (r.s.drop r.pos).take 4) := h3
  rw [h3]
  exact ⟨h1, h2, rfl⟩
/-- Bytes that are read as a frame are just its text's. -/
theorem unframe_one (x : List UInt8) (h : (unframe x 0).2.2 = 0) : ∃ n : Nat, (unframe x 0).2.1 = n ∧ n ≤ x.length ∧ x.take n = frame (unframe x 0).1 ∧ (unframe x 0).1.length ≤ x.length := by
  unfold unframe at h ⊢
  rw [if_neg (by omega)] at h ⊢
  have e0 : x.drop (Int.toNat 0) = x := rfl
  rw [e0] at h ⊢
  unfold unfR at h ⊢
  by_cases h1 : (rdC x).1.err = 0
  · rw [if_neg (by simpa using h1)] at h ⊢
    by_cases h2 : (rdB x).2 = (fcheck (rdC x).2).toNat
    · rw [if_neg (by simpa using h2)]
      obtain ⟨b1, b2, b3, b4⟩ := R.bytes_good (rdB_ok x) h1
      obtain ⟨a1, a2, a3⟩ := R.number_good (rdA_ok x) b1
      have hn : (⟨x, 0, 0⟩ : R).count 2147483647 = (⟨x, 0, 0⟩ : R).number 4 ∧ ((⟨x, 0, 0⟩ : R).number 4).1.err = 0 := by
        by_cases hc : (2147483647 : Int) < 0 ∨ (2147483647 : Int) < ((⟨x, 0, 0⟩ : R).number 4).2
        · have hco := R.count_out hc
          have hr : (rdA x).1 = ((⟨x, 0, 0⟩ : R).number 4).1.refuse 0 3 := by unfold rdA; rw [hco]
          rw [hr] at a1
          unfold R.refuse R.fail at a1
          simp only at a1
          split at a1
          · cases a1
          · rename_i hne
            exact absurd a1 hne
        · have hci := R.count_in hc
          refine ⟨hci, ?_⟩
          have hr : (rdA x).1 = ((⟨x, 0, 0⟩ : R).number 4).1 := by unfold rdA; rw [hci]
          rw [← hr]
          exact a1
      obtain ⟨_, c2, c3⟩ := R.number_good (r := ⟨x, 0, 0⟩) (Nat.zero_le _) hn.2
      have hA : rdA x = (⟨x, 4, 0⟩, val (x.take 4)) := by unfold rdA; rw [hn.1, c3]; rfl
      have hB : rdB x = (⟨x, 8, 0⟩, val ((x.drop 4).take 4)) := by
        have : rdB x = (⟨(rdA x).1.s, (rdA x).1.pos + 4, 0⟩, val (((rdA x).1.s.drop (rdA x).1.pos).take 4)) := a3
        rw [hA] at this
        exact this
      have hC : rdC x = (⟨x, 8 + val (x.take 4), 0⟩, (x.drop 8).take (val (x.take 4))) := by
        have : rdC x = (⟨(rdB x).1.s, (rdB x).1.pos + (rdA x).2, 0⟩, ((rdB x).1.s.drop (rdB x).1.pos).take (rdA x).2) := b3
        rw [hA, hB] at this
        exact this
      rw [hA, hB] at b2
      have b2 : 8 + val (x.take 4) ≤ x.length := b2
      have b4 : (rdC x).2.length = (rdA x).2 := b4
      rw [hC, hA] at b4
      have b4 : ((x.drop 8).take (val (x.take 4))).length = val (x.take 4) := b4
      rw [hC] at h2 ⊢
      rw [hB] at h2
      simp only at h2 ⊢
      refine ⟨8 + val (x.take 4), by omega, b2, ?_, by rw [b4]; omega⟩
      have l4 : (x.take 4).length = 4 := by rw [List.length_take]; omega
      have l44 : ((x.drop 4).take 4).length = 4 := by rw [List.length_take, List.length_drop]; omega
      unfold frame
      rw [b4, num_val 4 _ l4]
      have hfc : (crc (x.take 4 ++ (x.drop 8).take (val (x.take 4)))).toNat = val ((x.drop 4).take 4) := by
        rw [h2]
        unfold fcheck
        rw [b4, num_val 4 _ l4]
      rw [hfc, num_val 4 _ l44]
      rw [show (8 + val (x.take 4)) = 4 + (4 + val (x.take 4)) from by omega, List.take_add, List.take_add, List.drop_drop]
    · rw [if_pos (by simpa using h2)] at h
      cases h
  · rw [if_pos h1] at h
    exact absurd h h1
/-- A frame with bits turned over within its check, or within its text, is read just where none is. -/
theorem flip_check (x : List UInt8) (first u : Nat) (h : x.length ≤ 2147483647) : ((unframe (num x.length 4 ++ (fl (num (fcheck x).toNat 4) first u 32 ++ x)) 0).2.2 = 0) ↔ ch (num (fcheck x).toNat 4) first u 32 = false := by
  have hl := num_length 4 (fcheck x).toNat
  have hlt : (fcheck x).toNat < 4294967296 := (fcheck x).isLt
  rw [unframe_parts _ x (by rw [fl_length]; exact hl) h]
  constructor
  · intro he
    cases hc : ch (num (fcheck x).toNat 4) first u 32 with
    | false => rfl
    | true =>
      exfalso
      have ho := ch_other _ _ _ _ hc
      split at he
      · cases he
      · rename_i hv
        have hv : val (fl (num (fcheck x).toNat 4) first u 32) = (fcheck x).toNat := by simpa using hv
        apply ho
        have := num_val 4 (fl (num (fcheck x).toNat 4) first u 32) (by rw [fl_length]; exact hl)
        rw [hv] at this
        exact this.symm
  · intro hc
    rw [ch_same _ _ _ _ hc, num_four _ hlt, if_neg (by simp)]
theorem flip_text (x : List UInt8) (first u : Nat) (h : x.length ≤ 2147483647) : ((unframe (num x.length 4 ++ (num (fcheck x).toNat 4 ++ fl x first u 32)) 0).2.2 = 0) ↔ ch x first u 32 = false := by
  have hl := num_length 4 (fcheck x).toNat
  have hlt : (fcheck x).toNat < 4294967296 := (fcheck x).isLt
  have hxl := fl_length x first u 32
  have hu := unframe_parts (num (fcheck x).toNat 4) (fl x first u 32) hl (by omega)
  rw [hxl] at hu
  rw [hu, num_four _ hlt]
  constructor
  · intro he
    cases hc : ch x first u 32 with
    | false => rfl
    | true =>
      exfalso
      have ho := ch_other _ _ _ _ hc
      split at he
      · cases he
      · rename_i hv
        have hv : (fcheck x).toNat = (fcheck (fl x first u 32)).toNat := by simpa using hv
        have hv2 : fcheck x = fcheck (fl x first u 32) := BitVec.eq_of_toNat_eq hv
        unfold fcheck at hv2
        rw [hxl] at hv2
        exact ho (burst_found (num x.length 4) x (fl x first u 32) first hxl.symm (fl_take x first u 32) (fl_drop x first u 32 (Nat.le_refl _)) hv2).symm
  · intro hc
    rw [ch_same _ _ _ _ hc, if_neg (by simp)]
end Go.Proofs.YtaccklbijihppaaDoor
