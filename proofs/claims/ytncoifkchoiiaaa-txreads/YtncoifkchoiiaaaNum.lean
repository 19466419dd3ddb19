/- Numbers as bytes, the highest first, and back. -/
import Derived.Test.YtncoifkchoiiaaaCrc
namespace Go.Proofs.Ytncoifkchoiiaaa
open Go
/-- The k lowest bytes of a number, the highest first. -/
def num (n : Nat) : Nat → List UInt8
  | 0 => []
  | k + 1 => num (n / 256) k ++ [UInt8.ofNat (n % 256)]
theorem num_length : ∀ (k n : Nat), (num n k).length = k
  | 0, _ => rfl
  | k + 1, n => by rw [num, List.length_append, num_length k]; rfl
/-- The number that has these bytes. -/
def val (l : List UInt8) : Nat := l.foldl (fun n b => n * 256 + b.toNat) 0
theorem val_nil : val [] = 0 := rfl
theorem val_app (l : List UInt8) (b : UInt8) : val (l ++ [b]) = val l * 256 + b.toNat := by unfold val; rw [List.foldl_append]; rfl
theorem val_take (l : List UInt8) (n : Nat) (h : n < l.length) : val (l.take (n + 1)) = val (l.take n) * 256 + (byteOf l n).toNat := by
  rw [byteOf, List.take_succ_eq_append_getElem h, val_app, List.getD_eq_getElem?_getD, List.getElem?_eq_getElem h]
  rfl
theorem split_last (l : List UInt8) (k : Nat) (h : l.length = k + 1) : ∃ m b, l = m ++ [b] ∧ m.length = k := by
  refine ⟨l.take k, l[k], ?_, by rw [List.length_take]; omega⟩
  rw [← List.take_succ_eq_append_getElem (by omega), List.take_of_length_le (by omega)]
theorem val_lt : ∀ (k : Nat) (l : List UInt8), l.length = k → val l < 256 ^ k
  | 0, l, h => by rw [List.length_eq_zero_iff.1 h]; decide
  | k + 1, l, h => by
    obtain ⟨m, b, rfl, hm⟩ := split_last l k h
    have := val_lt k m hm
    have hb := b.toNat_lt
    rw [val_app, Nat.pow_succ]
    omega
theorem val_lt8 (l : List UInt8) (h : l.length ≤ 8) : val l < 18446744073709551616 := by
  have h1 := val_lt _ l rfl
  have h2 : 256 ^ l.length ≤ 256 ^ 8 := Nat.pow_le_pow_right (by decide) h
  have h3 : 256 ^ 8 = 18446744073709551616 := by decide
  omega
theorem val_num : ∀ (k n : Nat), val (num n k) = n % 256 ^ k
  | 0, n => by rw [num, val_nil, Nat.pow_zero, Nat.mod_one]
  | k + 1, n => by
    rw [num, val_app, val_num k, UInt8.toNat_ofNat']
    rw [show (256 : Nat) ^ (k + 1) = 256 * 256 ^ k from Nat.pow_succ', Nat.mod_mul]
    omega
theorem num_val : ∀ (k : Nat) (l : List UInt8), l.length = k → num (val l) k = l
  | 0, l, h => by rw [List.length_eq_zero_iff.1 h]; rfl
  | k + 1, l, h => by
    obtain ⟨m, b, rfl, hm⟩ := split_last l k h
    have hb := b.toNat_lt
    rw [val_app, num, show (val m * 256 + b.toNat) / 256 = val m from by omega, num_val k m hm, show (val m * 256 + b.toNat) % 256 = b.toNat from by omega]
    simp
theorem num_range : ∀ (k n : Nat), num n k = (List.range k).map fun j => UInt8.ofNat (n / 256 ^ (k - 1 - j) % 256)
  | 0, _ => rfl
  | k + 1, n => by
    rw [num, num_range k, List.range_succ, List.map_append]
    congr 1
    · apply List.map_congr_left
      intro j hj
      have hj := List.mem_range.1 hj
      rw [Nat.div_div_eq_div_mul, show k + 1 - 1 - j = (k - 1 - j) + 1 from by omega, Nat.pow_succ']
    · simp
theorem num_four (n : Nat) (h : n < 4294967296) : val (num n 4) = n := by
  rw [val_num, Nat.mod_eq_of_lt (by simpa using h)]
theorem num_eight (n : Nat) (h : n < 18446744073709551616) : val (num n 8) = n := by
  rw [val_num, Nat.mod_eq_of_lt (by simpa using h)]
/-- A text's frame. -/
def frame (s : List UInt8) : List UInt8 := num s.length 4 ++ (num (crc (num s.length 4 ++ s)).toNat 4 ++ s)
theorem frame_length (s : List UInt8) : (frame s).length = 8 + s.length := by simp [frame, num_length]; omega

/-- A reader: its bytes, how many were taken, its error. -/
structure R where
  s : List UInt8
  pos : Nat
  err : Int
def R.fail (r : R) (e : Int) : R := if r.err = 0 then ⟨r.s, r.pos, e⟩ else r
def R.bytes (r : R) (n : Int) : R × List UInt8 :=
  if r.err ≠ 0 then (r, []) else if n < 0 then (⟨r.s, r.pos, 1⟩, []) else if (r.s.length : Int) - r.pos < n then (⟨r.s, r.pos, 4⟩, []) else (⟨r.s, r.pos + n.toNat, r.err⟩, (r.s.drop r.pos).take n.toNat)
def R.early (r : R) (k : Int) : R := if r.err = 0 ∧ 8 < k then ⟨r.s, r.pos, 1⟩ else r
def R.number (r : R) (k : Int) : R × Nat := (((r.early k).bytes k).1, val ((r.early k).bytes k).2)
def R.count (r : R) (most : Int) : R × Nat :=
  if (r.number 4).1.err = 0 ∧ (most < 0 ∨ most < (r.number 4).2) then (⟨r.s, r.pos, 3⟩, 0) else r.number 4
def R.text (r : R) (most : Int) : R × List UInt8 :=
  if ((r.count most).1.bytes (r.count most).2).1.err ≠ 0 then (⟨r.s, r.pos, ((r.count most).1.bytes (r.count most).2).1.err⟩, []) else (r.count most).1.bytes (r.count most).2
def R.bool (r : R) : R × Bool :=
  if (r.number 1).1.err = 0 ∧ 1 < (r.number 1).2 then (⟨r.s, r.pos, 6⟩, false) else ((r.number 1).1, decide ((r.number 1).2 = 1))
def R.fin (r : R) : R := if r.err = 0 ∧ r.pos < r.s.length then ⟨r.s, r.pos, 5⟩ else r
/-- What may be. -/
def R.ok (r : R) : Prop := r.pos ≤ r.s.length
theorem R.bytes_s (r : R) (n : Int) : (r.bytes n).1.s = r.s := by unfold R.bytes; split <;> (try split) <;> (try split) <;> rfl
theorem R.early_s (r : R) (n : Int) : (r.early n).s = r.s := by unfold R.early; split <;> rfl
theorem R.early_pos (r : R) (n : Int) : (r.early n).pos = r.pos := by unfold R.early; split <;> rfl
theorem R.number_s (r : R) (n : Int) : (r.number n).1.s = r.s := by unfold R.number; rw [R.bytes_s, R.early_s]
theorem R.count_s (r : R) (n : Int) : (r.count n).1.s = r.s := by unfold R.count; split; rfl; rw [R.number_s]
theorem R.text_s (r : R) (n : Int) : (r.text n).1.s = r.s := by unfold R.text; split; rfl; rw [R.bytes_s, R.count_s]
theorem R.bool_s (r : R) : r.bool.1.s = r.s := by unfold R.bool; split; rfl; rw [R.number_s]
theorem R.fin_s (r : R) : r.fin.s = r.s := by unfold R.fin; split <;> rfl
theorem R.fail_s (r : R) (e : Int) : (r.fail e).s = r.s := by unfold R.fail; split <;> rfl
theorem R.ok_early {r : R} (h : r.ok) (n : Int) : (r.early n).ok := by unfold R.early; split <;> exact h
theorem R.ok_bytes {r : R} (h : r.ok) (n : Int) : (r.bytes n).1.ok := by
  unfold R.bytes
  split
  · exact h
  · split
    · exact h
    · split
      · exact h
      · unfold R.ok at *; simp only; omega
theorem R.ok_number {r : R} (h : r.ok) (n : Int) : (r.number n).1.ok := R.ok_bytes (R.ok_early h n) n
theorem R.ok_count {r : R} (h : r.ok) (n : Int) : (r.count n).1.ok := by unfold R.count; split; exact h; exact R.ok_number h 4
theorem R.ok_text {r : R} (h : r.ok) (n : Int) : (r.text n).1.ok := by unfold R.text; split; exact h; exact R.ok_bytes (R.ok_count h n) _
theorem R.ok_bool {r : R} (h : r.ok) : r.bool.1.ok := by unfold R.bool; split; exact h; exact R.ok_number h 1
theorem R.ok_fin {r : R} (h : r.ok) : r.fin.ok := by unfold R.fin; split <;> exact h
theorem R.ok_fail {r : R} (h : r.ok) (e : Int) : (r.fail e).ok := by unfold R.fail; split <;> exact h
theorem R.early_len (r : R) (k : Int) : ((r.early k).bytes k).2.length ≤ 8 := by
  unfold R.early
  split
  · rename_i h
    unfold R.bytes
    rw [if_pos (by simp)]
    simp
  · rename_i h
    unfold R.bytes
    split
    · simp
    · split
      · simp
      · split
        · simp
        · simp only [List.length_take]; omega
theorem R.number_lt (r : R) (k : Int) : (r.number k).2 < 18446744073709551616 := val_lt8 _ (r.early_len k)
theorem R.number4_lt (r : R) : (r.number 4).2 < 4294967296 := by
  have h : ((r.early 4).bytes 4).2.length ≤ 4 := by
    unfold R.bytes
    split
    · simp
    · split
      · simp
      · split
        · simp
        · simp only [List.length_take]; omega
  have h1 := val_lt _ ((r.early 4).bytes 4).2 rfl
  have h2 : 256 ^ ((r.early 4).bytes 4).2.length ≤ 256 ^ 4 := Nat.pow_le_pow_right (by decide) h
  have h3 : 256 ^ 4 = 4294967296 := by decide
  unfold R.number
  simp only
  omega
theorem R.count_lt (r : R) (m : Int) : (r.count m).2 < 4294967296 := by
  unfold R.count
  split
  · simp
  · exact r.number4_lt
end Go.Proofs.Ytncoifkchoiiaaa
