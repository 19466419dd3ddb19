/- The plain mathematics of words of 32 bits: each operation of Go's uint32, as the walk spells it, is the operation on BitVec 32. CRC-32C over plain words: bit by bit, by fours, over bytes; what is changed in up to 32 bits side by side is found. Numbers as bytes, the highest first, and back. -/
import Derived.WalkKit
namespace Go.Proofs.YtnhlejdilldfaaaGreat
open Go

/-- A word's number. -/
def n32 (x : BitVec 32) : Int := (x.toNat : Int)
def add32 (x y : BitVec 32) : BitVec 32 := x + y
def xor32 (x y : BitVec 32) : BitVec 32 := x ^^^ y
def and32 (x y : BitVec 32) : BitVec 32 := x &&& y
def or32 (x y : BitVec 32) : BitVec 32 := x ||| y
def not32 (x : BitVec 32) : BitVec 32 := ~~~ x
def shr32 (x : BitVec 32) (n : Nat) : BitVec 32 := x >>> n
def shl32 (x : BitVec 32) (n : Nat) : BitVec 32 := x <<< n
theorem n32_nonneg (x : BitVec 32) : 0 ≤ n32 x := by unfold n32; omega
theorem n32_lt (x : BitVec 32) : n32 x < 4294967296 := by unfold n32; have := x.isLt; omega

theorem n32_add (x y : BitVec 32) : (n32 x + n32 y) % 4294967296 = n32 (add32 x y) := by
  unfold n32 add32; rw [BitVec.toNat_add]; omega
theorem n32_wadd (x y : BitVec 32) : IntKind.u32.wrap (n32 x + n32 y) = n32 (add32 x y) := by
  rw [IntKind.wrap_u32, n32_add]
theorem ofInt_n32 (x : BitVec 32) : BitVec.ofInt 32 (n32 x) = x := by
  unfold n32; simp
theorem wrap_n32 (x : BitVec 32) : IntKind.u32.wrap (n32 x) = n32 x := by
  rw [IntKind.wrap_u32]; have := n32_nonneg x; have := n32_lt x; omega
theorem bits_xor32 (x y : BitVec 32) : bits .xor .u32 (n32 x) (n32 y) = n32 (xor32 x y) := by
  show IntKind.u32.wrap ((BitVec.ofInt 32 (n32 x) ^^^ BitVec.ofInt 32 (n32 y)).toNat : Int) = _
  rw [ofInt_n32, ofInt_n32]; exact wrap_n32 (xor32 x y)
theorem bits_and32 (x y : BitVec 32) : bits .and .u32 (n32 x) (n32 y) = n32 (and32 x y) := by
  show IntKind.u32.wrap ((BitVec.ofInt 32 (n32 x) &&& BitVec.ofInt 32 (n32 y)).toNat : Int) = _
  rw [ofInt_n32, ofInt_n32]; exact wrap_n32 (and32 x y)
theorem bits_or32 (x y : BitVec 32) : bits .or .u32 (n32 x) (n32 y) = n32 (or32 x y) := by
  show IntKind.u32.wrap ((BitVec.ofInt 32 (n32 x) ||| BitVec.ofInt 32 (n32 y)).toNat : Int) = _
  rw [ofInt_n32, ofInt_n32]; exact wrap_n32 (or32 x y)
theorem bits_not32 (x : BitVec 32) : bits .xor .u32 4294967295 (n32 x) = n32 (not32 x) := by
  show IntKind.u32.wrap ((BitVec.ofInt 32 4294967295 ^^^ BitVec.ofInt 32 (n32 x)).toNat : Int) = _
  rw [ofInt_n32]
  have : (BitVec.ofInt 32 4294967295 ^^^ x) = not32 x := by
    unfold not32
    rw [show BitVec.ofInt 32 4294967295 = BitVec.allOnes 32 from by decide, BitVec.allOnes_xor]
  rw [this]; exact wrap_n32 _
theorem bits_notmax (x : BitVec 32) : bits .xor .u32 IntKind.u32.max (n32 x) = n32 (not32 x) := bits_not32 x
theorem sub_not32 (x : BitVec 32) : 4294967295 - n32 x = n32 (not32 x) := by
  unfold n32 not32; rw [BitVec.toNat_not]; have := x.isLt; omega
theorem n32_shr (x : BitVec 32) (n : Nat) : n32 x / 2 ^ n = n32 (shr32 x n) := by
  unfold n32 shr32; rw [BitVec.toNat_ushiftRight, Nat.shiftRight_eq_div_pow]; simp
theorem n32_shl (x : BitVec 32) (n : Nat) : n32 x * 2 ^ n % 4294967296 = n32 (shl32 x n) := by
  unfold n32 shl32; rw [BitVec.toNat_shiftLeft, Nat.shiftLeft_eq]; simp

end Go.Proofs.YtnhlejdilldfaaaGreat
namespace Go.Proofs.YtnhlejdilldfaaaGreat
open Go

def n8 (x : UInt8) : Int := (x.toNat : Int)
theorem n8_nonneg (x : UInt8) : 0 ≤ n8 x := by unfold n8; omega
theorem n8_le (x : UInt8) : n8 x ≤ 255 := by unfold n8; have := x.toNat_lt; omega
/-- A byte as a word. -/
def w8 (x : UInt8) : BitVec 32 := BitVec.ofNat 32 x.toNat
theorem n8_n32 (x : UInt8) : n8 x = n32 (w8 x) := by
  unfold n8 n32 w8; rw [BitVec.toNat_ofNat]; have := x.toNat_lt; omega
theorem n8_wrap (x : UInt8) : IntKind.u32.wrap (n8 x) = n32 (w8 x) := by rw [n8_n32, wrap_n32]

def poly : BitVec 32 := (BitVec.ofNat 32 0x82f63b78)
/-- One bit is shifted out. -/
def stp (x : BitVec 32) : BitVec 32 := xor32 (shr32 x 1) (bif x.getLsbD 0 then poly else (BitVec.ofNat 32 0))
def stp4 (x : BitVec 32) : BitVec 32 := stp (stp (stp (stp x)))
def byteOf (l : List UInt8) (k : Nat) : UInt8 := l.getD k 0
theorem stp_xor (x y : BitVec 32) : stp (xor32 x y) = xor32 (stp x) (stp y) := by
  unfold stp xor32 shr32
  rw [BitVec.ushiftRight_xor_distrib, BitVec.getLsbD_xor]
  cases x.getLsbD 0 <;> cases y.getLsbD 0 <;> simp [BitVec.xor_assoc]
  · rw [BitVec.xor_comm]
  · rw [BitVec.xor_comm poly, BitVec.xor_assoc, BitVec.xor_self, BitVec.xor_zero]
theorem stp4_xor (x y : BitVec 32) : stp4 (xor32 x y) = xor32 (stp4 x) (stp4 y) := by
  unfold stp4; rw [stp_xor, stp_xor, stp_xor, stp_xor]
/-- What shifts by fours add. -/
def tabL : List Nat := [0, 274646895, 549293790, 820201905, 1098587580, 1361435347, 1640403810, 1905808397, 2197175160, 2460548119, 2722870694, 2987750089, 3280807620, 3553878443, 3811616794, 4084100981]
def tab (i : Nat) : BitVec 32 := BitVec.ofNat 32 (tabL.getD i 0)
def low4 (x : BitVec 32) : BitVec 32 := and32 x (BitVec.ofNat 32 15)
theorem low4_lt (x : BitVec 32) : (low4 x).toNat < 16 := by
  unfold low4 and32
  rw [BitVec.toNat_and]
  exact Nat.lt_of_le_of_lt Nat.and_le_right (by decide)
theorem stp4_low : ∀ n, n < 16 → stp4 (BitVec.ofNat 32 n) = tab n := by decide
theorem stp_shl (y : BitVec 32) (h : y.toNat < 2147483648) : stp (shl32 y 1) = y := by
  unfold stp shl32 shr32 xor32
  have : (y <<< 1).getLsbD 0 = false := by simp
  rw [this]
  simp only [cond_false, BitVec.xor_zero]
  apply BitVec.eq_of_toNat_eq
  rw [BitVec.toNat_ushiftRight, BitVec.toNat_shiftLeft, Nat.shiftLeft_eq, Nat.shiftRight_eq_div_pow]
  omega
theorem nib (x : BitVec 32) : xor32 (tab (low4 x).toNat) (shr32 x 4) = stp4 x := by
  have h1 := low4_lt x
  have hx := x.isLt
  have hs : (shr32 x 4).toNat = x.toNat / 16 := by unfold shr32; rw [BitVec.toNat_ushiftRight, Nat.shiftRight_eq_div_pow]
  have hl : ∀ (y : BitVec 32), y.toNat < 2147483648 → (shl32 y 1).toNat = y.toNat * 2 := fun y hy => by
    unfold shl32; rw [BitVec.toNat_shiftLeft, Nat.shiftLeft_eq]; omega
  have e : x = xor32 (low4 x) (shl32 (shl32 (shl32 (shl32 (shr32 x 4) 1) 1) 1) 1) := by
    unfold low4 xor32 and32 shl32 shr32
    apply BitVec.eq_of_getLsbD_eq
    intro i hi
    have k : ∀ i : Nat, (BitVec.ofNat 32 15).getLsbD i = decide (i < 4) := by
      intro i
      by_cases h : i < 32
      · revert i; decide
      · rw [BitVec.getLsbD_of_ge _ _ (by omega)]; simp; omega
    simp only [BitVec.getLsbD_xor, BitVec.getLsbD_and, BitVec.getLsbD_shiftLeft, BitVec.getLsbD_ushiftRight, k]
    by_cases h4 : i < 4
    · have : i = 0 ∨ i = 1 ∨ i = 2 ∨ i = 3 := by omega
      rcases this with rfl | rfl | rfl | rfl <;> simp
    · have e1 : 4 + (i - 1 - 1 - 1 - 1) = i := by omega
      rw [e1]
      simp only [decide_eq_false h4, Bool.and_false, Bool.false_xor]
      have a0 : decide (i < 1) = false := by simp; omega
      have a1 : decide (i - 1 < 1) = false := by simp; omega
      have a2 : decide (i - 1 - 1 < 1) = false := by simp; omega
      have a3 : decide (i - 1 - 1 - 1 < 1) = false := by simp; omega
      have c0 : decide (i < 32) = true := by simp; omega
      have c1 : decide (i - 1 < 32) = true := by simp; omega
      have c2 : decide (i - 1 - 1 < 32) = true := by simp; omega
      have c3 : decide (i - 1 - 1 - 1 < 32) = true := by simp; omega
      rw [a0, a1, a2, a3, c0, c1, c2, c3]
      simp
  have e2 : stp4 (shl32 (shl32 (shl32 (shl32 (shr32 x 4) 1) 1) 1) 1) = shr32 x 4 := by
    have a1 := hl (shr32 x 4) (by omega)
    have a2 := hl (shl32 (shr32 x 4) 1) (by omega)
    have a3 := hl (shl32 (shl32 (shr32 x 4) 1) 1) (by omega)
    unfold stp4
    rw [stp_shl _ (by omega), stp_shl _ (by omega), stp_shl _ (by omega), stp_shl _ (by omega)]
  have e3 : stp4 (low4 x) = tab (low4 x).toNat := by
    have := stp4_low (low4 x).toNat h1
    rwa [BitVec.ofNat_toNat, BitVec.setWidth_eq] at this
  conv => rhs; rw [e]
  rw [stp4_xor, e2, e3]
end Go.Proofs.YtnhlejdilldfaaaGreat
namespace Go.Proofs.YtnhlejdilldfaaaGreat
open Go
/-- The k lowest bytes of a number, the highest first. -/
def num (n : Nat) : Nat → List UInt8
  | 0 => []
  | k + 1 => num (n / 256) k ++ [UInt8.ofNat (n % 256)]
theorem num_length : ∀ (k n : Nat), (num n k).length = k
  | 0, _ => rfl
  | k + 1, n => by rw [num, List.length_append, num_length k]; rfl
/-- The number that has these bytes. -/
def val (l : List UInt8) : Nat := l.foldl (fun n b => n * 256 + b.toNat) 0
theorem val_nil : val [] = 0 := rfl
theorem val_app (l : List UInt8) (b : UInt8) : val (l ++ [b]) = val l * 256 + b.toNat := by unfold val; rw [List.foldl_append]; rfl
theorem val_take (l : List UInt8) (n : Nat) (h : n < l.length) : val (l.take (n + 1)) = val (l.take n) * 256 + (byteOf l n).toNat := by
  rw [byteOf, List.take_succ_eq_append_getElem h, val_app, List.getD_eq_getElem?_getD, List.getElem?_eq_getElem h]
  rfl
theorem split_last (l : List UInt8) (k : Nat) (h : l.length = k + 1) : ∃ m b, l = m ++ [b] ∧ m.length = k := by
  refine ⟨l.take k, l[k], ?_, by rw [List.length_take]; omega⟩
  rw [← List.take_succ_eq_append_getElem (by omega), List.take_of_length_le (by omega)]
theorem val_lt : ∀ (k : Nat) (l : List UInt8), l.length = k → val l < 256 ^ k
  | 0, l, h => by rw [List.length_eq_zero_iff.1 h]; decide
  | k + 1, l, h => by
    obtain ⟨m, b, rfl, hm⟩ := split_last l k h
    have := val_lt k m hm
    have hb := b.toNat_lt
    rw [val_app, Nat.pow_succ]
    omega
theorem val_num : ∀ (k n : Nat), val (num n k) = n % 256 ^ k
  | 0, n => by rw [num, val_nil, Nat.pow_zero, Nat.mod_one]
  | k + 1, n => by
    rw [num, val_app, val_num k, UInt8.toNat_ofNat']
    rw [show (256 : Nat) ^ (k + 1) = 256 * 256 ^ k from Nat.pow_succ', Nat.mod_mul]
    omega
theorem num_val : ∀ (k : Nat) (l : List UInt8), l.length = k → num (val l) k = l
  | 0, l, h => by rw [List.length_eq_zero_iff.1 h]; rfl
  | k + 1, l, h => by
    obtain ⟨m, b, rfl, hm⟩ := split_last l k h
    have hb := b.toNat_lt
    rw [val_app, num, show (val m * 256 + b.toNat) / 256 = val m from by omega, num_val k m hm, show (val m * 256 + b.toNat) % 256 = b.toNat from by omega]
    simp
theorem num_range : ∀ (k n : Nat), num n k = (List.range k).map fun j => UInt8.ofNat (n / 256 ^ (k - 1 - j) % 256)
  | 0, _ => rfl
  | k + 1, n => by
    rw [num, num_range k, List.range_succ, List.map_append]
    congr 1
    · apply List.map_congr_left
      intro j hj
      have hj := List.mem_range.1 hj
      rw [Nat.div_div_eq_div_mul, show k + 1 - 1 - j = (k - 1 - j) + 1 from by omega, Nat.pow_succ']
    · simp
theorem num_four (n : Nat) (h : n < 4294967296) : val (num n 4) = n := by
  rw [val_num, Nat.mod_eq_of_lt (by simpa using h)]
/-- A reader: its bytes, how many were taken, its error. -/
structure R where
  s : List UInt8
  pos : Nat
  err : Int
def R.fail (r : R) (e : Int) : R := if r.err = 0 then ⟨r.s, r.pos, e⟩ else r
def R.bytes (r : R) (n : Int) : R × List UInt8 :=
  if r.err ≠ 0 then (r, []) else if n < 0 then (⟨r.s, r.pos, 1⟩, []) else if (r.s.length : Int) - r.pos < n then (⟨r.s, r.pos, 4⟩, []) else (⟨r.s, r.pos + n.toNat, r.err⟩, (r.s.drop r.pos).take n.toNat)
def R.early (r : R) (k : Int) : R := if r.err = 0 ∧ 8 < k then ⟨r.s, r.pos, 1⟩ else r
def R.number (r : R) (k : Int) : R × Nat := (((r.early k).bytes k).1, val ((r.early k).bytes k).2)
def R.count (r : R) (most : Int) : R × Nat :=
  if (r.number 4).1.err = 0 ∧ (most < 0 ∨ most < (r.number 4).2) then (⟨r.s, r.pos, 3⟩, 0) else r.number 4
def R.text (r : R) (most : Int) : R × List UInt8 :=
  if ((r.count most).1.bytes (r.count most).2).1.err ≠ 0 then (⟨r.s, r.pos, ((r.count most).1.bytes (r.count most).2).1.err⟩, []) else (r.count most).1.bytes (r.count most).2
def R.bool (r : R) : R × Bool :=
  if (r.number 1).1.err = 0 ∧ 1 < (r.number 1).2 then (⟨r.s, r.pos, 6⟩, false) else ((r.number 1).1, decide ((r.number 1).2 = 1))
def R.fin (r : R) : R := if r.err = 0 ∧ r.pos < r.s.length then ⟨r.s, r.pos, 5⟩ else r
/-- What may be. -/
def R.ok (r : R) : Prop := r.pos ≤ r.s.length
theorem R.bytes_s (r : R) (n : Int) : (r.bytes n).1.s = r.s := by unfold R.bytes; split <;> (try split) <;> (try split) <;> rfl
theorem R.early_s (r : R) (n : Int) : (r.early n).s = r.s := by unfold R.early; split <;> rfl
theorem R.early_pos (r : R) (n : Int) : (r.early n).pos = r.pos := by unfold R.early; split <;> rfl
theorem R.number_s (r : R) (n : Int) : (r.number n).1.s = r.s := by unfold R.number; rw [R.bytes_s, R.early_s]
theorem R.count_s (r : R) (n : Int) : (r.count n).1.s = r.s := by unfold R.count; split; rfl; rw [R.number_s]
theorem R.text_s (r : R) (n : Int) : (r.text n).1.s = r.s := by unfold R.text; split; rfl; rw [R.bytes_s, R.count_s]
theorem R.bool_s (r : R) : r.bool.1.s = r.s := by unfold R.bool; split; rfl; rw [R.number_s]
theorem R.fail_s (r : R) (e : Int) : (r.fail e).s = r.s := by unfold R.fail; split <;> rfl
theorem R.ok_early {r : R} (h : r.ok) (n : Int) : (r.early n).ok := by unfold R.early; split <;> exact h
theorem R.ok_bytes {r : R} (h : r.ok) (n : Int) : (r.bytes n).1.ok := by
  unfold R.bytes
  split
  · exact h
  · split
    · exact h
    · split
      · exact h
      · unfold R.ok at *; simp only; omega
theorem R.ok_number {r : R} (h : r.ok) (n : Int) : (r.number n).1.ok := R.ok_bytes (R.ok_early h n) n
theorem R.ok_count {r : R} (h : r.ok) (n : Int) : (r.count n).1.ok := by unfold R.count; split; exact h; exact R.ok_number h 4
theorem R.ok_text {r : R} (h : r.ok) (n : Int) : (r.text n).1.ok := by unfold R.text; split; exact h; exact R.ok_bytes (R.ok_count h n) _
theorem R.ok_bool {r : R} (h : r.ok) : r.bool.1.ok := by unfold R.bool; split; exact h; exact R.ok_number h 1
theorem R.ok_fail {r : R} (h : r.ok) (e : Int) : (r.fail e).ok := by unfold R.fail; split <;> exact h
theorem R.early_len (r : R) (k : Int) : ((r.early k).bytes k).2.length ≤ 8 := by
  unfold R.early
  split
  · rename_i h
    unfold R.bytes
    rw [if_pos (by simp)]
    simp
  · rename_i h
    unfold R.bytes
    split
    · simp
    · split
      · simp
      · split
        · simp
        · simp only [List.length_take]; omega
theorem R.number4_lt (r : R) : (r.number 4).2 < 4294967296 := by
  have h : ((r.early 4).bytes 4).2.length ≤ 4 := by
    unfold R.bytes
    split
    · simp
    · split
      · simp
      · split
        · simp
        · simp only [List.length_take]; omega
  have h1 := val_lt _ ((r.early 4).bytes 4).2 rfl
  have h2 : 256 ^ ((r.early 4).bytes 4).2.length ≤ 256 ^ 4 := Nat.pow_le_pow_right (by decide) h
  have h3 : 256 ^ 4 = 4294967296 := by decide
  unfold R.number
  simp only
  omega
end Go.Proofs.YtnhlejdilldfaaaGreat
