/- The plain mathematics of words of 32 bits: each operation of Go's uint32, as the walk spells it, is the operation on BitVec 32. CRC-32C over plain words: bit by bit, by fours, over bytes; what is changed in up to 32 bits side by side is found. Numbers as bytes, the highest first, and back. Laws on whole blocks of memory: a block that is known whole, and what boxing, making, loading and storing a whole array does to it. Arrays of words and bytes as rows of cells. -/
import Derived.WalkKit
import Derived.Deep.MidRow
import Derived.Deep.WholeRow
import Derived.BigQuiet
namespace Go.Proofs.YtaiiojbakmminaaGreatDoor
open Go

/-- A word's number. -/
def n32 (x : BitVec 32) : Int := (x.toNat : Int)
def add32 (x y : BitVec 32) : BitVec 32 := x + y
def xor32 (x y : BitVec 32) : BitVec 32 := x ^^^ y
def and32 (x y : BitVec 32) : BitVec 32 := x &&& y
def or32 (x y : BitVec 32) : BitVec 32 := x ||| y
def not32 (x : BitVec 32) : BitVec 32 := ~~~ x
def shr32 (x : BitVec 32) (n : Nat) : BitVec 32 := x >>> n
def shl32 (x : BitVec 32) (n : Nat) : BitVec 32 := x <<< n
/-- A word turned to the right. -/
def rr (n : Nat) (x : BitVec 32) : BitVec 32 := or32 (shr32 x n) (shl32 x (32 - n))

theorem n32_nonneg (x : BitVec 32) : 0 ≤ n32 x := by unfold n32; omega
theorem n32_lt (x : BitVec 32) : n32 x < 4294967296 := by unfold n32; have := x.isLt; omega

theorem n32_add (x y : BitVec 32) : (n32 x + n32 y) % 4294967296 = n32 (add32 x y) := by
  unfold n32 add32; rw [BitVec.toNat_add]; omega
theorem n32_wadd (x y : BitVec 32) : IntKind.u32.wrap (n32 x + n32 y) = n32 (add32 x y) := by
  rw [IntKind.wrap_u32, n32_add]
theorem ofInt_n32 (x : BitVec 32) : BitVec.ofInt 32 (n32 x) = x := by
  unfold n32; simp
theorem wrap_n32 (x : BitVec 32) : IntKind.u32.wrap (n32 x) = n32 x := by
  rw [IntKind.wrap_u32]; have := n32_nonneg x; have := n32_lt x; omega
theorem bits_xor32 (x y : BitVec 32) : bits .xor .u32 (n32 x) (n32 y) = n32 (xor32 x y) := by
  show IntKind.u32.wrap ((BitVec.ofInt 32 (n32 x) ^^^ BitVec.ofInt 32 (n32 y)).toNat : Int) = _
  rw [ofInt_n32, ofInt_n32]; exact wrap_n32 (xor32 x y)
theorem bits_and32 (x y : BitVec 32) : bits .and .u32 (n32 x) (n32 y) = n32 (and32 x y) := by
  show IntKind.u32.wrap ((BitVec.ofInt 32 (n32 x) &&& BitVec.ofInt 32 (n32 y)).toNat : Int) = _
  rw [ofInt_n32, ofInt_n32]; exact wrap_n32 (and32 x y)
theorem bits_or32 (x y : BitVec 32) : bits .or .u32 (n32 x) (n32 y) = n32 (or32 x y) := by
  show IntKind.u32.wrap ((BitVec.ofInt 32 (n32 x) ||| BitVec.ofInt 32 (n32 y)).toNat : Int) = _
  rw [ofInt_n32, ofInt_n32]; exact wrap_n32 (or32 x y)
theorem bits_not32 (x : BitVec 32) : bits .xor .u32 4294967295 (n32 x) = n32 (not32 x) := by
  show IntKind.u32.wrap ((BitVec.ofInt 32 4294967295 ^^^ BitVec.ofInt 32 (n32 x)).toNat : Int) = _
  rw [ofInt_n32]
  have : (BitVec.ofInt 32 4294967295 ^^^ x) = not32 x := by
    unfold not32
    rw [show BitVec.ofInt 32 4294967295 = BitVec.allOnes 32 from by decide, BitVec.allOnes_xor]
  rw [this]; exact wrap_n32 _
theorem bits_notmax (x : BitVec 32) : bits .xor .u32 IntKind.u32.max (n32 x) = n32 (not32 x) := bits_not32 x
theorem sub_not32 (x : BitVec 32) : 4294967295 - n32 x = n32 (not32 x) := by
  unfold n32 not32; rw [BitVec.toNat_not]; have := x.isLt; omega
theorem n32_shr (x : BitVec 32) (n : Nat) : n32 x / 2 ^ n = n32 (shr32 x n) := by
  unfold n32 shr32; rw [BitVec.toNat_ushiftRight, Nat.shiftRight_eq_div_pow]; simp
theorem n32_shl (x : BitVec 32) (n : Nat) : n32 x * 2 ^ n % 4294967296 = n32 (shl32 x n) := by
  unfold n32 shl32; rw [BitVec.toNat_shiftLeft, Nat.shiftLeft_eq]; simp

end Go.Proofs.YtaiiojbakmminaaGreatDoor
namespace Go.Proofs.YtaiiojbakmminaaGreatDoor
open Go

def n8 (x : UInt8) : Int := (x.toNat : Int)
theorem n8_nonneg (x : UInt8) : 0 ≤ n8 x := by unfold n8; omega
theorem n8_le (x : UInt8) : n8 x ≤ 255 := by unfold n8; have := x.toNat_lt; omega
/-- A byte as a word. -/
def w8 (x : UInt8) : BitVec 32 := BitVec.ofNat 32 x.toNat
theorem n8_n32 (x : UInt8) : n8 x = n32 (w8 x) := by
  unfold n8 n32 w8; rw [BitVec.toNat_ofNat]; have := x.toNat_lt; omega
theorem n8_wrap (x : UInt8) : IntKind.u32.wrap (n8 x) = n32 (w8 x) := by rw [n8_n32, wrap_n32]

def poly : BitVec 32 := (BitVec.ofNat 32 0x82f63b78)
/-- One bit is shifted out. -/
def stp (x : BitVec 32) : BitVec 32 := xor32 (shr32 x 1) (bif x.getLsbD 0 then poly else (BitVec.ofNat 32 0))
def stp4 (x : BitVec 32) : BitVec 32 := stp (stp (stp (stp x)))
def byt (r : BitVec 32) (b : UInt8) : BitVec 32 := stp4 (stp4 (xor32 r (w8 b)))
/-- The remainder behind bytes. -/
def crcF (r : BitVec 32) (l : List UInt8) : BitVec 32 := l.foldl byt r
def ones : BitVec 32 := (BitVec.ofNat 32 4294967295)
/-- The check of bytes. -/
def crc (l : List UInt8) : BitVec 32 := not32 (crcF ones l)
theorem crcF_append (r : BitVec 32) (l m : List UInt8) : crcF r (l ++ m) = crcF (crcF r l) m := List.foldl_append
def byteOf (l : List UInt8) (k : Nat) : UInt8 := l.getD k 0
theorem crcF_take (r : BitVec 32) (l : List UInt8) (n : Nat) (h : n < l.length) : crcF r (l.take (n + 1)) = byt (crcF r (l.take n)) (byteOf l n) := by
  rw [byteOf, List.take_succ_eq_append_getElem h, crcF_append, List.getD_eq_getElem?_getD, List.getElem?_eq_getElem h]
  rfl
theorem not_not32 (x : BitVec 32) : not32 (not32 x) = x := by unfold not32; simp

theorem stp_xor (x y : BitVec 32) : stp (xor32 x y) = xor32 (stp x) (stp y) := by
  unfold stp xor32 shr32
  rw [BitVec.ushiftRight_xor_distrib, BitVec.getLsbD_xor]
  cases x.getLsbD 0 <;> cases y.getLsbD 0 <;> simp [BitVec.xor_assoc]
  · rw [BitVec.xor_comm]
  · rw [BitVec.xor_comm poly, BitVec.xor_assoc, BitVec.xor_self, BitVec.xor_zero]
theorem stp4_xor (x y : BitVec 32) : stp4 (xor32 x y) = xor32 (stp4 x) (stp4 y) := by
  unfold stp4; rw [stp_xor, stp_xor, stp_xor, stp_xor]
/-- What shifts by fours add. -/
def tabL : List Nat := [0, 274646895, 549293790, 820201905, 1098587580, 1361435347, 1640403810, 1905808397, 2197175160, 2460548119, 2722870694, 2987750089, 3280807620, 3553878443, 3811616794, 4084100981]
def tab (i : Nat) : BitVec 32 := BitVec.ofNat 32 (tabL.getD i 0)
def low4 (x : BitVec 32) : BitVec 32 := and32 x (BitVec.ofNat 32 15)
theorem low4_lt (x : BitVec 32) : (low4 x).toNat < 16 := by
  unfold low4 and32
  rw [BitVec.toNat_and]
  exact Nat.lt_of_le_of_lt Nat.and_le_right (by decide)
theorem stp4_low : ∀ n, n < 16 → stp4 (BitVec.ofNat 32 n) = tab n := by decide
theorem stp_shl (y : BitVec 32) (h : y.toNat < 2147483648) : stp (shl32 y 1) = y := by
  unfold stp shl32 shr32 xor32
  have : (y <<< 1).getLsbD 0 = false := by simp
  rw [this]
  simp only [cond_false, BitVec.xor_zero]
  apply BitVec.eq_of_toNat_eq
  rw [BitVec.toNat_ushiftRight, BitVec.toNat_shiftLeft, Nat.shiftLeft_eq, Nat.shiftRight_eq_div_pow]
  omega
theorem nib (x : BitVec 32) : xor32 (tab (low4 x).toNat) (shr32 x 4) = stp4 x := by
  have h1 := low4_lt x
  have hx := x.isLt
  have hs : (shr32 x 4).toNat = x.toNat / 16 := by unfold shr32; rw [BitVec.toNat_ushiftRight, Nat.shiftRight_eq_div_pow]
  have hl : ∀ (y : BitVec 32), y.toNat < 2147483648 → (shl32 y 1).toNat = y.toNat * 2 := fun y hy => by
    unfold shl32; rw [BitVec.toNat_shiftLeft, Nat.shiftLeft_eq]; omega
  have e : x = xor32 (low4 x) (shl32 (shl32 (shl32 (shl32 (shr32 x 4) 1) 1) 1) 1) := by
    unfold low4 xor32 and32 shl32 shr32
    apply BitVec.eq_of_getLsbD_eq
    intro i hi
    have k : ∀ i : Nat, (BitVec.ofNat 32 15).getLsbD i = decide (i < 4) := by
      intro i
      by_cases h : i < 32
      · revert i; decide
      · rw [BitVec.getLsbD_of_ge _ _ (by omega)]; simp; omega
    simp only [BitVec.getLsbD_xor, BitVec.getLsbD_and, BitVec.getLsbD_shiftLeft, BitVec.getLsbD_ushiftRight, k]
    by_cases h4 : i < 4
    · have : i = 0 ∨ i = 1 ∨ i = 2 ∨ i = 3 := by omega
      rcases this with rfl | rfl | rfl | rfl <;> simp
    · have e1 : 4 + (i - 1 - 1 - 1 - 1) = i := by omega
      rw [e1]
      simp only [decide_eq_false h4, Bool.and_false, Bool.false_xor]
      have a0 : decide (i < 1) = false := by simp; omega
      have a1 : decide (i - 1 < 1) = false := by simp; omega
      have a2 : decide (i - 1 - 1 < 1) = false := by simp; omega
      have a3 : decide (i - 1 - 1 - 1 < 1) = false := by simp; omega
      have c0 : decide (i < 32) = true := by simp; omega
      have c1 : decide (i - 1 < 32) = true := by simp; omega
      have c2 : decide (i - 1 - 1 < 32) = true := by simp; omega
      have c3 : decide (i - 1 - 1 - 1 < 32) = true := by simp; omega
      rw [a0, a1, a2, a3, c0, c1, c2, c3]
      simp
  have e2 : stp4 (shl32 (shl32 (shl32 (shl32 (shr32 x 4) 1) 1) 1) 1) = shr32 x 4 := by
    have a1 := hl (shr32 x 4) (by omega)
    have a2 := hl (shl32 (shr32 x 4) 1) (by omega)
    have a3 := hl (shl32 (shl32 (shr32 x 4) 1) 1) (by omega)
    unfold stp4
    rw [stp_shl _ (by omega), stp_shl _ (by omega), stp_shl _ (by omega), stp_shl _ (by omega)]
  have e3 : stp4 (low4 x) = tab (low4 x).toNat := by
    have := stp4_low (low4 x).toNat h1
    rwa [BitVec.ofNat_toNat, BitVec.setWidth_eq] at this
  conv => rhs; rw [e]
  rw [stp4_xor, e2, e3]
end Go.Proofs.YtaiiojbakmminaaGreatDoor
namespace Go.Proofs.YtaiiojbakmminaaGreatDoor
open Go
/-- The k lowest bytes of a number, the highest first. -/
def num (n : Nat) : Nat → List UInt8
  | 0 => []
  | k + 1 => num (n / 256) k ++ [UInt8.ofNat (n % 256)]
theorem num_length : ∀ (k n : Nat), (num n k).length = k
  | 0, _ => rfl
  | k + 1, n => by rw [num, List.length_append, num_length k]; rfl
/-- The number that has these bytes. -/
def val (l : List UInt8) : Nat := l.foldl (fun n b => n * 256 + b.toNat) 0
theorem val_nil : val [] = 0 := rfl
theorem val_app (l : List UInt8) (b : UInt8) : val (l ++ [b]) = val l * 256 + b.toNat := by unfold val; rw [List.foldl_append]; rfl
theorem val_take (l : List UInt8) (n : Nat) (h : n < l.length) : val (l.take (n + 1)) = val (l.take n) * 256 + (byteOf l n).toNat := by
  rw [byteOf, List.take_succ_eq_append_getElem h, val_app, List.getD_eq_getElem?_getD, List.getElem?_eq_getElem h]
  rfl
theorem split_last (l : List UInt8) (k : Nat) (h : l.length = k + 1) : ∃ m b, l = m ++ [b] ∧ m.length = k := by
  refine ⟨l.take k, l[k], ?_, by rw [List.length_take]; omega⟩
  rw [← List.take_succ_eq_append_getElem (by omega), List.take_of_length_le (by omega)]
theorem val_lt : ∀ (k : Nat) (l : List UInt8), l.length = k → val l < 256 ^ k
  | 0, l, h => by rw [List.length_eq_zero_iff.1 h]; decide
  | k + 1, l, h => by
    obtain ⟨m, b, rfl, hm⟩ := split_last l k h
    have := val_lt k m hm
    have hb := b.toNat_lt
    rw [val_app, Nat.pow_succ]
    omega
theorem val_num : ∀ (k n : Nat), val (num n k) = n % 256 ^ k
  | 0, n => by rw [num, val_nil, Nat.pow_zero, Nat.mod_one]
  | k + 1, n => by
    rw [num, val_app, val_num k, UInt8.toNat_ofNat']
    rw [show (256 : Nat) ^ (k + 1) = 256 * 256 ^ k from Nat.pow_succ', Nat.mod_mul]
    omega
theorem num_val : ∀ (k : Nat) (l : List UInt8), l.length = k → num (val l) k = l
  | 0, l, h => by rw [List.length_eq_zero_iff.1 h]; rfl
  | k + 1, l, h => by
    obtain ⟨m, b, rfl, hm⟩ := split_last l k h
    have hb := b.toNat_lt
    rw [val_app, num, show (val m * 256 + b.toNat) / 256 = val m from by omega, num_val k m hm, show (val m * 256 + b.toNat) % 256 = b.toNat from by omega]
    simp
theorem num_range : ∀ (k n : Nat), num n k = (List.range k).map fun j => UInt8.ofNat (n / 256 ^ (k - 1 - j) % 256)
  | 0, _ => rfl
  | k + 1, n => by
    rw [num, num_range k, List.range_succ, List.map_append]
    congr 1
    · apply List.map_congr_left
      intro j hj
      have hj := List.mem_range.1 hj
      rw [Nat.div_div_eq_div_mul, show k + 1 - 1 - j = (k - 1 - j) + 1 from by omega, Nat.pow_succ']
    · simp
theorem num_four (n : Nat) (h : n < 4294967296) : val (num n 4) = n := by
  rw [val_num, Nat.mod_eq_of_lt (by simpa using h)]
/-- A text's frame. -/
def frame (s : List UInt8) : List UInt8 := num s.length 4 ++ (num (crc (num s.length 4 ++ s)).toNat 4 ++ s)
/-- A reader: its bytes, how many were taken, its error. -/
structure R where
  s : List UInt8
  pos : Nat
  err : Int
def R.fail (r : R) (e : Int) : R := if r.err = 0 then ⟨r.s, r.pos, e⟩ else r
def R.bytes (r : R) (n : Int) : R × List UInt8 :=
  if r.err ≠ 0 then (r, []) else if n < 0 then (⟨r.s, r.pos, 1⟩, []) else if (r.s.length : Int) - r.pos < n then (⟨r.s, r.pos, 4⟩, []) else (⟨r.s, r.pos + n.toNat, r.err⟩, (r.s.drop r.pos).take n.toNat)
def R.early (r : R) (k : Int) : R := if r.err = 0 ∧ 8 < k then ⟨r.s, r.pos, 1⟩ else r
def R.number (r : R) (k : Int) : R × Nat := (((r.early k).bytes k).1, val ((r.early k).bytes k).2)
def R.count (r : R) (most : Int) : R × Nat :=
  if (r.number 4).1.err = 0 ∧ (most < 0 ∨ most < (r.number 4).2) then (⟨r.s, r.pos, 3⟩, 0) else r.number 4
/-- What may be. -/
def R.ok (r : R) : Prop := r.pos ≤ r.s.length
theorem R.bytes_s (r : R) (n : Int) : (r.bytes n).1.s = r.s := by unfold R.bytes; split <;> (try split) <;> (try split) <;> rfl
theorem R.early_s (r : R) (n : Int) : (r.early n).s = r.s := by unfold R.early; split <;> rfl
theorem R.early_pos (r : R) (n : Int) : (r.early n).pos = r.pos := by unfold R.early; split <;> rfl
theorem R.number_s (r : R) (n : Int) : (r.number n).1.s = r.s := by unfold R.number; rw [R.bytes_s, R.early_s]
theorem R.count_s (r : R) (n : Int) : (r.count n).1.s = r.s := by unfold R.count; split; rfl; rw [R.number_s]
theorem R.fail_s (r : R) (e : Int) : (r.fail e).s = r.s := by unfold R.fail; split <;> rfl
theorem R.ok_early {r : R} (h : r.ok) (n : Int) : (r.early n).ok := by unfold R.early; split <;> exact h
theorem R.ok_bytes {r : R} (h : r.ok) (n : Int) : (r.bytes n).1.ok := by
  unfold R.bytes
  split
  · exact h
  · split
    · exact h
    · split
      · exact h
      · unfold R.ok at *; simp only; omega
theorem R.ok_number {r : R} (h : r.ok) (n : Int) : (r.number n).1.ok := R.ok_bytes (R.ok_early h n) n
theorem R.ok_count {r : R} (h : r.ok) (n : Int) : (r.count n).1.ok := by unfold R.count; split; exact h; exact R.ok_number h 4
theorem R.early_len (r : R) (k : Int) : ((r.early k).bytes k).2.length ≤ 8 := by
  unfold R.early
  split
  · rename_i h
    unfold R.bytes
    rw [if_pos (by simp)]
    simp
  · rename_i h
    unfold R.bytes
    split
    · simp
    · split
      · simp
      · split
        · simp
        · simp only [List.length_take]; omega
theorem R.number4_lt (r : R) : (r.number 4).2 < 4294967296 := by
  have h : ((r.early 4).bytes 4).2.length ≤ 4 := by
    unfold R.bytes
    split
    · simp
    · split
      · simp
      · split
        · simp
        · simp only [List.length_take]; omega
  have h1 := val_lt _ ((r.early 4).bytes 4).2 rfl
  have h2 : 256 ^ ((r.early 4).bytes 4).2.length ≤ 256 ^ 4 := Nat.pow_le_pow_right (by decide) h
  have h3 : 256 ^ 4 = 4294967296 := by decide
  unfold R.number
  simp only
  omega
end Go.Proofs.YtaiiojbakmminaaGreatDoor
namespace Go.Proofs.YtaiiojbakmminaaGreatDoor
open Go Go.RowKit

/-- Block b holds the cells c, of the type t, none of them frozen. -/
structure Blk (w : World) (b : Nat) (c : Array Value) (t : TypeId) : Prop where
  out : w.heap[b]? = some (.cells c t (0, 0))

theorem Blk.cell {w : World} {b : Nat} {c : Array Value} {t : TypeId} (h : Blk w b c t) (o : Nat) : w.cell? ⟨b, o, none⟩ = c[o]? := by
  simp [World.cell?, h.out]
theorem Blk.frozen {w : World} {b : Nat} {c : Array Value} {t : TypeId} (h : Blk w b c t) (o : Nat) : w.frozen? ⟨b, o, none⟩ = false := by
  simp [World.frozen?, h.out]
theorem Blk.lt {w : World} {b : Nat} {c : Array Value} {t : TypeId} (h : Blk w b c t) : b < w.heap.size :=
  (Array.getElem?_eq_some_iff.1 h.out).1
theorem Blk.below {w w' : World} {b B : Nat} {c : Array Value} {t : TypeId} (h : Blk w b c t) (hb : Below B w w') (hl : b < B) : Blk w' b c t :=
  ⟨by rw [hb.block b hl]; exact h.out⟩
theorem Blk.belowSize {w w' : World} {b : Nat} {c : Array Value} {t : TypeId} (h : Blk w b c t) (hb : Below w.heap.size w w') : Blk w' b c t := h.below hb h.lt
theorem Blk.grown {w w' : World} {b : Nat} {row : Option Nat} {c : Array Value} {t : TypeId} (h : Blk w b c t) (hb : w.grownBy w' row) (hr : some b ≠ row) : Blk w' b c t :=
  ⟨by rw [hb.block b h.lt hr]; exact h.out⟩
theorem Blk.drewN {w : World} {b : Nat} {c : Array Value} {t : TypeId} (h : Blk w b c t) (n : Nat) : Blk (w.drewN n) b c t := ⟨h.out⟩
theorem Blk.drew {w : World} {b : Nat} {c : Array Value} {t : TypeId} (h : Blk w b c t) : Blk w.drew b c t := ⟨h.out⟩
theorem Blk.new (w : World) (c : Array Value) (t : TypeId) : Blk (w.alloc (.cells c t)) w.heap.size c t := ⟨heap_alloc_last w _⟩
theorem Blk.setCell {w : World} {b : Nat} {c : Array Value} {t : TypeId} (h : Blk w b c t) (o : Nat) (v : Value) : Blk (w.setCell ⟨b, o, none⟩ v) b (c.setIfInBounds o v) t :=
  ⟨by simp [World.setCell, Array.getElem?_modify, h.out]⟩
theorem Blk.rangeAll {w : World} {b : Nat} {c : Array Value} {t : TypeId} (h : Blk w b c t) : w.rangeAt b 0 c.toList := fun j v hv => by
  rw [Nat.zero_add, h.cell]; simpa using hv
theorem Blk.there {w : World} {b : Nat} {c : Array Value} {t : TypeId} (h : Blk w b c t) (o n : Nat) (hn : o + n ≤ c.size) : w.there b o n := fun j hj => by
  rw [h.cell, h.frozen]
  refine ⟨?_, rfl⟩
  rw [Array.getElem?_eq_getElem (by omega)]; rfl

/-- Cells with some of them, from o on, put anew. -/
def spl (c : Array Value) (o : Nat) : List Value → Array Value
  | [] => c
  | v :: r => spl (c.setIfInBounds o v) (o + 1) r
theorem Blk.setCells {b : Nat} {t : TypeId} : ∀ (vs : List Value) (o : Nat) {w : World} {c : Array Value}, Blk w b c t → Blk (w.setCells b o vs) b (spl c o vs) t
  | [], _, _, _, h => h
  | v :: r, o, w, c, h => by
    rw [World.setCells]
    exact Blk.setCells r (o + 1) (h.setCell o v)
theorem spl_size : ∀ (vs : List Value) (c : Array Value) (o : Nat), (spl c o vs).size = c.size
  | [], _, _ => rfl
  | v :: r, c, o => by rw [spl, spl_size r]; simp
theorem spl_get : ∀ (vs : List Value) (c : Array Value) (o j : Nat), o + vs.length ≤ c.size → (spl c o vs)[j]? = if o ≤ j ∧ j < o + vs.length then vs[j - o]? else c[j]?
  | [], c, o, j, _ => by rw [spl, if_neg (by simp)]
  | v :: r, c, o, j, h => by
    simp only [List.length_cons] at h
    rw [spl, spl_get r _ _ _ (by simp; omega)]
    simp only [List.length_cons]
    by_cases h1 : o + 1 ≤ j ∧ j < o + 1 + r.length
    · rw [if_pos h1, if_pos (by omega)]
      obtain ⟨i, hi⟩ : ∃ i, j - o = i + 1 := ⟨j - o - 1, by omega⟩
      rw [hi, List.getElem?_cons_succ, show j - (o + 1) = i from by omega]
    · rw [if_neg h1, Array.getElem?_setIfInBounds]
      by_cases h2 : o = j
      · subst h2; rw [if_pos rfl, if_pos (by omega), if_pos (by omega)]; simp
      · rw [if_neg h2, if_neg (by omega)]

theorem grown_refl (w : World) (row : Option Nat) : w.grownBy w row := ⟨rfl, rfl, rfl, Nat.le_refl _, fun _ _ _ => rfl⟩
theorem grown_trans {a b c : World} {row : Option Nat} (h : a.grownBy b row) (k : b.grownBy c row) : a.grownBy c row :=
  ⟨k.os.trans h.os, k.tape.trans h.tape, k.output.trans h.output, Nat.le_trans h.size k.size, fun i hi hr => (k.block i (Nat.lt_of_lt_of_le hi h.size) hr).trans (h.block i hi hr)⟩
theorem grown_of_below {w w' : World} {row : Option Nat} (h : Below w.heap.size w w') : w.grownBy w' row := ⟨h.os, h.tape, h.output, h.size, fun k hk _ => h.block k hk⟩
theorem below_of_grown {w w' : World} {B b : Nat} (h : w.grownBy w' (some b)) (hB : B ≤ b) (hs : B ≤ w.heap.size) : Below B w w' := ⟨h.os, h.tape, h.output, h.size, fun k hk => h.block k (by omega) (by simp; omega)⟩
theorem heap_setCells_other (b : Nat) : ∀ (vs : List Value) (o : Nat) (w : World) (k : Nat), k ≠ b → (w.setCells b o vs).heap[k]? = w.heap[k]?
  | [], _, _, _, _ => rfl
  | v :: r, o, w, k, h => by rw [World.setCells, heap_setCells_other b r _ _ _ h, Below.heap_setCell _ _ _ _ h]
theorem size_setCells (b : Nat) : ∀ (vs : List Value) (o : Nat) (w : World), (w.setCells b o vs).heap.size = w.heap.size
  | [], _, _ => rfl
  | v :: r, o, w => by rw [World.setCells, size_setCells b r]; simp [World.setCell]
theorem os_setCells (b : Nat) : ∀ (vs : List Value) (o : Nat) (w : World), (w.setCells b o vs).os = w.os ∧ (w.setCells b o vs).tape = w.tape ∧ (w.setCells b o vs).output = w.output
  | [], _, _ => ⟨rfl, rfl, rfl⟩
  | v :: r, o, w => by rw [World.setCells]; exact os_setCells b r _ _
theorem grown_setCells (b : Nat) (vs : List Value) (o : Nat) (w : World) : w.grownBy (w.setCells b o vs) (some b) :=
  ⟨(os_setCells b vs o w).1, (os_setCells b vs o w).2.1, (os_setCells b vs o w).2.2, by rw [size_setCells]; exact Nat.le_refl _, fun k _ hk => heap_setCells_other b vs o w k (fun e => hk (by rw [e]))⟩
section
variable {P : Program} {ops : Array Oper} {rest : List Oper} {op : Oper} {a : Act} {w : World} {Q : Exit → Act → World → Prop}

theorem at_list (h : wpList P ops Q (op :: rest) a w) : wpList P ops Q (op :: rest) a w := h
theorem wpList_run (hgd : op.guard = none) (v : Value) (w1 : World) (hr : (execOp a.eval op).run P w = .ok (.value v) w1)
    (h : wpList P ops Q rest (a.put op.dst v) w1) : wpList P ops Q (op :: rest) a w :=
  wpList_plain hgd fun K hK => by unfold Oper.wp; rw [hr]; exact hK _ _ h

/-- An array is boxed: a new block. -/
theorem wpList_boxRow (hgd : op.guard = none) (ty : TypeId) (x : Operand) (ho : op.op = .box ty x) (c : Array Value) (hx : a.eval x = .agg c)
    (h : ∀ w1 : World, Below w.heap.size w w1 → w1.heap.size = w.heap.size + 1 → Blk w1 w.heap.size c ty → wpList P ops Q rest (a.put op.dst (.pointer (some ⟨w.heap.size, 0, none⟩))) w1) :
    wpList P ops Q (op :: rest) a w := by
  refine wpList_run hgd (.pointer (some ⟨w.heap.size, 0, none⟩)) (w.alloc (.cells c ty)) ?_ (h _ ((Below.refl _ _).alloc (Nat.le_refl _) _) (by simp) (Blk.new _ _ _))
  unfold execOp
  simp only [ho, hx]
  rfl

/-- A variable of an array's type is made: a new block, at zero. -/
theorem wpList_allocRow (hgd : op.guard = none) (ty : TypeId) (ho : op.op = .alloc ty) (c : Array Value) (hz : ∀ w, (zeroValue ty).run P w = .ok (.agg c) w)
    (h : ∀ w1 : World, Below w.heap.size w w1 → w1.heap.size = w.heap.size + 1 → Blk w1 w.heap.size c ty → wpList P ops Q rest (a.put op.dst (.pointer (some ⟨w.heap.size, 0, none⟩))) w1) :
    wpList P ops Q (op :: rest) a w := by
  refine wpList_run hgd (.pointer (some ⟨w.heap.size, 0, none⟩)) (w.alloc (.cells c ty)) ?_ (h _ ((Below.refl _ _).alloc (Nat.le_refl _) _) (by simp) (Blk.new _ _ _))
  unfold execOp
  simp only [ho, Instr.alloc, Sem.run_bind, hz, Result.andThen_ok]
  rfl

/-- A whole array out of a block that is known whole. -/
theorem wpList_loadRow (hgd : op.guard = none) (ty : TypeId) (x : Operand) (ho : op.op = .load ty x) (b : Nat) (hx : a.eval x = .pointer (some ⟨b, 0, none⟩))
    (c : Array Value) (t : TypeId) (hb : Blk w b c t) (d : TypeDesc) (hu : P.underlying ty = some d) (hd : d.isRow = true) (hi : (P.info? ty).map (·.size) = some c.size)
    (h : wpList P ops Q rest (a.put op.dst (.agg c)) w) : wpList P ops Q (op :: rest) a w := by
  refine wpList_load_mid hgd ty x ho b 0 hx c.toList d hb.rangeAll hu hd (by simpa using hi) ?_
  simpa using h

theorem Blk.loadVar {b : Nat} {c : Array Value} {t ty : TypeId} (hb : Blk w b c t) (d : TypeDesc) (hu : P.underlying ty = some d) (hd : d.isRow = true) (hi : (P.info? ty).map (·.size) = some c.size) :
    (loadVar ty ⟨b, 0, none⟩).run P w = .ok (.agg c) w := by
  have := run_loadVar_mid (P := P) w b 0 ty c.toList d hb.rangeAll hu hd (by simpa using hi)
  simpa using this

/-- An array into a block that is known whole, from o on. -/
theorem wpList_storePart (hgd : op.guard = none) (ty : TypeId) (x y : Operand) (ho : op.op = .store ty x y) (b o : Nat) (cells : Array Value)
    (hx : a.eval x = .pointer (some ⟨b, o, none⟩)) (hy : a.eval y = .agg cells) (c : Array Value) (t : TypeId) (hb : Blk w b c t) (hn : o + cells.size ≤ c.size)
    (hi : (P.info? ty).map (·.size) = some cells.size) (h1 : cells.all (·.oneCell') = true)
    (h : ∀ w1 : World, w.grownBy w1 (some b) → w1.heap.size = w.heap.size → Blk w1 b (spl c o cells.toList) t → wpList P ops Q rest (a.put op.dst undef) w1) : wpList P ops Q (op :: rest) a w :=
  wpList_store_mid hgd ty x y ho b o cells hx hy (hb.there o cells.size hn) hi h1 (h _ (grown_setCells _ _ _ _) (size_setCells _ _ _ _) (hb.setCells _ _))

theorem spl_all (c c' : Array Value) (h : c'.size = c.size) : spl c 0 c'.toList = c' := by
  apply Array.ext_getElem?
  intro j
  rw [spl_get _ _ _ _ (by simp [h])]
  by_cases hj : j < c'.size
  · rw [if_pos (by simp; omega)]; simp
  · rw [if_neg (by simp; omega), Array.getElem?_eq_none (by omega), Array.getElem?_eq_none (by omega)]

theorem wpList_storeRow (hgd : op.guard = none) (ty : TypeId) (x y : Operand) (ho : op.op = .store ty x y) (b : Nat) (cells : Array Value)
    (hx : a.eval x = .pointer (some ⟨b, 0, none⟩)) (hy : a.eval y = .agg cells) (c : Array Value) (t : TypeId) (hb : Blk w b c t) (hn : cells.size = c.size)
    (hi : (P.info? ty).map (·.size) = some cells.size) (h1 : cells.all (·.oneCell') = true)
    (h : ∀ w1 : World, w.grownBy w1 (some b) → w1.heap.size = w.heap.size → Blk w1 b cells t → wpList P ops Q rest (a.put op.dst undef) w1) : wpList P ops Q (op :: rest) a w :=
  wpList_storePart hgd ty x y ho b 0 cells hx hy c t hb (by omega) hi h1 (fun w1 g s hb => h w1 g s (by rw [spl_all _ _ hn] at hb; exact hb))

theorem sizeOf_run {e : TypeId} {n : Nat} (h : (P.info? e).map (·.size) = some n) : (sizeOf e).run P w = .ok n w := by
  cases hq : P.info? e with
  | none => simp [hq] at h
  | some i => simp [hq] at h; simp [sizeOf, typeInfo, hq, h]
theorem isAgg_run {e : TypeId} {d : TypeDesc} (hu : P.underlying e = some d) (hd : d.isRow = false) : (isAgg e).run P w = .ok false w := by
  unfold isAgg
  rw [Sem.run_bind, run_underlying hu w]
  cases d <;> simp_all

/-- The address of an element of an array that lies in a block. -/
theorem wpList_addrRow (hgd : op.guard = none) (ty : TypeId) (x i : Operand) (ho : op.op = .indexAddr ty x i) (b o : Nat) (hx : a.eval x = .pointer (some ⟨b, o, none⟩)) (k : IntKind) (n : Int) (hi : a.eval i = .int k n)
    (len : Nat) (e : TypeId) (hu : P.underlying ty = some (.array len e)) (hse : (P.info? e).map (·.size) = some 1)
    (h0 : 0 ≤ n) (h1 : n < len) (h : wpList P ops Q rest (a.put op.dst (.pointer (some ⟨b, o + n.toNat, none⟩))) w) : wpList P ops Q (op :: rest) a w := by
  refine wpList_run hgd (.pointer (some ⟨b, o + n.toNat, none⟩)) w ?_ h
  unfold execOp
  simp only [ho, hx, hi, Instr.indexAt, Instr.sureAddr, asIntOf, Sem.run_bind, Sem.run_pure, Result.andThen_ok, run_underlying hu w, if_pos (And.intro h0 h1), sizeOf_run hse, Nat.mul_one, Addr.add_mid]

/-- One cell out of a block that is known whole. -/
theorem wpList_loadCell (hgd : op.guard = none) (ty : TypeId) (x : Operand) (ho : op.op = .load ty x) (b o : Nat) (hx : a.eval x = .pointer (some ⟨b, o, none⟩))
    (c : Array Value) (t : TypeId) (hb : Blk w b c t) (d : TypeDesc) (hu : P.underlying ty = some d) (hd : d.isRow = false) (v : Value) (hv : c[o]? = some v)
    (h : wpList P ops Q rest (a.put op.dst v) w) : wpList P ops Q (op :: rest) a w := by
  refine wpList_run hgd v w ?_ h
  have hc : w.cell? ⟨b, o, none⟩ = some v := (hb.cell o).trans hv
  unfold execOp
  simp only [ho, hx]
  simp [Instr.loadAt, Instr.sureAddr, Sem.run_bind, loadVar, isAgg_run hu hd, hc, go_sem]

/-- One cell into a block that is known whole. -/
theorem wpList_storeCell (hgd : op.guard = none) (ty : TypeId) (x y : Operand) (ho : op.op = .store ty x y) (b o : Nat) (hx : a.eval x = .pointer (some ⟨b, o, none⟩)) (v : Value) (hy : a.eval y = v)
    (c : Array Value) (t : TypeId) (hb : Blk w b c t) (hi : (P.info? ty).map (·.size) = some 1) (hv : v.cells = #[v]) (h1 : v.oneCell' = true) (hn : o < c.size)
    (h : ∀ w1 : World, w.grownBy w1 (some b) → w1.heap.size = w.heap.size → Blk w1 b (c.setIfInBounds o v) t → wpList P ops Q rest (a.put op.dst undef) w1) : wpList P ops Q (op :: rest) a w := by
  refine wpList_plain hgd fun K hK => ?_
  unfold Oper.wp execOp
  have hs : (storeVar ty ⟨b, o, none⟩ v).run P w = .ok () (w.setCells b o [v]) := by
    have := run_storeCells_cells (P := P) b o [v] 0 w (fun j hj => (hb.there o 1 (by omega) j (by simpa using hj)).1) (fun j hj => (hb.there o 1 (by omega) j (by simpa using hj)).2) (fun u hu => by simp at hu; subst hu; exact h1)
    simp only [Nat.add_zero] at this
    simp [storeVar, Sem.run_bind, sizeOf_run hi, hv, this]
  simp only [ho, hx, hy, Instr.storeAt, Instr.sureAddr, Sem.run_bind, Sem.run_pure, Result.andThen_ok, hs]
  exact hK _ _ (h _ (grown_setCells _ _ _ _) (size_setCells _ _ _ _) (hb.setCells [v] o))
end

end Go.Proofs.YtaiiojbakmminaaGreatDoor
namespace Go.Proofs.YtaiiojbakmminaaGreatDoor
open Go

def row8 (f : Nat → UInt8) (n : Nat) : Array Value := Array.ofFn (fun i : Fin n => Value.int .u8 (n8 (f i)))
def upd {α : Type} (f : Nat → α) (i : Nat) (v : α) : Nat → α := fun j => if j = i then v else f j

theorem row8_size (f : Nat → UInt8) (n : Nat) : (row8 f n).size = n := by simp [row8]
theorem row8_get (f : Nat → UInt8) (n j : Nat) (h : j < n) : (row8 f n)[j]? = some (.int .u8 (n8 (f j))) := by
  simp [row8, h]
theorem row8_none (f : Nat → UInt8) (n j : Nat) (h : n ≤ j) : (row8 f n)[j]? = none := by
  simp [row8]; omega
theorem row8_congr {f g : Nat → UInt8} {n : Nat} (h : ∀ j, j < n → f j = g j) : row8 f n = row8 g n := by
  unfold row8; congr 1; funext i; rw [h i i.2]
section
variable {P : Program} {ops : Array Oper} {rest : List Oper} {op : Oper} {a : Act} {w : World} {Q : Exit → Act → World → Prop}
/-- The address of element o of an array of words that lies at the head of a block. -/
theorem wpList_addrW (hgd : op.guard = none) (ty : TypeId) (x i : Operand) (ho : op.op = .indexAddr ty x i) (b : Nat) (hx : a.eval x = .pointer (some ⟨b, 0, none⟩)) (k : IntKind) (n : Int) (hi : a.eval i = .int k n) (o : Nat)
    (len : Nat) (e : TypeId) (hu : P.underlying ty = some (.array len e)) (hse : (P.info? e).map (·.size) = some 1)
    (h0 : n = (o : Int)) (h1 : o < len) (h : wpList P ops Q rest (a.put op.dst (.pointer (some ⟨b, o, none⟩))) w) : wpList P ops Q (op :: rest) a w := by
  subst h0
  refine wpList_addrRow hgd ty x i ho b 0 hx k _ hi len e hu hse (by omega) (by omega) ?_
  rw [Nat.zero_add, Int.toNat_natCast]; exact h
end


end Go.Proofs.YtaiiojbakmminaaGreatDoor
