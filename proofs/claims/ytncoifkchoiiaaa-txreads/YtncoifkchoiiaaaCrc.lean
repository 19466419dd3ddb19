/- CRC-32C over plain words: bit by bit, by fours, over bytes; what is changed in up to 32 bits side by side is found. -/
import Derived.Test.YtncoifkchoiiaaaBits
namespace Go.Proofs.Ytncoifkchoiiaaa
open Go

def n8 (x : UInt8) : Int := (x.toNat : Int)
theorem n8_nonneg (x : UInt8) : 0 ≤ n8 x := by unfold n8; omega
theorem n8_le (x : UInt8) : n8 x ≤ 255 := by unfold n8; have := x.toNat_lt; omega
/-- A byte as a word. -/
def w8 (x : UInt8) : BitVec 32 := BitVec.ofNat 32 x.toNat
theorem n8_n32 (x : UInt8) : n8 x = n32 (w8 x) := by
  unfold n8 n32 w8; rw [BitVec.toNat_ofNat]; have := x.toNat_lt; omega
theorem n8_wrap (x : UInt8) : IntKind.u32.wrap (n8 x) = n32 (w8 x) := by rw [n8_n32, wrap_n32]

def poly : BitVec 32 := (BitVec.ofNat 32 0x82f63b78)
/-- One bit is shifted out. -/
def stp (x : BitVec 32) : BitVec 32 := xor32 (shr32 x 1) (bif x.getLsbD 0 then poly else (BitVec.ofNat 32 0))
def stp4 (x : BitVec 32) : BitVec 32 := stp (stp (stp (stp x)))
def byt (r : BitVec 32) (b : UInt8) : BitVec 32 := stp4 (stp4 (xor32 r (w8 b)))
/-- The remainder behind bytes. -/
def crcF (r : BitVec 32) (l : List UInt8) : BitVec 32 := l.foldl byt r
def ones : BitVec 32 := (BitVec.ofNat 32 4294967295)
/-- The check of bytes. -/
def crc (l : List UInt8) : BitVec 32 := not32 (crcF ones l)
theorem crcF_append (r : BitVec 32) (l m : List UInt8) : crcF r (l ++ m) = crcF (crcF r l) m := List.foldl_append
def byteOf (l : List UInt8) (k : Nat) : UInt8 := l.getD k 0
theorem crcF_take (r : BitVec 32) (l : List UInt8) (n : Nat) (h : n < l.length) : crcF r (l.take (n + 1)) = byt (crcF r (l.take n)) (byteOf l n) := by
  rw [byteOf, List.take_succ_eq_append_getElem h, crcF_append, List.getD_eq_getElem?_getD, List.getElem?_eq_getElem h]
  rfl
theorem not_not32 (x : BitVec 32) : not32 (not32 x) = x := by unfold not32; simp

theorem stp_xor (x y : BitVec 32) : stp (xor32 x y) = xor32 (stp x) (stp y) := by
  unfold stp xor32 shr32
  rw [BitVec.ushiftRight_xor_distrib, BitVec.getLsbD_xor]
  cases x.getLsbD 0 <;> cases y.getLsbD 0 <;> simp [BitVec.xor_assoc]
  · rw [BitVec.xor_comm]
  · rw [BitVec.xor_comm poly, BitVec.xor_assoc, BitVec.xor_self, BitVec.xor_zero]
theorem stp4_xor (x y : BitVec 32) : stp4 (xor32 x y) = xor32 (stp4 x) (stp4 y) := by
  unfold stp4; rw [stp_xor, stp_xor, stp_xor, stp_xor]
/-- What shifts by fours add. -/
def tabL : List Nat := [0, 274646895, 549293790, 820201905, 1098587580, 1361435347, 1640403810, 1905808397, 2197175160, 2460548119, 2722870694, 2987750089, 3280807620, 3553878443, 3811616794, 4084100981]
def tab (i : Nat) : BitVec 32 := BitVec.ofNat 32 (tabL.getD i 0)
def low4 (x : BitVec 32) : BitVec 32 := and32 x (BitVec.ofNat 32 15)
theorem low4_lt (x : BitVec 32) : (low4 x).toNat < 16 := by
  unfold low4 and32
  rw [BitVec.toNat_and]
  exact Nat.lt_of_le_of_lt Nat.and_le_right (by decide)
theorem stp4_low : ∀ n, n < 16 → stp4 (BitVec.ofNat 32 n) = tab n := by decide
theorem stp_shl (y : BitVec 32) (h : y.toNat < 2147483648) : stp (shl32 y 1) = y := by
  unfold stp shl32 shr32 xor32
  have : (y <<< 1).getLsbD 0 = false := by simp
  rw [this]
  simp only [cond_false, BitVec.xor_zero]
  apply BitVec.eq_of_toNat_eq
  rw [BitVec.toNat_ushiftRight, BitVec.toNat_shiftLeft, Nat.shiftLeft_eq, Nat.shiftRight_eq_div_pow]
  omega
theorem nib (x : BitVec 32) : xor32 (tab (low4 x).toNat) (shr32 x 4) = stp4 x := by
  have h1 := low4_lt x
  have hx := x.isLt
  have hs : (shr32 x 4).toNat = x.toNat / 16 := by unfold shr32; rw [BitVec.toNat_ushiftRight, Nat.shiftRight_eq_div_pow]
  have hl : ∀ (y : BitVec 32), y.toNat < 2147483648 → (shl32 y 1).toNat = y.toNat * 2 := fun y hy => by
    unfold shl32; rw [BitVec.toNat_shiftLeft, Nat.shiftLeft_eq]; omega
  have e : x = xor32 (low4 x) (shl32 (shl32 (shl32 (shl32 (shr32 x 4) 1) 1) 1) 1) := by
    unfold low4 xor32 and32 shl32 shr32
    apply BitVec.eq_of_getLsbD_eq
    intro i hi
    have k : ∀ i : Nat, (BitVec.ofNat 32 15).getLsbD i = decide (i < 4) := by
      intro i
      by_cases h : i < 32
      · revert i; decide
      · rw [BitVec.getLsbD_of_ge _ _ (by omega)]; simp; omega
    simp only [BitVec.getLsbD_xor, BitVec.getLsbD_and, BitVec.getLsbD_shiftLeft, BitVec.getLsbD_ushiftRight, k]
    by_cases h4 : i < 4
    · have : i = 0 ∨ i = 1 ∨ i = 2 ∨ i = 3 := by omega
      rcases this with rfl | rfl | rfl | rfl <;> simp
    · have e1 : 4 + (i - 1 - 1 - 1 - 1) = i := by omega
      rw [e1]
      simp only [decide_eq_false h4, Bool.and_false, Bool.false_xor]
      have a0 : decide (i < 1) = false := by simp; omega
      have a1 : decide (i - 1 < 1) = false := by simp; omega
      have a2 : decide (i - 1 - 1 < 1) = false := by simp; omega
      have a3 : decide (i - 1 - 1 - 1 < 1) = false := by simp; omega
      have c0 : decide (i < 32) = true := by simp; omega
      have c1 : decide (i - 1 < 32) = true := by simp; omega
      have c2 : decide (i - 1 - 1 < 32) = true := by simp; omega
      have c3 : decide (i - 1 - 1 - 1 < 32) = true := by simp; omega
      rw [a0, a1, a2, a3, c0, c1, c2, c3]
      simp
  have e2 : stp4 (shl32 (shl32 (shl32 (shl32 (shr32 x 4) 1) 1) 1) 1) = shr32 x 4 := by
    have a1 := hl (shr32 x 4) (by omega)
    have a2 := hl (shl32 (shr32 x 4) 1) (by omega)
    have a3 := hl (shl32 (shl32 (shr32 x 4) 1) 1) (by omega)
    unfold stp4
    rw [stp_shl _ (by omega), stp_shl _ (by omega), stp_shl _ (by omega), stp_shl _ (by omega)]
  have e3 : stp4 (low4 x) = tab (low4 x).toNat := by
    have := stp4_low (low4 x).toNat h1
    rwa [BitVec.ofNat_toNat, BitVec.setWidth_eq] at this
  conv => rhs; rw [e]
  rw [stp4_xor, e2, e3]
end Go.Proofs.Ytncoifkchoiiaaa
