/- The plain mathematics of words of 32 bits: each operation of Go's uint32, as the walk spells it, is the operation on BitVec 32. -/
import Derived.WalkKit
namespace Go.Proofs.YtdolgkegeomafaaDoor.Sh
open Go

/-- A word's number. -/
def n32 (x : BitVec 32) : Int := (x.toNat : Int)
def add32 (x y : BitVec 32) : BitVec 32 := x + y
def xor32 (x y : BitVec 32) : BitVec 32 := x ^^^ y
def and32 (x y : BitVec 32) : BitVec 32 := x &&& y
def or32 (x y : BitVec 32) : BitVec 32 := x ||| y
def not32 (x : BitVec 32) : BitVec 32 := ~~~ x
def shr32 (x : BitVec 32) (n : Nat) : BitVec 32 := x >>> n
def shl32 (x : BitVec 32) (n : Nat) : BitVec 32 := x <<< n
/-- A word turned to the right. -/
def rr (n : Nat) (x : BitVec 32) : BitVec 32 := or32 (shr32 x n) (shl32 x (32 - n))

theorem n32_nonneg (x : BitVec 32) : 0 ≤ n32 x := by unfold n32; omega
theorem n32_lt (x : BitVec 32) : n32 x < 4294967296 := by unfold n32; have := x.isLt; omega

theorem n32_add (x y : BitVec 32) : (n32 x + n32 y) % 4294967296 = n32 (add32 x y) := by
  unfold n32 add32; rw [BitVec.toNat_add]; omega
theorem n32_wadd (x y : BitVec 32) : IntKind.u32.wrap (n32 x + n32 y) = n32 (add32 x y) := by
  rw [IntKind.wrap_u32, n32_add]
theorem ofInt_n32 (x : BitVec 32) : BitVec.ofInt 32 (n32 x) = x := by
  unfold n32; simp
theorem wrap_n32 (x : BitVec 32) : IntKind.u32.wrap (n32 x) = n32 x := by
  rw [IntKind.wrap_u32]; have := n32_nonneg x; have := n32_lt x; omega
theorem bits_xor32 (x y : BitVec 32) : bits .xor .u32 (n32 x) (n32 y) = n32 (xor32 x y) := by
  show IntKind.u32.wrap ((BitVec.ofInt 32 (n32 x) ^^^ BitVec.ofInt 32 (n32 y)).toNat : Int) = _
  rw [ofInt_n32, ofInt_n32]; exact wrap_n32 (xor32 x y)
theorem bits_and32 (x y : BitVec 32) : bits .and .u32 (n32 x) (n32 y) = n32 (and32 x y) := by
  show IntKind.u32.wrap ((BitVec.ofInt 32 (n32 x) &&& BitVec.ofInt 32 (n32 y)).toNat : Int) = _
  rw [ofInt_n32, ofInt_n32]; exact wrap_n32 (and32 x y)
theorem bits_or32 (x y : BitVec 32) : bits .or .u32 (n32 x) (n32 y) = n32 (or32 x y) := by
  show IntKind.u32.wrap ((BitVec.ofInt 32 (n32 x) ||| BitVec.ofInt 32 (n32 y)).toNat : Int) = _
  rw [ofInt_n32, ofInt_n32]; exact wrap_n32 (or32 x y)
theorem bits_not32 (x : BitVec 32) : bits .xor .u32 4294967295 (n32 x) = n32 (not32 x) := by
  show IntKind.u32.wrap ((BitVec.ofInt 32 4294967295 ^^^ BitVec.ofInt 32 (n32 x)).toNat : Int) = _
  rw [ofInt_n32]
  have : (BitVec.ofInt 32 4294967295 ^^^ x) = not32 x := by
    unfold not32
    rw [show BitVec.ofInt 32 4294967295 = BitVec.allOnes 32 from by decide, BitVec.allOnes_xor]
  rw [this]; exact wrap_n32 _
theorem bits_notmax (x : BitVec 32) : bits .xor .u32 IntKind.u32.max (n32 x) = n32 (not32 x) := bits_not32 x
theorem sub_not32 (x : BitVec 32) : 4294967295 - n32 x = n32 (not32 x) := by
  unfold n32 not32; rw [BitVec.toNat_not]; have := x.isLt; omega
theorem n32_shr (x : BitVec 32) (n : Nat) : n32 x / 2 ^ n = n32 (shr32 x n) := by
  unfold n32 shr32; rw [BitVec.toNat_ushiftRight, Nat.shiftRight_eq_div_pow]; simp
theorem n32_shl (x : BitVec 32) (n : Nat) : n32 x * 2 ^ n % 4294967296 = n32 (shl32 x n) := by
  unfold n32 shl32; rw [BitVec.toNat_shiftLeft, Nat.shiftLeft_eq]; simp

theorem n32_shl8 (x : BitVec 32) : n32 x * 256 % 4294967296 = n32 (shl32 x 8) := n32_shl x 8
theorem n32_shl16 (x : BitVec 32) : n32 x * 65536 % 4294967296 = n32 (shl32 x 16) := n32_shl x 16
theorem n32_shl24 (x : BitVec 32) : n32 x * 16777216 % 4294967296 = n32 (shl32 x 24) := n32_shl x 24
theorem n32_shr3 (x : BitVec 32) : n32 x / 8 = n32 (shr32 x 3) := n32_shr x 3
theorem n32_shr10 (x : BitVec 32) : n32 x / 1024 = n32 (shr32 x 10) := n32_shr x 10

end Go.Proofs.YtdolgkegeomafaaDoor.Sh
