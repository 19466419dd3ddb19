/- What checkOn and Crc do. -/
import Derived.Test.YtncoifkchoiiaaaProg
import Derived.Test.YtncoifkchoiiaaaRow
import Derived.Test.YtncoifkchoiiaaaNum
import Derived.WalkKit
import Derived.WalkSpells
import Derived.WalkLawsBesides
namespace Go.Proofs.Ytncoifkchoiiaaa
open Go.RowKit
theorem low4_n (x : BitVec 32) : n32 (low4 x) = ((low4 x).toNat : Int) := rfl
theorem and15 (x : BitVec 32) : bits .and .u32 (n32 x) 15 = ((low4 x).toNat : Int) := bits_and32 x (BitVec.ofNat 32 15)
theorem n32_shr4 (x : BitVec 32) : n32 x / 16 = n32 (shr32 x 4) := n32_shr x 4
theorem nibz (x : BitVec 32) : n32 (xor32 (tab (low4 x).toNat) (shr32 x 4)) = n32 (stp4 x) := by rw [nib]
theorem idx8 (l : List UInt8) (k : Nat) (h : k < (ByteArray.mk l.toArray).size) : (((ByteArray.mk l.toArray)[k]'h).toNat : Int) = n8 (byteOf l k) := by
  have hk : k < l.length := h
  have e : (ByteArray.mk l.toArray)[k]'h = byteOf l k := by
    show l.toArray[k] = _
    rw [byteOf, List.getD_eq_getElem?_getD, List.getElem?_eq_getElem hk]
    simp
  rw [e]; rfl
theorem n8_mod (x : UInt8) : n8 x % 4294967296 = n32 (w8 x) := by rw [← n8_wrap, IntKind.wrap_u32]
attribute [local go_sem] idx8 n8_mod and15 nib n32_add n32_wadd bits_xor32 bits_or32 bits_not32 bits_notmax sub_not32 n32_shr n32_shl n8_wrap n32_shr4
end Go.Proofs.Ytncoifkchoiiaaa
