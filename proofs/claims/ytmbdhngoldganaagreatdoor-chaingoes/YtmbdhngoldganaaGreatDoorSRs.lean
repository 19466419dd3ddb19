/- The plain mathematics of the plain digest, and its state in memory. -/
import Derived.Test.YtmbdhngoldganaaGreatDoorSSl
namespace Go.Proofs.YtmbdhngoldganaaGreatDoor.Sh
open Go Go.RowKit
theorem n32_wshl8 (x : BitVec 32) : IntKind.u32.wrap (n32 x * 256) = n32 (shl32 x 8) := by rw [IntKind.wrap_u32]; exact n32_shl8 x
theorem n32_wshl16 (x : BitVec 32) : IntKind.u32.wrap (n32 x * 65536) = n32 (shl32 x 16) := by rw [IntKind.wrap_u32]; exact n32_shl16 x
theorem n32_wshl24 (x : BitVec 32) : IntKind.u32.wrap (n32 x * 16777216) = n32 (shl32 x 24) := by rw [IntKind.wrap_u32]; exact n32_shl24 x
theorem n32_mod (x : BitVec 32) : n32 x % 4294967296 = n32 x := by have := n32_nonneg x; have := n32_lt x; omega
theorem conv_any (x : BitVec 32) (j : Nat) : n32 (shr32 x (8 * (3 - j))) % 256 = n8 (byteAt x.toNat 4 j) := by
  unfold byteAt n8 n32 shr32
  rw [UInt8.toNat_ofNat', Nat.mod_eq_of_lt (by omega : x.toNat / 2 ^ (8 * (4 - 1 - j)) % 256 < 2 ^ 8), BitVec.toNat_ushiftRight, Nat.shiftRight_eq_div_pow, show 4 - 1 - j = 3 - j from by omega]
  omega
theorem conv0 (x : BitVec 32) : n32 x % 256 = n8 (byteAt x.toNat 4 3) := by
  have := conv_any x 3
  rw [show shr32 x (8 * (3 - 3)) = x from by unfold shr32; simp] at this
  exact this
theorem wconv0 (x : BitVec 32) : IntKind.u8.wrap (n32 x) = n8 (byteAt x.toNat 4 3) := by rw [IntKind.wrap_u8']; exact conv0 x
theorem n32_shr24 (x : BitVec 32) : n32 x / 16777216 = n32 (shr32 x 24) := n32_shr x 24
theorem n32_shr16 (x : BitVec 32) : n32 x / 65536 = n32 (shr32 x 16) := n32_shr x 16
theorem n32_shr8 (x : BitVec 32) : n32 x / 256 = n32 (shr32 x 8) := n32_shr x 8
end Go.Proofs.YtmbdhngoldganaaGreatDoor.Sh
