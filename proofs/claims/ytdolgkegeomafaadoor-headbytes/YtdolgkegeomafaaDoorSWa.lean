/- What the small functions on words do: turn, RotateLeft32, turned. -/
import Derived.Test.YtdolgkegeomafaaDoorRows
import Derived.Test.YtdolgkegeomafaaDoorSBits
import Derived.WalkKit
import Derived.WalkSpells
import Derived.WalkLawsBesides
namespace Go.Proofs.YtdolgkegeomafaaDoor.Sh
open Go.RowKit
attribute [local go_sem] n32_add n32_wadd bits_xor32 bits_and32 bits_or32 bits_not32 sub_not32 n32_shr n32_shl

set_option maxHeartbeats 400000 in
theorem turn_any (x : BitVec 32) (n : Int) (w : World) (h : 0 ≤ n) (h2 : n ≤ 32):
    Calls Tryd.prog 55 #[.int .u32 (n32 x), .int .u64 n] w fun e w' => e = .returned (.int .u32 (n32 (rr n.toNat x))) ∧ w' = w := by
  go_enter Tryd.func55, Tryd.ntmps55
  go_wp2
  go_ret
  refine ⟨?_, rfl⟩
  unfold rr
  rw [show 32 - n.toNat = (32 - n).toNat from by omega]
  rfl

theorem and31 (n : Int) (h : -31 ≤ n) (h2 : n ≤ -1) : bits .and .u64 (IntKind.u64.wrap n) 31 = 32 + n := by
  have h3 : n = -1 ∨ n = -2 ∨ n = -3 ∨ n = -4 ∨ n = -5 ∨ n = -6 ∨ n = -7 ∨ n = -8 ∨ n = -9 ∨ n = -10 ∨ n = -11 ∨ n = -12 ∨ n = -13 ∨ n = -14 ∨ n = -15 ∨ n = -16 ∨ n = -17 ∨ n = -18 ∨ n = -19 ∨ n = -20 ∨ n = -21 ∨ n = -22 ∨ n = -23 ∨ n = -24 ∨ n = -25 ∨ n = -26 ∨ n = -27 ∨ n = -28 ∨ n = -29 ∨ n = -30 ∨ n = -31 := by omega
  rcases h3 with rfl | rfl | rfl | rfl | rfl | rfl | rfl | rfl | rfl | rfl | rfl | rfl | rfl | rfl | rfl | rfl | rfl | rfl | rfl | rfl | rfl | rfl | rfl | rfl | rfl | rfl | rfl | rfl | rfl | rfl | rfl <;> decide +kernel

theorem or32_comm (x y : BitVec 32) : or32 x y = or32 y x := BitVec.or_comm x y

set_option maxHeartbeats 400000 in
theorem rot_any (x : BitVec 32) (n : Int) (w : World) (h : -31 ≤ n) (h2 : n ≤ -1):
    Calls Tryd.prog 59 #[.int .u32 (n32 x), .int .i64 n] w fun e w' => e = .returned (.int .u32 (n32 (rr (-n).toNat x))) ∧ w' = w := by
  have hb := and31 n h h2
  go_enter Tryd.func59, Tryd.ntmps59
  go_wp2
  go_ret
  refine ⟨?_, rfl⟩
  unfold rr
  rw [or32_comm, show 32 - (-n).toNat = (32 + n).toNat from by omega, show (-n).toNat = (32 - (32 + n)).toNat from by omega]
  rfl

set_option maxHeartbeats 400000 in
theorem turned_any (x : BitVec 32) (i j k : Int) (w : World) (hi : 1 ≤ i) (hi2 : i ≤ 31) (hj : 1 ≤ j) (hj2 : j ≤ 31) (hk : 1 ≤ k) (hk2 : k ≤ 31) :
    Calls Tryd.prog 57 #[.int .u32 (n32 x), .int .i64 i, .int .i64 j, .int .i64 k] w fun e w' => e = .returned (.int .u32 (n32 (xor32 (xor32 (rr i.toNat x) (rr j.toNat x)) (rr k.toNat x)))) ∧ w' = w := by
  go_enter Tryd.func57, Tryd.ntmps57
  go_wp2_with (go_at_call 59; refine (rot_any _ _ _ (by omega) (by omega)).mono ?_; rintro e w' ⟨rfl, rfl⟩)
  go_ret
  exact ⟨by simp, rfl⟩
end Go.Proofs.YtdolgkegeomafaaDoor.Sh
