/- What Frame and the plain Frame do. -/
import Derived.Test.YtncoifkchoiiaaaWe
namespace Go.Proofs.Ytncoifkchoiiaaa
open Go.RowKit
theorem n32_nat (x : BitVec 32) : n32 x = (x.toNat : Int) := rfl
theorem n32_wrap64 (x : BitVec 32) : IntKind.u64.wrap (n32 x) = (x.toNat : Int) := by
  rw [IntKind.wrap_u64]; have := n32_nonneg x; have := n32_lt x; rw [← n32_nat]; omega
theorem n32_mod64 (x : BitVec 32) : n32 x % 18446744073709551616 = (x.toNat : Int) := by
  have := n32_nonneg x; have := n32_lt x; rw [← n32_nat]; omega
attribute [local go_sem] mkApp2 n32_wrap64 n32_mod64
end Go.Proofs.Ytncoifkchoiiaaa
