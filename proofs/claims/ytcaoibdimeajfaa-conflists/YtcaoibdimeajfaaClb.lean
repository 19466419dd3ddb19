/- What the library does that conf calls: slices.Insert, slices.IndexFunc and slices.DeleteFunc of numbers, as the library of contracts has it, at this program's numbers. -/
import Derived.Test.YtcaoibdimeajfaaCnp
import Derived.Test.YtcaoibdimeajfaaCcl
import Derived.Shelf.Spec.SlicesInsertGrow
import Derived.Shelf.SlicesE.DeleteFunc
namespace Go.Proofs.Ytcaoibdimeajfaa
open Go Go.RowKit
def ins_ren : Go.Shelf.Ren := ⟨fun | 21 => 22 | 27 => 29 | 28 => 30 | 35 => 31 | 39 => 32 | n => n, fun | 0 => 0 | 3 => 3 | 4 => 4 | 22 => 22 | n => n, fun | n => n⟩
theorem insL : Lays2.n21 Try.prog ins_ren := {
  mixed := by kernel_rfl
  f21 := Try.func22.trans (congrArg some (by kernel_rfl))
  f27 := Try.func29.trans (congrArg some (by kernel_rfl))
  f28 := Try.func30.trans (congrArg some (by kernel_rfl))
  f35 := Try.func31.trans (congrArg some (by kernel_rfl))
  f39 := Try.func32.trans (congrArg some (by kernel_rfl))
  t0 := Try.underlying0
  a0 := Try.isAgg0
  z0 := Try.sizeOf0
  v0 := Try.zeroValue0
  t3 := Try.underlying3
  a3 := Try.isAgg3
  z3 := Try.sizeOf3
  v3 := Try.zeroValue3
  t4 := Try.underlying4
  a4 := Try.isAgg4
  z4 := Try.sizeOf4
  v4 := Try.zeroValue4
  t22 := Try.underlying22
  a22 := Try.isAgg22
  z22 := Try.sizeOf22
  v22 := Try.zeroValue22
  i3 := by kernel_rfl }
def del_ren : Go.Shelf.Ren := ⟨fun | 6 => 20 | 10 => 23 | n => n, fun | 0 => 0 | 3 => 3 | 4 => 4 | 22 => 22 | 23 => 3 | 25 => 45 | n => n, fun | n => n⟩
theorem delL : SlLaysH.n10 Try.prog del_ren := {
  mixed := by kernel_rfl
  f6 := ⟨"slices.IndexFunc[[]int,int]", by kernel_rfl, Try.func20.trans (congrArg some (by kernel_rfl))⟩
  f10 := ⟨"slices.DeleteFunc[[]int,int]", by kernel_rfl, Try.func23.trans (congrArg some (by kernel_rfl))⟩
  t0 := Try.underlying0
  a0 := Try.isAgg0
  z0 := Try.sizeOf0
  v0 := Try.zeroValue0
  t3 := Try.underlying3
  a3 := Try.isAgg3
  z3 := Try.sizeOf3
  v3 := Try.zeroValue3
  t4 := Try.underlying4
  a4 := Try.isAgg4
  z4 := Try.sizeOf4
  v4 := Try.zeroValue4
  t22 := Try.underlying22
  a22 := Try.isAgg22
  z22 := Try.sizeOf22
  v22 := Try.zeroValue22
  a23 := Try.isAgg3
  z23 := Try.sizeOf3
  t25 := Try.underlying45
  a25 := Try.isAgg45
  z25 := Try.sizeOf45
  v25 := Try.zeroValue45 }
end Go.Proofs.Ytcaoibdimeajfaa
