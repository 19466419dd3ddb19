/- What Frame, the plain Frame, and WireNumbers do. -/
import Derived.Test.YtncoifkchoiiaaaWd
namespace Go.Proofs.Ytncoifkchoiiaaa
open Go.RowKit
theorem mkApp2 (x y : List UInt8) : (ByteArray.mk x.toArray ++ ByteArray.mk y.toArray) = ByteArray.mk (x ++ y).toArray := ByteArray.mk_append_mk x y
theorem cut8_4 : cut8 4 = 4 := rfl
end Go.Proofs.Ytncoifkchoiiaaa
