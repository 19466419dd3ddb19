/- What the plain Root and Path do. -/
import Derived.Test.YtmbdhngoldganaaGreatDoorSSl
import Derived.Test.YtmbdhngoldganaaGreatDoorTre
import Derived.Deep.RegionHeld3
namespace Go.Proofs.YtmbdhngoldganaaGreatDoor.Sh
open Go Go.RowKit
theorem mkApp_nat (x y : List UInt8) : (ByteArray.mk x.toArray ++ ByteArray.mk y.toArray) = ByteArray.mk (x ++ y).toArray := by
  apply ByteArray.ext
  simp
theorem mkApp0 (y : List UInt8) : (ByteArray.mk #[0] ++ ByteArray.mk y.toArray) = ByteArray.mk (0 :: y).toArray := mkApp_nat [0] y
theorem mkApp1 (y : List UInt8) : (ByteArray.mk #[1] ++ ByteArray.mk y.toArray) = ByteArray.mk (1 :: y).toArray := mkApp_nat [1] y
end Go.Proofs.YtmbdhngoldganaaGreatDoor.Sh
