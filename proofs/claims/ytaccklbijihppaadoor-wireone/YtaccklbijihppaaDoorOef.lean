/- What WireOne does, whatever its input. -/
import Derived.Test.YtaccklbijihppaaDoorOeb
import Derived.Test.YtaccklbijihppaaDoorOec
import Derived.Test.YtaccklbijihppaaDoorOed
namespace Go.Proofs.YtaccklbijihppaaDoor
open Go Go.RowKit
theorem wireOne_any (l : List UInt8) (p : Int) (u : BitVec 32) (w : World) (hG : Glob w) (hp1 : -9223372036854775808 ≤ p) (hp2 : p ≤ 9223372036854775807) :
    Calls Tryd.prog 8 #[.string ⟨l.toArray⟩, .int .i64 p, .int .u32 (n32 u)] w fun e w' => e = .returned (.bool true) ∧ Below w.heap.size w w' := by
  by_cases hm : p.tmod 2 = 0
  · by_cases hx : 0 < (fewL l).length
    · exact one_text l p u w hG hp1 hp2 hm hx
    · exact one_check2 l p u w hG hp1 hp2 hm hx
  · exact one_check1 l p u w hG hp1 hp2 hm
theorem n32_of (z : Int) (h0 : 0 ≤ z) (h1 : z < 4294967296) : z = n32 (BitVec.ofNat 32 z.toNat) := by
  unfold n32
  rw [BitVec.toNat_ofNat]
  omega
end Go.Proofs.YtaccklbijihppaaDoor
