/- What ending does. -/
import Derived.Test.YtdolgkegeomafaaDoorSWd
import Derived.Test.YtdolgkegeomafaaDoorSShelf
namespace Go.Proofs.YtdolgkegeomafaaDoor.Sh
open Go.RowKit

/-- How many noughts. -/
def noughts (t : Nat) : Nat := (64 - (t + 9) % 64) % 64
/-- What fills a text of t bytes up. -/
def padL (t : Nat) : List UInt8 := (128 : UInt8) :: (List.replicate (noughts t) 0 ++ be (8 * t) 8)

set_option maxRecDepth 100000 in
set_option maxHeartbeats 400000 in
theorem ending_any (t : Nat) (w : World) (ht : t ≤ 1099511627776) :
    Calls Tryd.prog 53 #[.int .u64 t] w fun e w' => e = .returned (.string ⟨(padL t).toArray⟩) ∧ Below w.heap.size w w' := by
  go_enter Tryd.func53, Tryd.ntmps53
  go_wp2_with fail
  have hN : noughts t < 64 := by unfold noughts; omega
  rw [show (-(((t : Int) + 1 + 8) % 64) % 64) = ((noughts t : Nat) : Int) from by unfold noughts; omega]
  refine (repeat_any _ _ _ (by omega) (by rw [show (ByteArray.mk #[0]).size = 1 from rfl]; omega)).mono ?_
  rintro e w1 ⟨rfl, hw1⟩
  rw [show (Lib.repeatL (ByteArray.mk #[0]).data.toList (noughts t)) = List.replicate (noughts t) 0 from by
    have := Lib.repeatL_replicate 0 1 (noughts t)
    rw [Nat.mul_one] at this
    exact this]
  obtain ⟨zs, hzs⟩ : ∃ zs, zs = List.replicate (noughts t) (0 : UInt8) := ⟨_, rfl⟩
  rw [← hzs]
  have hl : zs.length ≤ 64 := by rw [hzs, List.length_replicate]; omega
  have HZ : Hid (zs = List.replicate (noughts t) (0 : UInt8)) := hzs
  clear hzs hN
  go_wp2_with fail
  rw [show (8 * (t : Int)) = ((8 * t : Nat) : Int) from by omega]
  refine (number_any (8 * t) 8 _ (by omega) (by omega)).mono ?_
  rintro e w2 ⟨rfl, hw2⟩
  obtain ⟨bs, hbs⟩ : ∃ bs, bs = be (8 * t) 8 := ⟨_, rfl⟩
  rw [← hbs]
  have hl2 : bs.length ≤ 8 := by rw [hbs]; simp [be]
  have HB : Hid (bs = be (8 * t) 8) := hbs
  clear hbs
  go_wp2_with fail
  go_ret
  refine ⟨?_, hw1.trans (hw2.mono hw1.size)⟩
  unfold padL
  rw [← HZ.out, ← HB.out]
  show Ending.returned (.string _) = _
  rw [ByteArray.mk_append_mk, ByteArray.mk_append_mk]
  simp
end Go.Proofs.YtdolgkegeomafaaDoor.Sh
