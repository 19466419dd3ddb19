/- What few, awake, Same and Collide do. -/
import Derived.Test.YthighfdjlbkefaaDoorWg
import Derived.Test.YthighfdjlbkefaaDoorAwk
namespace Go.Proofs.YthighfdjlbkefaaDoor
open Go.RowKit
theorem extract_take (l : List UInt8) (n : Nat) : (ByteArray.mk l.toArray).extract 0 n = ⟨(l.take n).toArray⟩ := by
  have : ((ByteArray.mk l.toArray).extract 0 n).data = (l.take n).toArray := by
    apply Array.ext'
    simp [ByteArray.extract, ByteArray.copySlice]
  rw [show (ByteArray.mk l.toArray).extract 0 n = ⟨((ByteArray.mk l.toArray).extract 0 n).data⟩ from rfl, this]
attribute [local go_sem] extract_take
def fewL (l : List UInt8) : List UInt8 := l.take 3000
theorem fewL_length (l : List UInt8) : (fewL l).length ≤ 3000 := by unfold fewL; rw [List.length_take]; omega
set_option maxRecDepth 100000 in
set_option maxHeartbeats 400000 in
theorem few_any (l : List UInt8) (w : World) : Calls Tryd.prog 8 #[.string ⟨l.toArray⟩] w fun e w' => e = .returned (.string ⟨(fewL l).toArray⟩) ∧ w' = w := by
  by_cases h : 3000 < l.length
  · go_enter Tryd.func8, Tryd.ntmps8
    go_wp2
    go_ret
    exact ⟨rfl, rfl⟩
  · go_enter Tryd.func8, Tryd.ntmps8
    go_wp2
    go_ret
    refine ⟨?_, rfl⟩
    unfold fewL
    rw [List.take_of_length_le (by omega)]
    rfl
set_option maxRecDepth 100000 in
set_option maxHeartbeats 400000 in
theorem awake_any (w : World) (hG : Glob w) : Calls Tryd.prog 9 #[] w fun e w' => e = .returned (.bool true) ∧ Below w.heap.size w w' := by
  have h := sum_any [97, 98, 99] w hG (by decide)
  rw [digest_abc] at h
  have H := h
  clear h
  go_enter Tryd.func9, Tryd.ntmps9
  go_wp2_with (go_at_call 10; refine H.mono ?_; rintro e w1 ⟨rfl, hw1⟩)
  go_ret
  exact ⟨rfl, hw1⟩
end Go.Proofs.YthighfdjlbkefaaDoor
