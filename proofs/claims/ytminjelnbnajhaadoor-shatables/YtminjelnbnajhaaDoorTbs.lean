/- What ShaTables does. -/
import Derived.Test.YtminjelnbnajhaaDoorRgt
import Derived.Test.YtminjelnbnajhaaDoorMa
import Derived.Test.YtminjelnbnajhaaDoorWi
namespace Go.Proofs.YtminjelnbnajhaaDoor
open Go Go.RowKit
set_option maxRecDepth 100000 in
set_option maxHeartbeats 1000000 in
theorem shaTables_any (a : List UInt8) (w : World) (hG : Glob w) : Calls Tryd.prog 3 #[.string ⟨a.toArray⟩] w fun e w' => e = .returned (.bool true) ∧ Below w.heap.size w w' := by
  by_cases h : 10 < a.length
  · obtain ⟨s, hs⟩ : ∃ s, s = a.take 10 := ⟨_, rfl⟩
    have hx : (ByteArray.mk a.toArray).extract 0 10 = ⟨s.toArray⟩ := by rw [extract_take, hs]
    have hsl : s.length ≤ 10 := by rw [hs, List.length_take]; omega
    clear hs
    go_enter Tryd.func3, Tryd.ntmps3
    go_wp2_with (first
      | (go_at_call 9; refine (awake1_any _ hG).mono ?_; rintro e w1 ⟨rfl, hw1⟩)
      | (go_at_call 10; refine (right_any _).mono ?_; rintro e w2 ⟨rfl, hw2⟩)
      | (go_at_call 11; refine (sum_any s _ ((hG.belowSize hw1).belowSize hw2) (by omega)).mono ?_; rintro e w3 ⟨rfl, hw3⟩)
      | (go_at_call 12; refine (rsum_any s _ (by omega)).mono ?_; rintro e w4 ⟨rfl, hw4⟩))
    go_ret
    have hB2 := hw1.trans (hw2.mono hw1.size)
    have hB3 := hB2.trans (hw3.mono hB2.size)
    exact ⟨rfl, hB3.trans (hw4.mono hB3.size)⟩
  · have hs : a.length ≤ 10 := by omega
    go_enter Tryd.func3, Tryd.ntmps3
    go_wp2_with (first
      | (go_at_call 9; refine (awake1_any _ hG).mono ?_; rintro e w1 ⟨rfl, hw1⟩)
      | (go_at_call 10; refine (right_any _).mono ?_; rintro e w2 ⟨rfl, hw2⟩)
      | (go_at_call 11; refine (sum_any a _ ((hG.belowSize hw1).belowSize hw2) (by omega)).mono ?_; rintro e w3 ⟨rfl, hw3⟩)
      | (go_at_call 12; refine (rsum_any a _ (by omega)).mono ?_; rintro e w4 ⟨rfl, hw4⟩))
    go_ret
    have hB2 := hw1.trans (hw2.mono hw1.size)
    have hB3 := hB2.trans (hw3.mono hB2.size)
    exact ⟨rfl, hB3.trans (hw4.mono hB3.size)⟩
end Go.Proofs.YtminjelnbnajhaaDoor
