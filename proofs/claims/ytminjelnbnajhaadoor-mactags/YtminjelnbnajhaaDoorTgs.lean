/- What MacTags does. -/
import Derived.Test.YtminjelnbnajhaaDoorRt
namespace Go.Proofs.YtminjelnbnajhaaDoor
open Go.RowKit
set_option maxRecDepth 100000 in
set_option maxHeartbeats 400000 in
theorem macTags_any (a b : List UInt8) (w : World) (hG : Glob w) : Calls Tryd.prog 4 #[.string ⟨a.toArray⟩, .string ⟨b.toArray⟩] w fun e w' => e = .returned (.bool true) ∧ Below w.heap.size w w' := by
  have hla := fewL_length a
  have hlb := fewL_length b
  obtain ⟨T, hT⟩ : ∃ T, T = hmac (fewL a) (fewL b) := ⟨_, rfl⟩
  have hTl : T.length = 32 := by rw [hT]; exact hmac_length _ _
  have HT : Hid (hmac (fewL a) (fewL b) = T) := hT.symm
  clear hT
  have HN : Hid (decide (T = T.tail) = false) := decide_eq_false fun h => by
    have := congrArg List.length h
    rw [List.length_tail, hTl] at this
    omega
  have hx : (ByteArray.mk T.toArray).extract 1 32 = ⟨T.tail.toArray⟩ := by rw [extract_dropTo _ _ _ hTl.symm, List.drop_one]
  go_enter Tryd.func4, Tryd.ntmps4
  go_wp2_with (first
    | (go_at_call 13; refine (few_any _ _).mono ?_; rintro e w' ⟨rfl, hw'⟩; have hw2 := hw'.symm; subst hw2; clear hw')
    | (go_at_call 14; refine (tag_any (fewL a) (fewL b) _ hG (by omega) (by omega)).mono ?_; rintro e w1 ⟨rfl, hw1⟩; rw [HT.out])
    | (go_at_call 15; refine (awake_any _ (hG.belowSize hw1)).mono ?_; rintro e w2 ⟨rfl, hw2⟩)
    | (go_at_call 16; refine (rtag_any (fewL a) (fewL b) _ (by omega) (by omega)).mono ?_; rintro e w3 ⟨rfl, hw3⟩; rw [HT.out])
    | (go_at_call_of 17 (Value.string ⟨T.toArray⟩); refine (check_any (fewL a) (fewL b) T _ (((hG.belowSize hw1).belowSize hw2).belowSize hw3) (by omega) (by omega)).mono ?_; rintro e w4 ⟨rfl, hw4⟩; rw [HT.out])
    | (go_at_call 17; refine (check_any (fewL a) (fewL b) T.tail _ ((((hG.belowSize hw1).belowSize hw2).belowSize hw3).belowSize hw4) (by omega) (by omega)).mono ?_; rintro e w5 ⟨rfl, hw5⟩; rw [HT.out, HN.out]))
  go_ret
  have hB2 := hw1.trans (hw2.mono hw1.size)
  have hB3 := hB2.trans (hw3.mono hB2.size)
  have hB4 := hB3.trans (hw4.mono hB3.size)
  exact ⟨rfl, hB4.trans (hw5.mono hB4.size)⟩
end Go.Proofs.YtminjelnbnajhaaDoor
