/- What the laws' small functions and mac's Check, Seal and Open do. -/
import Derived.Test.YtminjelnbnajhaaDoorHm
import Derived.Test.YtminjelnbnajhaaDoorAwk
namespace Go.Proofs.YtminjelnbnajhaaDoor
open Go.RowKit
theorem extract_take (l : List UInt8) (n : Nat) : (ByteArray.mk l.toArray).extract 0 n = ⟨(l.take n).toArray⟩ := by
  have : ((ByteArray.mk l.toArray).extract 0 n).data = (l.take n).toArray := by
    apply Array.ext'
    simp [ByteArray.extract, ByteArray.copySlice]
  rw [show (ByteArray.mk l.toArray).extract 0 n = ⟨((ByteArray.mk l.toArray).extract 0 n).data⟩ from rfl, this]
theorem mkApp2 (x y : List UInt8) : (ByteArray.mk x.toArray ++ ByteArray.mk y.toArray) = ByteArray.mk (x ++ y).toArray := ByteArray.mk_append_mk x y
def fewL (l : List UInt8) : List UInt8 := l.take 1000
theorem fewL_length (l : List UInt8) : (fewL l).length ≤ 1000 := by unfold fewL; rw [List.length_take]; omega
section
attribute [local go_sem] extract_take
set_option maxRecDepth 100000 in
set_option maxHeartbeats 400000 in
theorem few_any (l : List UInt8) (w : World) : Calls Tryd.prog 13 #[.string ⟨l.toArray⟩] w fun e w' => e = .returned (.string ⟨(fewL l).toArray⟩) ∧ w' = w := by
  by_cases h : 1000 < l.length
  · go_enter Tryd.func13, Tryd.ntmps13
    go_wp2
    go_ret
    exact ⟨rfl, rfl⟩
  · go_enter Tryd.func13, Tryd.ntmps13
    go_wp2
    go_ret
    refine ⟨?_, rfl⟩
    unfold fewL
    rw [List.take_of_length_le (by omega)]
    rfl
end
set_option maxRecDepth 100000 in
set_option maxHeartbeats 400000 in
theorem awake1_any (w : World) (hG : Glob w) : Calls Tryd.prog 9 #[] w fun e w' => e = .returned (.bool true) ∧ Below w.heap.size w w' := by
  have h := sum_any [97, 98, 99] w hG (by decide)
  rw [digest_abc] at h
  have H := h
  clear h
  go_enter Tryd.func9, Tryd.ntmps9
  go_wp2_with (go_at_call 11; refine H.mono ?_; rintro e w1 ⟨rfl, hw1⟩)
  go_ret
  exact ⟨rfl, hw1⟩
set_option maxRecDepth 100000 in
theorem hmac_jefe : hmac [74, 101, 102, 101] [119, 104, 97, 116, 32, 100, 111, 32, 121, 97, 32, 119, 97, 110, 116, 32, 102, 111, 114, 32, 110, 111, 116, 104, 105, 110, 103, 63] = [91, 220, 193, 70, 191, 96, 117, 78, 106, 4, 36, 38, 8, 149, 117, 199, 90, 0, 63, 8, 157, 39, 57, 131, 157, 236, 88, 185, 100, 236, 56, 67] := by
  decide +kernel
section
attribute [local go_sem] extract_take
set_option maxRecDepth 100000 in
set_option maxHeartbeats 400000 in
theorem awake_any (w : World) (hG : Glob w) : Calls Tryd.prog 15 #[] w fun e w' => e = .returned (.bool true) ∧ Below w.heap.size w w' := by
  have h := tag_any [74, 101, 102, 101] [119, 104, 97, 116, 32, 100, 111, 32, 121, 97, 32, 119, 97, 110, 116, 32, 102, 111, 114, 32, 110, 111, 116, 104, 105, 110, 103, 63] w hG (by decide) (by decide)
  rw [hmac_jefe] at h
  have H := h
  clear h
  go_enter Tryd.func15, Tryd.ntmps15
  go_wp2_with (go_at_call 14; refine H.mono ?_; rintro e w1 ⟨rfl, hw1⟩)
  go_ret
  exact ⟨rfl, hw1⟩
end
set_option maxRecDepth 100000 in
set_option maxHeartbeats 400000 in
theorem check_any (k s t : List UInt8) (w : World) (hG : Glob w) (hk : k.length ≤ 549755813888) (hs : s.length ≤ 274877906944) :
    Calls Tryd.prog 17 #[.string ⟨k.toArray⟩, .string ⟨s.toArray⟩, .string ⟨t.toArray⟩] w fun e w' => e = .returned (.bool (decide (hmac k s = t))) ∧ Below w.heap.size w w' := by
  have hl := hmac_length k s
  replace hl : (hmac k s).length ≤ 1099511627776 := by omega
  go_enter Tryd.func17, Tryd.ntmps17
  go_wp2_with (first
    | (go_at_call 14; refine (tag_any k s _ hG hk hs).mono ?_; rintro e w1 ⟨rfl, hw1⟩)
    | (go_at_call 35; refine (same_any (hmac k s) t _ hl).mono ?_; rintro e w2 ⟨rfl, hD2⟩))
  go_ret
  exact ⟨rfl, hD2.below hw1⟩
section
attribute [local go_sem] mkApp2
set_option maxRecDepth 100000 in
set_option maxHeartbeats 400000 in
theorem seal_any (k s : List UInt8) (w : World) (hG : Glob w) (hk : k.length ≤ 549755813888) (hs : s.length ≤ 274877906944) :
    Calls Tryd.prog 18 #[.string ⟨k.toArray⟩, .string ⟨s.toArray⟩] w fun e w' => e = .returned (.string ⟨(s ++ hmac k s).toArray⟩) ∧ Below w.heap.size w w' := by
  have hl := hmac_length k s
  go_enter Tryd.func18, Tryd.ntmps18
  go_wp2_with (first
    | (go_at_call 14; refine (tag_any k s _ hG hk hs).mono ?_; rintro e w1 ⟨rfl, hw1⟩))
  go_ret
  exact ⟨rfl, hw1⟩
end
set_option maxRecDepth 100000 in
set_option maxHeartbeats 400000 in
theorem open_cut (k b : List UInt8) (w : World) (hb : b.length < 32) :
    Calls Tryd.prog 19 #[.string ⟨k.toArray⟩, .string ⟨b.toArray⟩] w fun e w' => e = .returned (.tuple #[.string ⟨#[]⟩, .int .i64 4]) ∧ w' = w := by
  go_enter Tryd.func19, Tryd.ntmps19
  go_wp2_with fail
  go_ret2
  exact ⟨rfl, rfl⟩
theorem ext_left (x t : List UInt8) : (ByteArray.mk (x ++ t).toArray).extract 0 x.length = ⟨x.toArray⟩ := by
  rw [extract_take, List.take_left]
theorem extract_dropTo (l : List UInt8) (n m : Nat) (h : m = l.length) : (ByteArray.mk l.toArray).extract n m = ⟨(l.drop n).toArray⟩ := by
  subst h
  have : ((ByteArray.mk l.toArray).extract n l.length).data = (l.drop n).toArray := by
    apply Array.ext'
    simp [ByteArray.extract, ByteArray.copySlice]
    rw [List.take_of_length_le (by simp)]
  rw [show (ByteArray.mk l.toArray).extract n l.length = ⟨((ByteArray.mk l.toArray).extract n l.length).data⟩ from rfl, this]
theorem ext_right (x t : List UInt8) (n : Nat) (h : n = x.length + t.length) : (ByteArray.mk (x ++ t).toArray).extract x.length n = ⟨t.toArray⟩ := by
  rw [extract_dropTo _ _ _ (by rw [List.length_append]; exact h), List.drop_left]
end Go.Proofs.YtminjelnbnajhaaDoor
