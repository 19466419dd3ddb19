/- What MacLong does. -/
import Derived.Test.YtminjelnbnajhaaDoorMa
import Derived.Test.YtminjelnbnajhaaDoorWi
namespace Go.Proofs.YtminjelnbnajhaaDoor
open Go.RowKit
theorem hmac_congr {k k' : List UInt8} (h : ∀ j, j < 64 → keyF k j = keyF k' j) (s : List UInt8) : hmac k s = hmac k' s := by
  have e : ∀ p, hpadK k p = hpadK k' p := fun p => by
    unfold hpadK
    exact List.map_congr_left fun j hj => by rw [h j (by simpa using hj)]
  unfold hmac
  rw [e, e]
theorem hmac_dig (k s : List UInt8) (h : 64 < k.length) : hmac (digest k) s = hmac k s :=
  hmac_congr (fun j _ => by
    unfold keyF
    have e : shortKey (digest k) = shortKey k := by unfold shortKey; rw [if_pos h, if_neg (by rw [digest_length]; omega)]
    rw [e]) s
def noughtsBehind (k : List UInt8) (z : Nat) : List UInt8 := k ++ List.replicate z 0
theorem hmac_noughts (k s : List UInt8) (z : Nat) (h : k.length + z = 64) : hmac (noughtsBehind k z) s = hmac k s :=
  hmac_congr (fun j _ => by
    unfold keyF shortKey noughtsBehind
    rw [if_neg (by simp; omega), if_neg (by omega), List.getD_eq_getElem?_getD, List.getD_eq_getElem?_getD]
    by_cases hj : j < k.length
    · rw [List.getElem?_append_left hj]
    · rw [List.getElem?_append_right (by omega), List.getElem?_eq_none (l := k) (by omega), List.getElem?_replicate]
      split <;> rfl) s
theorem noughtsBehind_succ (k : List UInt8) (z : Nat) : noughtsBehind k z ++ [0] = noughtsBehind k (z + 1) := by
  unfold noughtsBehind
  rw [List.append_assoc, List.replicate_succ']
theorem noughtsBehind_length (k : List UInt8) (z : Nat) : (noughtsBehind k z).length = k.length + z := by simp [noughtsBehind]
def txLen : Value → Nat
  | .string s => s.size
  | _ => 0
attribute [local go_sem] mkApp2
set_option maxRecDepth 100000 in
set_option maxHeartbeats 400000 in
theorem macLong_any (a b : List UInt8) (w : World) (hG : Glob w) : Calls Tryd.prog 8 #[.string ⟨a.toArray⟩, .string ⟨b.toArray⟩] w fun e w' => e = .returned (.bool true) ∧ Below w.heap.size w w' := by
  have hla := fewL_length a
  have hlb := fewL_length b
  by_cases h : 64 < (fewL a).length
  · have HD : Hid (hmac (digest (fewL a)) (fewL b) = hmac (fewL a) (fewL b)) := hmac_dig _ _ h
    have hdl : (digest (fewL a)).length = 32 := digest_length _
    replace hdl : (digest (fewL a)).length ≤ 32 := by omega
    go_enter Tryd.func8, Tryd.ntmps8
    go_wp2_with (first
      | (go_at_call 13; refine (few_any _ _).mono ?_; rintro e w' ⟨rfl, rfl⟩)
      | (go_at_call 15; refine (awake_any _ hG).mono ?_; rintro e w1 ⟨rfl, hw1⟩)
      | (go_at_call_of 14 (Value.string ⟨(fewL a).toArray⟩); refine (tag_any (fewL a) (fewL b) _ (hG.belowSize hw1) (by omega) (by omega)).mono ?_; rintro e w2 ⟨rfl, hw2⟩)
      | (go_at_call 12; refine (rsum_any (fewL a) _ (by omega)).mono ?_; rintro e w3 ⟨rfl, hw3⟩)
      | (go_at_call_of 14 (Value.string ⟨(digest (fewL a)).toArray⟩); refine (tag_any (digest (fewL a)) (fewL b) _ (((hG.belowSize hw1).belowSize hw2).belowSize hw3) (by omega) (by omega)).mono ?_; rintro e w4 ⟨rfl, hw4⟩; rw [HD.out]))
    go_ret
    have hB2 := hw1.trans (hw2.mono hw1.size)
    have hB3 := hB2.trans (hw3.mono hB2.size)
    exact ⟨rfl, hB3.trans (hw4.mono hB3.size)⟩
  · go_enter Tryd.func8, Tryd.ntmps8
    go_wp2_with (first
      | (go_at_call 13; refine (few_any _ _).mono ?_; rintro e w' ⟨rfl, hw'⟩; have hw2 := hw'.symm; subst hw2; clear hw'))
    generalize fewL a = k at *
    generalize fewL b = t at *
    go_loopw [7] (fun v wl => ∃ z : Nat, k.length + z ≤ 64 ∧ v = .string ⟨(noughtsBehind k z).toArray⟩ ∧ Below w.heap.size w wl) (fun v _ => 64 - txLen v)
    case atStart => exact ⟨0, by omega, by simp [noughtsBehind], Below.refl _ _⟩
    case round =>
      obtain ⟨z, hz, rfl, hB⟩ := hrel
      have hn := noughtsBehind_length k z
      have hn2 := noughtsBehind_length k (z + 1)
      have hGr := hG.belowSize hB
      by_cases hlt : k.length + z < 64
      · have HS : Hid (noughtsBehind k z ++ [0] = noughtsBehind k (z + 1)) := noughtsBehind_succ k z
        have e1 : decide (((noughtsBehind k z).length : Int) < 64) = true := by simp; omega
        have hn3 : (noughtsBehind k z).length ≤ 64 := by omega
        have HN : Hid ((noughtsBehind k z).length = k.length + z) := hn
        have HN2 : Hid ((noughtsBehind k (z + 1)).length = k.length + (z + 1)) := hn2
        clear hn hn2
        go_wp2_with fail
        go_roundw
        case rel => exact ⟨z + 1, by omega, by rw [← HS.out], hB⟩
        case measure =>
          have h1 := HN.out
          have h2 := HN2.out
          simp only [txLen, HS.out, mk_size]
          omega
      · have HD : Hid (hmac (noughtsBehind k z) t = hmac k t) := hmac_noughts k t z (by omega)
        have e1 : decide (((noughtsBehind k z).length : Int) < 64) = false := by simp; omega
        replace hn : (noughtsBehind k z).length ≤ 64 := by omega
        clear hn2
        go_wp2_with (first
          | (go_at_call 15; refine (awake_any _ hGr).mono ?_; rintro e w1 ⟨rfl, hw1⟩)
          | (go_at_call_of 14 (Value.string ⟨k.toArray⟩); refine (tag_any k t _ (hGr.belowSize hw1) (by omega) (by omega)).mono ?_; rintro e w2 ⟨rfl, hw2⟩)
          | (go_at_call_of 14 (Value.string ⟨(noughtsBehind k z).toArray⟩); refine (tag_any (noughtsBehind k z) t _ ((hGr.belowSize hw1).belowSize hw2) (by omega) (by omega)).mono ?_; rintro e w4 ⟨rfl, hw4⟩; rw [HD.out]))
        go_ret
        have hB1 := hB.trans (hw1.mono hB.size)
        have hB2 := hB1.trans (hw2.mono hB1.size)
        exact ⟨rfl, hB2.trans (hw4.mono hB2.size)⟩
end Go.Proofs.YtminjelnbnajhaaDoor
