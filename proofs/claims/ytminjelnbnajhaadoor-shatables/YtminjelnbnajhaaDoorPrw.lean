/- What primes does. -/
import Derived.Test.YtminjelnbnajhaaDoorPrm
namespace Go.Proofs.YtminjelnbnajhaaDoor
open Go Go.RowKit
def ndiv (k : Nat) (p : Nat) : Bool := k % p != 0
theorem primesTo_succ (m : Nat) : primesTo (m + 1) = if (primesTo m).all (ndiv (m + 2)) then primesTo m ++ [m + 2] else primesTo m := by
  rw [primesTo, Nat.add_comm 2 m]; rfl
theorem primesTo_mono (m : Nat) : ∀ k, (primesTo m).length ≤ (primesTo (m + k)).length
  | 0 => Nat.le_refl _
  | k + 1 => by
    have := primesTo_mono m k
    rw [← Nat.add_assoc, primesTo_succ]
    split
    · rw [List.length_append]; omega
    · exact this
theorem primes309 : (primesTo 309).length = 63 := by decide +kernel
theorem primes_lt (m : Nat) (h : m < 310) : (primesTo m).length < 64 := by
  have := primesTo_mono m (309 - m)
  rw [show m + (309 - m) = 309 from by omega, primes309] at this
  omega
theorem primes_len : (primesTo 310).length = 64 := by rw [primes310]; rfl
theorem primes_ge : ∀ m j, j < (primesTo m).length → 2 ≤ (primesTo m).getD j 0
  | 0, j, h => by simp [primesTo] at h
  | m + 1, j, h => by
    rw [primesTo_succ] at h ⊢
    split at h
    · rename_i hc
      rw [if_pos hc]
      by_cases hj : j < (primesTo m).length
      · have := primes_ge m j hj
        rw [List.getD_eq_getElem?_getD] at this ⊢
        rw [List.getElem?_append_left hj]; exact this
      · rw [List.getD_eq_getElem?_getD, List.getElem?_append_right (by omega)]
        rw [List.length_append] at h
        have h1 : ([m + 2] : List Nat).length = 1 := rfl
        rw [show j - (primesTo m).length = 0 from by omega]
        simp
    · rename_i hc
      rw [if_neg hc]
      exact primes_ge m j h
theorem all_take_succ (l : List Nat) (f : Nat → Bool) (i : Nat) (h : i < l.length) : (l.take (i + 1)).all f = ((l.take i).all f && f (l.getD i 0)) := by
  rw [List.take_succ_eq_append_getElem h, List.all_append, List.getD_eq_getElem?_getD, List.getElem?_eq_getElem h]
  simp
theorem tmod_q (k p : Nat) : ((q k).tmod (q p) == 0) = !(ndiv k p) := by
  unfold q ndiv
  rw [← Int.ofNat_tmod]
  rw [Bool.eq_iff_iff]
  simp
  omega
set_option maxRecDepth 100000 in
set_option maxHeartbeats 1000000 in
theorem primes_any (w : World) : Calls Tryd.prog 37 #[.int .i64 64] w fun e w' => ∃ g cap, e = .returned (.slice (some ⟨g, 0, none⟩) 64 cap) ∧ Below w.heap.size w w' ∧ w.heap.size ≤ g ∧ US w' g cap (primesTo 310) := by
  obtain ⟨i55', hi55, hz55, hs55, hb55⟩ := info55
  go_enter Tryd.func37, Tryd.ntmps37
  go_wp2_with (with_reducible refine at_list ?_; refine wpList_usl0 rfl rfl ?_; intro w1 hw1 hs1 hb1; replace hs1 := hs1.symm)
  clear hs1
  go_loopw [3, 4] (fun v3 v4 wl => ∃ m g cap : Nat, m ≤ 310 ∧ v4 = .int .u64 (q (m + 2)) ∧ v3 = .slice (some ⟨g, 0, none⟩) (primesTo m).length cap ∧ w.heap.size ≤ g ∧ Below w.heap.size w wl ∧ US wl g cap (primesTo m)) (fun _ v4 _ => 312 - (intOf v4).toNat)
  case atStart => exact ⟨0, w.heap.size, 0, by omega, rfl, rfl, Nat.le_refl _, hw1, hb1⟩
  case round =>
    clear hw1 hb1
    obtain ⟨m, g, cap, hm, rfl, rfl, hg, hB, hU⟩ := hrel
    by_cases hlt : m < 310
    · have HS := primesTo_succ m
      have HS2 : Hid (primesTo (m + 1) = if (primesTo m).all (ndiv (m + 2)) then primesTo m ++ [m + 2] else primesTo m) := HS
      have hpl := primes_lt m hlt
      have HG : Hid (∀ j, j < (primesTo m).length → 2 ≤ (primesTo m).getD j 0) := primes_ge m
      have i1 : (q (m + 2) + 1) % 18446744073709551616 = q (m + 1 + 2) := by unfold q; omega
      have i2 : IntKind.u64.wrap (q (m + 2) + 1) = q (m + 1 + 2) := by rw [IntKind.wrap_u64]; exact i1
      clear HS
      generalize primesTo m = l at *
      go_wp2_with fail
      go_loopw [5, 6] (fun v5 v6 wl => ∃ i : Nat, i ≤ l.length ∧ v6 = .int .i64 i ∧ v5 = .bool ((l.take i).all (ndiv (m + 2))) ∧ Below w.heap.size w wl ∧ US wl g cap l) (fun _ v6 _ => l.length - (intOf v6).toNat)
      case atStart => exact ⟨0, by omega, rfl, rfl, hB, hU⟩
      case round =>
        clear hB hU
        obtain ⟨i, hi, rfl, rfl, hB, hU⟩ := hrel
        by_cases hli : i < l.length
        · have hc := hU.cell i hli
          have hge := HG.out i hli
          have HA : Hid ((l.take (i + 1)).all (ndiv (m + 2)) = ((l.take i).all (ndiv (m + 2)) && ndiv (m + 2) (l.getD i 0))) := all_take_succ l _ i hli
          generalize l.getD i 0 = p at *
          have z0 : ¬ q p = 0 := by unfold q; omega
          generalize (l.take i).all (ndiv (m + 2)) = b0 at *
          have ht := tmod_q (m + 2) p
          cases hnd : ndiv (m + 2) p with
          | true =>
            rw [hnd] at ht HA
            have HA2 : Hid ((l.take (i + 1)).all (ndiv (m + 2)) = b0) := by rw [HA.out, Bool.and_true]; exact rfl
            replace ht : ((q (m + 2)).tmod (q p) == 0) = false := ht
            clear HA hnd
            go_wp2_with fail
            go_roundw
            case rel => exact ⟨i + 1, by omega, by go_num, by rw [HA2.out], hB, hU⟩
            case measure => simp [intOf]; omega
          | false =>
            rw [hnd] at ht HA
            have HA2 : Hid ((l.take (i + 1)).all (ndiv (m + 2)) = false) := by rw [HA.out, Bool.and_false]; exact rfl
            replace ht : ((q (m + 2)).tmod (q p) == 0) = true := ht
            clear HA hnd
            go_wp2_with fail
            go_roundw
            case rel => exact ⟨i + 1, by omega, by go_num, by rw [HA2.out], hB, hU⟩
            case measure => simp [intOf]; omega
        · have ha : (l.take i).all (ndiv (m + 2)) = l.all (ndiv (m + 2)) := by rw [List.take_of_length_le (by omega)]
          rw [ha]
          clear ha
          cases hall : l.all (ndiv (m + 2)) with
          | true =>
            rw [hall] at HS2
            have HS3 : Hid (primesTo (m + 1) = l ++ [m + 2]) := HS2
            clear hall HS2
            go_wp2_with (with_reducible refine at_list ?_; first
              | (refine wpList_usl1 (op := ⟨some 30, _, _, _, _, _⟩) rfl _ rfl (m + 2) rfl ?_; intro w4 hw4 hs4 hb4; replace hs4 := hs4.symm)
              | (refine wpList_appendUS (op := ⟨some 31, _, _, _, _, _⟩) rfl _ _ _ rfl g cap l _ rfl rfl (hU.belowSize hw4) wr.heap.size 1 rfl (m + 2) _ hb4 _ Tryd.underlying64 hi55 hz55 hs55 hb55 (by omega) ?_; intro w5 g5 cap5 hg5' hg5 hb5))
            go_roundw
            case rel =>
              have hB4 := hB.trans (hw4.mono hB.size)
              have := hw4.size
              have := hB.size
              exact ⟨m + 1, g5, cap5, by omega, rfl, by rw [HS3.out, List.length_append]; rfl, by omega, hB4.trans (below_of_grown hg5 hg hB4.size), by rw [HS3.out]; exact hb5⟩
            case measure => simp [intOf, q]; omega
          | false =>
            rw [hall] at HS2
            have HS3 : Hid (primesTo (m + 1) = l) := HS2
            clear hall HS2
            go_wp2_with fail
            go_roundw
            case rel => exact ⟨m + 1, g, cap, by omega, rfl, by rw [HS3.out], hg, hB, by rw [HS3.out]; exact hU⟩
            case measure => simp [intOf, q]; omega
    · have hm2 : m = 310 := by omega
      subst hm2
      have hl := primes_len
      have HL : Hid ((primesTo 310).length = 64) := hl
      generalize hlq : primesTo 310 = l at *
      have HQ : Hid (primesTo 310 = l) := hlq
      clear hlq
      go_wp2_with fail
      go_ret
      refine ⟨g, cap, ?_, hB, hg, by rw [HQ.out]; exact hU⟩
      show Ending.returned (.slice (some ⟨g, 0, none⟩) l.length cap) = _
      rw [HL.out]
end Go.Proofs.YtminjelnbnajhaaDoor
