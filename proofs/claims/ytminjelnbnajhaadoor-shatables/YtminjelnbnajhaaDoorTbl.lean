/- What Tables does. -/
import Derived.Test.YtminjelnbnajhaaDoorPrw
namespace Go.Proofs.YtminjelnbnajhaaDoor
open Go Go.RowKit
theorem roots3 : (primesTo 310).map (fun p => rootW p true) = Ktab := by decide +kernel
theorem roots2 : ((primesTo 310).take 8).map (fun p => rootW p false) = [1779033703, 3144134277, 1013904242, 2773480762, 1359893119, 2600822924, 528734635, 1541459225] := by decide +kernel
/-- The tables, so far as they are made. -/
def kTo (n : Nat) : Nat → BitVec 32 := fun j => if j < n then Kt j else 0
def hTo (n : Nat) : Nat → BitVec 32 := fun j => if j < n then H0.at j else 0
theorem kTo_succ (n : Nat) : upd (kTo n) n (Kt n) = kTo (n + 1) := by
  funext j
  unfold upd kTo
  by_cases h : j = n
  · subst h; rw [if_pos rfl, if_pos (Nat.lt_succ_self _)]
  · rw [if_neg h]
    by_cases h2 : j < n
    · rw [if_pos h2, if_pos (by omega)]
    · rw [if_neg h2, if_neg (by omega)]
theorem hTo_succ (n : Nat) : upd (hTo n) n (H0.at n) = hTo (n + 1) := by
  funext j
  unfold upd hTo
  by_cases h : j = n
  · subst h; rw [if_pos rfl, if_pos (Nat.lt_succ_self _)]
  · rw [if_neg h]
    by_cases h2 : j < n
    · rw [if_pos h2, if_pos (by omega)]
    · rw [if_neg h2, if_neg (by omega)]
theorem kOf (j : Nat) (h : j < 64) : q (rootW ((primesTo 310).getD j 0) true) = n32 (Kt j) := by
  have e : rootW ((primesTo 310).getD j 0) true = Ktab.getD j 0 := by
    rw [← roots3, List.getD_eq_getElem?_getD, List.getD_eq_getElem?_getD, List.getElem?_map, List.getElem?_eq_getElem (by rw [primes_len]; exact h)]
    rfl
  rw [e]
  have : ∀ j, j < 64 → q (Ktab.getD j 0) = n32 (Kt j) := by decide +kernel
  exact this j h
theorem hOf (j : Nat) (h : j < 8) : q (rootW ((primesTo 310).getD j 0) false) = n32 (H0.at j) := by
  have e : rootW ((primesTo 310).getD j 0) false = ([1779033703, 3144134277, 1013904242, 2773480762, 1359893119, 2600822924, 528734635, 1541459225] : List Nat).getD j 0 := by
    rw [← roots2, List.getD_eq_getElem?_getD, List.getD_eq_getElem?_getD, List.getElem?_map, List.getElem?_take_of_lt h, List.getElem?_eq_getElem (by rw [primes_len]; omega)]
    rfl
  rw [e]
  have : ∀ j, j < 8 → q (([1779033703, 3144134277, 1013904242, 2773480762, 1359893119, 2600822924, 528734635, 1541459225] : List Nat).getD j 0) = n32 (H0.at j) := by decide +kernel
  exact this j h
theorem built48 : Tryd.prog.built 48 [] = some (row32 (fun _ => 0) 8) := by kernel_rfl
theorem built47 : Tryd.prog.built 47 [] = some (row32 (fun _ => 0) 64) := by kernel_rfl
end Go.Proofs.YtminjelnbnajhaaDoor
