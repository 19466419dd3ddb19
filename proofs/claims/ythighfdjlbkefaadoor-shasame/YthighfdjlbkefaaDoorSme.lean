/- What ShaSame does. -/
import Derived.Test.YthighfdjlbkefaaDoorCol
import Derived.Test.YthighfdjlbkefaaDoorWi
namespace Go.Proofs.YthighfdjlbkefaaDoor
open Go.RowKit
set_option maxRecDepth 100000 in
set_option maxHeartbeats 1000000 in
theorem shaSame_any (a b : List UInt8) (w : World) (hG : Glob w) :
    Calls Tryd.prog 6 #[.string ⟨a.toArray⟩, .string ⟨b.toArray⟩] w fun e w' => e = .returned (.bool true) ∧ Below w.heap.size w w' := by
  have hla := fewL_length a
  have hlb := fewL_length b
  have hBc : Below w.heap.size w w := Below.refl _ _
  have hGc := hG
  by_cases hxy : fewL a = fewL b
  · go_enter Tryd.func6, Tryd.ntmps6
    go_wp2_with (first
      | (go_at_call 8; refine (few_any _ _).mono ?_; rintro e w' ⟨rfl, rfl⟩)
      | (go_at_call 9; refine (awake_any _ hGc).mono ?_; rintro e w1 ⟨rfl, hw1⟩; replace hBc := hBc.trans (hw1.mono hBc.size); replace hGc := hGc.belowSize hw1; clear hw1)
      | (go_at_call 17; refine (same_any (fewL b) (fewL b) _ (by omega)).mono ?_; rintro e w1 ⟨rfl, hD1⟩; replace hBc := hD1.below hBc; replace hGc := hD1.glob hGc; clear hD1)
      | (go_at_call 18; refine (collide_same (fewL b) _).mono ?_; rintro e w1 ⟨rfl, hw1⟩; replace hBc := hBc.trans (hw1.mono hBc.size); replace hGc := hGc.belowSize hw1; clear hw1))
    go_ret
    exact ⟨rfl, hBc⟩
  · have e1 : (fewL a == fewL b) = false := beq_eq_false_iff_ne.2 hxy
    have e2 : decide (fewL a = fewL b) = false := decide_eq_false hxy
    have HX : Hid (¬ fewL a = fewL b) := hxy
    clear hxy
    by_cases hd : digest (fewL a) = digest (fewL b)
    · go_enter Tryd.func6, Tryd.ntmps6
      go_wp2_with (first
        | (go_at_call 8; refine (few_any _ _).mono ?_; rintro e w' ⟨rfl, rfl⟩)
        | (go_at_call 9; refine (awake_any _ hGc).mono ?_; rintro e w1 ⟨rfl, hw1⟩; replace hBc := hBc.trans (hw1.mono hBc.size); replace hGc := hGc.belowSize hw1; clear hw1)
        | (go_at_call 17; refine (same_any _ _ _ (by omega)).mono ?_; rintro e w1 ⟨rfl, hD1⟩; replace hBc := hD1.below hBc; replace hGc := hD1.glob hGc; clear hD1)
        | (go_at_call 11; refine (rsum_any _ _ (by omega)).mono ?_; rintro e w1 ⟨rfl, hw1⟩; replace hBc := hBc.trans (hw1.mono hBc.size); replace hGc := hGc.belowSize hw1; clear hw1))
      refine (collide_same (fewL a) _).mono ?_
      rintro e w1 ⟨rfl, hw1⟩
      replace hBc := hBc.trans (hw1.mono hBc.size)
      replace hGc := hGc.belowSize hw1
      clear hw1
      go_wp2_with (first
        | (go_at_call 8; refine (few_any _ _).mono ?_; rintro e w' ⟨rfl, rfl⟩)
        | (go_at_call 9; refine (awake_any _ hGc).mono ?_; rintro e w1 ⟨rfl, hw1⟩; replace hBc := hBc.trans (hw1.mono hBc.size); replace hGc := hGc.belowSize hw1; clear hw1)
        | (go_at_call 17; refine (same_any _ _ _ (by omega)).mono ?_; rintro e w1 ⟨rfl, hD1⟩; replace hBc := hD1.below hBc; replace hGc := hD1.glob hGc; clear hD1)
        | (go_at_call 11; refine (rsum_any _ _ (by omega)).mono ?_; rintro e w1 ⟨rfl, hw1⟩; replace hBc := hBc.trans (hw1.mono hBc.size); replace hGc := hGc.belowSize hw1; clear hw1))
      refine (collide_diff (fewL a) (fewL b) _ hGc (by omega) (by omega) HX.out).mono ?_
      rintro e w1 ⟨rfl, hw1⟩
      replace hBc := hBc.trans (hw1.mono hBc.size)
      replace hGc := hGc.belowSize hw1
      clear hw1
      go_wp2_with (first
        | (go_at_call 8; refine (few_any _ _).mono ?_; rintro e w' ⟨rfl, rfl⟩)
        | (go_at_call 9; refine (awake_any _ hGc).mono ?_; rintro e w1 ⟨rfl, hw1⟩; replace hBc := hBc.trans (hw1.mono hBc.size); replace hGc := hGc.belowSize hw1; clear hw1)
        | (go_at_call 17; refine (same_any _ _ _ (by omega)).mono ?_; rintro e w1 ⟨rfl, hD1⟩; replace hBc := hD1.below hBc; replace hGc := hD1.glob hGc; clear hD1)
        | (go_at_call 11; refine (rsum_any _ _ (by omega)).mono ?_; rintro e w1 ⟨rfl, hw1⟩; replace hBc := hBc.trans (hw1.mono hBc.size); replace hGc := hGc.belowSize hw1; clear hw1))
      go_ret
      exact ⟨rfl, hBc⟩
    · have d1 : (digest (fewL a) == digest (fewL b)) = false := beq_eq_false_iff_ne.2 hd
      have d2 : decide (digest (fewL a) = digest (fewL b)) = false := decide_eq_false hd
      clear hd
      go_enter Tryd.func6, Tryd.ntmps6
      go_wp2_with (first
        | (go_at_call 8; refine (few_any _ _).mono ?_; rintro e w' ⟨rfl, rfl⟩)
        | (go_at_call 9; refine (awake_any _ hGc).mono ?_; rintro e w1 ⟨rfl, hw1⟩; replace hBc := hBc.trans (hw1.mono hBc.size); replace hGc := hGc.belowSize hw1; clear hw1)
        | (go_at_call 17; refine (same_any _ _ _ (by omega)).mono ?_; rintro e w1 ⟨rfl, hD1⟩; replace hBc := hD1.below hBc; replace hGc := hD1.glob hGc; clear hD1)
        | (go_at_call 11; refine (rsum_any _ _ (by omega)).mono ?_; rintro e w1 ⟨rfl, hw1⟩; replace hBc := hBc.trans (hw1.mono hBc.size); replace hGc := hGc.belowSize hw1; clear hw1))
      refine (collide_same (fewL a) _).mono ?_
      rintro e w1 ⟨rfl, hw1⟩
      replace hBc := hBc.trans (hw1.mono hBc.size)
      replace hGc := hGc.belowSize hw1
      clear hw1
      go_wp2_with (first
        | (go_at_call 8; refine (few_any _ _).mono ?_; rintro e w' ⟨rfl, rfl⟩)
        | (go_at_call 9; refine (awake_any _ hGc).mono ?_; rintro e w1 ⟨rfl, hw1⟩; replace hBc := hBc.trans (hw1.mono hBc.size); replace hGc := hGc.belowSize hw1; clear hw1)
        | (go_at_call 17; refine (same_any _ _ _ (by omega)).mono ?_; rintro e w1 ⟨rfl, hD1⟩; replace hBc := hD1.below hBc; replace hGc := hD1.glob hGc; clear hD1)
        | (go_at_call 11; refine (rsum_any _ _ (by omega)).mono ?_; rintro e w1 ⟨rfl, hw1⟩; replace hBc := hBc.trans (hw1.mono hBc.size); replace hGc := hGc.belowSize hw1; clear hw1))
      refine (collide_diff (fewL a) (fewL b) _ hGc (by omega) (by omega) HX.out).mono ?_
      rintro e w1 ⟨rfl, hw1⟩
      replace hBc := hBc.trans (hw1.mono hBc.size)
      replace hGc := hGc.belowSize hw1
      clear hw1
      go_wp2_with (first
        | (go_at_call 8; refine (few_any _ _).mono ?_; rintro e w' ⟨rfl, rfl⟩)
        | (go_at_call 9; refine (awake_any _ hGc).mono ?_; rintro e w1 ⟨rfl, hw1⟩; replace hBc := hBc.trans (hw1.mono hBc.size); replace hGc := hGc.belowSize hw1; clear hw1)
        | (go_at_call 17; refine (same_any _ _ _ (by omega)).mono ?_; rintro e w1 ⟨rfl, hD1⟩; replace hBc := hD1.below hBc; replace hGc := hD1.glob hGc; clear hD1)
        | (go_at_call 11; refine (rsum_any _ _ (by omega)).mono ?_; rintro e w1 ⟨rfl, hw1⟩; replace hBc := hBc.trans (hw1.mono hBc.size); replace hGc := hGc.belowSize hw1; clear hw1))
      go_ret
      exact ⟨rfl, hBc⟩
end Go.Proofs.YthighfdjlbkefaaDoor
