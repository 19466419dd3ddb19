/- What mayBe and the function that Check hands in do. -/
import Derived.Test.YtncoifkchoiiaaaOpc
namespace Go.Proofs.Ytncoifkchoiiaaa
open Go Go.RowKit
set_option maxRecDepth 100000 in
set_option maxHeartbeats 400000 in
theorem mayBe_any (o : O) (w : World) : Calls Try.prog 36 #[.agg (opc o)] w fun e w' => e = .returned (.bool (okOp o)) ∧ Below w.heap.size w w' := by
  obtain ⟨k, key, vv⟩ := o
  by_cases h0 : key.length = 0
  · have hk : key = [] := List.length_eq_zero_iff.1 h0
    subst hk
    have HE : Hid (okOp ⟨k, [], vv⟩ = false) := decide_eq_false (by simp)
    rw [HE.out]
    go_enter Try.func36, Try.ntmps36
    go_wp2_with (with_reducible refine at_list ?_; refine wpList_boxRow (op := ⟨some 1, _, _, _, _, _⟩) rfl _ _ rfl _ rfl ?_; intro w1 hw1 hs1 hb1; replace hs1 := hs1.symm; have c0 := (hb1.cell 0).trans (opc_g0 _); have c1 := (hb1.cell 1).trans (opc_g1 _); have c2 := (hb1.cell 2).trans (opc_g2 _))
    go_ret
    exact ⟨rfl, hw1⟩
  · have hd0 : ((key.length : Int) == 0) = false := by rw [beq_eq_false_iff_ne]; omega
    by_cases h1 : 32 < key.length
    · have HE : Hid (okOp ⟨k, key, vv⟩ = false) := decide_eq_false (by simp only; omega)
      rw [HE.out]
      go_enter Try.func36, Try.ntmps36
      go_wp2_with (with_reducible refine at_list ?_; refine wpList_boxRow (op := ⟨some 1, _, _, _, _, _⟩) rfl _ _ rfl _ rfl ?_; intro w1 hw1 hs1 hb1; replace hs1 := hs1.symm; have c0 := (hb1.cell 0).trans (opc_g0 _); have c1 := (hb1.cell 1).trans (opc_g1 _); have c2 := (hb1.cell 2).trans (opc_g2 _))
      go_ret
      exact ⟨rfl, hw1⟩
    · have hd1 : decide (32 < (key.length : Int)) = false := decide_eq_false (by omega)
      by_cases hk1 : k = 1
      · subst hk1
        have HE : Hid (okOp ⟨1, key, vv⟩ = decide ((vv.length : Int) ≤ 64)) := decide_eq_decide.2 ⟨fun h => by obtain ⟨_, _, h | h⟩ := h; exact (by have := h.2; dsimp only at this; omega); exact absurd h.1 (by dsimp only; decide), fun h => ⟨h0, by dsimp only; omega, .inl ⟨by dsimp only; decide, by dsimp only; omega⟩⟩⟩
        rw [HE.out]
        go_enter Try.func36, Try.ntmps36
        go_wp2_with (with_reducible refine at_list ?_; refine wpList_boxRow (op := ⟨some 1, _, _, _, _, _⟩) rfl _ _ rfl _ rfl ?_; intro w1 hw1 hs1 hb1; replace hs1 := hs1.symm; have c0 := (hb1.cell 0).trans (opc_g0 _); have c1 := (hb1.cell 1).trans (opc_g1 _); have c2 := (hb1.cell 2).trans (opc_g2 _))
        go_ret
        exact ⟨rfl, hw1⟩
      have hb1 : (k == 1) = false := by rw [beq_eq_false_iff_ne]; exact hk1
      by_cases hk3 : k = 3
      · subst hk3
        have HE : Hid (okOp ⟨3, key, vv⟩ = decide ((vv.length : Int) ≤ 64)) := decide_eq_decide.2 ⟨fun h => by obtain ⟨_, _, h | h⟩ := h; exact (by have := h.2; dsimp only at this; omega); exact absurd h.1 (by dsimp only; decide), fun h => ⟨h0, by dsimp only; omega, .inl ⟨by dsimp only; decide, by dsimp only; omega⟩⟩⟩
        rw [HE.out]
        go_enter Try.func36, Try.ntmps36
        go_wp2_with (with_reducible refine at_list ?_; refine wpList_boxRow (op := ⟨some 1, _, _, _, _, _⟩) rfl _ _ rfl _ rfl ?_; intro w1 hw1 hs1 hb1; replace hs1 := hs1.symm; have c0 := (hb1.cell 0).trans (opc_g0 _); have c1 := (hb1.cell 1).trans (opc_g1 _); have c2 := (hb1.cell 2).trans (opc_g2 _))
        go_ret
        exact ⟨rfl, hw1⟩
      have hb3 : (k == 3) = false := by rw [beq_eq_false_iff_ne]; exact hk3
      by_cases hk2 : k = 2
      · subst hk2
        have HE : Hid (okOp ⟨2, key, vv⟩ = vv.isEmpty) := by
          cases vv with
          | nil => exact decide_eq_true ⟨h0, by dsimp only; omega, .inr ⟨by dsimp only; decide, rfl⟩⟩
          | cons x r => exact decide_eq_false (by simp only [List.length_cons]; omega)
        rw [HE.out]
        go_enter Try.func36, Try.ntmps36
        go_wp2_with (with_reducible refine at_list ?_; refine wpList_boxRow (op := ⟨some 1, _, _, _, _, _⟩) rfl _ _ rfl _ rfl ?_; intro w1 hw1 hs1 hb1; replace hs1 := hs1.symm; have c0 := (hb1.cell 0).trans (opc_g0 _); have c1 := (hb1.cell 1).trans (opc_g1 _); have c2 := (hb1.cell 2).trans (opc_g2 _))
        go_ret
        exact ⟨rfl, hw1⟩
      have hb2 : (k == 2) = false := by rw [beq_eq_false_iff_ne]; exact hk2
      by_cases hk4 : k = 4
      · subst hk4
        have HE : Hid (okOp ⟨4, key, vv⟩ = vv.isEmpty) := by
          cases vv with
          | nil => exact decide_eq_true ⟨h0, by dsimp only; omega, .inr ⟨by dsimp only; decide, rfl⟩⟩
          | cons x r => exact decide_eq_false (by simp only [List.length_cons]; omega)
        rw [HE.out]
        go_enter Try.func36, Try.ntmps36
        go_wp2_with (with_reducible refine at_list ?_; refine wpList_boxRow (op := ⟨some 1, _, _, _, _, _⟩) rfl _ _ rfl _ rfl ?_; intro w1 hw1 hs1 hb1; replace hs1 := hs1.symm; have c0 := (hb1.cell 0).trans (opc_g0 _); have c1 := (hb1.cell 1).trans (opc_g1 _); have c2 := (hb1.cell 2).trans (opc_g2 _))
        go_ret
        exact ⟨rfl, hw1⟩
      have hb4 : (k == 4) = false := by rw [beq_eq_false_iff_ne]; exact hk4
      have HE : Hid (okOp ⟨k, key, vv⟩ = false) := decide_eq_false (by simp only; omega)
      rw [HE.out]
      go_enter Try.func36, Try.ntmps36
      go_wp2_with (with_reducible refine at_list ?_; refine wpList_boxRow (op := ⟨some 1, _, _, _, _, _⟩) rfl _ _ rfl _ rfl ?_; intro w1 hw1 hs1 hb1; replace hs1 := hs1.symm; have c0 := (hb1.cell 0).trans (opc_g0 _); have c1 := (hb1.cell 1).trans (opc_g1 _); have c2 := (hb1.cell 2).trans (opc_g2 _))
      go_ret
      exact ⟨rfl, hw1⟩
set_option maxRecDepth 100000 in
theorem fnot_any (o : O) (w : World) : Calls Try.prog 35 #[.agg (opc o)] w fun e w' => e = .returned (.bool (!okOp o)) ∧ Below w.heap.size w w' := by
  have HM := fun w => mayBe_any o w
  go_enter Try.func35, Try.ntmps35
  go_wp2_with (first
    | (go_at_call 36; refine (HM _).mono ?_; rintro e w2 ⟨rfl, hw2⟩)
    | (with_reducible refine at_list ?_; first
      | (refine wpList_boxRow (op := ⟨some 1, _, _, _, _, _⟩) rfl _ _ rfl _ rfl ?_; intro w1 hw1 hs1 hb1; replace hs1 := hs1.symm)
      | (refine wpList_loadRow (op := ⟨some 3, _, _, _, _, _⟩) rfl _ _ rfl w.heap.size rfl _ _ hb1 _ Try.underlying56 rfl (by rw [opc_size]; exact zOp.2) ?_)))
  go_ret
  exact ⟨rfl, hw1.trans (hw2.mono hw1.size)⟩
end Go.Proofs.Ytncoifkchoiiaaa
