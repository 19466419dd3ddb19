/- What Collide does. -/
import Derived.Test.YthighfdjlbkefaaDoorSam
import Derived.Deep.RegionHeld3
namespace Go.Proofs.YthighfdjlbkefaaDoor
open Go.RowKit
set_option maxRecDepth 100000 in
set_option maxHeartbeats 1000000 in
theorem collide_diff (A B : List UInt8) (w : World) (hG : Glob w) (hA : A.length ≤ 549755813888) (hB : B.length ≤ 549755813888) (hne : A ≠ B) :
    Calls Tryd.prog 18 #[.agg #[.string ⟨A.toArray⟩, .string ⟨B.toArray⟩]] w fun e w' => e = .returned (.bool (decide (digest A = digest B))) ∧ Below w.heap.size w w' := by
  have hnb : (A == B) = false := beq_eq_false_iff_ne.2 hne
  clear hne
  go_enter Tryd.func18, Tryd.ntmps18
  go_wp2_with (with_reducible refine at_list ?_; first
    | (refine wpList_boxRow (op := ⟨some 1, _, _, _, _, _⟩) rfl _ _ rfl _ rfl ?_; intro w1 hw1 hs1 hb1; replace hs1 := hs1.symm))
  have q0 : w1.cell? ⟨w.heap.size, 0, none⟩ = some (.string ⟨A.toArray⟩) := hb1.cell 0
  have q1 : w1.cell? ⟨w.heap.size, 1, none⟩ = some (.string ⟨B.toArray⟩) := hb1.cell 1
  have hG1 := hG.belowSize hw1
  go_region_held3 (fun w' => w'.cell? ⟨w.heap.size, 0, none⟩ = some (.string ⟨A.toArray⟩) ∧ w'.cell? ⟨w.heap.size, 1, none⟩ = some (.string ⟨B.toArray⟩) ∧ Glob w' ∧ Below w1.heap.size w1 w')
    (first | assumption | exact ⟨q0, q1, hG1.drew, (Below.refl _ _).drew⟩)
    (first
      | (go_at_call_of 10 (Value.string ⟨A.toArray⟩)
         refine (sum_any A _ hG1.drew hA).mono ?_
         rintro e w2 ⟨rfl, hw2⟩
         have hS2 : w2.cell? ⟨w.heap.size, 0, none⟩ = some (.string ⟨A.toArray⟩) ∧ w2.cell? ⟨w.heap.size, 1, none⟩ = some (.string ⟨B.toArray⟩) ∧ Glob w2 ∧ Below w1.heap.size w1 w2 :=
           ⟨(((hb1.drew).belowSize hw2).cell 0), (((hb1.drew).belowSize hw2).cell 1), hG1.drew.belowSize hw2, (Below.refl w1.heap.size w1).drew.trans hw2⟩)
      | (go_at_call_of 10 (Value.string ⟨B.toArray⟩)
         refine (sum_any B _ hS2.2.2.1 hB).mono ?_
         rintro e w3 ⟨rfl, hw3⟩
         have hB3 : Below w1.heap.size w1 w3 := hS2.2.2.2.trans (hw3.mono hS2.2.2.2.size)
         have hS3 : w3.cell? ⟨w.heap.size, 0, none⟩ = some (.string ⟨A.toArray⟩) ∧ w3.cell? ⟨w.heap.size, 1, none⟩ = some (.string ⟨B.toArray⟩) ∧ Glob w3 ∧ Below w1.heap.size w1 w3 :=
           ⟨(hb1.belowSize hB3).cell 0, (hb1.belowSize hB3).cell 1, hG1.belowSize hB3, hB3⟩)
      | (go_at_call 17
         refine (same_any (digest A) (digest B) _ (by rw [digest_length]; omega)).mono ?_
         rintro e w4 ⟨rfl, hD4⟩
         have hB4 : Below w1.heap.size w1 w4 := hD4.below hB3
         have hS4 : w4.cell? ⟨w.heap.size, 0, none⟩ = some (.string ⟨A.toArray⟩) ∧ w4.cell? ⟨w.heap.size, 1, none⟩ = some (.string ⟨B.toArray⟩) ∧ Glob w4 ∧ Below w1.heap.size w1 w4 :=
           ⟨(hb1.belowSize hB4).cell 0, (hb1.belowSize hB4).cell 1, hG1.belowSize hB4, hB4⟩))
  go_wp2_with fail
  go_ret
  exact ⟨rfl, hw1.trans (hB4.mono hw1.size)⟩
set_option maxRecDepth 100000 in
set_option maxHeartbeats 1000000 in
theorem collide_same (A : List UInt8) (w : World) :
    Calls Tryd.prog 18 #[.agg #[.string ⟨A.toArray⟩, .string ⟨A.toArray⟩]] w fun e w' => e = .returned (.bool false) ∧ Below w.heap.size w w' := by
  go_enter Tryd.func18, Tryd.ntmps18
  go_wp2_with (with_reducible refine at_list ?_; first
    | (refine wpList_boxRow (op := ⟨some 1, _, _, _, _, _⟩) rfl _ _ rfl _ rfl ?_; intro w1 hw1 hs1 hb1; replace hs1 := hs1.symm))
  have q0 : w1.cell? ⟨w.heap.size, 0, none⟩ = some (.string ⟨A.toArray⟩) := hb1.cell 0
  have q1 : w1.cell? ⟨w.heap.size, 1, none⟩ = some (.string ⟨A.toArray⟩) := hb1.cell 1
  go_quiet (fail)
  go_wp2_with fail
  go_ret
  exact ⟨rfl, below_draws hw1 _⟩
end Go.Proofs.YthighfdjlbkefaaDoor
