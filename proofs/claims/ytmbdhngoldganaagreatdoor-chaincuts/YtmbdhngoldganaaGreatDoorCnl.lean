/- What a nil chain answers. -/
import Derived.Test.YtmbdhngoldganaaGreatDoorBarg
import Derived.Test.YtmbdhngoldganaaGreatDoorEql
namespace Go.Proofs.YtmbdhngoldganaaGreatDoor
open Go Go.RowKit
def bk0 : Array Value := bk 0 [] [] [] (.slice none 0 0) (.slice none 0 0)
set_option maxRecDepth 100000 in
set_option maxHeartbeats 1000000 in
theorem applyN (c : Array Value) (w : World) : Calls Tryz.prog 19 #[.pointer none, .agg c] w fun e w' => e = .returned (.tuple #[.agg bk0, .slice none 0 0, .int .i64 1]) ∧ Below w.heap.size w w' := by
  go_enter Tryz.func19, Tryz.ntmps19
  go_wp2_with (with_reducible refine at_list ?_; first
      | (refine wpList_boxRow (op := ⟨some 3, _, _, _, _, _⟩) rfl _ _ rfl _ rfl ?_; intro w1 hw1 hs1 h3; clear hs1)
      | (refine wpList_allocRow (op := ⟨some 4, _, _, _, _, _⟩) rfl _ rfl _ zBlk.1 ?_; intro w2 hw2 hs2 h4; clear hs2; have hB := hw1.trans (hw2.mono hw1.size))
      | (refine wpList_build (o := ⟨some 12, _, _, _, _, _⟩) rfl _ _ rfl builtBk0 ?_)
      | (refine wpList_storeRow (op := ⟨none, .store 53 (.tmp 4) (.tmp 12), _, _, _, _⟩) rfl _ _ _ rfl w1.heap.size (bk 0 [] [] [] (.slice none 0 0) (.slice none 0 0)) rfl rfl _ _ h4 (by simp only [bk_size]) (bk_info _ _ _ _ _ _) (bk_one _ _ _ _ _ _ _ _ _ _) ?_; intro w3 hg3 hs3 h4b; clear hs3))
  refine bodyPost_ret (v := .tuple #[.agg bk0, .slice none 0 0, .int .i64 1]) ?_ rfl ⟨rfl, hB.trans (below_of_grown hg3 hw1.size hB.size)⟩
  exact res_ctt rfl _ _ w1.heap.size _ _ _ _ _ rfl rfl rfl h4b Tryz.underlying53 rfl (bk_info _ _ _ _ _ _)
theorem baseN (w : World) : Calls Tryz.prog 15 #[.pointer none] w fun e w' => e = .returned (.int .u64 0) ∧ w' = w := by
  go_enter Tryz.func15, Tryz.ntmps15
  go_wp2_with fail
  go_ret
  exact ⟨rfl, rfl⟩
set_option maxRecDepth 100000 in
set_option maxHeartbeats 1000000 in
theorem blockN (h : Int) (w : World) : Calls Tryz.prog 21 #[.pointer none, .int .u64 h] w fun e w' => e = .returned (.tuple #[.agg bk0, .int .i64 2]) ∧ Below w.heap.size w w' := by
  have HB := fun w1 => baseN w1
  go_enter Tryz.func21, Tryz.ntmps21
  go_wp2_with (first
    | (go_at_call 15; refine (HB _).mono ?_; rintro e w' ⟨rfl, hw'⟩; have hw6 := hw'.symm; subst hw6; clear hw' HB)
    | (with_reducible refine at_list ?_; first
      | (refine wpList_allocRow (op := ⟨some 4, _, _, _, _, _⟩) rfl _ rfl _ zBlk.1 ?_; intro w2 hw2 hs2 h4; clear hs2)
      | (refine wpList_build (o := ⟨some 25, _, _, _, _, _⟩) rfl _ _ rfl builtBk0 ?_)
      | (refine wpList_storeRow (op := ⟨none, .store 53 (.tmp 4) (.tmp 25), _, _, _, _⟩) rfl _ _ _ rfl w.heap.size (bk 0 [] [] [] (.slice none 0 0) (.slice none 0 0)) rfl rfl _ _ h4 (by simp only [bk_size]) (bk_info _ _ _ _ _ _) (bk_one _ _ _ _ _ _ _ _ _ _) ?_; intro w3 hg3 hs3 h4b; clear hs3)))
  refine bodyPost_ret (v := .tuple #[.agg bk0, .int .i64 2]) ?_ rfl ⟨rfl, hw2.trans (below_of_grown hg3 (Nat.le_refl _) hw2.size)⟩
  exact res_cv rfl _ _ w.heap.size _ _ _ _ rfl rfl h4b Tryz.underlying53 rfl (bk_info _ _ _ _ _ _)
theorem getN (k : ByteArray) (w : World) : Calls Tryz.prog 23 #[.pointer none, .string k] w fun e w' => e = .returned (.tuple #[.string ⟨#[]⟩, .bool false]) ∧ w' = w := by
  go_enter Tryz.func23, Tryz.ntmps23
  go_wp2_with fail
  go_ret2
  exact ⟨rfl, rfl⟩
theorem lastNc (k : Int) (w : World) : Calls Tryz.prog 24 #[.pointer none, .int .u64 k] w fun e w' => e = .returned (.tuple #[.int .u64 0, .string ⟨#[]⟩]) ∧ w' = w := by
  go_enter Tryz.func24, Tryz.ntmps24
  go_wp2_with fail
  go_ret2
  exact ⟨rfl, rfl⟩
set_option maxRecDepth 100000 in
theorem addN (c : Array Value) (w : World) : Calls Tryz.prog 26 #[.pointer none, .agg c] w fun e w' => e = .returned (.int .i64 1) ∧ Below w.heap.size w w' := by
  go_enter Tryz.func26, Tryz.ntmps26
  go_wp2_with (with_reducible refine at_list ?_; first
      | (refine wpList_boxRow (op := ⟨some 3, _, _, _, _, _⟩) rfl _ _ rfl _ rfl ?_; intro w1 hw1 hs1 h3; clear hs1))
  go_ret
  exact ⟨rfl, hw1⟩
theorem builtTip0 : Tryz.prog.built 39 [] = some (tpC 0 [] (.slice none 0 0)) := by kernel_rfl
set_option maxRecDepth 100000 in
set_option maxHeartbeats 1000000 in
theorem tipN (w : World) : Calls Tryz.prog 16 #[.pointer none] w fun e w' => e = .returned (.agg (tpC 0 [] (.slice none 0 0))) ∧ Below w.heap.size w w' := by
  go_enter Tryz.func16, Tryz.ntmps16
  go_wp2_with (with_reducible refine at_list ?_; first
      | (refine wpList_allocRow (op := ⟨some 2, _, _, _, _, _⟩) rfl _ rfl _ zTip.1 ?_; intro w2 hw2 hs2 h4; clear hs2)
      | (refine wpList_build (o := ⟨some 6, _, _, _, _, _⟩) rfl _ _ rfl builtTip0 ?_)
      | (refine wpList_storeRow (op := ⟨none, .store 39 (.tmp 2) (.tmp 6), _, _, _, _⟩) rfl _ _ _ rfl w.heap.size (tpC 0 [] (.slice none 0 0)) rfl rfl _ _ h4 (by simp only [tpC_size]) (tpC_info _ _ _) (tpC_one _ _ _ _ _) ?_; intro w3 hg3 hs3 h4b; clear hs3))
  refine bodyPost_ret (v := .agg (tpC 0 [] (.slice none 0 0))) ?_ rfl ⟨rfl, hw2.trans (below_of_grown hg3 (Nat.le_refl _) hw2.size)⟩
  exact results_cell_row rfl _ _ w.heap.size _ _ _ _ rfl h4b.out Tryz.underlying39 rfl (tpC_info _ _ _)
theorem genN (w : World) : Calls Tryz.prog 27 #[.pointer none] w fun e w' => e = .returned (.string ⟨#[]⟩) ∧ w' = w := by
  go_enter Tryz.func27, Tryz.ntmps27
  go_wp2_with fail
  go_ret
  exact ⟨rfl, rfl⟩
theorem stateN (w : World) : Calls Tryz.prog 28 #[.pointer none] w fun e w' => e = .returned (.pointer none) ∧ w' = w := by
  go_enter Tryz.func28, Tryz.ntmps28
  go_wp2_with fail
  go_ret
  exact ⟨rfl, rfl⟩
theorem encN (w : World) : Calls Tryz.prog 14 #[.pointer none] w fun e w' => e = .returned (.string ⟨#[]⟩) ∧ w' = w := by
  go_enter Tryz.func14, Tryz.ntmps14
  go_wp2_with fail
  go_ret
  exact ⟨rfl, rfl⟩
set_option maxRecDepth 100000 in
theorem cutNc (h : Int) (w : World) : Calls Tryz.prog 20 #[.pointer none, .int .u64 h] w fun e w' => e = .returned (.int .i64 0) ∧ w' = w := by
  have HB := fun w1 => baseN w1
  go_enter Tryz.func20, Tryz.ntmps20
  go_wp2_with (go_at_call 15; refine (HB _).mono ?_; rintro e w' ⟨rfl, hw'⟩; have hw6 := hw'.symm; subst hw6; clear hw' HB)
  go_ret
  exact ⟨rfl, rfl⟩
end Go.Proofs.YtmbdhngoldganaaGreatDoor
