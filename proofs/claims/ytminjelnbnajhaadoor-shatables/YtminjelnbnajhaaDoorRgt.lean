/- What Right does. -/
import Derived.Test.YtminjelnbnajhaaDoorTbw
namespace Go.Proofs.YtminjelnbnajhaaDoor
open Go Go.RowKit
set_option maxRecDepth 100000 in
set_option maxHeartbeats 1000000 in
theorem right_any (w : World) : Calls Tryd.prog 10 #[] w fun e w' => e = .returned (.bool true) ∧ Below w.heap.size w w' := by
  go_enter Tryd.func10, Tryd.ntmps10
  go_wp2_with (first
    | (go_at_call 26; refine (tables_any _).mono ?_; rintro e w1 ⟨rfl, hw1⟩)
    | (go_at_call 27; refine (table_any _).mono ?_; rintro e w6 ⟨rfl, hw6⟩)
    | (with_reducible refine at_list ?_; first
      | (refine wpList_allocRow (op := ⟨some 1, _, _, _, _, _⟩) rfl _ rfl _ z39.1 ?_; intro w2 hw2 hs2 hb2; replace hs2 := hs2.symm)
      | (refine wpList_allocRow (op := ⟨some 2, _, _, _, _, _⟩) rfl _ rfl _ z40.1 ?_; intro w3 hw3 hs3 hb3; replace hs3 := hs3.symm)
      | (refine wpList_storeRow (op := ⟨none, .store 47 (.tmp 1) (.tmp 8), _, _, _, _⟩) rfl _ _ _ rfl w1.heap.size (row32 Kt 64) rfl rfl _ _ (hb2.belowSize hw3) (by rw [row32_size, row32_size]) (by rw [row32_size]; exact z39.2) (row32_one _ _) ?_; intro w4 hg4 hs4 hb4; replace hs4 := hs4.symm)
      | (refine wpList_storeRow (op := ⟨none, .store 48 (.tmp 2) (.tmp 9), _, _, _, _⟩) rfl _ _ _ rfl w2.heap.size (row32 H0.at 8) rfl rfl _ _ (hb3.grown hg4 (by simp; omega)) (by rw [row32_size, row32_size]) (by rw [row32_size]; exact z40.2) (row32_one _ _) ?_; intro w5 hg5 hs5 hb5; replace hs5 := hs5.symm)
      | (refine wpList_allocRow (op := ⟨some 3, _, _, _, _, _⟩) rfl _ rfl _ z39.1 ?_; intro w7 hw7 hs7 hb7; replace hs7 := hs7.symm)
      | (refine wpList_allocRow (op := ⟨some 4, _, _, _, _, _⟩) rfl _ rfl _ z40.1 ?_; intro w8 hw8 hs8 hb8; replace hs8 := hs8.symm)
      | (refine wpList_storeRow (op := ⟨none, .store 47 (.tmp 3) (.tmp 12), _, _, _, _⟩) rfl _ _ _ rfl w6.heap.size (row32 Kt 64) rfl rfl _ _ (hb7.belowSize hw8) (by rw [row32_size, row32_size]) (by rw [row32_size]; exact z39.2) (row32_one _ _) ?_; intro w9 hg9 hs9 hb9; replace hs9 := hs9.symm)
      | (refine wpList_storeRow (op := ⟨none, .store 48 (.tmp 4) (.tmp 13), _, _, _, _⟩) rfl _ _ _ rfl w7.heap.size (row32 H0.at 8) rfl rfl _ _ (hb8.grown hg9 (by simp; omega)) (by rw [row32_size, row32_size]) (by rw [row32_size]; exact z40.2) (row32_one _ _) ?_; intro w10 hg10 hs10 hb10; replace hs10 := hs10.symm)))
  have z1 := hw1.size
  have z6 := hw6.size
  have hB2 := hw1.trans (hw2.mono hw1.size)
  have hB3 := hB2.trans (hw3.mono hB2.size)
  have hB4 := hB3.trans (below_of_grown hg4 z1 hB3.size)
  have hB5 := hB4.trans (below_of_grown hg5 hB2.size hB4.size)
  have hB6 := hB5.trans (hw6.mono hB5.size)
  have hB7 := hB6.trans (hw7.mono hB6.size)
  have hB8 := hB7.trans (hw8.mono hB7.size)
  have hB9 := hB8.trans (below_of_grown hg9 hB6.size hB8.size)
  have hB10 := hB9.trans (below_of_grown hg10 hB7.size hB9.size)
  have k1 : Blk w10 w1.heap.size (row32 Kt 64) 47 := (((((hb4.grown hg5 (by simp; omega)).belowSize hw6).belowSize hw7).belowSize hw8).grown hg9 (by simp; omega)).grown hg10 (by simp; omega)
  have k2 : Blk w10 w2.heap.size (row32 H0.at 8) 48 := ((((hb5.belowSize hw6).belowSize hw7).belowSize hw8).grown hg9 (by simp; omega)).grown hg10 (by simp; omega)
  have k3 : Blk w10 w6.heap.size (row32 Kt 64) 47 := hb9.grown hg10 (by simp; omega)
  have k4 : Blk w10 w7.heap.size (row32 H0.at 8) 48 := hb10
  generalize w1.heap.size = A at *
  generalize w2.heap.size = B at *
  generalize w6.heap.size = C at *
  generalize w7.heap.size = D at *
  clear hw1 hw2 hs2 hb2 hw3 hs3 hb3 hg4 hs4 hb4 hg5 hs5 hb5 hw6 hw7 hs7 hb7 hw8 hs8 hb8 hg9 hs9 hb9 hg10 hs10 hb10 z1 z6 hB2 hB3 hB4 hB5 hB6 hB7 hB8 hB9
  go_loopw [5] (fun v wl => ∃ i : Nat, i ≤ 64 ∧ v = .int .i64 i ∧ Below w.heap.size w wl ∧ Blk wl A (row32 Kt 64) 47 ∧ Blk wl B (row32 H0.at 8) 48 ∧ Blk wl C (row32 Kt 64) 47 ∧ Blk wl D (row32 H0.at 8) 48) (fun v _ => 64 - (intOf v).toNat)
  case atStart => exact ⟨0, by omega, rfl, hB10, k1, k2, k3, k4⟩
  case round =>
    clear hB10 k1 k2 k3 k4
    obtain ⟨i, hi, rfl, hB, k1, k2, k3, k4⟩ := hrel
    by_cases hlt : i < 64
    · have c1 := (k1.cell i).trans (row32_get _ _ _ hlt)
      have c3 := (k3.cell i).trans (row32_get _ _ _ hlt)
      generalize Kt i = x at *
      have q1 : (n32 x != n32 x) = false := bne_self_eq_false _
      by_cases h8 : i < 8
      · have c2 := (k2.cell i).trans (row32_get _ _ _ h8)
        have c4 := (k4.cell i).trans (row32_get _ _ _ h8)
        generalize H0.at i = y at *
        have q2 : (n32 y != n32 y) = false := bne_self_eq_false _
        have b8 : decide ((i : Int) < 8) = true := by simp; omega
        go_wp2_with fail
        go_quiet (fail)
        go_wp2_with fail
        go_roundw
        case rel => exact ⟨i + 1, by omega, by go_num, below_draws hB _, k1.drewN _, k2.drewN _, k3.drewN _, k4.drewN _⟩
        case measure => simp [intOf]; omega
      · have b8 : decide ((i : Int) < 8) = false := by simp; omega
        go_wp2_with fail
        go_quiet (fail)
        go_wp2_with fail
        go_roundw
        case rel => exact ⟨i + 1, by omega, by go_num, below_draws hB _, k1.drewN _, k2.drewN _, k3.drewN _, k4.drewN _⟩
        case measure => simp [intOf]; omega
    · go_wp2_with fail
      go_ret
      exact ⟨rfl, hB⟩
end Go.Proofs.YtminjelnbnajhaaDoor
