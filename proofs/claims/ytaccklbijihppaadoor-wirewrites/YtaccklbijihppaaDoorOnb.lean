/- What one does, further. -/
import Derived.Test.YtaccklbijihppaaDoorOna
namespace Go.Proofs.YtaccklbijihppaaDoor
open Go Go.RowKit
set_option maxRecDepth 100000 in
set_option maxHeartbeats 400000 in
theorem one_1 (b : Nat) (s : List UInt8) (pos : Nat) (err n x : Int) (t : List UInt8) (us : List UInt8) (up : Nat) (ue : Int) (v : Nat) (w : World) (h : RD w b ⟨s, pos, err⟩)
    (HP : ∀ w, RD w b ⟨s, pos, err⟩ → Calls Tryd.prog 29 #[.pointer (some ⟨b, 0, none⟩), .int .i64 n] w fun e w' => e = .returned (.int .u64 (v : Nat)) ∧ To w w' b ⟨us, up, ue⟩)
    (HQ : ∀ w, Calls Tryd.prog 40 #[.agg (rc s pos err), .int .i64 n] w fun e w' => e = .returned (.tuple #[.agg (rc us up ue), .int .u64 (v : Nat)]) ∧ Below w.heap.size w w') :
    Calls Tryd.prog 20 #[.pointer (some ⟨b, 0, none⟩), .agg (rc s pos err), .agg (ac 1 n x t)] w fun e w' => e = .returned (.tuple #[.agg (rc us up ue), .bool true]) ∧ To w w' b ⟨us, up, ue⟩ := by
  have hbl := h.blk.lt
  go_enter Tryd.func20, Tryd.ntmps20
  go_wp2_with (first
    | (go_at_call 29; refine (HP _ hR3).mono ?_; rintro e w4 ⟨rfl, hT4⟩; replace hb1 := hb1.grown hT4.grown (by simp; omega); replace ha2 := ha2.grown hT4.grown (by simp; omega); replace hz3 := hz3.grown hT4.grown (by simp; omega); have hl4 := hT4.grown.size)
    | (go_at_call 40; refine (HQ _).mono ?_; rintro e w5 ⟨rfl, hw5⟩; replace hz3 := hz3.belowSize hw5; have hl5 := hw5.size)
    | (with_reducible refine at_list ?_; first
      | (refine wpList_boxRow (op := ⟨some 4, _, _, _, _, _⟩) rfl _ _ rfl _ rfl ?_; intro w1 hw1 hs1 hb1; replace hs1 := hs1.symm)
      | (refine wpList_boxRow (op := ⟨some 5, _, _, _, _, _⟩) rfl _ _ rfl _ rfl ?_; intro w2 hw2 hs2 ha2; replace hs2 := hs2.symm; replace hb1 := hb1.belowSize hw2)
      | (refine wpList_allocRow (op := ⟨some 6, _, _, _, _, _⟩) rfl _ rfl _ z39.1 ?_; intro w3 hw3 hs3 hz3; replace hs3 := hs3.symm; replace hb1 := hb1.belowSize hw3; replace ha2 := ha2.belowSize hw3; have hR3 := h.below (hw1.trans ((hw2.mono hw1.size).trans (hw3.mono (Nat.le_trans hw1.size hw2.size)))))
      | (refine wpList_loadCell (op := ⟨some 29, _, _, _, _, _⟩) rfl _ _ rfl w1.heap.size 0 rfl _ _ ha2 _ Tryd.underlying3 rfl _ (ac_g0 _ _ _ _) ?_)
      | (refine wpList_loadCell (op := ⟨some 51, _, _, _, _, _⟩) rfl _ _ rfl w1.heap.size 1 rfl _ _ ha2 _ Tryd.underlying3 rfl _ (ac_g1 _ _ _ _) ?_)
      | (refine wpList_loadRow (op := ⟨some 54, _, _, _, _, _⟩) rfl _ _ rfl w.heap.size rfl _ _ hb1 _ Tryd.underlying39 rfl (by rw [rc_size]; exact z39.2) ?_)
      | (refine wpList_loadCell (op := ⟨some 56, _, _, _, _, _⟩) rfl _ _ rfl w1.heap.size 1 rfl _ _ ha2 _ Tryd.underlying3 rfl _ (ac_g1 _ _ _ _) ?_)
      | (refine wpList_allocRow (op := ⟨some 12, _, _, _, _, _⟩) rfl _ rfl _ z39.1 ?_; intro w6 hw6 hs6 hk6; replace hs6 := hs6.symm; replace hz3 := hz3.belowSize hw6)
      | (refine wpList_storeRow (op := ⟨none, .store 39 (.tmp 12) (.tmp 58), _, _, _, _⟩) rfl _ _ _ rfl w5.heap.size (rc us up ue) rfl rfl _ _ hk6 (by rw [rc_size, rc_size]) (by rw [rc_size]; exact z39.2) (rc_one _ _ _) ?_; intro w7 hg7 hs7 hz7; have hk7 := hz7; clear hz7; replace hz3 := hz3.grown hg7 (by simp; omega))
      | (refine wpList_loadRow (op := ⟨some 60, _, _, _, _, _⟩) rfl _ _ rfl w5.heap.size rfl _ _ hk7 _ Tryd.underlying39 rfl (by rw [rc_size]; exact z39.2) ?_)
      | (refine wpList_storeRow (op := ⟨none, .store 39 (.tmp 6) (.tmp 60), _, _, _, _⟩) rfl _ _ _ rfl w2.heap.size (rc us up ue) rfl rfl _ _ hz3 (by rw [rc_size, rc_size]) (by rw [rc_size]; exact z39.2) (rc_one _ _ _) ?_; intro w8 hg8 hs8 hz8)))
  have hB2 : Below w.heap.size w w2 := hw1.trans (hw2.mono hw1.size)
  have hB3 : Below w.heap.size w w3 := hB2.trans (hw3.mono hB2.size)
  have hs14 : w.heap.size ≤ w4.heap.size := by omega
  have hs15 : w.heap.size ≤ w5.heap.size := by omega
  have hs17 : w.heap.size ≤ w7.heap.size := by omega
  have hC5 : Below w.heap.size w4 w5 := hw5.mono hs14
  have hC6 : Below w.heap.size w4 w6 := hC5.trans (hw6.mono hs15)
  have hC7 : Below w.heap.size w4 w7 := hC6.trans (below_of_grown hg7 hs15 (by omega))
  refine bodyPost_ret (res_rc rfl _ _ w2.heap.size us up ue _ rfl rfl hz8) rfl ⟨rfl, ?_⟩
  exact To.wrap hB3 hT4 (hC7.trans (below_of_grown hg8 (by omega) hs17)) hbl
set_option maxRecDepth 100000 in
set_option maxHeartbeats 400000 in
theorem one_2 (b : Nat) (s : List UInt8) (pos : Nat) (err n x : Int) (t : List UInt8) (us : List UInt8) (up : Nat) (ue : Int) (v : Nat) (w : World) (h : RD w b ⟨s, pos, err⟩)
    (HP : ∀ w, RD w b ⟨s, pos, err⟩ → Calls Tryd.prog 30 #[.pointer (some ⟨b, 0, none⟩), .int .i64 n] w fun e w' => e = .returned (.int .i64 (v : Nat)) ∧ To w w' b ⟨us, up, ue⟩)
    (HQ : ∀ w, Calls Tryd.prog 39 #[.agg (rc s pos err), .int .i64 n] w fun e w' => e = .returned (.tuple #[.agg (rc us up ue), .int .i64 (v : Nat)]) ∧ Below w.heap.size w w') :
    Calls Tryd.prog 20 #[.pointer (some ⟨b, 0, none⟩), .agg (rc s pos err), .agg (ac 2 n x t)] w fun e w' => e = .returned (.tuple #[.agg (rc us up ue), .bool true]) ∧ To w w' b ⟨us, up, ue⟩ := by
  have hbl := h.blk.lt
  go_enter Tryd.func20, Tryd.ntmps20
  go_wp2_with (first
    | (go_at_call 30; refine (HP _ hR3).mono ?_; rintro e w4 ⟨rfl, hT4⟩; replace hb1 := hb1.grown hT4.grown (by simp; omega); replace ha2 := ha2.grown hT4.grown (by simp; omega); replace hz3 := hz3.grown hT4.grown (by simp; omega); have hl4 := hT4.grown.size)
    | (go_at_call 39; refine (HQ _).mono ?_; rintro e w5 ⟨rfl, hw5⟩; replace hz3 := hz3.belowSize hw5; have hl5 := hw5.size)
    | (with_reducible refine at_list ?_; first
      | (refine wpList_boxRow (op := ⟨some 4, _, _, _, _, _⟩) rfl _ _ rfl _ rfl ?_; intro w1 hw1 hs1 hb1; replace hs1 := hs1.symm)
      | (refine wpList_boxRow (op := ⟨some 5, _, _, _, _, _⟩) rfl _ _ rfl _ rfl ?_; intro w2 hw2 hs2 ha2; replace hs2 := hs2.symm; replace hb1 := hb1.belowSize hw2)
      | (refine wpList_allocRow (op := ⟨some 6, _, _, _, _, _⟩) rfl _ rfl _ z39.1 ?_; intro w3 hw3 hs3 hz3; replace hs3 := hs3.symm; replace hb1 := hb1.belowSize hw3; replace ha2 := ha2.belowSize hw3; have hR3 := h.below (hw1.trans ((hw2.mono hw1.size).trans (hw3.mono (Nat.le_trans hw1.size hw2.size)))))
      | (refine wpList_loadCell (op := ⟨some 29, _, _, _, _, _⟩) rfl _ _ rfl w1.heap.size 0 rfl _ _ ha2 _ Tryd.underlying3 rfl _ (ac_g0 _ _ _ _) ?_)
      | (refine wpList_loadCell (op := ⟨some 68, _, _, _, _, _⟩) rfl _ _ rfl w1.heap.size 1 rfl _ _ ha2 _ Tryd.underlying3 rfl _ (ac_g1 _ _ _ _) ?_)
      | (refine wpList_loadRow (op := ⟨some 71, _, _, _, _, _⟩) rfl _ _ rfl w.heap.size rfl _ _ hb1 _ Tryd.underlying39 rfl (by rw [rc_size]; exact z39.2) ?_)
      | (refine wpList_loadCell (op := ⟨some 73, _, _, _, _, _⟩) rfl _ _ rfl w1.heap.size 1 rfl _ _ ha2 _ Tryd.underlying3 rfl _ (ac_g1 _ _ _ _) ?_)
      | (refine wpList_allocRow (op := ⟨some 15, _, _, _, _, _⟩) rfl _ rfl _ z39.1 ?_; intro w6 hw6 hs6 hk6; replace hs6 := hs6.symm; replace hz3 := hz3.belowSize hw6)
      | (refine wpList_storeRow (op := ⟨none, .store 39 (.tmp 15) (.tmp 75), _, _, _, _⟩) rfl _ _ _ rfl w5.heap.size (rc us up ue) rfl rfl _ _ hk6 (by rw [rc_size, rc_size]) (by rw [rc_size]; exact z39.2) (rc_one _ _ _) ?_; intro w7 hg7 hs7 hz7; have hk7 := hz7; clear hz7; replace hz3 := hz3.grown hg7 (by simp; omega))
      | (refine wpList_loadRow (op := ⟨some 77, _, _, _, _, _⟩) rfl _ _ rfl w5.heap.size rfl _ _ hk7 _ Tryd.underlying39 rfl (by rw [rc_size]; exact z39.2) ?_)
      | (refine wpList_storeRow (op := ⟨none, .store 39 (.tmp 6) (.tmp 77), _, _, _, _⟩) rfl _ _ _ rfl w2.heap.size (rc us up ue) rfl rfl _ _ hz3 (by rw [rc_size, rc_size]) (by rw [rc_size]; exact z39.2) (rc_one _ _ _) ?_; intro w8 hg8 hs8 hz8)))
  have hB2 : Below w.heap.size w w2 := hw1.trans (hw2.mono hw1.size)
  have hB3 : Below w.heap.size w w3 := hB2.trans (hw3.mono hB2.size)
  have hs14 : w.heap.size ≤ w4.heap.size := by omega
  have hs15 : w.heap.size ≤ w5.heap.size := by omega
  have hs17 : w.heap.size ≤ w7.heap.size := by omega
  have hC5 : Below w.heap.size w4 w5 := hw5.mono hs14
  have hC6 : Below w.heap.size w4 w6 := hC5.trans (hw6.mono hs15)
  have hC7 : Below w.heap.size w4 w7 := hC6.trans (below_of_grown hg7 hs15 (by omega))
  refine bodyPost_ret (res_rc rfl _ _ w2.heap.size us up ue _ rfl rfl hz8) rfl ⟨rfl, ?_⟩
  exact To.wrap hB3 hT4 (hC7.trans (below_of_grown hg8 (by omega) hs17)) hbl
end Go.Proofs.YtaccklbijihppaaDoor
