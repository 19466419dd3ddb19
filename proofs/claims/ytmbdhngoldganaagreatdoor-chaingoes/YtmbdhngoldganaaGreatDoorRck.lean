/- What the plain Check does. -/
import Derived.Test.YtmbdhngoldganaaGreatDoorChk
import Derived.Test.YtmbdhngoldganaaGreatDoorRef
namespace Go.Proofs.YtmbdhngoldganaaGreatDoor
open Go Go.RowKit
set_option maxRecDepth 100000 in
set_option maxHeartbeats 1000000 in
theorem rcheck_few (c n : Nat) (l : List O) (a : Option Addr) (cap : Nat) (w : World) (h : SL w a l) (h1 : ¬ (n = 0 ∨ l.length = 0 ∨ 8 < l.length)) : Calls Tryz.prog 79 #[.agg (txc c n (.slice a l.length cap))] w fun e w' => e = .returned (.int .i64 (chk ⟨c, n, l⟩)) ∧ Below w.heap.size w w' := by
  have hb : ((n : Int) == 0) = false := by rw [beq_eq_false_iff_ne]; omega
  have hb2 : ((l.length : Int) == 0) = false := by rw [beq_eq_false_iff_ne]; omega
  have hb3 : decide (8 < (l.length : Int)) = false := decide_eq_false (by omega)
  go_enter Tryz.func79, Tryz.ntmps79
  go_wp2_with (with_reducible refine at_list ?_; first
    | (refine wpList_boxRow (op := ⟨some 1, _, _, _, _, _⟩) rfl _ _ rfl _ rfl ?_; intro w1 hw1 hs1 hb1; replace hs1 := hs1.symm; have c1 := (hb1.cell 1).trans (txc_g1 _ _ _); have c2 := (hb1.cell 2).trans (txc_g2 _ _ _)))
  clear c1 c2 hs1
  go_loopw [3] (fun v3 wl => ∃ i : Nat, i ≤ l.length ∧ v3 = .int .i64 i ∧ Below w.heap.size w wl ∧ Blk wl w.heap.size (txc c n (.slice a l.length cap)) 91 ∧ Hid ((l.take i).all okOp = true)) (fun v3 _ => l.length - (intOf v3).toNat)
  case atStart => exact ⟨0, by omega, rfl, hw1, hb1, by simp; trivial⟩
  case round =>
    obtain ⟨i, hi, rfl, hB, hM, hA⟩ := hrel
    have c2 := (hM.cell 2).trans (txc_g2 _ _ _)
    clear hb1 hw1
    by_cases hlt : i < l.length
    · obtain ⟨g, o, rfl⟩ := h.ex (by omega)
      have hr := (h.below hB).at i hlt
      have hmem := List.getElem_mem hlt
      have hT : Hid ((l.take (i + 1)).all okOp = ((l.take i).all okOp && okOp l[i])) := by
        rw [List.take_succ_eq_append_getElem hlt, List.all_append]
        simp
        trivial
      generalize l[i] = x at *
      obtain ⟨k, key, vv⟩ := x
      by_cases h0 : key.length = 0
      · have hk : key = [] := List.length_eq_zero_iff.1 h0
        subst hk
        have HE : Hid (okOp ⟨k, [], vv⟩ = false) := decide_eq_false (by simp)
        go_wp2_with (with_reducible refine at_list ?_; first
          | (refine wpList_loadOp (op := ⟨some 31, _, _, _, _, _⟩) rfl _ _ rfl g (o + i * 3) rfl (opc ⟨k, [], vv⟩) hr _ Tryz.underlying146 rfl (by rw [opc_size]; exact zRop.2) ?_)
          | (refine wpList_allocRow (op := ⟨some 4, _, _, _, _, _⟩) rfl _ rfl _ zRop.1 ?_; intro w2 hw2 hs2 hz2; replace hs2 := hs2.symm)
          | (refine wpList_storeRow (op := ⟨none, .store 146 (.tmp 4) (.tmp 31), _, _, _, _⟩) rfl _ _ _ rfl wr.heap.size (opc ⟨k, [], vv⟩) rfl rfl _ _ hz2 (by rw [opc_size, opc_size]) (by rw [opc_size]; exact zRop.2) (opc_one _) ?_; intro w4 hg4 hs4 hz4; have d0 := (hz4.cell 0).trans (opc_g0 _); have d1 := (hz4.cell 1).trans (opc_g1 _); have d2 := (hz4.cell 2).trans (opc_g2 _); dsimp only at d0 d1 d2))
        have hBl4 : Below wr.heap.size wr w4 := hw2.trans (below_of_grown hg4 (Nat.le_refl _) hw2.size)
        go_ret
        exact ⟨by rw [chk_not (fun x => by have h9 := (okTx_of x).each _ hmem; rw [HE.out] at h9; cases h9)]; rfl, hB.trans (hBl4.mono hB.size)⟩
      have hE : key.isEmpty = false := by cases key with | nil => simp at h0 | cons _ _ => rfl
      by_cases h2 : 32 < key.length
      · have hd : decide (32 < (key.length : Int)) = true := decide_eq_true (by omega)
        have HE : Hid (okOp ⟨k, key, vv⟩ = false) := decide_eq_false (by simp only; omega)
        go_wp2_with (with_reducible refine at_list ?_; first
          | (refine wpList_loadOp (op := ⟨some 31, _, _, _, _, _⟩) rfl _ _ rfl g (o + i * 3) rfl (opc ⟨k, key, vv⟩) hr _ Tryz.underlying146 rfl (by rw [opc_size]; exact zRop.2) ?_)
          | (refine wpList_allocRow (op := ⟨some 4, _, _, _, _, _⟩) rfl _ rfl _ zRop.1 ?_; intro w2 hw2 hs2 hz2; replace hs2 := hs2.symm)
          | (refine wpList_storeRow (op := ⟨none, .store 146 (.tmp 4) (.tmp 31), _, _, _, _⟩) rfl _ _ _ rfl wr.heap.size (opc ⟨k, key, vv⟩) rfl rfl _ _ hz2 (by rw [opc_size, opc_size]) (by rw [opc_size]; exact zRop.2) (opc_one _) ?_; intro w4 hg4 hs4 hz4; have d0 := (hz4.cell 0).trans (opc_g0 _); have d1 := (hz4.cell 1).trans (opc_g1 _); have d2 := (hz4.cell 2).trans (opc_g2 _); dsimp only at d0 d1 d2))
        have hBl4 : Below wr.heap.size wr w4 := hw2.trans (below_of_grown hg4 (Nat.le_refl _) hw2.size)
        go_ret
        exact ⟨by rw [chk_not (fun x => by have h9 := (okTx_of x).each _ hmem; rw [HE.out] at h9; cases h9)]; rfl, hB.trans (hBl4.mono hB.size)⟩
      have hd : decide (32 < (key.length : Int)) = false := decide_eq_false (by omega)
      by_cases h3 : 64 < vv.length
      · have hd2 : decide (64 < (vv.length : Int)) = true := decide_eq_true (by omega)
        have HE : Hid (okOp ⟨k, key, vv⟩ = false) := decide_eq_false (by simp only; omega)
        go_wp2_with (with_reducible refine at_list ?_; first
          | (refine wpList_loadOp (op := ⟨some 31, _, _, _, _, _⟩) rfl _ _ rfl g (o + i * 3) rfl (opc ⟨k, key, vv⟩) hr _ Tryz.underlying146 rfl (by rw [opc_size]; exact zRop.2) ?_)
          | (refine wpList_allocRow (op := ⟨some 4, _, _, _, _, _⟩) rfl _ rfl _ zRop.1 ?_; intro w2 hw2 hs2 hz2; replace hs2 := hs2.symm)
          | (refine wpList_storeRow (op := ⟨none, .store 146 (.tmp 4) (.tmp 31), _, _, _, _⟩) rfl _ _ _ rfl wr.heap.size (opc ⟨k, key, vv⟩) rfl rfl _ _ hz2 (by rw [opc_size, opc_size]) (by rw [opc_size]; exact zRop.2) (opc_one _) ?_; intro w4 hg4 hs4 hz4; have d0 := (hz4.cell 0).trans (opc_g0 _); have d1 := (hz4.cell 1).trans (opc_g1 _); have d2 := (hz4.cell 2).trans (opc_g2 _); dsimp only at d0 d1 d2))
        have hBl4 : Below wr.heap.size wr w4 := hw2.trans (below_of_grown hg4 (Nat.le_refl _) hw2.size)
        go_ret
        exact ⟨by rw [chk_not (fun x => by have h9 := (okTx_of x).each _ hmem; rw [HE.out] at h9; cases h9)]; rfl, hB.trans (hBl4.mono hB.size)⟩
      have hd2 : decide (64 < (vv.length : Int)) = false := decide_eq_false (by omega)
      by_cases h4 : k < 1
      · have hd3 : decide (k < 1) = true := decide_eq_true h4
        have HE : Hid (okOp ⟨k, key, vv⟩ = false) := decide_eq_false (by simp only; omega)
        go_wp2_with (with_reducible refine at_list ?_; first
          | (refine wpList_loadOp (op := ⟨some 31, _, _, _, _, _⟩) rfl _ _ rfl g (o + i * 3) rfl (opc ⟨k, key, vv⟩) hr _ Tryz.underlying146 rfl (by rw [opc_size]; exact zRop.2) ?_)
          | (refine wpList_allocRow (op := ⟨some 4, _, _, _, _, _⟩) rfl _ rfl _ zRop.1 ?_; intro w2 hw2 hs2 hz2; replace hs2 := hs2.symm)
          | (refine wpList_storeRow (op := ⟨none, .store 146 (.tmp 4) (.tmp 31), _, _, _, _⟩) rfl _ _ _ rfl wr.heap.size (opc ⟨k, key, vv⟩) rfl rfl _ _ hz2 (by rw [opc_size, opc_size]) (by rw [opc_size]; exact zRop.2) (opc_one _) ?_; intro w4 hg4 hs4 hz4; have d0 := (hz4.cell 0).trans (opc_g0 _); have d1 := (hz4.cell 1).trans (opc_g1 _); have d2 := (hz4.cell 2).trans (opc_g2 _); dsimp only at d0 d1 d2))
        have hBl4 : Below wr.heap.size wr w4 := hw2.trans (below_of_grown hg4 (Nat.le_refl _) hw2.size)
        go_ret
        exact ⟨by rw [chk_not (fun x => by have h9 := (okTx_of x).each _ hmem; rw [HE.out] at h9; cases h9)]; rfl, hB.trans (hBl4.mono hB.size)⟩
      have hd3 : decide (k < 1) = false := decide_eq_false h4
      by_cases h5 : 4 < k
      · have hd4 : decide (4 < k) = true := decide_eq_true h5
        have HE : Hid (okOp ⟨k, key, vv⟩ = false) := decide_eq_false (by simp only; omega)
        go_wp2_with (with_reducible refine at_list ?_; first
          | (refine wpList_loadOp (op := ⟨some 31, _, _, _, _, _⟩) rfl _ _ rfl g (o + i * 3) rfl (opc ⟨k, key, vv⟩) hr _ Tryz.underlying146 rfl (by rw [opc_size]; exact zRop.2) ?_)
          | (refine wpList_allocRow (op := ⟨some 4, _, _, _, _, _⟩) rfl _ rfl _ zRop.1 ?_; intro w2 hw2 hs2 hz2; replace hs2 := hs2.symm)
          | (refine wpList_storeRow (op := ⟨none, .store 146 (.tmp 4) (.tmp 31), _, _, _, _⟩) rfl _ _ _ rfl wr.heap.size (opc ⟨k, key, vv⟩) rfl rfl _ _ hz2 (by rw [opc_size, opc_size]) (by rw [opc_size]; exact zRop.2) (opc_one _) ?_; intro w4 hg4 hs4 hz4; have d0 := (hz4.cell 0).trans (opc_g0 _); have d1 := (hz4.cell 1).trans (opc_g1 _); have d2 := (hz4.cell 2).trans (opc_g2 _); dsimp only at d0 d1 d2))
        have hBl4 : Below wr.heap.size wr w4 := hw2.trans (below_of_grown hg4 (Nat.le_refl _) hw2.size)
        go_ret
        exact ⟨by rw [chk_not (fun x => by have h9 := (okTx_of x).each _ hmem; rw [HE.out] at h9; cases h9)]; rfl, hB.trans (hBl4.mono hB.size)⟩
      have hd4 : decide (4 < k) = false := decide_eq_false h5
      by_cases hk1 : k = 1
      · subst hk1
        have HE : Hid (okOp ⟨1, key, vv⟩ = true) := decide_eq_true ⟨h0, by dsimp only; omega, .inl ⟨by dsimp only; decide, by dsimp only; omega⟩⟩
        go_wp2_with (with_reducible refine at_list ?_; first
          | (refine wpList_loadOp (op := ⟨some 31, _, _, _, _, _⟩) rfl _ _ rfl g (o + i * 3) rfl (opc ⟨1, key, vv⟩) hr _ Tryz.underlying146 rfl (by rw [opc_size]; exact zRop.2) ?_)
          | (refine wpList_allocRow (op := ⟨some 4, _, _, _, _, _⟩) rfl _ rfl _ zRop.1 ?_; intro w2 hw2 hs2 hz2; replace hs2 := hs2.symm)
          | (refine wpList_storeRow (op := ⟨none, .store 146 (.tmp 4) (.tmp 31), _, _, _, _⟩) rfl _ _ _ rfl wr.heap.size (opc ⟨1, key, vv⟩) rfl rfl _ _ hz2 (by rw [opc_size, opc_size]) (by rw [opc_size]; exact zRop.2) (opc_one _) ?_; intro w4 hg4 hs4 hz4; have d0 := (hz4.cell 0).trans (opc_g0 _); have d1 := (hz4.cell 1).trans (opc_g1 _); have d2 := (hz4.cell 2).trans (opc_g2 _); dsimp only at d0 d1 d2))
        have hBl4 : Below wr.heap.size wr w4 := hw2.trans (below_of_grown hg4 (Nat.le_refl _) hw2.size)
        go_roundw
        case rel => exact ⟨i + 1, by omega, by go_num, hB.trans (hBl4.mono hB.size), hM.belowSize hBl4, (hT.out).trans (by rw [hA.out, HE.out]; rfl)⟩
        case measure => simp [intOf]; omega
      by_cases hk3 : k = 3
      · subst hk3
        have HE : Hid (okOp ⟨3, key, vv⟩ = true) := decide_eq_true ⟨h0, by dsimp only; omega, .inl ⟨by dsimp only; decide, by dsimp only; omega⟩⟩
        go_wp2_with (with_reducible refine at_list ?_; first
          | (refine wpList_loadOp (op := ⟨some 31, _, _, _, _, _⟩) rfl _ _ rfl g (o + i * 3) rfl (opc ⟨3, key, vv⟩) hr _ Tryz.underlying146 rfl (by rw [opc_size]; exact zRop.2) ?_)
          | (refine wpList_allocRow (op := ⟨some 4, _, _, _, _, _⟩) rfl _ rfl _ zRop.1 ?_; intro w2 hw2 hs2 hz2; replace hs2 := hs2.symm)
          | (refine wpList_storeRow (op := ⟨none, .store 146 (.tmp 4) (.tmp 31), _, _, _, _⟩) rfl _ _ _ rfl wr.heap.size (opc ⟨3, key, vv⟩) rfl rfl _ _ hz2 (by rw [opc_size, opc_size]) (by rw [opc_size]; exact zRop.2) (opc_one _) ?_; intro w4 hg4 hs4 hz4; have d0 := (hz4.cell 0).trans (opc_g0 _); have d1 := (hz4.cell 1).trans (opc_g1 _); have d2 := (hz4.cell 2).trans (opc_g2 _); dsimp only at d0 d1 d2))
        have hBl4 : Below wr.heap.size wr w4 := hw2.trans (below_of_grown hg4 (Nat.le_refl _) hw2.size)
        go_roundw
        case rel => exact ⟨i + 1, by omega, by go_num, hB.trans (hBl4.mono hB.size), hM.belowSize hBl4, (hT.out).trans (by rw [hA.out, HE.out]; rfl)⟩
        case measure => simp [intOf]; omega
      by_cases hk2 : k = 2
      · subst hk2
        by_cases hv : vv.length = 0
        · have hv2 : vv = [] := List.length_eq_zero_iff.1 hv
          subst hv2
          have HE : Hid (okOp ⟨2, key, []⟩ = true) := decide_eq_true ⟨h0, by dsimp only; omega, .inr ⟨by dsimp only; decide, rfl⟩⟩
          go_wp2_with (with_reducible refine at_list ?_; first
            | (refine wpList_loadOp (op := ⟨some 31, _, _, _, _, _⟩) rfl _ _ rfl g (o + i * 3) rfl (opc ⟨2, key, []⟩) hr _ Tryz.underlying146 rfl (by rw [opc_size]; exact zRop.2) ?_)
            | (refine wpList_allocRow (op := ⟨some 4, _, _, _, _, _⟩) rfl _ rfl _ zRop.1 ?_; intro w2 hw2 hs2 hz2; replace hs2 := hs2.symm)
            | (refine wpList_storeRow (op := ⟨none, .store 146 (.tmp 4) (.tmp 31), _, _, _, _⟩) rfl _ _ _ rfl wr.heap.size (opc ⟨2, key, []⟩) rfl rfl _ _ hz2 (by rw [opc_size, opc_size]) (by rw [opc_size]; exact zRop.2) (opc_one _) ?_; intro w4 hg4 hs4 hz4; have d0 := (hz4.cell 0).trans (opc_g0 _); have d1 := (hz4.cell 1).trans (opc_g1 _); have d2 := (hz4.cell 2).trans (opc_g2 _); dsimp only at d0 d1 d2))
          have hBl4 : Below wr.heap.size wr w4 := hw2.trans (below_of_grown hg4 (Nat.le_refl _) hw2.size)
          go_roundw
          case rel => exact ⟨i + 1, by omega, by go_num, hB.trans (hBl4.mono hB.size), hM.belowSize hBl4, (hT.out).trans (by rw [hA.out, HE.out]; rfl)⟩
          case measure => simp [intOf]; omega
        · have hE2 : vv.isEmpty = false := by cases vv with | nil => simp at hv | cons _ _ => rfl
          have HE : Hid (okOp ⟨2, key, vv⟩ = false) := decide_eq_false (by simp only; omega)
          go_wp2_with (with_reducible refine at_list ?_; first
            | (refine wpList_loadOp (op := ⟨some 31, _, _, _, _, _⟩) rfl _ _ rfl g (o + i * 3) rfl (opc ⟨2, key, vv⟩) hr _ Tryz.underlying146 rfl (by rw [opc_size]; exact zRop.2) ?_)
            | (refine wpList_allocRow (op := ⟨some 4, _, _, _, _, _⟩) rfl _ rfl _ zRop.1 ?_; intro w2 hw2 hs2 hz2; replace hs2 := hs2.symm)
            | (refine wpList_storeRow (op := ⟨none, .store 146 (.tmp 4) (.tmp 31), _, _, _, _⟩) rfl _ _ _ rfl wr.heap.size (opc ⟨2, key, vv⟩) rfl rfl _ _ hz2 (by rw [opc_size, opc_size]) (by rw [opc_size]; exact zRop.2) (opc_one _) ?_; intro w4 hg4 hs4 hz4; have d0 := (hz4.cell 0).trans (opc_g0 _); have d1 := (hz4.cell 1).trans (opc_g1 _); have d2 := (hz4.cell 2).trans (opc_g2 _); dsimp only at d0 d1 d2))
          have hBl4 : Below wr.heap.size wr w4 := hw2.trans (below_of_grown hg4 (Nat.le_refl _) hw2.size)
          go_ret
          exact ⟨by rw [chk_not (fun x => by have h9 := (okTx_of x).each _ hmem; rw [HE.out] at h9; cases h9)]; rfl, hB.trans (hBl4.mono hB.size)⟩
      by_cases hk4 : k = 4
      · subst hk4
        by_cases hv : vv.length = 0
        · have hv2 : vv = [] := List.length_eq_zero_iff.1 hv
          subst hv2
          have HE : Hid (okOp ⟨4, key, []⟩ = true) := decide_eq_true ⟨h0, by dsimp only; omega, .inr ⟨by dsimp only; decide, rfl⟩⟩
          go_wp2_with (with_reducible refine at_list ?_; first
            | (refine wpList_loadOp (op := ⟨some 31, _, _, _, _, _⟩) rfl _ _ rfl g (o + i * 3) rfl (opc ⟨4, key, []⟩) hr _ Tryz.underlying146 rfl (by rw [opc_size]; exact zRop.2) ?_)
            | (refine wpList_allocRow (op := ⟨some 4, _, _, _, _, _⟩) rfl _ rfl _ zRop.1 ?_; intro w2 hw2 hs2 hz2; replace hs2 := hs2.symm)
            | (refine wpList_storeRow (op := ⟨none, .store 146 (.tmp 4) (.tmp 31), _, _, _, _⟩) rfl _ _ _ rfl wr.heap.size (opc ⟨4, key, []⟩) rfl rfl _ _ hz2 (by rw [opc_size, opc_size]) (by rw [opc_size]; exact zRop.2) (opc_one _) ?_; intro w4 hg4 hs4 hz4; have d0 := (hz4.cell 0).trans (opc_g0 _); have d1 := (hz4.cell 1).trans (opc_g1 _); have d2 := (hz4.cell 2).trans (opc_g2 _); dsimp only at d0 d1 d2))
          have hBl4 : Below wr.heap.size wr w4 := hw2.trans (below_of_grown hg4 (Nat.le_refl _) hw2.size)
          go_roundw
          case rel => exact ⟨i + 1, by omega, by go_num, hB.trans (hBl4.mono hB.size), hM.belowSize hBl4, (hT.out).trans (by rw [hA.out, HE.out]; rfl)⟩
          case measure => simp [intOf]; omega
        · have hE2 : vv.isEmpty = false := by cases vv with | nil => simp at hv | cons _ _ => rfl
          have HE : Hid (okOp ⟨4, key, vv⟩ = false) := decide_eq_false (by simp only; omega)
          go_wp2_with (with_reducible refine at_list ?_; first
            | (refine wpList_loadOp (op := ⟨some 31, _, _, _, _, _⟩) rfl _ _ rfl g (o + i * 3) rfl (opc ⟨4, key, vv⟩) hr _ Tryz.underlying146 rfl (by rw [opc_size]; exact zRop.2) ?_)
            | (refine wpList_allocRow (op := ⟨some 4, _, _, _, _, _⟩) rfl _ rfl _ zRop.1 ?_; intro w2 hw2 hs2 hz2; replace hs2 := hs2.symm)
            | (refine wpList_storeRow (op := ⟨none, .store 146 (.tmp 4) (.tmp 31), _, _, _, _⟩) rfl _ _ _ rfl wr.heap.size (opc ⟨4, key, vv⟩) rfl rfl _ _ hz2 (by rw [opc_size, opc_size]) (by rw [opc_size]; exact zRop.2) (opc_one _) ?_; intro w4 hg4 hs4 hz4; have d0 := (hz4.cell 0).trans (opc_g0 _); have d1 := (hz4.cell 1).trans (opc_g1 _); have d2 := (hz4.cell 2).trans (opc_g2 _); dsimp only at d0 d1 d2))
          have hBl4 : Below wr.heap.size wr w4 := hw2.trans (below_of_grown hg4 (Nat.le_refl _) hw2.size)
          go_ret
          exact ⟨by rw [chk_not (fun x => by have h9 := (okTx_of x).each _ hmem; rw [HE.out] at h9; cases h9)]; rfl, hB.trans (hBl4.mono hB.size)⟩
      omega
    · have HE : Hid (chk ⟨c, n, l⟩ = 0) := by
        have := hA.out
        rw [List.take_of_length_le (by omega)] at this
        unfold chk okTx
        rw [show decide ((⟨c, n, l⟩ : TX).nonce ≠ 0 ∧ (⟨c, n, l⟩ : TX).ops.length ≠ 0 ∧ (⟨c, n, l⟩ : TX).ops.length ≤ 8) = true from decide_eq_true (by dsimp only; omega), Bool.true_and, this]
        exact rfl
      go_wp2_with fail
      go_ret
      exact ⟨by rw [HE.out]; rfl, hB⟩
set_option maxRecDepth 100000 in
set_option maxHeartbeats 400000 in
theorem rcheck_any (t : TX) (a : Option Addr) (cap : Nat) (w : World) (h : SL w a t.ops) : Calls Tryz.prog 79 #[.agg (txc t.client t.nonce (.slice a t.ops.length cap))] w fun e w' => e = .returned (.int .i64 (chk t)) ∧ Below w.heap.size w w' := by
  obtain ⟨c, n, l⟩ := t
  by_cases h1 : n = 0 ∨ l.length = 0 ∨ 8 < l.length
  · have HE : Hid (chk ⟨c, n, l⟩ = 40) := chk_not (fun x => by have := okTx_of x; have h2 := this.nonce; have h3 := this.len0; have h4 := this.len1; simp only at h2 h3 h4; omega)
    rw [HE.out]
    dsimp only at h ⊢
    by_cases hn : n = 0
    · subst hn
      go_enter Tryz.func79, Tryz.ntmps79
      go_wp2_with (with_reducible refine at_list ?_; first
      | (refine wpList_boxRow (op := ⟨some 1, _, _, _, _, _⟩) rfl _ _ rfl _ rfl ?_; intro w1 hw1 hs1 hb1; replace hs1 := hs1.symm; have c1 := (hb1.cell 1).trans (txc_g1 _ _ _); have c2 := (hb1.cell 2).trans (txc_g2 _ _ _)))
      go_ret
      exact ⟨rfl, hw1⟩
    · have hb : ((n : Int) == 0) = false := by rw [beq_eq_false_iff_ne]; omega
      by_cases hl0 : l.length = 0
      · have hl : l = [] := List.length_eq_zero_iff.1 hl0
        subst hl
        go_enter Tryz.func79, Tryz.ntmps79
        go_wp2_with (with_reducible refine at_list ?_; first
      | (refine wpList_boxRow (op := ⟨some 1, _, _, _, _, _⟩) rfl _ _ rfl _ rfl ?_; intro w1 hw1 hs1 hb1; replace hs1 := hs1.symm; have c1 := (hb1.cell 1).trans (txc_g1 _ _ _); have c2 := (hb1.cell 2).trans (txc_g2 _ _ _)))
        go_ret
        exact ⟨rfl, hw1⟩
      · have hb2 : ((l.length : Int) == 0) = false := by rw [beq_eq_false_iff_ne]; omega
        have hb3 : decide (8 < (l.length : Int)) = true := decide_eq_true (by omega)
        go_enter Tryz.func79, Tryz.ntmps79
        go_wp2_with (with_reducible refine at_list ?_; first
      | (refine wpList_boxRow (op := ⟨some 1, _, _, _, _, _⟩) rfl _ _ rfl _ rfl ?_; intro w1 hw1 hs1 hb1; replace hs1 := hs1.symm; have c1 := (hb1.cell 1).trans (txc_g1 _ _ _); have c2 := (hb1.cell 2).trans (txc_g2 _ _ _)))
        go_ret
        exact ⟨rfl, hw1⟩
  · exact rcheck_few c n l a cap w h h1
end Go.Proofs.YtmbdhngoldganaaGreatDoor
