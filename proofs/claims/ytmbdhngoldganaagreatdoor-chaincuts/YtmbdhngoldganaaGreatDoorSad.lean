/- What Equal and Same do. What EqualFunc of transactions, Same of blocks and batchOf do. What batchOf does. -/
import Derived.Test.YtmbdhngoldganaaGreatDoorRef
import Derived.Test.YtmbdhngoldganaaGreatDoorHmf
import Derived.Test.YtmbdhngoldganaaGreatDoorExw
import Derived.Test.YtmbdhngoldganaaGreatDoorStd
import Derived.Deep.RegionHeld3
import Derived.Test.YtmbdhngoldganaaGreatDoorMke
import Derived.Deep.Cut
namespace Go.Proofs.YtmbdhngoldganaaGreatDoor
open Go Go.RowKit
def sameO (x y : O) : Bool := decide (x.kind = y.kind) && decide (x.key = y.key) && decide (x.val = y.val)
theorem sameO_iff (x y : O) : sameO x y = true ↔ x = y := by
  obtain ⟨a, b, c⟩ := x
  obtain ⟨d, e, f⟩ := y
  simp [sameO, and_assoc]
theorem eqInt (a b : Int) (w : World) : (Op.equalIn 9999 3 (.int .i64 a) (.int .i64 b)).run Tryz.prog w = .ok (decide (a = b)) w := by
  go_simp
  rw [Bool.eq_iff_iff]; simp
theorem eqStr (a b : List UInt8) (w : World) : (Op.equalIn 9999 9 (.string ⟨a.toArray⟩) (.string ⟨b.toArray⟩)).run Tryz.prog w = .ok (decide (a = b)) w := by
  go_simp
  rw [Bool.eq_iff_iff]; simp
theorem run_neqOp {op : Oper} {a : Act} (x y : Operand) (ho : op.op = .binOp .neq 97 x y 97) (p q : O) (hx : a.eval x = .agg (opc p)) (hy : a.eval y = .agg (opc q)) (w : World) :
    (execOp a.eval op).run Tryz.prog w = .ok (.value (.bool (!sameO p q))) w := by
  unfold execOp
  simp only [ho, hx, hy]
  obtain ⟨k, key, vv⟩ := p
  obtain ⟨k2, key2, vv2⟩ := q
  go_simp
  simp only [opc_g0, opc_g1, opc_g2, Sem.run_pure, Result.andThen_ok, eqInt, eqStr]
  by_cases h1 : k = k2
  · by_cases h2 : key = key2
    · by_cases h3 : vv = vv2 <;> simp [h1, h2, h3, sameO]
    · simp [h1, h2, sameO]
  · simp [h1, sameO]
set_option maxRecDepth 100000 in
set_option maxHeartbeats 400000 in
theorem equalO_any (a a2 : Option Addr) (l m : List O) (cap cap2 : Nat) (w : World) (h : SL w a l) (h2 : SL w a2 m) (hl : l.length ≤ 1000000) : Calls Tryz.prog 112 #[.slice a l.length cap, .slice a2 m.length cap2] w (EqP w (l = m)) := by
  by_cases hlm : l.length = m.length
  · rw [← hlm]
    have hle1 : l.length ≤ m.length := by omega
    have hle2 : m.length ≤ l.length := by omega
    clear hlm
    go_enter Tryz.func112, Tryz.ntmps112
    go_wp2_with fail
    go_loopw [13] (fun v13 wl => ∃ i : Nat, i ≤ l.length ∧ v13 = .int .i64 i ∧ Below w.heap.size w wl ∧ Hid (l.take i = m.take i)) (fun v13 _ => l.length - (intOf v13).toNat)
    case atStart => exact ⟨0, by omega, rfl, Below.refl _ _, by exact rfl⟩
    case round =>
      obtain ⟨i, hi, rfl, hB, hA⟩ := hrel
      by_cases hlt : i < l.length
      · obtain ⟨g, o, rfl⟩ := h.ex (by omega)
        obtain ⟨g2, o2, rfl⟩ := h2.ex (by omega)
        have hr := (h.below hB).at i hlt
        have hr2 := (h2.below hB).at i (by omega)
        have hlt2 : i < m.length := by omega
        have hT : Hid (l.take (i + 1) = l.take i ++ [l[i]]) := List.take_succ_eq_append_getElem hlt
        have hT2 : Hid (m.take (i + 1) = m.take i ++ [m[i]]) := List.take_succ_eq_append_getElem hlt2
        have hne : Hid (l[i] ≠ m[i] → l ≠ m) := fun hd e => hd (by subst e; rfl)
        generalize l[i] = x at *
        generalize m[i] = y at *
        have hz1 : (0 : Int) ≤ (i : Int) := by omega
        have hz2 : (i : Int) < (l.length : Int) := by omega
        go_wp2_with fail
        refine wp_region_held_drew (S := fun w' => w'.rangeAt g (o + i * 3) (opc x).toList ∧ w'.rangeAt g2 (o2 + i * 3) (opc y).toList) (by kernel_rfl) ⟨hr, hr2⟩ (fun hHeld => ?_)
        clear hr hr2
        refine wpAnyH_take (i := 0) (oi := ⟨some 16, _, _, _, _, _⟩) (v := .slice (some ⟨g, o, none⟩) l.length cap) rfl (by kernel_rfl) (by kernel_rfl) (by kernel_rfl) (fun _ _ _ h => h) (Or.inl ⟨by rfl, fun w hSw => by go_simp⟩) hHeld ?_
        refine wpAnyH_take (i := 1) (oi := ⟨some 17, _, _, _, _, _⟩) (v := .int .i64 (i : Nat)) rfl (by kernel_rfl) (by kernel_rfl) (by kernel_rfl) (fun _ _ _ h => h) (Or.inl ⟨by rfl, fun w hSw => by go_simp⟩) hHeld ?_
        refine wpAnyH_take (i := 2) (oi := ⟨some 18, _, _, _, _, _⟩) (v := .pointer (some ⟨g, o + i * 3, none⟩)) rfl (by kernel_rfl) (by kernel_rfl) (by kernel_rfl) (fun _ _ _ h => h) (Or.inl ⟨by rfl, fun w hSw => by go_simp⟩) hHeld ?_
        simp only [Act.put, List.setIfInBounds_toArray, List.set_cons_zero, List.set_cons_succ]
        refine wpAnyH_take (i := 3) (oi := ⟨some 19, _, _, _, _, _⟩) (v := .agg (opc x)) rfl (by kernel_rfl) (by kernel_rfl) (by kernel_rfl) (fun _ _ _ h => h) (Or.inl ⟨by rfl, fun w hSw => run_loadMid _ _ rfl _ _ rfl _ hSw.1 _ Tryz.underlying97 rfl (by rw [opc_size]; exact zOp.2)⟩) hHeld ?_
        simp only [Act.put, List.setIfInBounds_toArray, List.set_cons_zero, List.set_cons_succ]
        refine wpAnyH_take (i := 4) (oi := ⟨some 20, _, _, _, _, _⟩) (v := .slice (some ⟨g2, o2, none⟩) l.length cap2) rfl (by kernel_rfl) (by kernel_rfl) (by kernel_rfl) (fun _ _ _ h => h) (Or.inl ⟨by rfl, fun w hSw => by go_simp⟩) hHeld ?_
        refine wpAnyH_take (i := 5) (oi := ⟨some 21, _, _, _, _, _⟩) (v := .int .i64 (i : Nat)) rfl (by kernel_rfl) (by kernel_rfl) (by kernel_rfl) (fun _ _ _ h => h) (Or.inl ⟨by rfl, fun w hSw => by go_simp⟩) hHeld ?_
        refine wpAnyH_take (i := 6) (oi := ⟨some 22, _, _, _, _, _⟩) (v := .pointer (some ⟨g2, o2 + i * 3, none⟩)) rfl (by kernel_rfl) (by kernel_rfl) (by kernel_rfl) (fun _ _ _ h => h) (Or.inl ⟨by rfl, fun w hSw => by go_simp⟩) hHeld ?_
        simp only [Act.put, List.setIfInBounds_toArray, List.set_cons_zero, List.set_cons_succ]
        refine wpAnyH_take (i := 7) (oi := ⟨some 23, _, _, _, _, _⟩) (v := .agg (opc y)) rfl (by kernel_rfl) (by kernel_rfl) (by kernel_rfl) (fun _ _ _ h => h) (Or.inl ⟨by rfl, fun w hSw => run_loadMid _ _ rfl _ _ rfl _ hSw.2 _ Tryz.underlying97 rfl (by rw [opc_size]; exact zOp.2)⟩) hHeld ?_
        simp only [Act.put, List.setIfInBounds_toArray, List.set_cons_zero, List.set_cons_succ]
        refine wpAnyH_take (i := 8) (oi := ⟨some 24, _, _, _, _, _⟩) (v := .bool (!sameO x y)) rfl (by kernel_rfl) (by kernel_rfl) (by kernel_rfl) (fun _ _ _ h => h) (Or.inl ⟨by rfl, fun w hSw => run_neqOp _ _ rfl x y rfl rfl w⟩) hHeld ?_
        refine wpAnyH_done (by kernel_rfl) ?_ _
        simp only [Act.put]
        clear hHeld
        have hBd := hB.trans ((Below.refl w.heap.size wr).drew)
        by_cases hxy : x = y
        · have hs : sameO x y = true := (sameO_iff x y).2 hxy
          have hA2 : Hid (l.take (i + 1) = m.take (i + 1)) := by rw [hT.out, hT2.out, hA.out, hxy]; exact rfl
          rw [hs]
          clear hT hT2 hA hne
          go_simp
          go_wp2_with fail
          go_roundw
          case rel => exact ⟨i + 1, by omega, by go_num, hBd, hA2⟩
          case measure => simp [intOf]; omega
        · have hs : sameO x y = false := by rw [← Bool.not_eq_true, sameO_iff]; exact hxy
          have hn := hne.out hxy
          rw [hs]
          clear hT hT2 hA hne
          go_simp
          go_wp2_with fail
          go_ret
          exact ⟨false, rfl, by simp [hn], hBd⟩
      · have hA2 := hA.out
        rw [List.take_of_length_le (show l.length ≤ i by omega), List.take_of_length_le (show m.length ≤ i by omega)] at hA2
        have hA3 : Hid (l = m) := hA2
        clear hA2 hA
        go_wp2_with fail
        go_ret
        exact ⟨true, rfl, by simp [hA3.out], hB⟩
  · have hne : ((l.length : Int) != (m.length : Int)) = true := by simp; omega
    have hn : Hid (l ≠ m) := fun e => hlm (by rw [e])
    go_enter Tryz.func112, Tryz.ntmps112
    go_wp2_with fail
    go_ret
    exact ⟨false, rfl, by simp [hn.out], Below.refl _ _⟩
set_option maxRecDepth 100000 in
set_option maxHeartbeats 400000 in
theorem sameT_any (s t : TX) (a a2 : Option Addr) (cap cap2 : Nat) (w : World) (h : SL w a s.ops) (h2 : SL w a2 t.ops) (hl : s.ops.length ≤ 1000000) :
    Calls Tryz.prog 65 #[.agg (txc s.client s.nonce (.slice a s.ops.length cap)), .agg (txc t.client t.nonce (.slice a2 t.ops.length cap2))] w (EqP w (s = t)) := by
  obtain ⟨c, n, l⟩ := s
  obtain ⟨c', n', m⟩ := t
  dsimp only at *
  by_cases hc : c = c'
  · subst hc
    by_cases hn : n = n'
    · subst hn
      have HQ := fun w' (hB : Below w.heap.size w w') => equalO_any a a2 l m cap cap2 w' (h.below hB) (h2.below hB) hl
      have HP : Hid ((⟨c, n, l⟩ : TX) = ⟨c, n, m⟩ ↔ l = m) := by simp; trivial
      go_enter Tryz.func65, Tryz.ntmps65
      go_wp2_with (first
      | (go_at_call 112; refine (HQ _ (hw1.trans (hw2.mono hw1.size))).mono ?_; rintro e w3 ⟨y, rfl, hy, hw3⟩; clear HQ)
      | (with_reducible refine at_list ?_; first
        | (refine wpList_boxRow (op := ⟨some 2, _, _, _, _, _⟩) rfl _ _ rfl _ rfl ?_; intro w1 hw1 hs1 hb1; replace hs1 := hs1.symm)
        | (refine wpList_boxRow (op := ⟨some 3, _, _, _, _, _⟩) rfl _ _ rfl _ rfl ?_; intro w2 hw2 hs2 hb2; replace hs2 := hs2.symm; replace hb1 := hb1.belowSize hw2; have c0 := (hb1.cell 0).trans (txc_g0 _ _ _); have c1 := (hb1.cell 1).trans (txc_g1 _ _ _); have c2 := (hb1.cell 2).trans (txc_g2 _ _ _); have d0 := (hb2.cell 0).trans (txc_g0 _ _ _); have d1 := (hb2.cell 1).trans (txc_g1 _ _ _); have d2 := (hb2.cell 2).trans (txc_g2 _ _ _))))
      go_ret
      exact ⟨y, rfl, hy.trans HP.out.symm, (hw1.trans (hw2.mono hw1.size)).trans (hw3.mono (Nat.le_trans hw1.size hw2.size))⟩
    · have hb0 : ((n : Int) == (n' : Int)) = false := by rw [beq_eq_false_iff_ne]; omega
      have HP : Hid (¬ (⟨c, n, l⟩ : TX) = ⟨c, n', m⟩) := fun e => hn (by injection e)
      go_enter Tryz.func65, Tryz.ntmps65
      go_wp2_with (first
      | (with_reducible refine at_list ?_; first
        | (refine wpList_boxRow (op := ⟨some 2, _, _, _, _, _⟩) rfl _ _ rfl _ rfl ?_; intro w1 hw1 hs1 hb1; replace hs1 := hs1.symm)
        | (refine wpList_boxRow (op := ⟨some 3, _, _, _, _, _⟩) rfl _ _ rfl _ rfl ?_; intro w2 hw2 hs2 hb2; replace hs2 := hs2.symm; replace hb1 := hb1.belowSize hw2; have c0 := (hb1.cell 0).trans (txc_g0 _ _ _); have c1 := (hb1.cell 1).trans (txc_g1 _ _ _); have c2 := (hb1.cell 2).trans (txc_g2 _ _ _); have d0 := (hb2.cell 0).trans (txc_g0 _ _ _); have d1 := (hb2.cell 1).trans (txc_g1 _ _ _); have d2 := (hb2.cell 2).trans (txc_g2 _ _ _))))
      go_ret
      exact ⟨false, rfl, by simp [HP.out], hw1.trans (hw2.mono hw1.size)⟩
  · have hb0 : ((c : Int) == (c' : Int)) = false := by rw [beq_eq_false_iff_ne]; omega
    have HP : Hid (¬ (⟨c, n, l⟩ : TX) = ⟨c', n', m⟩) := fun e => hc (by injection e)
    go_enter Tryz.func65, Tryz.ntmps65
    go_wp2_with (first
      | (with_reducible refine at_list ?_; first
        | (refine wpList_boxRow (op := ⟨some 2, _, _, _, _, _⟩) rfl _ _ rfl _ rfl ?_; intro w1 hw1 hs1 hb1; replace hs1 := hs1.symm)
        | (refine wpList_boxRow (op := ⟨some 3, _, _, _, _, _⟩) rfl _ _ rfl _ rfl ?_; intro w2 hw2 hs2 hb2; replace hs2 := hs2.symm; replace hb1 := hb1.belowSize hw2; have c0 := (hb1.cell 0).trans (txc_g0 _ _ _); have c1 := (hb1.cell 1).trans (txc_g1 _ _ _); have c2 := (hb1.cell 2).trans (txc_g2 _ _ _); have d0 := (hb2.cell 0).trans (txc_g0 _ _ _); have d1 := (hb2.cell 1).trans (txc_g1 _ _ _); have d2 := (hb2.cell 2).trans (txc_g2 _ _ _))))
    go_ret
    exact ⟨false, rfl, by simp [HP.out], hw1.trans (hw2.mono hw1.size)⟩
end Go.Proofs.YtmbdhngoldganaaGreatDoor
namespace Go.Proofs.YtmbdhngoldganaaGreatDoor
open Go Go.RowKit
section
attribute [local go_sem] Oper.semAt_some
set_option maxRecDepth 100000 in
set_option maxHeartbeats 2000000 in
theorem equalF_any (l m : List TX) (hll : l.length ≤ 1000000) (hok : ∀ x ∈ l, x.ops.length ≤ 1000000) (a a2 : Option Addr) (cap cap2 : Nat) (w : World) (h : TA w a l) (h2 : TA w a2 m) :
    Calls Tryz.prog 64 #[.slice a l.length cap, .slice a2 m.length cap2, .func (.func 65) #[] #[]] w (EqP w (l = m)) := by
  by_cases hlm : l.length = m.length
  · have hne : ((l.length : Int) != (m.length : Int)) = false := by simp; omega
    have hm1 : l.length ≤ m.length := by omega
    have hm2 : m.length ≤ l.length := by omega
    clear hlm
    go_enter Tryz.func64, Tryz.ntmps64
    go_wp2_with fail
    go_loopw [17] (fun v17 wl => ∃ i : Nat, i ≤ l.length ∧ v17 = .int .i64 i ∧ Below w.heap.size w wl ∧ Hid (l.take i = m.take i)) (fun v17 _ => l.length - (intOf v17).toNat)
    case atStart => exact ⟨0, by omega, rfl, Below.refl _ _, by rw [List.take_zero, List.take_zero]; exact rfl⟩
    case round =>
      obtain ⟨i, hi, rfl, hB, hA⟩ := hrel
      by_cases hlt : i < l.length
      · have hlt2 : i < m.length := by omega
        obtain ⟨g, o, rfl⟩ := h.ex (by omega)
        obtain ⟨g2, o2, rfl⟩ := h2.ex (by omega)
        obtain ⟨sa, sc, hr, hs, _, _⟩ := (h.below hB).at i hlt
        obtain ⟨sa2, sc2, hr2, hs2, _, _⟩ := (h2.below hB).at i hlt2
        have HS := fun w1 (k1 : SL w1 sa l[i].ops) (k2 : SL w1 sa2 m[i].ops) => sameT_any l[i] m[i] sa sa2 sc sc2 w1 k1 k2 (hok _ (List.getElem_mem hlt))
        have hT : Hid (l.take (i + 1) = l.take i ++ [l[i]]) := by rw [List.take_succ_eq_append_getElem hlt]; exact rfl
        have hT2 : Hid (m.take (i + 1) = m.take i ++ [m[i]]) := by rw [List.take_succ_eq_append_getElem hlt2]; exact rfl
        have hn : Hid (¬ l[i] = m[i] → l ≠ m) := fun hx e => hx (by subst e; rfl)
        have hz1 : (0 : Int) ≤ (i : Int) := by omega
        have hz2 : (i : Int) < (l.length : Int) := by omega
        have hz3 : (i : Int) < (m.length : Int) := by omega
        unfold EqP at HS
        have hltH : Hid (i < l.length) := hlt
        have hgl2 : g2 ≠ wr.heap.size := Nat.ne_of_lt (World.block_lt_of_cell? _ _ (hr2 0 _ rfl))
        generalize l[i] = x at *
        generalize m[i] = y at *
        go_upto_if 30 with (first
          | (go_at_call 65; refine (HS _ hs hs2).mono ?_; rintro e w7 ⟨yb, rfl, hyb, hw7⟩; clear HS hs hs2; replace hB := hB.trans (hw7.mono hB.size); clear hw7)
          | (with_reducible refine at_list ?_; first
            | (refine wpList_loadOp (op := ⟨some 21, _, _, _, _, _⟩) rfl _ _ rfl g (o + i * 3) rfl (txc x.client x.nonce (.slice sa x.ops.length sc)) hr _ Tryz.underlying95 rfl (by rw [txc_size]; exact zTx.2) ?_)
            | (refine wpList_allocRow (op := ⟨some 8, _, _, _, _, _⟩) rfl _ rfl _ zTx.1 ?_; intro w3 hw3 hs3 h8; replace hs3 := hs3.symm; clear hr; replace hr2 := range_keep hw3 hr2)
            | (refine wpList_storeRow (op := ⟨none, .store 95 (.tmp 8) (.tmp 21), _, _, _, _⟩) rfl _ _ _ rfl wr.heap.size (txc x.client x.nonce (.slice sa x.ops.length sc)) rfl rfl _ _ h8 (by simp only [txc_size]) (by rw [txc_size]; exact zTx.2) (txc_one _ _ _ _ _) ?_; intro w4 hg4 hs4 hb4; clear hs4; have hx4 := hw3.trans (below_of_grown hg4 (Nat.le_refl _) hw3.size); replace hs := hs.below hx4; replace hs2 := hs2.below hx4; replace hr2 := rangeAt_grown hr2 hg4 hgl2; replace hB := hB.trans (hx4.mono hB.size); clear hx4 hg4 hw3 h8)
            | (refine wpList_loadOp (op := ⟨some 25, _, _, _, _, _⟩) rfl _ _ rfl g2 (o2 + i * 3) rfl (txc y.client y.nonce (.slice sa2 y.ops.length sc2)) hr2 _ Tryz.underlying95 rfl (by rw [txc_size]; exact zTx.2) ?_)
            | (refine wpList_allocRow (op := ⟨some 9, _, _, _, _, _⟩) rfl _ rfl _ zTx.1 ?_; intro w5 hw5 hs5 h9; replace hs5 := hs5.symm; clear hr2; have hl4 := hb4.lt; replace hb4 := hb4.belowSize hw5)
            | (refine wpList_storeRow (op := ⟨none, .store 95 (.tmp 9) (.tmp 25), _, _, _, _⟩) rfl _ _ _ rfl w4.heap.size (txc y.client y.nonce (.slice sa2 y.ops.length sc2)) rfl rfl _ _ h9 (by simp only [txc_size]) (by rw [txc_size]; exact zTx.2) (txc_one _ _ _ _ _) ?_; intro w6 hg6 hs6 hb6; clear hs6; have hx6 := hw5.trans (below_of_grown hg6 (Nat.le_refl _) hw5.size); replace hs := hs.below hx6; replace hs2 := hs2.below hx6; replace hb4 := hb4.grown hg6 (fun e => absurd (Option.some.inj e) (Nat.ne_of_lt hl4)); replace hB := hB.trans (hx6.mono hB.size); clear hx6 hg6 hw5 h9)
            | (refine wpList_loadRow (op := ⟨some 27, _, _, _, _, _⟩) rfl _ _ rfl wr.heap.size rfl _ _ hb4 _ Tryz.underlying95 rfl (by rw [txc_size]; exact zTx.2) ?_)
            | (refine wpList_loadRow (op := ⟨some 28, _, _, _, _, _⟩) rfl _ _ rfl w4.heap.size rfl _ _ hb6 _ Tryz.underlying95 rfl (by rw [txc_size]; exact zTx.2) ?_)))
        cases yb
        · have hn2 : Hid (l ≠ m) := hn.out (fun e => by have := hyb.2 e; cases this)
          clear hyb hn hT hT2 hA
          go_wp2_with fail
          go_ret
          exact ⟨false, rfl, ⟨fun e => (by cases e), fun e => absurd e hn2.out⟩, hB⟩
        · have hxy := hyb.1 rfl
          subst hxy
          have hA2 : Hid (l.take (i + 1) = m.take (i + 1)) := by rw [hT.out, hT2.out, hA.out]; exact rfl
          clear hyb hn hT hT2 hA
          go_wp2_with fail
          go_roundw
          case rel => exact ⟨i + 1, hltH.out, by go_num, hB, hA2⟩
          case measure => have := hltH.out; simp [intOf]; omega
      · have hend : Hid (l = m) := by
          have := hA.out
          rw [List.take_of_length_le (by omega), List.take_of_length_le (by omega)] at this
          exact this
        have hz2 : ¬ (i : Int) < (l.length : Int) := by omega
        clear hA hne
        go_wp2_with fail
        go_ret
        exact ⟨true, rfl, ⟨fun _ => hend.out, fun _ => rfl⟩, hB⟩
  · have hne : ((l.length : Int) != (m.length : Int)) = true := by simp; omega
    have hlm2 : Hid (l ≠ m) := fun e => hlm (by rw [e])
    clear hlm
    go_enter Tryz.func64, Tryz.ntmps64
    go_wp2_with fail
    go_ret
    exact ⟨false, rfl, ⟨fun e => (by cases e), fun e => absurd e hlm2.out⟩, Below.refl _ _⟩
set_option maxRecDepth 100000 in
set_option maxHeartbeats 2000000 in
theorem sameB_any (x y : HH) (l m : List TX) (hll : l.length ≤ 1000000) (hok : ∀ x ∈ l, x.ops.length ≤ 1000000) (a a2 b b2 : Option Addr) (cap cap2 cb cb2 : Nat) (w : World) (h : IA w a x.mem) (h2 : IA w a2 y.mem) (hl : x.mem.length ≤ 1000000) (k : TA w b l) (k2 : TA w b2 m) :
    Calls Tryz.prog 22 #[.agg (bk x.height x.prev x.txr x.str (.slice a x.mem.length cap) (.slice b l.length cb)), .agg (bk y.height y.prev y.txr y.str (.slice a2 y.mem.length cap2) (.slice b2 m.length cb2))] w (EqP w (x = y ∧ l = m)) := by
  have HH := fun w1 (h : IA w1 a x.mem) (h2 : IA w1 a2 y.mem) => sameH_any x y a a2 cap cap2 w1 h h2 hl
  unfold EqP at HH
  have HE := fun w1 (h : TA w1 b l) (h2 : TA w1 b2 m) => equalF_any l m hll hok b b2 cb cb2 w1 h h2
  unfold EqP at HE
  by_cases hxy : x = y
  · have HH1 : ∀ w1, IA w1 a x.mem → IA w1 a2 y.mem → Calls Tryz.prog 63 #[.agg (hA x.height x.prev x.txr x.str (.slice a x.mem.length cap)), .agg (hA y.height y.prev y.txr y.str (.slice a2 y.mem.length cap2))] w1 (fun e w' => e = .returned (.bool true) ∧ Below w1.heap.size w1 w') := fun w1 k1 k2 => (HH w1 k1 k2).mono fun e w' ⟨yb, he, hy, hb⟩ => by rw [hy.2 hxy] at he; exact ⟨he, hb⟩
    have hxy2 : Hid (x = y) := hxy
    clear HH hxy
    go_enter Tryz.func22, Tryz.ntmps22
    go_wp2_with (first
      | (go_at_call 63; refine (HH1 _ (h.below hB) (h2.below hB)).mono ?_; rintro e w3 ⟨rfl, hw3⟩; clear HH1; replace hb1 := hb1.belowSize hw3; replace hb2 := hb2.belowSize hw3; replace hB := hB.trans (hw3.mono hB.size); clear hw3; have c1 := (hb1.cell 5).trans (bk_g5 _ _ _ _ _ _); have c2 := (hb2.cell 5).trans (bk_g5 _ _ _ _ _ _))
      | (go_at_call 64; refine (HE _ (k.below hB) (k2.below hB)).mono ?_; rintro e w4 ⟨yb, rfl, hyb, hw4⟩; clear HE)
      | (with_reducible refine at_list ?_; first
        | (refine wpList_boxRow (op := ⟨some 2, _, _, _, _, _⟩) rfl _ _ rfl _ rfl ?_; intro w1 hw1 hs1 hb1; replace hs1 := hs1.symm)
        | (refine wpList_boxRow (op := ⟨some 3, _, _, _, _, _⟩) rfl _ _ rfl _ rfl ?_; intro w2 hw2 hs2 hb2; replace hs2 := hs2.symm; replace hb1 := hb1.belowSize hw2; have hB := hw1.trans (hw2.mono hw1.size))
        | (refine wpList_loadOp (op := ⟨some 6, _, _, _, _, _⟩) rfl _ _ rfl w.heap.size 0 rfl (hA x.height x.prev x.txr x.str (.slice a x.mem.length cap)) (bk_head hb1) _ Tryz.underlying50 rfl (hA_info _ _ _ _ _) ?_)
        | (refine wpList_loadOp (op := ⟨some 8, _, _, _, _, _⟩) rfl _ _ rfl w1.heap.size 0 rfl (hA y.height y.prev y.txr y.str (.slice a2 y.mem.length cap2)) (bk_head hb2) _ Tryz.underlying50 rfl (hA_info _ _ _ _ _) ?_)))
    go_ret
    exact ⟨yb, rfl, ⟨fun e => ⟨hxy2.out, hyb.1 e⟩, fun e => hyb.2 e.2⟩, hB.trans (hw4.mono hB.size)⟩
  · have HH1 : ∀ w1, IA w1 a x.mem → IA w1 a2 y.mem → Calls Tryz.prog 63 #[.agg (hA x.height x.prev x.txr x.str (.slice a x.mem.length cap)), .agg (hA y.height y.prev y.txr y.str (.slice a2 y.mem.length cap2))] w1 (fun e w' => e = .returned (.bool false) ∧ Below w1.heap.size w1 w') := fun w1 k1 k2 => (HH w1 k1 k2).mono fun e w' ⟨yb, he, hy, hb⟩ => by
      cases yb
      · exact ⟨he, hb⟩
      · exact absurd (hy.1 rfl) hxy
    have hxy2 : Hid (¬ x = y) := hxy
    clear HH hxy HE
    go_enter Tryz.func22, Tryz.ntmps22
    go_wp2_with (first
      | (go_at_call 63; refine (HH1 _ (h.below hB) (h2.below hB)).mono ?_; rintro e w3 ⟨rfl, hw3⟩; clear HH1)
      | (with_reducible refine at_list ?_; first
        | (refine wpList_boxRow (op := ⟨some 2, _, _, _, _, _⟩) rfl _ _ rfl _ rfl ?_; intro w1 hw1 hs1 hb1; replace hs1 := hs1.symm)
        | (refine wpList_boxRow (op := ⟨some 3, _, _, _, _, _⟩) rfl _ _ rfl _ rfl ?_; intro w2 hw2 hs2 hb2; replace hs2 := hs2.symm; replace hb1 := hb1.belowSize hw2; have hB := hw1.trans (hw2.mono hw1.size))
        | (refine wpList_loadOp (op := ⟨some 6, _, _, _, _, _⟩) rfl _ _ rfl w.heap.size 0 rfl (hA x.height x.prev x.txr x.str (.slice a x.mem.length cap)) (bk_head hb1) _ Tryz.underlying50 rfl (hA_info _ _ _ _ _) ?_)
        | (refine wpList_loadOp (op := ⟨some 8, _, _, _, _, _⟩) rfl _ _ rfl w1.heap.size 0 rfl (hA y.height y.prev y.txr y.str (.slice a2 y.mem.length cap2)) (bk_head hb2) _ Tryz.underlying50 rfl (hA_info _ _ _ _ _) ?_)))
    go_ret
    exact ⟨false, rfl, ⟨fun e => (by cases e), fun e => absurd e.1 hxy2.out⟩, hB.trans (hw3.mono hB.size)⟩
def boP (w : World) (hm mem : List Int) (a ah : Option Addr) (n cap ch : Nat) (e : Ending) (w' : World) : Prop :=
  Below w.heap.size w w' ∧ ((hm = mem ∧ e = .returned (.tuple #[.agg (bc (.slice a n cap) false (.slice none 0 0)), .bool true])) ∨ (hm ≠ mem ∧ 0 < n ∧ e = .returned (.tuple #[.agg (bc (.slice none 0 0) false (.slice none 0 0)), .bool false])) ∨ (hm ≠ mem ∧ n = 0 ∧ e = .returned (.tuple #[.agg (bc (.slice none 0 0) true (.slice ah hm.length ch)), .bool true])))
theorem builtBconf (ah : Option Addr) (n ch : Nat) : Tryz.prog.built 58 [(1, .bool true), (2, .slice ah n ch)] = some (bc (.slice none 0 0) true (.slice ah n ch)) := by kernel_rfl
theorem builtBnil : Tryz.prog.built 58 [] = some (bc (.slice none 0 0) false (.slice none 0 0)) := by kernel_rfl
end
end Go.Proofs.YtmbdhngoldganaaGreatDoor
namespace Go.Proofs.YtmbdhngoldganaaGreatDoor
open Go Go.RowKit
section
attribute [local go_sem] Oper.semAt_some
set_option maxRecDepth 100000 in
set_option maxHeartbeats 2000000 in
theorem batchOf_any (ht : Nat) (p tx s : List UInt8) (hm mem : List Int) (hl : hm.length ≤ 1000000) (ah am : Option Addr) (ch cm : Nat) (a : Option Addr) (n cap : Nat) (w : World) (h : IA w ah hm) (h2 : IA w am mem) :
    Calls Tryz.prog 118 #[.agg (bk ht p tx s (.slice ah hm.length ch) (.slice a n cap)), .slice am mem.length cm] w (boP w hm mem a ah n cap ch) := by
  have HE := fun w1 (h : IA w1 ah hm) (h2 : IA w1 am mem) => equalI_any ah am hm mem ch cm w1 h h2 hl
  unfold EqP at HE
  by_cases hxy : hm = mem
  · have HE1 : ∀ w1, IA w1 ah hm → IA w1 am mem → Calls Tryz.prog 100 #[.slice ah hm.length ch, .slice am mem.length cm] w1 (fun e w' => e = .returned (.bool true) ∧ Below w1.heap.size w1 w') := fun w1 k1 k2 => (HE w1 k1 k2).mono fun e w' ⟨yb, he, hy, hb⟩ => by rw [hy.2 hxy] at he; exact ⟨he, hb⟩
    have hxy2 : Hid (hm = mem) := hxy
    clear HE hxy
    go_enter Tryz.func118, Tryz.ntmps118
    go_wp2_with (first
      | (go_at_call 100; refine (HE1 _ (h.below hB) (h2.below hB)).mono ?_; rintro e w3 ⟨rfl, hw3⟩; clear HE1 c4; replace hb1 := hb1.belowSize hw3; replace hb2 := hb2.belowSize hw3; replace hB := hB.trans (hw3.mono hB.size); clear hw3; have c4 := (hb1.cell 4).trans (show _ = some (.slice ah hm.length ch) from rfl); have c5 := (hb1.cell 5).trans (bk_g5 _ _ _ _ _ _))
      | (with_reducible refine at_list ?_; first
        | (refine wpList_boxRow (op := ⟨some 2, _, _, _, _, _⟩) rfl _ _ rfl _ rfl ?_; intro w1 hw1 hs1 hb1; replace hs1 := hs1.symm)
        | (refine wpList_allocRow (op := ⟨some 4, _, _, _, _, _⟩) rfl _ rfl _ zB.1 ?_; intro w2 hw2 hs2 hb2; replace hs2 := hs2.symm; replace hb1 := hb1.belowSize hw2; have hB := hw1.trans (hw2.mono hw1.size); have c4 := (hb1.cell 4).trans (show _ = some (.slice ah hm.length ch) from rfl))
        | (refine wpList_run (op := ⟨some 13, _, _, _, _, _⟩) rfl _ _ (run_built1 _ _ _ rfl _ rfl _ (builtB a n cap)) ?_)
        | (refine wpList_storeRow (op := ⟨none, .store 58 (.tmp 4) (.tmp 13), _, _, _, _⟩) rfl _ _ _ rfl w1.heap.size (bc (.slice a n cap) false (.slice none 0 0)) rfl rfl _ _ hb2 (by simp only [bc_size]) (bc_info _ _ _) (bc_one _ _ _ _ _ _ _) ?_; intro w4 hg4 hs4 hb4; clear hs4; have hB4 := hB.trans (below_of_grown hg4 hw1.size hB.size))))
    refine bodyPost_ret (v := .tuple #[.agg (bc (.slice a n cap) false (.slice none 0 0)), .bool true]) ?_ rfl (by unfold boP; exact ⟨hB4, .inl ⟨hxy2.out, rfl⟩⟩)
    exact res_cv rfl _ _ w1.heap.size _ _ _ _ rfl rfl hb4 Tryz.underlying58 rfl (bc_info _ _ _)
  · have HE1 : ∀ w1, IA w1 ah hm → IA w1 am mem → Calls Tryz.prog 100 #[.slice ah hm.length ch, .slice am mem.length cm] w1 (fun e w' => e = .returned (.bool false) ∧ Below w1.heap.size w1 w') := fun w1 k1 k2 => (HE w1 k1 k2).mono fun e w' ⟨yb, he, hy, hb⟩ => by
      cases yb
      · exact ⟨he, hb⟩
      · exact absurd (hy.1 rfl) hxy
    have hxy2 : Hid (hm ≠ mem) := hxy
    clear HE hxy
    by_cases hn : 0 < n
    · have hd : decide (0 < (n : Int)) = true := decide_eq_true (by omega)
      have hn2 : Hid (0 < n) := hn
      clear hn
      go_enter Tryz.func118, Tryz.ntmps118
      go_wp2_with (first
      | (go_at_call 100; refine (HE1 _ (h.below hB) (h2.below hB)).mono ?_; rintro e w3 ⟨rfl, hw3⟩; clear HE1 c4; replace hb1 := hb1.belowSize hw3; replace hb2 := hb2.belowSize hw3; replace hB := hB.trans (hw3.mono hB.size); clear hw3; have c4 := (hb1.cell 4).trans (show _ = some (.slice ah hm.length ch) from rfl); have c5 := (hb1.cell 5).trans (bk_g5 _ _ _ _ _ _))
      | (with_reducible refine at_list ?_; first
        | (refine wpList_boxRow (op := ⟨some 2, _, _, _, _, _⟩) rfl _ _ rfl _ rfl ?_; intro w1 hw1 hs1 hb1; replace hs1 := hs1.symm)
        | (refine wpList_allocRow (op := ⟨some 4, _, _, _, _, _⟩) rfl _ rfl _ zB.1 ?_; intro w2 hw2 hs2 hb2; replace hs2 := hs2.symm; replace hb1 := hb1.belowSize hw2; have hB := hw1.trans (hw2.mono hw1.size); have c4 := (hb1.cell 4).trans (show _ = some (.slice ah hm.length ch) from rfl))
        | (refine wpList_build (o := ⟨some 18, _, _, _, _, _⟩) rfl _ _ rfl builtBnil ?_)
        | (refine wpList_storeRow (op := ⟨none, .store 58 (.tmp 4) (.tmp 18), _, _, _, _⟩) rfl _ _ _ rfl w1.heap.size (bc (.slice none 0 0) false (.slice none 0 0)) rfl rfl _ _ hb2 (by simp only [bc_size]) (bc_info _ _ _) (bc_one _ _ _ _ _ _ _) ?_; intro w4 hg4 hs4 hb4; clear hs4; have hB4 := hB.trans (below_of_grown hg4 hw1.size hB.size))))
      refine bodyPost_ret (v := .tuple #[.agg (bc (.slice none 0 0) false (.slice none 0 0)), .bool false]) ?_ rfl (by unfold boP; exact ⟨hB4, .inr (.inl ⟨hxy2.out, hn2.out, rfl⟩)⟩)
      exact res_cv rfl _ _ w1.heap.size _ _ _ _ rfl rfl hb4 Tryz.underlying58 rfl (bc_info _ _ _)
    · obtain rfl : n = 0 := by omega
      clear hn
      go_enter Tryz.func118, Tryz.ntmps118
      go_wp2_with (first
      | (go_at_call 100; refine (HE1 _ (h.below hB) (h2.below hB)).mono ?_; rintro e w3 ⟨rfl, hw3⟩; clear HE1 c4; replace hb1 := hb1.belowSize hw3; replace hb2 := hb2.belowSize hw3; replace hB := hB.trans (hw3.mono hB.size); clear hw3; have c4 := (hb1.cell 4).trans (show _ = some (.slice ah hm.length ch) from rfl); have c5 := (hb1.cell 5).trans (bk_g5 _ _ _ _ _ _))
      | (with_reducible refine at_list ?_; first
        | (refine wpList_boxRow (op := ⟨some 2, _, _, _, _, _⟩) rfl _ _ rfl _ rfl ?_; intro w1 hw1 hs1 hb1; replace hs1 := hs1.symm)
        | (refine wpList_allocRow (op := ⟨some 4, _, _, _, _, _⟩) rfl _ rfl _ zB.1 ?_; intro w2 hw2 hs2 hb2; replace hs2 := hs2.symm; replace hb1 := hb1.belowSize hw2; have hB := hw1.trans (hw2.mono hw1.size); have c4 := (hb1.cell 4).trans (show _ = some (.slice ah hm.length ch) from rfl))
        | (refine wpList_run (op := ⟨some 22, _, _, _, _, _⟩) rfl _ _ (run_built2 _ _ _ _ _ rfl _ _ rfl rfl _ (builtBconf ah hm.length ch)) ?_)
        | (refine wpList_storeRow (op := ⟨none, .store 58 (.tmp 4) (.tmp 22), _, _, _, _⟩) rfl _ _ _ rfl w1.heap.size (bc (.slice none 0 0) true (.slice ah hm.length ch)) rfl rfl _ _ hb2 (by simp only [bc_size]) (bc_info _ _ _) (bc_one _ _ _ _ _ _ _) ?_; intro w4 hg4 hs4 hb4; clear hs4; have hB4 := hB.trans (below_of_grown hg4 hw1.size hB.size))))
      refine bodyPost_ret (v := .tuple #[.agg (bc (.slice none 0 0) true (.slice ah hm.length ch)), .bool true]) ?_ rfl (by unfold boP; exact ⟨hB4, .inr (.inr ⟨hxy2.out, rfl, rfl⟩)⟩)
      exact res_cv rfl _ _ w1.heap.size _ _ _ _ rfl rfl hb4 Tryz.underlying58 rfl (bc_info _ _ _)
end
end Go.Proofs.YtmbdhngoldganaaGreatDoor
