/- What Equal and Same do. -/
import Derived.Test.YtncoifkchoiiaaaDoorOsl
import Derived.Test.YtncoifkchoiiaaaDoorChk
import Derived.Deep.RegionHeld3
namespace Go.Proofs.YtncoifkchoiiaaaDoor
open Go Go.RowKit
def sameO (x y : O) : Bool := decide (x.kind = y.kind) && decide (x.key = y.key) && decide (x.val = y.val)
theorem sameO_iff (x y : O) : sameO x y = true ↔ x = y := by
  obtain ⟨a, b, c⟩ := x
  obtain ⟨d, e, f⟩ := y
  simp [sameO, and_assoc]
theorem eqInt (a b : Int) (w : World) : (Op.equalIn 9999 3 (.int .i64 a) (.int .i64 b)).run Tryd.prog w = .ok (decide (a = b)) w := by
  go_simp
  rw [Bool.eq_iff_iff]; simp
theorem eqStr (a b : List UInt8) (w : World) : (Op.equalIn 9999 9 (.string ⟨a.toArray⟩) (.string ⟨b.toArray⟩)).run Tryd.prog w = .ok (decide (a = b)) w := by
  go_simp
  rw [Bool.eq_iff_iff]; simp
theorem run_neqOp {op : Oper} {a : Act} (x y : Operand) (ho : op.op = .binOp .neq 52 x y 52) (p q : O) (hx : a.eval x = .agg (opc p)) (hy : a.eval y = .agg (opc q)) (w : World) :
    (execOp a.eval op).run Tryd.prog w = .ok (.value (.bool (!sameO p q))) w := by
  unfold execOp
  simp only [ho, hx, hy]
  obtain ⟨k, key, vv⟩ := p
  obtain ⟨k2, key2, vv2⟩ := q
  go_simp
  simp only [opc_g0, opc_g1, opc_g2, Sem.run_pure, Result.andThen_ok, eqInt, eqStr]
  by_cases h1 : k = k2
  · by_cases h2 : key = key2
    · by_cases h3 : vv = vv2 <;> simp [h1, h2, h3, sameO]
    · simp [h1, h2, sameO]
  · simp [h1, sameO]
theorem run_loadMid {P : Program} {op : Oper} {a : Act} {w : World} (ty : TypeId) (x : Operand) (ho : op.op = .load ty x) (b o : Nat) (hx : a.eval x = .pointer (some ⟨b, o, none⟩))
    (c : Array Value) (hb : w.rangeAt b o c.toList) (d : TypeDesc) (hu : P.underlying ty = some d) (hd : d.isRow = true) (hi : (P.info? ty).map (·.size) = some c.size) :
    (execOp a.eval op).run P w = .ok (.value (.agg c)) w := by
  have hl := run_loadVar_mid (P := P) w b o ty c.toList d hb hu hd (by simpa using hi)
  rw [Array.toArray_toList] at hl
  unfold execOp
  simp only [ho, hx]
  simp [Instr.loadAt, Instr.sureAddr, hl]
theorem take_eq_iff (l m : List O) (h : l.length = m.length) : l.take l.length = m.take l.length ↔ l = m := by
  rw [List.take_length, h, List.take_length]
/-- What Equal and Same leave. -/
def EqP (w : World) (p : Prop) (e : Ending) (w' : World) : Prop := ∃ y : Bool, e = .returned (.bool y) ∧ (y = true ↔ p) ∧ Below w.heap.size w w'
set_option maxRecDepth 100000 in
set_option maxHeartbeats 400000 in
theorem equal_any (a a2 : Option Addr) (l m : List O) (cap cap2 : Nat) (w : World) (h : SL w a l) (h2 : SL w a2 m) (hl : l.length ≤ 1000000) : Calls Tryd.prog 37 #[.slice a l.length cap, .slice a2 m.length cap2] w (EqP w (l = m)) := by
  by_cases hlm : l.length = m.length
  · rw [← hlm]
    have hle1 : l.length ≤ m.length := by omega
    have hle2 : m.length ≤ l.length := by omega
    clear hlm
    go_enter Tryd.func37, Tryd.ntmps37
    go_wp2_with fail
    go_loopw [13] (fun v13 wl => ∃ i : Nat, i ≤ l.length ∧ v13 = .int .i64 i ∧ Below w.heap.size w wl ∧ Hid (l.take i = m.take i)) (fun v13 _ => l.length - (intOf v13).toNat)
    case atStart => exact ⟨0, by omega, rfl, Below.refl _ _, by exact rfl⟩
    case round =>
      obtain ⟨i, hi, rfl, hB, hA⟩ := hrel
      by_cases hlt : i < l.length
      · obtain ⟨g, o, rfl⟩ := h.ex (by omega)
        obtain ⟨g2, o2, rfl⟩ := h2.ex (by omega)
        have hr := (h.below hB).at i hlt
        have hr2 := (h2.below hB).at i (by omega)
        have hlt2 : i < m.length := by omega
        have hT : Hid (l.take (i + 1) = l.take i ++ [l[i]]) := List.take_succ_eq_append_getElem hlt
        have hT2 : Hid (m.take (i + 1) = m.take i ++ [m[i]]) := List.take_succ_eq_append_getElem hlt2
        have hne : Hid (l[i] ≠ m[i] → l ≠ m) := fun hd e => hd (by subst e; rfl)
        generalize l[i] = x at *
        generalize m[i] = y at *
        have hz1 : (0 : Int) ≤ (i : Int) := by omega
        have hz2 : (i : Int) < (l.length : Int) := by omega
        go_wp2_with fail
        refine wp_region_held_drew (S := fun w' => w'.rangeAt g (o + i * 3) (opc x).toList ∧ w'.rangeAt g2 (o2 + i * 3) (opc y).toList) (by kernel_rfl) ⟨hr, hr2⟩ (fun hHeld => ?_)
        clear hr hr2
        refine wpAnyH_take (i := 0) (oi := ⟨some 16, _, _, _, _, _⟩) (v := .slice (some ⟨g, o, none⟩) l.length cap) rfl (by kernel_rfl) (by kernel_rfl) (by kernel_rfl) (fun _ _ _ h => h) (Or.inl ⟨by rfl, fun w hSw => by go_simp⟩) hHeld ?_
        refine wpAnyH_take (i := 1) (oi := ⟨some 17, _, _, _, _, _⟩) (v := .int .i64 (i : Nat)) rfl (by kernel_rfl) (by kernel_rfl) (by kernel_rfl) (fun _ _ _ h => h) (Or.inl ⟨by rfl, fun w hSw => by go_simp⟩) hHeld ?_
        refine wpAnyH_take (i := 2) (oi := ⟨some 18, _, _, _, _, _⟩) (v := .pointer (some ⟨g, o + i * 3, none⟩)) rfl (by kernel_rfl) (by kernel_rfl) (by kernel_rfl) (fun _ _ _ h => h) (Or.inl ⟨by rfl, fun w hSw => by go_simp⟩) hHeld ?_
        simp only [Act.put, List.setIfInBounds_toArray, List.set_cons_zero, List.set_cons_succ]
        refine wpAnyH_take (i := 3) (oi := ⟨some 19, _, _, _, _, _⟩) (v := .agg (opc x)) rfl (by kernel_rfl) (by kernel_rfl) (by kernel_rfl) (fun _ _ _ h => h) (Or.inl ⟨by rfl, fun w hSw => run_loadMid _ _ rfl _ _ rfl _ hSw.1 _ Tryd.underlying52 rfl (by rw [opc_size]; exact zOp.2)⟩) hHeld ?_
        simp only [Act.put, List.setIfInBounds_toArray, List.set_cons_zero, List.set_cons_succ]
        refine wpAnyH_take (i := 4) (oi := ⟨some 20, _, _, _, _, _⟩) (v := .slice (some ⟨g2, o2, none⟩) l.length cap2) rfl (by kernel_rfl) (by kernel_rfl) (by kernel_rfl) (fun _ _ _ h => h) (Or.inl ⟨by rfl, fun w hSw => by go_simp⟩) hHeld ?_
        refine wpAnyH_take (i := 5) (oi := ⟨some 21, _, _, _, _, _⟩) (v := .int .i64 (i : Nat)) rfl (by kernel_rfl) (by kernel_rfl) (by kernel_rfl) (fun _ _ _ h => h) (Or.inl ⟨by rfl, fun w hSw => by go_simp⟩) hHeld ?_
        refine wpAnyH_take (i := 6) (oi := ⟨some 22, _, _, _, _, _⟩) (v := .pointer (some ⟨g2, o2 + i * 3, none⟩)) rfl (by kernel_rfl) (by kernel_rfl) (by kernel_rfl) (fun _ _ _ h => h) (Or.inl ⟨by rfl, fun w hSw => by go_simp⟩) hHeld ?_
        simp only [Act.put, List.setIfInBounds_toArray, List.set_cons_zero, List.set_cons_succ]
        refine wpAnyH_take (i := 7) (oi := ⟨some 23, _, _, _, _, _⟩) (v := .agg (opc y)) rfl (by kernel_rfl) (by kernel_rfl) (by kernel_rfl) (fun _ _ _ h => h) (Or.inl ⟨by rfl, fun w hSw => run_loadMid _ _ rfl _ _ rfl _ hSw.2 _ Tryd.underlying52 rfl (by rw [opc_size]; exact zOp.2)⟩) hHeld ?_
        simp only [Act.put, List.setIfInBounds_toArray, List.set_cons_zero, List.set_cons_succ]
        refine wpAnyH_take (i := 8) (oi := ⟨some 24, _, _, _, _, _⟩) (v := .bool (!sameO x y)) rfl (by kernel_rfl) (by kernel_rfl) (by kernel_rfl) (fun _ _ _ h => h) (Or.inl ⟨by rfl, fun w hSw => run_neqOp _ _ rfl x y rfl rfl w⟩) hHeld ?_
        refine wpAnyH_done (by kernel_rfl) ?_ _
        simp only [Act.put]
        clear hHeld
        have hBd := hB.trans ((Below.refl w.heap.size wr).drew)
        by_cases hxy : x = y
        · have hs : sameO x y = true := (sameO_iff x y).2 hxy
          have hA2 : Hid (l.take (i + 1) = m.take (i + 1)) := by rw [hT.out, hT2.out, hA.out, hxy]; exact rfl
          rw [hs]
          clear hT hT2 hA hne
          go_simp
          go_wp2_with fail
          go_roundw
          case rel => exact ⟨i + 1, by omega, by go_num, hBd, hA2⟩
          case measure => simp [intOf]; omega
        · have hs : sameO x y = false := by rw [← Bool.not_eq_true, sameO_iff]; exact hxy
          have hn := hne.out hxy
          rw [hs]
          clear hT hT2 hA hne
          go_simp
          go_wp2_with fail
          go_ret
          exact ⟨false, rfl, by simp [hn], hBd⟩
      · have hA2 := hA.out
        rw [List.take_of_length_le (show l.length ≤ i by omega), List.take_of_length_le (show m.length ≤ i by omega)] at hA2
        have hA3 : Hid (l = m) := hA2
        clear hA2 hA
        go_wp2_with fail
        go_ret
        exact ⟨true, rfl, by simp [hA3.out], hB⟩
  · have hne : ((l.length : Int) != (m.length : Int)) = true := by simp; omega
    have hn : Hid (l ≠ m) := fun e => hlm (by rw [e])
    go_enter Tryd.func37, Tryd.ntmps37
    go_wp2_with fail
    go_ret
    exact ⟨false, rfl, by simp [hn.out], Below.refl _ _⟩
set_option maxRecDepth 100000 in
set_option maxHeartbeats 400000 in
theorem same_any (s t : TX) (a a2 : Option Addr) (cap cap2 : Nat) (w : World) (h : SL w a s.ops) (h2 : SL w a2 t.ops) (hl : s.ops.length ≤ 1000000) :
    Calls Tryd.prog 17 #[.agg (txc s.client s.nonce (.slice a s.ops.length cap)), .agg (txc t.client t.nonce (.slice a2 t.ops.length cap2))] w (EqP w (s = t)) := by
  obtain ⟨c, n, l⟩ := s
  obtain ⟨c', n', m⟩ := t
  dsimp only at *
  by_cases hc : c = c'
  · subst hc
    by_cases hn : n = n'
    · subst hn
      have HQ := fun w' (hB : Below w.heap.size w w') => equal_any a a2 l m cap cap2 w' (h.below hB) (h2.below hB) hl
      have HP : Hid ((⟨c, n, l⟩ : TX) = ⟨c, n, m⟩ ↔ l = m) := by simp; trivial
      go_enter Tryd.func17, Tryd.ntmps17
      go_wp2_with (first
      | (go_at_call 37; refine (HQ _ (hw1.trans (hw2.mono hw1.size))).mono ?_; rintro e w3 ⟨y, rfl, hy, hw3⟩; clear HQ)
      | (with_reducible refine at_list ?_; first
        | (refine wpList_boxRow (op := ⟨some 2, _, _, _, _, _⟩) rfl _ _ rfl _ rfl ?_; intro w1 hw1 hs1 hb1; replace hs1 := hs1.symm)
        | (refine wpList_boxRow (op := ⟨some 3, _, _, _, _, _⟩) rfl _ _ rfl _ rfl ?_; intro w2 hw2 hs2 hb2; replace hs2 := hs2.symm; replace hb1 := hb1.belowSize hw2; have c0 := (hb1.cell 0).trans (txc_g0 _ _ _); have c1 := (hb1.cell 1).trans (txc_g1 _ _ _); have c2 := (hb1.cell 2).trans (txc_g2 _ _ _); have d0 := (hb2.cell 0).trans (txc_g0 _ _ _); have d1 := (hb2.cell 1).trans (txc_g1 _ _ _); have d2 := (hb2.cell 2).trans (txc_g2 _ _ _))))
      go_ret
      exact ⟨y, rfl, hy.trans HP.out.symm, (hw1.trans (hw2.mono hw1.size)).trans (hw3.mono (Nat.le_trans hw1.size hw2.size))⟩
    · have hb0 : ((n : Int) == (n' : Int)) = false := by rw [beq_eq_false_iff_ne]; omega
      have HP : Hid (¬ (⟨c, n, l⟩ : TX) = ⟨c, n', m⟩) := fun e => hn (by injection e)
      go_enter Tryd.func17, Tryd.ntmps17
      go_wp2_with (first
      | (with_reducible refine at_list ?_; first
        | (refine wpList_boxRow (op := ⟨some 2, _, _, _, _, _⟩) rfl _ _ rfl _ rfl ?_; intro w1 hw1 hs1 hb1; replace hs1 := hs1.symm)
        | (refine wpList_boxRow (op := ⟨some 3, _, _, _, _, _⟩) rfl _ _ rfl _ rfl ?_; intro w2 hw2 hs2 hb2; replace hs2 := hs2.symm; replace hb1 := hb1.belowSize hw2; have c0 := (hb1.cell 0).trans (txc_g0 _ _ _); have c1 := (hb1.cell 1).trans (txc_g1 _ _ _); have c2 := (hb1.cell 2).trans (txc_g2 _ _ _); have d0 := (hb2.cell 0).trans (txc_g0 _ _ _); have d1 := (hb2.cell 1).trans (txc_g1 _ _ _); have d2 := (hb2.cell 2).trans (txc_g2 _ _ _))))
      go_ret
      exact ⟨false, rfl, by simp [HP.out], hw1.trans (hw2.mono hw1.size)⟩
  · have hb0 : ((c : Int) == (c' : Int)) = false := by rw [beq_eq_false_iff_ne]; omega
    have HP : Hid (¬ (⟨c, n, l⟩ : TX) = ⟨c', n', m⟩) := fun e => hc (by injection e)
    go_enter Tryd.func17, Tryd.ntmps17
    go_wp2_with (first
      | (with_reducible refine at_list ?_; first
        | (refine wpList_boxRow (op := ⟨some 2, _, _, _, _, _⟩) rfl _ _ rfl _ rfl ?_; intro w1 hw1 hs1 hb1; replace hs1 := hs1.symm)
        | (refine wpList_boxRow (op := ⟨some 3, _, _, _, _, _⟩) rfl _ _ rfl _ rfl ?_; intro w2 hw2 hs2 hb2; replace hs2 := hs2.symm; replace hb1 := hb1.belowSize hw2; have c0 := (hb1.cell 0).trans (txc_g0 _ _ _); have c1 := (hb1.cell 1).trans (txc_g1 _ _ _); have c2 := (hb1.cell 2).trans (txc_g2 _ _ _); have d0 := (hb2.cell 0).trans (txc_g0 _ _ _); have d1 := (hb2.cell 1).trans (txc_g1 _ _ _); have d2 := (hb2.cell 2).trans (txc_g2 _ _ _))))
    go_ret
    exact ⟨false, rfl, by simp [HP.out], hw1.trans (hw2.mono hw1.size)⟩
end Go.Proofs.YtncoifkchoiiaaaDoor
