/- What mayBe and the function that Check hands in do. What IndexFunc, ContainsFunc and Check do. -/
import Derived.Test.YtdikilhobmkpkaaGreatDoorOpc
namespace Go.Proofs.YtdikilhobmkpkaaGreatDoor
open Go Go.RowKit
set_option maxRecDepth 100000 in
set_option maxHeartbeats 400000 in
theorem mayBe_any (o : O) (w : World) : Calls Tryz.prog 56 #[.agg (opc o)] w fun e w' => e = .returned (.bool (okOp o)) ∧ Below w.heap.size w w' := by
  obtain ⟨k, key, vv⟩ := o
  by_cases h0 : key.length = 0
  · have hk : key = [] := List.length_eq_zero_iff.1 h0
    subst hk
    have HE : Hid (okOp ⟨k, [], vv⟩ = false) := decide_eq_false (by simp)
    rw [HE.out]
    go_enter Tryz.func56, Tryz.ntmps56
    go_wp2_with (with_reducible refine at_list ?_; refine wpList_boxRow (op := ⟨some 1, _, _, _, _, _⟩) rfl _ _ rfl _ rfl ?_; intro w1 hw1 hs1 hb1; replace hs1 := hs1.symm; have c0 := (hb1.cell 0).trans (opc_g0 _); have c1 := (hb1.cell 1).trans (opc_g1 _); have c2 := (hb1.cell 2).trans (opc_g2 _))
    go_ret
    exact ⟨rfl, hw1⟩
  · have hd0 : ((key.length : Int) == 0) = false := by rw [beq_eq_false_iff_ne]; omega
    by_cases h1 : 32 < key.length
    · have HE : Hid (okOp ⟨k, key, vv⟩ = false) := decide_eq_false (by simp only; omega)
      rw [HE.out]
      go_enter Tryz.func56, Tryz.ntmps56
      go_wp2_with (with_reducible refine at_list ?_; refine wpList_boxRow (op := ⟨some 1, _, _, _, _, _⟩) rfl _ _ rfl _ rfl ?_; intro w1 hw1 hs1 hb1; replace hs1 := hs1.symm; have c0 := (hb1.cell 0).trans (opc_g0 _); have c1 := (hb1.cell 1).trans (opc_g1 _); have c2 := (hb1.cell 2).trans (opc_g2 _))
      go_ret
      exact ⟨rfl, hw1⟩
    · have hd1 : decide (32 < (key.length : Int)) = false := decide_eq_false (by omega)
      by_cases hk1 : k = 1
      · subst hk1
        have HE : Hid (okOp ⟨1, key, vv⟩ = decide ((vv.length : Int) ≤ 64)) := decide_eq_decide.2 ⟨fun h => by obtain ⟨_, _, h | h⟩ := h; exact (by have := h.2; dsimp only at this; omega); exact absurd h.1 (by dsimp only; decide), fun h => ⟨h0, by dsimp only; omega, .inl ⟨by dsimp only; decide, by dsimp only; omega⟩⟩⟩
        rw [HE.out]
        go_enter Tryz.func56, Tryz.ntmps56
        go_wp2_with (with_reducible refine at_list ?_; refine wpList_boxRow (op := ⟨some 1, _, _, _, _, _⟩) rfl _ _ rfl _ rfl ?_; intro w1 hw1 hs1 hb1; replace hs1 := hs1.symm; have c0 := (hb1.cell 0).trans (opc_g0 _); have c1 := (hb1.cell 1).trans (opc_g1 _); have c2 := (hb1.cell 2).trans (opc_g2 _))
        go_ret
        exact ⟨rfl, hw1⟩
      have hb1 : (k == 1) = false := by rw [beq_eq_false_iff_ne]; exact hk1
      by_cases hk3 : k = 3
      · subst hk3
        have HE : Hid (okOp ⟨3, key, vv⟩ = decide ((vv.length : Int) ≤ 64)) := decide_eq_decide.2 ⟨fun h => by obtain ⟨_, _, h | h⟩ := h; exact (by have := h.2; dsimp only at this; omega); exact absurd h.1 (by dsimp only; decide), fun h => ⟨h0, by dsimp only; omega, .inl ⟨by dsimp only; decide, by dsimp only; omega⟩⟩⟩
        rw [HE.out]
        go_enter Tryz.func56, Tryz.ntmps56
        go_wp2_with (with_reducible refine at_list ?_; refine wpList_boxRow (op := ⟨some 1, _, _, _, _, _⟩) rfl _ _ rfl _ rfl ?_; intro w1 hw1 hs1 hb1; replace hs1 := hs1.symm; have c0 := (hb1.cell 0).trans (opc_g0 _); have c1 := (hb1.cell 1).trans (opc_g1 _); have c2 := (hb1.cell 2).trans (opc_g2 _))
        go_ret
        exact ⟨rfl, hw1⟩
      have hb3 : (k == 3) = false := by rw [beq_eq_false_iff_ne]; exact hk3
      by_cases hk2 : k = 2
      · subst hk2
        have HE : Hid (okOp ⟨2, key, vv⟩ = vv.isEmpty) := by
          cases vv with
          | nil => exact decide_eq_true ⟨h0, by dsimp only; omega, .inr ⟨by dsimp only; decide, rfl⟩⟩
          | cons x r => exact decide_eq_false (by simp only [List.length_cons]; omega)
        rw [HE.out]
        go_enter Tryz.func56, Tryz.ntmps56
        go_wp2_with (with_reducible refine at_list ?_; refine wpList_boxRow (op := ⟨some 1, _, _, _, _, _⟩) rfl _ _ rfl _ rfl ?_; intro w1 hw1 hs1 hb1; replace hs1 := hs1.symm; have c0 := (hb1.cell 0).trans (opc_g0 _); have c1 := (hb1.cell 1).trans (opc_g1 _); have c2 := (hb1.cell 2).trans (opc_g2 _))
        go_ret
        exact ⟨rfl, hw1⟩
      have hb2 : (k == 2) = false := by rw [beq_eq_false_iff_ne]; exact hk2
      by_cases hk4 : k = 4
      · subst hk4
        have HE : Hid (okOp ⟨4, key, vv⟩ = vv.isEmpty) := by
          cases vv with
          | nil => exact decide_eq_true ⟨h0, by dsimp only; omega, .inr ⟨by dsimp only; decide, rfl⟩⟩
          | cons x r => exact decide_eq_false (by simp only [List.length_cons]; omega)
        rw [HE.out]
        go_enter Tryz.func56, Tryz.ntmps56
        go_wp2_with (with_reducible refine at_list ?_; refine wpList_boxRow (op := ⟨some 1, _, _, _, _, _⟩) rfl _ _ rfl _ rfl ?_; intro w1 hw1 hs1 hb1; replace hs1 := hs1.symm; have c0 := (hb1.cell 0).trans (opc_g0 _); have c1 := (hb1.cell 1).trans (opc_g1 _); have c2 := (hb1.cell 2).trans (opc_g2 _))
        go_ret
        exact ⟨rfl, hw1⟩
      have hb4 : (k == 4) = false := by rw [beq_eq_false_iff_ne]; exact hk4
      have HE : Hid (okOp ⟨k, key, vv⟩ = false) := decide_eq_false (by simp only; omega)
      rw [HE.out]
      go_enter Tryz.func56, Tryz.ntmps56
      go_wp2_with (with_reducible refine at_list ?_; refine wpList_boxRow (op := ⟨some 1, _, _, _, _, _⟩) rfl _ _ rfl _ rfl ?_; intro w1 hw1 hs1 hb1; replace hs1 := hs1.symm; have c0 := (hb1.cell 0).trans (opc_g0 _); have c1 := (hb1.cell 1).trans (opc_g1 _); have c2 := (hb1.cell 2).trans (opc_g2 _))
      go_ret
      exact ⟨rfl, hw1⟩
set_option maxRecDepth 100000 in
theorem fnot_any (o : O) (w : World) : Calls Tryz.prog 55 #[.agg (opc o)] w fun e w' => e = .returned (.bool (!okOp o)) ∧ Below w.heap.size w w' := by
  have HM := fun w => mayBe_any o w
  go_enter Tryz.func55, Tryz.ntmps55
  go_wp2_with (first
    | (go_at_call 56; refine (HM _).mono ?_; rintro e w2 ⟨rfl, hw2⟩)
    | (with_reducible refine at_list ?_; first
      | (refine wpList_boxRow (op := ⟨some 1, _, _, _, _, _⟩) rfl _ _ rfl _ rfl ?_; intro w1 hw1 hs1 hb1; replace hs1 := hs1.symm)
      | (refine wpList_loadRow (op := ⟨some 3, _, _, _, _, _⟩) rfl _ _ rfl w.heap.size rfl _ _ hb1 _ Tryz.underlying59 rfl (by rw [opc_size]; exact zOp.2) ?_)))
  go_ret
  exact ⟨rfl, hw1.trans (hw2.mono hw1.size)⟩
end Go.Proofs.YtdikilhobmkpkaaGreatDoor
namespace Go.Proofs.YtdikilhobmkpkaaGreatDoor
open Go Go.RowKit
/-- A load of an operation out of the middle of a block. -/
theorem wpList_loadOp {P : Program} {ops : Array Oper} {rest : List Oper} {op : Oper} {a : Act} {w : World} {Q : Exit → Act → World → Prop} (hgd : op.guard = none) (ty : TypeId) (x : Operand) (ho : op.op = .load ty x) (b o : Nat) (hx : a.eval x = .pointer (some ⟨b, o, none⟩))
    (c : Array Value) (hb : w.rangeAt b o c.toList) (d : TypeDesc) (hu : P.underlying ty = some d) (hd : d.isRow = true) (hi : (P.info? ty).map (·.size) = some c.size)
    (h : wpList P ops Q rest (a.put op.dst (.agg c)) w) : wpList P ops Q (op :: rest) a w := by
  refine wpList_load_mid hgd ty x ho b o hx c.toList d hb hu hd (by simpa using hi) ?_
  simpa using h
/-- The number of the first that may not be. -/
def bad (l : List O) : Int := if l.all okOp = true then -1 else ((l.findIdx (fun o => !okOp o) : Nat) : Int)
set_option maxRecDepth 100000 in
set_option maxHeartbeats 400000 in
theorem index_any (a : Option Addr) (l : List O) (cap : Nat) (w : World) (h : SL w a l) (hl : l.length ≤ 1000) : Calls Tryz.prog 78 #[.slice a l.length cap, .func (.func 55) #[] #[]] w fun e w' => (∃ z : Int, e = .returned (.int .i64 z) ∧ (decide (0 ≤ z) = !l.all okOp)) ∧ Below w.heap.size w w' := by
  go_enter Tryz.func78, Tryz.ntmps78
  go_wp2_with fail
  go_loopw [8] (fun v8 wl => ∃ i : Nat, i ≤ l.length ∧ v8 = .int .i64 i ∧ Below w.heap.size w wl ∧ Hid ((l.take i).all okOp = true)) (fun v8 _ => l.length - (intOf v8).toNat)
  case atStart => exact ⟨0, by omega, rfl, Below.refl _ _, by simp; trivial⟩
  case round =>
    obtain ⟨i, hi, rfl, hB, hA⟩ := hrel
    by_cases hlt : i < l.length
    · obtain ⟨g, o, rfl⟩ := h.ex (by omega)
      have hr := (h.below hB).at i hlt
      have HF := fun w => fnot_any l[i] w
      have hT : Hid ((l.take (i + 1)).all okOp = ((l.take i).all okOp && okOp l[i])) := by
        rw [List.take_succ_eq_append_getElem hlt, List.all_append]
        simp
        trivial
      have hm : Hid (okOp l[i] = false → l.all okOp = false) := fun hf => by
        rw [← Bool.not_eq_true]
        intro hall
        rw [List.all_eq_true.1 hall _ (List.getElem_mem hlt)] at hf
        cases hf
      generalize l[i] = x at *
      cases hok : okOp x
      · rw [hok] at HF
        have hm := hm.out hok
        clear hok
        go_wp2_with (first
          | (go_at_call 55; refine (HF _).mono ?_; rintro e w2 ⟨rfl, hw2⟩)
          | (with_reducible refine at_list ?_; first
            | (refine wpList_loadOp (op := ⟨some 15, _, _, _, _, _⟩) rfl _ _ rfl g (o + i * 3) rfl (opc x) hr _ Tryz.underlying59 rfl (by rw [opc_size]; exact zOp.2) ?_)))
        go_ret
        exact ⟨⟨_, rfl, by rw [hm]; simp⟩, hB.trans (hw2.mono hB.size)⟩
      · rw [hok] at HF
        have hT := hT.out
        rw [hA.out, hok] at hT
        have hT2 : Hid ((l.take (i + 1)).all okOp = true) := hT
        clear hok hm hA hT
        go_wp2_with (first
          | (go_at_call 55; refine (HF _).mono ?_; rintro e w2 ⟨rfl, hw2⟩)
          | (with_reducible refine at_list ?_; first
            | (refine wpList_loadOp (op := ⟨some 15, _, _, _, _, _⟩) rfl _ _ rfl g (o + i * 3) rfl (opc x) hr _ Tryz.underlying59 rfl (by rw [opc_size]; exact zOp.2) ?_)))
        go_roundw
        case rel => exact ⟨i + 1, by omega, by go_num, hB.trans (hw2.mono hB.size), hT2⟩
        case measure => simp [intOf]; omega
    · have hA2 : Hid (l.all okOp = true) := by
        have := hA.out
        rw [List.take_of_length_le (by omega)] at this
        exact this
      go_wp2_with fail
      go_ret
      exact ⟨⟨_, rfl, by rw [hA2.out]; rfl⟩, hB⟩
set_option maxRecDepth 100000 in
theorem contains_any (a : Option Addr) (l : List O) (cap : Nat) (w : World) (h : SL w a l) (hl : l.length ≤ 1000) : Calls Tryz.prog 54 #[.slice a l.length cap, .func (.func 55) #[] #[]] w fun e w' => e = .returned (.bool (!l.all okOp)) ∧ Below w.heap.size w w' := by
  have HI := index_any a l cap w h hl
  generalize l.all okOp = y at *
  go_enter Tryz.func54, Tryz.ntmps54
  go_wp2_with (go_at_call 78; refine HI.mono ?_; rintro e w1 ⟨⟨z, rfl, hz⟩, hw1⟩)
  go_ret
  exact ⟨by rw [← hz]; rfl, hw1⟩
theorem txc_nil : txc 0 0 (.slice none 0 0) = #[.int .u64 0, .int .u64 0, .slice none 0 0] := rfl
set_option maxRecDepth 100000 in
set_option maxHeartbeats 400000 in
theorem check_any (t : TX) (a : Option Addr) (cap : Nat) (w : World) (h : SL w a t.ops) : Calls Tryz.prog 23 #[.agg (txc t.client t.nonce (.slice a t.ops.length cap))] w fun e w' => e = .returned (.int .i64 (chk t)) ∧ Below w.heap.size w w' := by
  obtain ⟨c, n, l⟩ := t
  by_cases h1 : n = 0 ∨ l.length = 0 ∨ 8 < l.length
  · have HE : Hid (chk ⟨c, n, l⟩ = 40) := chk_not (fun x => by have := okTx_of x; have h2 := this.nonce; have h3 := this.len0; have h4 := this.len1; simp only at h2 h3 h4; omega)
    rw [HE.out]
    dsimp only at h ⊢
    by_cases hn : n = 0
    · subst hn
      go_enter Tryz.func23, Tryz.ntmps23
      go_wp2_with (with_reducible refine at_list ?_; first
      | (refine wpList_boxRow (op := ⟨some 1, _, _, _, _, _⟩) rfl _ _ rfl _ rfl ?_; intro w1 hw1 hs1 hb1; replace hs1 := hs1.symm; have c1 := (hb1.cell 1).trans (txc_g1 _ _ _); have c2 := (hb1.cell 2).trans (txc_g2 _ _ _)))
      go_ret
      exact ⟨rfl, hw1⟩
    · have hb : ((n : Int) == 0) = false := by rw [beq_eq_false_iff_ne]; omega
      by_cases hl0 : l.length = 0
      · have hl : l = [] := List.length_eq_zero_iff.1 hl0
        subst hl
        go_enter Tryz.func23, Tryz.ntmps23
        go_wp2_with (with_reducible refine at_list ?_; first
      | (refine wpList_boxRow (op := ⟨some 1, _, _, _, _, _⟩) rfl _ _ rfl _ rfl ?_; intro w1 hw1 hs1 hb1; replace hs1 := hs1.symm; have c1 := (hb1.cell 1).trans (txc_g1 _ _ _); have c2 := (hb1.cell 2).trans (txc_g2 _ _ _)))
        go_ret
        exact ⟨rfl, hw1⟩
      · have hb2 : ((l.length : Int) == 0) = false := by rw [beq_eq_false_iff_ne]; omega
        have hb3 : decide (8 < (l.length : Int)) = true := decide_eq_true (by omega)
        go_enter Tryz.func23, Tryz.ntmps23
        go_wp2_with (with_reducible refine at_list ?_; first
      | (refine wpList_boxRow (op := ⟨some 1, _, _, _, _, _⟩) rfl _ _ rfl _ rfl ?_; intro w1 hw1 hs1 hb1; replace hs1 := hs1.symm; have c1 := (hb1.cell 1).trans (txc_g1 _ _ _); have c2 := (hb1.cell 2).trans (txc_g2 _ _ _)))
        go_ret
        exact ⟨rfl, hw1⟩
  · have hb : ((n : Int) == 0) = false := by rw [beq_eq_false_iff_ne]; omega
    have hb2 : ((l.length : Int) == 0) = false := by rw [beq_eq_false_iff_ne]; omega
    have hb3 : decide (8 < (l.length : Int)) = false := decide_eq_false (by omega)
    have HE : Hid (chk ⟨c, n, l⟩ = if l.all okOp = true then 0 else 40) := by
      unfold chk okTx
      rw [show decide ((⟨c, n, l⟩ : TX).nonce ≠ 0 ∧ (⟨c, n, l⟩ : TX).ops.length ≠ 0 ∧ (⟨c, n, l⟩ : TX).ops.length ≤ 8) = true from decide_eq_true (by dsimp only; omega), Bool.true_and]
      exact rfl
    rw [HE.out]
    dsimp only at h ⊢
    have HC := fun w (h : SL w a l) => contains_any a l cap w h (by omega)
    cases hal : l.all okOp
    · rw [hal] at HC
      clear hal
      go_enter Tryz.func23, Tryz.ntmps23
      go_wp2_with (first
    | (go_at_call 54; refine (HC _ (h.below hw1)).mono ?_; rintro e w2 ⟨rfl, hw2⟩)
    | (with_reducible refine at_list ?_; first
      | (refine wpList_boxRow (op := ⟨some 1, _, _, _, _, _⟩) rfl _ _ rfl _ rfl ?_; intro w1 hw1 hs1 hb1; replace hs1 := hs1.symm; have c1 := (hb1.cell 1).trans (txc_g1 _ _ _); have c2 := (hb1.cell 2).trans (txc_g2 _ _ _))))
      go_ret
      exact ⟨rfl, hw1.trans (hw2.mono hw1.size)⟩
    · rw [hal] at HC
      clear hal
      go_enter Tryz.func23, Tryz.ntmps23
      go_wp2_with (first
    | (go_at_call 54; refine (HC _ (h.below hw1)).mono ?_; rintro e w2 ⟨rfl, hw2⟩)
    | (with_reducible refine at_list ?_; first
      | (refine wpList_boxRow (op := ⟨some 1, _, _, _, _, _⟩) rfl _ _ rfl _ rfl ?_; intro w1 hw1 hs1 hb1; replace hs1 := hs1.symm; have c1 := (hb1.cell 1).trans (txc_g1 _ _ _); have c2 := (hb1.cell 2).trans (txc_g2 _ _ _))))
      go_ret
      exact ⟨rfl, hw1.trans (hw2.mono hw1.size)⟩
end Go.Proofs.YtdikilhobmkpkaaGreatDoor
