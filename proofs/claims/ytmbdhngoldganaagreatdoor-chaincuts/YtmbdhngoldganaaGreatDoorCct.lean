/- What Cut and Block of a chain do. -/
import Derived.Test.YtmbdhngoldganaaGreatDoorCbk
namespace Go.Proofs.YtmbdhngoldganaaGreatDoor
open Go Go.RowKit
section
variable {op : Oper} {a : Act} {w : World}
theorem run_minU {x y : Operand} {n k : Nat} (ho : op.op = .call { callee := .builtin .min, args := #[x, y], argTypes := #[36, 36] }) (hx : a.eval x = .int .u64 (n : Nat)) (hy : a.eval y = .int .u64 (k : Nat)) : (execOp a.eval op).run Tryz.prog w = .ok (.value (.int .u64 ((min n k : Nat) : Int))) w := by
  unfold execOp
  simp only [ho]
  simp [resolve, invoke, builtin, hx, hy, run_min_int2, Result.andThen]
  split <;> omega
theorem run_subUe {x y : Operand} {n k r : Nat} (ho : op.op = .binOp .sub 36 x y 36) (hx : a.eval x = .int .u64 (n : Nat)) (hy : a.eval y = .int .u64 (k : Nat)) (hk : k ≤ n) (hn : n < 18446744073709551616) (hr : n - k = r) : (execOp a.eval op).run Tryz.prog w = .ok (.value (.int .u64 (r : Nat))) w := by
  rw [← hr]
  exact run_subU ho hx hy hk hn
theorem run_convI {x : Operand} {n : Nat} (ho : op.op = .convert 36 3 x) (hx : a.eval x = .int .u64 (n : Nat)) (hn : n ≤ 1000000) : (execOp a.eval op).run Tryz.prog w = .ok (.value (.int .i64 (n : Nat))) w := by
  have hwr : IntKind.i64.wrap (n : Int) = (n : Int) := by
    unfold IntKind.wrap
    simp [IntKind.bits, IntKind.signed]
    omega
  unfold execOp
  simp only [ho, hx]
  simp [go_sem]
  exact hwr
end
/-- How many blocks go, and what is left. -/
def cutN' (c : CN) (h : Nat) : Nat := if h ≤ c.ht - c.kept.length then 0 else min h c.ht - (c.ht - c.kept.length)
def cutK (c : CN) (h : Nat) : CN := ⟨c.name, c.first, c.ht, c.hash, c.mem, c.m, c.t, c.kept.drop (cutN' c h)⟩
theorem cutN'_le {c : CN} (hok : OkC c) (h : Nat) : cutN' c h ≤ c.kept.length := by
  unfold cutN'
  have := hok.kept
  split <;> omega
theorem cutK_ok {c : CN} (hok : OkC c) (h : Nat) : OkC (cutK c h) := ⟨hok.first, hok.mem, hok.hash, hok.name, hok.sz, hok.canon, hok.ht, by
  show (c.kept.drop _).length ≤ c.ht
  rw [List.length_drop]
  have := hok.kept
  omega⟩
theorem BKL.drop {w : World} {ls : List (List Value)} {l : List BK} (h : BKL w ls l) (n : Nat) : BKL w (ls.drop n) (l.drop n) := ⟨by simp [h.len], fun i hi => by
  rw [List.length_drop] at hi
  obtain ⟨c, h1, h2⟩ := h.each (n + i) (by omega)
  refine ⟨c, by rw [List.getElem?_drop]; exact h1, ?_⟩
  rw [List.getElem_drop]
  exact h2⟩
theorem BKL.one {w : World} {ls : List (List Value)} {l : List BK} (h : BKL w ls l) : ∀ x ∈ ls, ∀ u ∈ x, u.oneCell' = true := fun x hx => by
  obtain ⟨i, hi, rfl⟩ := List.mem_iff_getElem.1 hx
  have hil : i < l.length := by rw [← h.len]; exact hi
  obtain ⟨c, h1, h2⟩ := h.each i hil
  rw [List.getElem?_eq_getElem hi] at h1
  obtain ⟨gm, cm, a, cap, h3, _⟩ := h2.ab
  rw [Option.some.inj h1, h3]
  exact bk_all _ _ _ _ _ _ _ _ _ _
theorem flat_drop {k : Nat} : ∀ {l : List (List Value)} (n : Nat), (∀ x ∈ l, x.length = k) → n ≤ l.length → (l.drop n).flatten = l.flatten.drop (n * k)
  | l, 0, _, _ => by simp
  | [], n + 1, _, h => by simp at h
  | x :: r, n + 1, hx, h => by
    rw [List.drop_succ_cons, flat_drop n (fun y hy => hx y (List.mem_cons_of_mem _ hy)) (by simpa using h), List.flatten_cons, Nat.succ_mul, Nat.add_comm, ← List.drop_drop, List.drop_left' (hx x List.mem_cons_self)]
/-- What Cut leaves. -/
def CuP (w : World) (N cb bs bt : Nat) (sl : Value) (c : CN) (h : Nat) (e : Ending) (w' : World) : Prop :=
  e = .returned (.int .i64 (cutN' c h : Nat)) ∧ ∃ sl', CH w' N cb bs bt sl' (cutK c h) ∧ Own (ownC cb bs bt sl) w w' ∧ (∀ r, Sh.slBlk sl' = some r → Sh.slBlk sl = some r ∨ w.heap.size ≤ r)
theorem run_slNil {op : Oper} {a : Act} {w : World} {x y : Operand} (ho : op.op = .slice 101 x (some y) none none) (hx : a.eval x = .slice none 0 0) (hy : a.eval y = .int .u64 0) : (execOp a.eval op).run Tryz.prog w = .ok (.value (.slice none 0 0)) w := by
  unfold execOp
  simp only [ho, hx, hy, Option.map_some, Option.map_none]
  simp [go_sem]
theorem run_slAt {op : Oper} {a : Act} {w : World} {x y : Operand} {g n kc k : Nat} (ho : op.op = .slice 101 x (some y) none none) (hx : a.eval x = .slice (some ⟨g, 0, none⟩) n kc) (hy : a.eval y = .int .u64 (k : Nat)) (hk : k ≤ n) : (execOp a.eval op).run Tryz.prog w = .ok (.value (.slice (some ⟨g, if kc = k then 0 else k * 6, none⟩) (n - k) (kc - k))) w := by
  have h1 : (0 : Int) ≤ (k : Int) := by omega
  have h2 : (k : Int) ≤ (n : Int) := by omega
  unfold execOp
  simp only [ho, hx, hy, Option.map_some, Option.map_none]
  simp [go_sem, h1, h2]
  split <;> rfl
set_option maxRecDepth 100000 in
set_option maxHeartbeats 4000000 in
theorem cutC_any (N cb bs bt : Nat) (sl : Value) (c : CN) (w : World) (hc : CH w N cb bs bt sl c) (hok : OkC c) (hkl : c.kept.length ≤ 1000000) (h : Nat) :
    Calls Tryz.prog 20 #[.pointer (some ⟨cb, 0, none⟩), .int .u64 (h : Nat)] w (CuP w N cb bs bt sl c h) := by
  have HB := baseC_any N cb bs bt sl c w hc hok hkl
  have hkt := hok.kept
  have hht := hok.ht
  by_cases hb : h ≤ c.ht - c.kept.length
  · have hbI : (h : Int) ≤ ((c.ht - c.kept.length : Nat) : Int) := by omega
    have hPost : Hid (∀ w', Below w.heap.size w w' → CuP w N cb bs bt sl c h (.returned (.int .i64 0)) w') := fun w' hw => by
      have e : cutN' c h = 0 := if_pos hb
      have e2 : cutK c h = c := by unfold cutK; rw [e, List.drop_zero]
      unfold CuP
      rw [e, e2]
      exact ⟨rfl, sl, hc.below hw, Own.of_below hw, fun r hr => .inl hr⟩
    generalize CuP w N cb bs bt sl c h = Post at *
    generalize c.ht - c.kept.length = base at *
    clear hc hok hkl hkt hht hb
    go_enter Tryz.func20, Tryz.ntmps20
    go_wp2_with (go_at_call 15; refine HB.mono ?_; rintro e w1 ⟨rfl, hw1⟩; clear HB)
    exact hPost.out _ hw1
  · have hbI : ¬ (h : Int) ≤ ((c.ht - c.kept.length : Nat) : Int) := by omega
    have hcn : cutN' c h = min h c.ht - (c.ht - c.kept.length) := if_neg hb
    have hmn : cutN' c h ≤ c.kept.length := cutN'_le hok h
    obtain ⟨gf, cf, gm0, cm0, hC, hCf, hCm⟩ := hc.blk
    obtain ⟨dls, hGL, hBL⟩ := hc.kept
    obtain ⟨hN2, hNc, hNs, hNt⟩ := hc.low
    have hdl := hBL.len
    have HC : ∀ w1, Below w.heap.size w w1 → ∃ v, (∀ (op : Oper) (a : Act) (x y : Operand) (w2 : World), op.op = .slice 101 x (some y) none none → a.eval x = sl → a.eval y = .int .u64 (cutN' c h : Nat) → (execOp a.eval op).run Tryz.prog w2 = .ok (.value v) w2) ∧ Calls Tryz.prog 61 #[v] w1 (SclP w1 (dls.drop (cutN' c h))) := fun w1 hw => by
      rcases (hGL.below hw).2 with ⟨h1, h2⟩ | ⟨g, cap, h1, h2, h3⟩
      · have h0 : c.kept.length = 0 := by rw [← hdl, h1]; rfl
        have e0 : cutN' c h = 0 := by omega
        refine ⟨.slice none 0 0, fun op a x y w2 ho hx hy => run_slNil ho (by rw [hx, h2]) (by rw [hy, e0]; rfl), ?_⟩
        rw [h1, List.drop_nil]
        exact sclB_nil w1
      · obtain ⟨cur, k1, k2, k3, k4⟩ := h3.out
        have hr : ∃ o, (cutN' c h < dls.length → o = cutN' c h * 6) ∧ ∀ (op : Oper) (a : Act) (x y : Operand) (w2 : World), op.op = .slice 101 x (some y) none none → a.eval x = sl → a.eval y = .int .u64 (cutN' c h : Nat) → (execOp a.eval op).run Tryz.prog w2 = .ok (.value (.slice (some ⟨g, o, none⟩) (dls.length - cutN' c h) (cap - cutN' c h))) w2 := by
          by_cases hcp : cap = cutN' c h
          · refine ⟨0, fun hh => by omega, fun op a x y w2 ho hx hy => ?_⟩
            have h6 := run_slAt (w := w2) ho (hx.trans h2) hy (by omega)
            rw [if_pos hcp] at h6
            exact h6
          · refine ⟨cutN' c h * 6, fun _ => rfl, fun op a x y w2 ho hx hy => ?_⟩
            have h6 := run_slAt (w := w2) ho (hx.trans h2) hy (by omega)
            rw [if_neg hcp] at h6
            exact h6
        obtain ⟨o, ho1, ho2⟩ := hr
        refine ⟨_, ho2, ?_⟩
        have := sclB_any (dls.drop (cutN' c h)) g o (cap - cutN' c h) w1 (fun x hx => hGL.1 x (List.mem_of_mem_drop hx)) ((hBL.drop (cutN' c h)).one) (fun j v hj => by
          have hlt : cutN' c h < dls.length := by
            refine Classical.byContradiction fun hn => ?_
            rw [List.drop_of_length_le (by omega)] at hj
            simp at hj
          rw [ho1 hlt]
          rw [flat_drop (cutN' c h) hGL.1 (by omega), List.getElem?_drop] at hj
          exact (Sh.GS.cell h3) _ v hj) (by rw [List.length_drop]; omega)
        rw [List.length_drop] at this
        exact this
    have hPost : Hid (∀ w2 w3 w4 sl', Below w.heap.size w w2 → Below w2.heap.size w2 w3 → Sh.GL w3 53 6 w2.heap.size sl' (dls.drop (cutN' c h)) → w3.grownBy w4 (some cb) → Blk w4 cb (chC c.name (.slice (some ⟨gf, 0, none⟩) c.first.length cf) c.ht c.hash (.slice (some ⟨gm0, 0, none⟩) c.mem.length cm0) bs bt sl') 103 → CuP w N cb bs bt sl c h (.returned (.int .i64 (cutN' c h : Nat))) w4) := by
      refine fun w2 w3 w4 sl' hw2 hw3 hG hg hb4 => ?_
      have hB3 := hw2.trans (hw3.mono hw2.size)
      have hC3 := hC.belowSize hB3
      have hst : Stay w w4 := (Stay.of_below hB3).trans (stay_blk hg hC3 (by decide))
      refine ⟨rfl, sl', ⟨⟨gf, cf, gm0, cm0, hb4, hCf.stay hst, hCm.stay hst⟩, (hc.ex.below hB3).other hg hC3 (by decide) (by decide) (by decide) (by omega), ⟨dls.drop (cutN' c h), ?_, (hBL.drop _).stay hst⟩, hN2, hNc, hNs, hNt⟩, (Own.of_below hB3).trans (Own.of_grown hg) (fun i _ e => .inl (Option.some.inj e)), fun r hr => .inr (Nat.le_trans hw2.size (hG.lt r hr).1)⟩
      have hG4 := hG.grown hg (hG.ne (Blk.sh hC3) (.inl (by decide)))
      refine ⟨hG4.1, ?_⟩
      rcases hG4.2 with k | ⟨g, cap, k1, k2⟩
      · exact .inl k
      · exact .inr ⟨g, cap, by have := hC.lt; have := hw2.size; omega, k2⟩
    have hmin : min h c.ht < 18446744073709551616 := by omega
    have hbm : c.ht - c.kept.length ≤ min h c.ht := by omega
    have hms : min h c.ht - (c.ht - c.kept.length) = cutN' c h := hcn.symm
    have hm6 : cutN' c h ≤ 1000000 := by omega
    generalize CuP w N cb bs bt sl c h = Post at *
    generalize cutN' c h = mny at *
    generalize c.ht - c.kept.length = base at *
    clear hok hcn hb hc hBL hdl hkt hht hCf hCm
    generalize hL : dls.drop mny = L at *
    clear hL hGL
    have hc2 := fun w1 (hb : Below w.heap.size w w1) => ((hC.belowSize hb).cell 2).trans (chC_g2 _ _ _ _ _ _ _ _)
    have hc7 := fun w1 (hb : Below w.heap.size w w1) => ((hC.belowSize hb).cell 7).trans (chC_g7 _ _ _ _ _ _ _ _)
    have hCw := fun w1 (hb : Below w.heap.size w w1) => hC.belowSize hb
    go_enter Tryz.func20, Tryz.ntmps20
    go_upto_region 4 with (go_at_call 15; refine HB.mono ?_; rintro e w1 ⟨rfl, hw1⟩; clear HB)
    obtain ⟨v, hv, HCv⟩ := HC w1 hw1
    have c2 := hc2 w1 hw1
    have c7 := hc7 w1 hw1
    clear HC hc2 hc7
    go_wp2_with (first
      | (go_at_call 61; refine HCv.mono ?_; rintro e w2 ⟨hw2, sl', rfl, hG⟩; clear HCv; have hC2 := hCw w2 (hw1.trans (hw2.mono hw1.size)); have hcl := hG.cells.1; have hon := hG.cells.2)
      | (with_reducible refine at_list ?_; first
        | (refine wpList_run (op := ⟨some 22, _, _, _, _, _⟩) rfl _ _ (run_minU rfl rfl rfl) ?_)
        | (refine wpList_run (op := ⟨some 24, _, _, _, _, _⟩) rfl _ _ (run_subUe rfl rfl rfl hbm hmin hms) ?_)
        | (refine wpList_run (op := ⟨some 31, _, _, _, _, _⟩) rfl _ _ (hv _ _ _ _ _ rfl rfl rfl) ?_)
        | (refine wpList_run (op := ⟨some 36, _, _, _, _, _⟩) rfl _ _ (run_convI rfl rfl hm6) ?_)
        | (refine wpList_storeCell (op := ⟨none, .store 101 (.tmp 34) (.tmp 32), _, _, _, _⟩) rfl _ _ _ rfl cb 7 rfl sl' rfl _ _ hC2 (by kernel_rfl) hcl hon (by rw [chC_size]; decide) ?_; intro w4 hg4 hs4 hb4; clear hs4; rw [chC_set7] at hb4)))
    exact hPost.out w1 w2 w4 sl' hw1 hw2 hG hg4 hb4
end Go.Proofs.YtmbdhngoldganaaGreatDoor
