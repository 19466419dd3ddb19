/- What place, at, named, there and Read of a disk do; whether it is dead; New, Room, Up, Changes. -/
import Derived.Test.YtgkkpmliociieaaPlc
import Derived.Laws.Rows
namespace Go.Proofs.Ytgkkpmliociieaa
open Go Go.RowKit
theorem fL_is {w : World} {g o : Nat} {f : F} (h : w.rangeAt g o (fL f)) : w.rangeAt g (o + 1) (cC f.is).toList := rangeAt_part h 1 2
theorem fL_sure {w : World} {g o : Nat} {f : F} (h : w.rangeAt g o (fL f)) : w.rangeAt g (o + 3) (cC f.sure).toList := rangeAt_part h 3 2
theorem built0 : Try.prog.built 75 [] = some (cC none) := by kernel_rfl
theorem builtC (s : B) : Try.prog.built 75 [(0, .bool true), (1, .string ⟨s.toArray⟩)] = some (cC (some s)) := by kernel_rfl
theorem builtF (s : B) : Try.prog.built 80 [(0, .string ⟨s.toArray⟩)] = some (fC ⟨s, none, none, 0⟩) := by kernel_rfl
theorem run_built2 {P : Program} {op : Oper} {a : Act} {w : World} (t : TypeId) (k l : Nat) (x y : Operand) (ho : op.op = .build t #[(k, x), (l, y)]) (v u : Value) (hx : a.eval x = v) (hy : a.eval y = u) (c : Array Value) (h : P.built t [(k, v), (l, u)] = some c) :
    (execOp a.eval op).run P w = .ok (.value (.agg c)) w := by
  subst hx hy
  have e : (#[(k, x), (l, y)] : Array (Nat × Operand)).map (fun (i, x) => (i, a.eval x)) = #[(k, a.eval x), (l, a.eval y)] := by simp
  unfold execOp
  simp only [ho, Sem.run_bind, e, run_build w t _ c h, Result.andThen_ok]
  rfl
theorem run_built1 {P : Program} {op : Oper} {a : Act} {w : World} (t : TypeId) (k : Nat) (x : Operand) (ho : op.op = .build t #[(k, x)]) (v : Value) (hx : a.eval x = v) (c : Array Value) (h : P.built t [(k, v)] = some c) :
    (execOp a.eval op).run P w = .ok (.value (.agg c)) w := by
  subst hx
  have e : (#[(k, x)] : Array (Nat × Operand)).map (fun (i, x) => (i, a.eval x)) = #[(k, a.eval x)] := by simp
  unfold execOp
  simp only [ho, Sem.run_bind, e, run_build w t _ c h, Result.andThen_ok]
  rfl
theorem run_built0 {P : Program} {op : Oper} {a : Act} {w : World} (t : TypeId) (ho : op.op = .build t #[]) (c : Array Value) (h : P.built t [] = some c) :
    (execOp a.eval op).run P w = .ok (.value (.agg c)) w := by
  unfold execOp
  simp only [ho, Sem.run_bind, Array.map_empty, run_build w t _ c h, Result.andThen_ok]
  rfl
theorem run_fieldC {op : Oper} {a : Act} {w : World} (x : Operand) (ho : op.op = .field 75 x 1) (c : Option B) (hx : a.eval x = .agg (cC c)) : (execOp a.eval op).run Try.prog w = .ok (.value (.string ⟨(byt c).toArray⟩)) w := by
  have h : (Instr.field 75 (.agg (cC c)) 1).run Try.prog w = .ok (.string ⟨(byt c).toArray⟩) w := by kernel_rfl
  unfold execOp
  simp only [ho, hx, Sem.run_bind, h, Result.andThen_ok]
  rfl
theorem res_cv {fn : Func} {p u : Tmp} {t : TypeId} (h : fn.results = #[.cell p t, .tmp u]) (tmps : Array Value) (w : World) (b : Nat) (c : Array Value) (v : Value) (ty : TypeId) (d : TypeDesc)
    (hp : tmps.getD p undef = .pointer (some ⟨b, 0, none⟩)) (hv : tmps.getD u undef = v) (hb : Blk w b c ty) (hu : Try.prog.underlying t = some d) (hd : d.isRow = true) (hi : (Try.prog.info? t).map (·.size) = some c.size) :
    (results fn tmps).run Try.prog w = .ok (.tuple #[.agg c, v]) w := by
  rw [results_cell_tmp h, hp, hv]
  simp [asAddr, hb.loadVar d hu hd hi]
set_option maxRecDepth 100000 in
theorem dead_any (p : Nat) (sl : Value) (m : DM) (w : World) (h : Blk w p (dC sl m) 73) : Calls Try.prog 26 #[.pointer (some ⟨p, 0, none⟩)] w fun e w' => e = .returned (.bool m.dead) ∧ w' = w := by
  have c1 : w.cell? ⟨p, 1, none⟩ = some (.bool m.dead) := (h.cell 1).trans (dC_g1 sl m)
  go_enter Try.func26, Try.ntmps26
  go_wp2
  go_ret
  exact ⟨rfl, rfl⟩
set_option maxRecDepth 100000 in
theorem dead_nil (w : World) : Calls Try.prog 26 #[.pointer none] w fun e w' => e = .returned (.bool true) ∧ w' = w := by
  go_enter Try.func26, Try.ntmps26
  go_wp2
  go_ret
  exact ⟨rfl, rfl⟩
set_option maxRecDepth 100000 in
set_option maxHeartbeats 1000000 in
theorem place_any (p : Nat) (b : Option Nat) (m : DM) (n : B) (w : World) (h : DK w p b m) (hr : Ris m.l) (hl : m.l.length ≤ 1000000) :
    Calls Try.prog 66 #[.pointer (some ⟨p, 0, none⟩), .string ⟨n.toArray⟩] w fun e w' => e = .returned (.tuple #[.int .i64 (plc n m.l : Nat), .bool (fnd n m.l)]) ∧ Below w.heap.size w w' := by
  obtain ⟨sl, hD, hF, _⟩ := h.out
  obtain ⟨a, cap, rfl, _⟩ := hF.sl
  have HS := search_any m.l n a cap w hF hr hl
  go_enter Try.func66, Try.ntmps66
  go_wp2_with (first
    | (go_at_call 72; refine HS.mono ?_; rintro e w' ⟨rfl, hw'⟩)
    | (with_reducible refine at_list ?_; first
      | (refine wpList_loadCell (op := ⟨some 9, _, _, _, _, _⟩) rfl _ _ rfl p 0 rfl _ _ hD _ Try.underlying71 rfl _ (dC_g0 _ _) ?_)))
  go_ret2
  exact ⟨rfl, hw'⟩
theorem fnd_at {n : B} {l : List F} (h : fnd n l = true) : ∃ f, l[plc n l]? = some f ∧ atL n l = f.is := by
  unfold atL
  rw [if_pos h]
  unfold fnd at h
  cases e : l[plc n l]? with
  | none => rw [e] at h; cases h
  | some f => exact ⟨f, rfl, rfl⟩
set_option maxRecDepth 100000 in
set_option maxHeartbeats 1000000 in
theorem at_any (p : Nat) (b : Option Nat) (m : DM) (n : B) (w : World) (h : DK w p b m) (hr : Ris m.l) (hl : m.l.length ≤ 1000000) :
    Calls Try.prog 55 #[.pointer (some ⟨p, 0, none⟩), .string ⟨n.toArray⟩] w fun e w' => e = .returned (.agg (cC (atL n m.l))) ∧ Below w.heap.size w w' := by
  have HP := fun w1 (hB : Below w.heap.size w w1) => place_any p b m n w1 (h.below hB) hr hl
  obtain ⟨sl, hD, hF, _⟩ := h.out
  obtain ⟨a, cap, rfl, _⟩ := hF.sl
  cases hq : fnd n m.l
  · have hn : atL n m.l = none := by unfold atL; rw [if_neg (by simp [hq])]
    rw [hn]
    rw [hq] at HP
    clear hF hD
    generalize plc n m.l = k at *
    go_enter Try.func55, Try.ntmps55
    go_wp2_with (first
      | (go_at_call 66; refine (HP _ hw1).mono ?_; rintro e w2 ⟨rfl, hw2⟩; replace h4 := h4.belowSize hw2)
      | (with_reducible refine at_list ?_; first
        | (refine wpList_allocRow (op := ⟨some 4, _, _, _, _, _⟩) rfl _ rfl _ zCon.1 ?_; intro w1 hw1 hs1 h4; clear hs1)
        | (refine wpList_run (op := ⟨some 15, _, _, _, _, _⟩) rfl _ _ (run_built0 _ rfl _ built0) ?_)
        | (refine wpList_storeRow (op := ⟨none, .store 75 (.tmp 4) (.tmp 15), _, _, _, _⟩) rfl _ _ _ rfl w.heap.size (cC none) rfl rfl _ _ h4 rfl (iCon _) (cC_one _) ?_; intro w3 hg3 hs3 h5; clear hs3)))
    have hB2 := hw1.trans (hw2.mono hw1.size)
    refine bodyPost_ret (v := .agg (cC none)) ?_ rfl ⟨rfl, hB2.trans (below_of_grown hg3 (Nat.le_refl _) hB2.size)⟩
    exact results_cell_row rfl _ _ w.heap.size _ _ _ _ rfl h5.out Try.underlying75 rfl (iCon _)
  · obtain ⟨f, hf, hn⟩ := fnd_at hq
    rw [hn]
    rw [hq] at HP
    obtain ⟨g, rfl, hS, hg⟩ := hF.at _ f hf
    have hgl := hS.lt
    have hlt : plc n m.l < m.l.length := (List.getElem?_eq_some_iff.1 hf).1
    clear hF hf hn hr hS
    generalize plc n m.l = k at *
    generalize m.l.length = ln at *
    have hz : (k : Int) < (ln : Int) := by omega
    go_enter Try.func55, Try.ntmps55
    go_wp2_with (first
      | (go_at_call 66; refine (HP _ hw1).mono ?_; rintro e w2 ⟨rfl, hw2⟩; replace h4 := h4.belowSize hw2; have hB2 := hw1.trans (hw2.mono hw1.size); replace hD := hD.belowSize hB2; have hg2 := fL_is (rangeAt_below hg hB2 hgl))
      | (with_reducible refine at_list ?_; first
        | (refine wpList_allocRow (op := ⟨some 4, _, _, _, _, _⟩) rfl _ rfl _ zCon.1 ?_; intro w1 hw1 hs1 h4; clear hs1)
        | (refine wpList_loadCell (op := ⟨some 19, _, _, _, _, _⟩) rfl _ _ rfl p 0 rfl _ _ hD _ Try.underlying71 rfl _ (dC_g0 _ _) ?_)
        | (refine wpList_loadAt (op := ⟨some 23, _, _, _, _, _⟩) rfl _ _ rfl g (k * 6 + 1) rfl (cC f.is) hg2 _ Try.underlying75 rfl (iCon _) ?_)
        | (refine wpList_storeRow (op := ⟨none, .store 75 (.tmp 4) (.tmp 23), _, _, _, _⟩) rfl _ _ _ rfl w.heap.size (cC f.is) rfl rfl _ _ h4 rfl (iCon _) (cC_one _) ?_; intro w3 hg3 hs3 h5; clear hs3)))
    refine bodyPost_ret (v := .agg (cC f.is)) ?_ rfl ⟨rfl, hB2.trans (below_of_grown hg3 (Nat.le_refl _) hB2.size)⟩
    exact results_cell_row rfl _ _ w.heap.size _ _ _ _ rfl h5.out Try.underlying75 rfl (iCon _)
end Go.Proofs.Ytgkkpmliociieaa
