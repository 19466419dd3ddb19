/- Where a name stands on a disk, and what its file is. What place, at, named, there and Read of a disk do; whether it is dead; New, Room, Up, Changes. What named, there and Read of a disk do; New, Room, Up, Changes; and a nil disk. -/
import Derived.Test.YtaiiojbakmminaaGreatDoorKSml
import Derived.Laws.Rows
namespace Go.Proofs.YtaiiojbakmminaaGreatDoor
open Go Go.RowKit
set_option maxRecDepth 100000 in
set_option maxHeartbeats 1000000 in
theorem rangeAt_below {w w' : World} {g o : Nat} {x : List Value} {N : Nat} (h : w.rangeAt g o x) (hb : Below N w w') (hg : g < N) : w'.rangeAt g o x := fun j v hv => by
  rw [hb.cell hg]
  exact h j v hv
theorem search_any (l : List F) (n : B) (a : Option Addr) (cap : Nat) (w : World) (hL : FL w (.slice a l.length cap) l) (hr : Ris l) (hl : l.length ≤ 1000000) :
    Calls Tryz.prog 122 #[.slice a l.length cap, .string ⟨n.toArray⟩, .func (.func 123) #[] #[]] w fun e w' => e = .returned (.tuple #[.int .i64 (plc n l : Nat), .bool (fnd n l)]) ∧ Below w.heap.size w w' := by
  obtain ⟨N, hN⟩ : ∃ N, Hid (N = plc n l) := ⟨_, rfl⟩
  obtain ⟨K, hK⟩ : ∃ K, Hid (K = fnd n l) := ⟨_, rfl⟩
  rw [← hN.out, ← hK.out]
  have hNl : N ≤ l.length := by rw [hN.out]; exact plc_le n l
  go_enter Tryz.func122, Tryz.ntmps122
  go_wp2_with fail
  go_loopw [9, 10, 11] (fun v9 v10 _ wl => ∃ i j : Nat, i ≤ N ∧ N ≤ j ∧ j ≤ l.length ∧ v9 = .int .i64 i ∧ v10 = .int .i64 j ∧ Below w.heap.size w wl) (fun v9 v10 _ _ => (intOf v10).toNat - (intOf v9).toNat)
  case atStart => exact ⟨0, l.length, by omega, hNl, by omega, rfl, rfl, Below.refl _ _⟩
  case round =>
    obtain ⟨i, j, hiN, hNj, hjl, rfl, rfl, hB⟩ := hrel
    by_cases hlt : i < j
    · have hd : decide ((i : Int) < (j : Int)) = true := decide_eq_true (by omega)
      obtain ⟨h, hh⟩ : ∃ h, h = (i + j) / 2 := ⟨_, rfl⟩
      have hh1 : i ≤ h ∧ h < j := by omega
      obtain ⟨f, hf⟩ : ∃ f, l[h]? = some f := ⟨_, List.getElem?_eq_getElem (by omega)⟩
      obtain ⟨g, rfl, hS, hg⟩ := hL.at h f hf
      have hg2 := rangeAt_below hg hB hS.lt
      have HP := fun w' => place1_any f n w'
      by_cases hc : f.name < n
      · have hc0 : Lib.compareBytes f.name n < 0 := (cmp_lt _ _).2 hc
        have hhN : h + 1 ≤ N := by
          rw [hN.out]
          by_cases h9 : h < plc n l
          · exact h9
          · exact absurd hc (plc_ge n l hr h f (by omega) hf)
        have hdc : decide (Lib.compareBytes f.name n < 0) = true := decide_eq_true hc0
        clear hc hf hr
        generalize Lib.compareBytes f.name n = z at *
        subst hh
        go_wp2_with (first
          | (go_at_call 123; refine (HP _).mono ?_; rintro e w' ⟨rfl, hw'⟩)
          | (with_reducible refine at_list ?_; first
            | (refine wpList_loadAt (op := ⟨some 28, _, _, _, _, _⟩) rfl _ _ rfl g ((i + j) / 2 * 6) rfl (fC f) hg2 _ Tryz.underlying93 rfl (iFile f) ?_)))
        go_roundw
        case rel => exact ⟨(i + j) / 2 + 1, j, by omega, by omega, by omega, by go_num, rfl, hB.trans (hw'.mono hB.size)⟩
        case measure => simp [intOf]; omega
      · have hc0 : ¬ Lib.compareBytes f.name n < 0 := fun h => hc ((cmp_lt _ _).1 h)
        have hhN : N ≤ h := by
          rw [hN.out]
          by_cases h9 : h < plc n l
          · exact absurd (plc_lt n l h f h9 hf) hc
          · omega
        have hdc : decide (Lib.compareBytes f.name n < 0) = false := decide_eq_false hc0
        clear hc hf hr
        generalize Lib.compareBytes f.name n = z at *
        subst hh
        go_wp2_with (first
          | (go_at_call 123; refine (HP _).mono ?_; rintro e w' ⟨rfl, hw'⟩)
          | (with_reducible refine at_list ?_; first
            | (refine wpList_loadAt (op := ⟨some 28, _, _, _, _, _⟩) rfl _ _ rfl g ((i + j) / 2 * 6) rfl (fC f) hg2 _ Tryz.underlying93 rfl (iFile f) ?_)))
        go_roundw
        case rel => exact ⟨i, (i + j) / 2, by omega, by omega, by omega, rfl, rfl, hB.trans (hw'.mono hB.size)⟩
        case measure => simp [intOf]; omega
    · have hd : decide ((i : Int) < (j : Int)) = false := decide_eq_false (by omega)
      obtain rfl : i = N := by omega
      by_cases hil : i < l.length
      · have hd2 : decide ((i : Int) < (l.length : Int)) = true := decide_eq_true (by omega)
        obtain ⟨f, hf⟩ : ∃ f, l[i]? = some f := ⟨_, List.getElem?_eq_getElem hil⟩
        obtain ⟨g, rfl, hS, hg⟩ := hL.at i f hf
        have hg2 := rangeAt_below hg hB hS.lt
        have c0 : wr.cell? ⟨g, i * 6, none⟩ = _ := hg2 0 _ (fC_g0 f)
        have c1 : wr.cell? ⟨g, i * 6 + 1, none⟩ = _ := hg2 1 _ (fC_g1 f)
        have c2 : wr.cell? ⟨g, i * 6 + 2, none⟩ = _ := hg2 2 _ (fC_g2 f)
        have c3 : wr.cell? ⟨g, i * 6 + 3, none⟩ = _ := hg2 3 _ (fC_g3 f)
        have c4 : wr.cell? ⟨g, i * 6 + 4, none⟩ = _ := hg2 4 _ (fC_g4 f)
        have c5 : wr.cell? ⟨g, i * 6 + 5, none⟩ = _ := hg2 5 _ (fC_g5 f)
        have hKf : Hid (K = decide (Lib.compareBytes f.name n = 0)) := by
          show _ = _
          rw [hK.out, fnd, ← hN.out, hf, Bool.eq_iff_iff, decide_eq_true_eq, cmp_eq0]
          simp
        have HP := fun w' => place1_any f n w'
        generalize Lib.compareBytes f.name n = z at *
        clear hf hr hg hg2 hL hS
        go_wp2_with (go_at_call 123; refine (HP _).mono ?_; rintro e w' ⟨rfl, hw'⟩)
        go_ret2
        refine ⟨?_, hB.trans (hw'.mono hB.size)⟩
        rw [hKf.out]
        rfl
      · have hd2 : decide ((i : Int) < (l.length : Int)) = false := decide_eq_false (by omega)
        have hKf : K = false := by
          rw [hK.out, fnd, ← hN.out, List.getElem?_eq_none (by omega)]
        subst hKf
        clear hK
        go_wp2_with fail
        go_ret2
        exact ⟨rfl, hB⟩
end Go.Proofs.YtaiiojbakmminaaGreatDoor
namespace Go.Proofs.YtaiiojbakmminaaGreatDoor
open Go Go.RowKit
theorem fL_is {w : World} {g o : Nat} {f : F} (h : w.rangeAt g o (fL f)) : w.rangeAt g (o + 1) (cC f.is).toList := rangeAt_part h 1 2
theorem fL_sure {w : World} {g o : Nat} {f : F} (h : w.rangeAt g o (fL f)) : w.rangeAt g (o + 3) (cC f.sure).toList := rangeAt_part h 3 2
theorem built0 : Tryz.prog.built 91 [] = some (cC none) := by kernel_rfl
theorem builtC (s : B) : Tryz.prog.built 91 [(0, .bool true), (1, .string ⟨s.toArray⟩)] = some (cC (some s)) := by kernel_rfl
theorem builtF (s : B) : Tryz.prog.built 93 [(0, .string ⟨s.toArray⟩)] = some (fC ⟨s, none, none, 0⟩) := by kernel_rfl
theorem run_built2 {P : Program} {op : Oper} {a : Act} {w : World} (t : TypeId) (k l : Nat) (x y : Operand) (ho : op.op = .build t #[(k, x), (l, y)]) (v u : Value) (hx : a.eval x = v) (hy : a.eval y = u) (c : Array Value) (h : P.built t [(k, v), (l, u)] = some c) :
    (execOp a.eval op).run P w = .ok (.value (.agg c)) w := by
  subst hx hy
  have e : (#[(k, x), (l, y)] : Array (Nat × Operand)).map (fun (i, x) => (i, a.eval x)) = #[(k, a.eval x), (l, a.eval y)] := by simp
  unfold execOp
  simp only [ho, Sem.run_bind, e, run_build w t _ c h, Result.andThen_ok]
  rfl
theorem run_built1 {P : Program} {op : Oper} {a : Act} {w : World} (t : TypeId) (k : Nat) (x : Operand) (ho : op.op = .build t #[(k, x)]) (v : Value) (hx : a.eval x = v) (c : Array Value) (h : P.built t [(k, v)] = some c) :
    (execOp a.eval op).run P w = .ok (.value (.agg c)) w := by
  subst hx
  have e : (#[(k, x)] : Array (Nat × Operand)).map (fun (i, x) => (i, a.eval x)) = #[(k, a.eval x)] := by simp
  unfold execOp
  simp only [ho, Sem.run_bind, e, run_build w t _ c h, Result.andThen_ok]
  rfl
theorem run_built0 {P : Program} {op : Oper} {a : Act} {w : World} (t : TypeId) (ho : op.op = .build t #[]) (c : Array Value) (h : P.built t [] = some c) :
    (execOp a.eval op).run P w = .ok (.value (.agg c)) w := by
  unfold execOp
  simp only [ho, Sem.run_bind, Array.map_empty, run_build w t _ c h, Result.andThen_ok]
  rfl
theorem run_fieldC {op : Oper} {a : Act} {w : World} (x : Operand) (ho : op.op = .field 91 x 1) (c : Option B) (hx : a.eval x = .agg (cC c)) : (execOp a.eval op).run Tryz.prog w = .ok (.value (.string ⟨(kbyt c).toArray⟩)) w := by
  have h : (Instr.field 91 (.agg (cC c)) 1).run Tryz.prog w = .ok (.string ⟨(kbyt c).toArray⟩) w := by kernel_rfl
  unfold execOp
  simp only [ho, hx, Sem.run_bind, h, Result.andThen_ok]
  rfl
theorem res_cv {fn : Func} {p u : Tmp} {t : TypeId} (h : fn.results = #[.cell p t, .tmp u]) (tmps : Array Value) (w : World) (b : Nat) (c : Array Value) (v : Value) (ty : TypeId) (d : TypeDesc)
    (hp : tmps.getD p undef = .pointer (some ⟨b, 0, none⟩)) (hv : tmps.getD u undef = v) (hb : Blk w b c ty) (hu : Tryz.prog.underlying t = some d) (hd : d.isRow = true) (hi : (Tryz.prog.info? t).map (·.size) = some c.size) :
    (results fn tmps).run Tryz.prog w = .ok (.tuple #[.agg c, v]) w := by
  rw [results_cell_tmp h, hp, hv]
  simp [asAddr, hb.loadVar d hu hd hi]
set_option maxRecDepth 100000 in
theorem dead_any (p : Nat) (sl : Value) (m : DM) (w : World) (h : Blk w p (dC sl m) 61) : Calls Tryz.prog 23 #[.pointer (some ⟨p, 0, none⟩)] w fun e w' => e = .returned (.bool m.dead) ∧ w' = w := by
  have c1 : w.cell? ⟨p, 1, none⟩ = some (.bool m.dead) := (h.cell 1).trans (dC_g1 sl m)
  go_enter Tryz.func23, Tryz.ntmps23
  go_wp2
  go_ret
  exact ⟨rfl, rfl⟩
set_option maxRecDepth 100000 in
set_option maxHeartbeats 1000000 in
theorem place_any (p : Nat) (b : Option Nat) (m : DM) (n : B) (w : World) (h : DK w p b m) (hr : Ris m.l) (hl : m.l.length ≤ 1000000) :
    Calls Tryz.prog 101 #[.pointer (some ⟨p, 0, none⟩), .string ⟨n.toArray⟩] w fun e w' => e = .returned (.tuple #[.int .i64 (plc n m.l : Nat), .bool (fnd n m.l)]) ∧ Below w.heap.size w w' := by
  obtain ⟨sl, hD, hF, _⟩ := h.out
  obtain ⟨a, cap, rfl, _⟩ := hF.sl
  have HS := search_any m.l n a cap w hF hr hl
  go_enter Tryz.func101, Tryz.ntmps101
  go_wp2_with (first
    | (go_at_call 122; refine HS.mono ?_; rintro e w' ⟨rfl, hw'⟩)
    | (with_reducible refine at_list ?_; first
      | (refine wpList_loadCell (op := ⟨some 9, _, _, _, _, _⟩) rfl _ _ rfl p 0 rfl _ _ hD _ Tryz.underlying59 rfl _ (dC_g0 _ _) ?_)))
  go_ret2
  exact ⟨rfl, hw'⟩
theorem fnd_at {n : B} {l : List F} (h : fnd n l = true) : ∃ f, l[plc n l]? = some f ∧ atL n l = f.is := by
  unfold atL
  rw [if_pos h]
  unfold fnd at h
  cases e : l[plc n l]? with
  | none => rw [e] at h; cases h
  | some f => exact ⟨f, rfl, rfl⟩
set_option maxRecDepth 100000 in
set_option maxHeartbeats 1000000 in
theorem at_any (p : Nat) (b : Option Nat) (m : DM) (n : B) (w : World) (h : DK w p b m) (hr : Ris m.l) (hl : m.l.length ≤ 1000000) :
    Calls Tryz.prog 82 #[.pointer (some ⟨p, 0, none⟩), .string ⟨n.toArray⟩] w fun e w' => e = .returned (.agg (cC (atL n m.l))) ∧ Below w.heap.size w w' := by
  have HP := fun w1 (hB : Below w.heap.size w w1) => place_any p b m n w1 (h.below hB) hr hl
  obtain ⟨sl, hD, hF, _⟩ := h.out
  obtain ⟨a, cap, rfl, _⟩ := hF.sl
  cases hq : fnd n m.l
  · have hn : atL n m.l = none := by unfold atL; rw [if_neg (by simp [hq])]
    rw [hn]
    rw [hq] at HP
    clear hF hD
    generalize plc n m.l = k at *
    go_enter Tryz.func82, Tryz.ntmps82
    go_wp2_with (first
      | (go_at_call 101; refine (HP _ hw1).mono ?_; rintro e w2 ⟨rfl, hw2⟩; replace h4 := h4.belowSize hw2)
      | (with_reducible refine at_list ?_; first
        | (refine wpList_allocRow (op := ⟨some 4, _, _, _, _, _⟩) rfl _ rfl _ zCon.1 ?_; intro w1 hw1 hs1 h4; clear hs1)
        | (refine wpList_run (op := ⟨some 15, _, _, _, _, _⟩) rfl _ _ (run_built0 _ rfl _ built0) ?_)
        | (refine wpList_storeRow (op := ⟨none, .store 91 (.tmp 4) (.tmp 15), _, _, _, _⟩) rfl _ _ _ rfl w.heap.size (cC none) rfl rfl _ _ h4 rfl (iCon _) (cC_one _) ?_; intro w3 hg3 hs3 h5; clear hs3)))
    have hB2 := hw1.trans (hw2.mono hw1.size)
    refine bodyPost_ret (v := .agg (cC none)) ?_ rfl ⟨rfl, hB2.trans (below_of_grown hg3 (Nat.le_refl _) hB2.size)⟩
    exact results_cell_row rfl _ _ w.heap.size _ _ _ _ rfl h5.out Tryz.underlying91 rfl (iCon _)
  · obtain ⟨f, hf, hn⟩ := fnd_at hq
    rw [hn]
    rw [hq] at HP
    obtain ⟨g, rfl, hS, hg⟩ := hF.at _ f hf
    have hgl := hS.lt
    have hlt : plc n m.l < m.l.length := (List.getElem?_eq_some_iff.1 hf).1
    clear hF hf hn hr hS
    generalize plc n m.l = k at *
    generalize m.l.length = ln at *
    have hz : (k : Int) < (ln : Int) := by omega
    go_enter Tryz.func82, Tryz.ntmps82
    go_wp2_with (first
      | (go_at_call 101; refine (HP _ hw1).mono ?_; rintro e w2 ⟨rfl, hw2⟩; replace h4 := h4.belowSize hw2; have hB2 := hw1.trans (hw2.mono hw1.size); replace hD := hD.belowSize hB2; have hg2 := fL_is (rangeAt_below hg hB2 hgl))
      | (with_reducible refine at_list ?_; first
        | (refine wpList_allocRow (op := ⟨some 4, _, _, _, _, _⟩) rfl _ rfl _ zCon.1 ?_; intro w1 hw1 hs1 h4; clear hs1)
        | (refine wpList_loadCell (op := ⟨some 19, _, _, _, _, _⟩) rfl _ _ rfl p 0 rfl _ _ hD _ Tryz.underlying59 rfl _ (dC_g0 _ _) ?_)
        | (refine wpList_loadAt (op := ⟨some 23, _, _, _, _, _⟩) rfl _ _ rfl g (k * 6 + 1) rfl (cC f.is) hg2 _ Tryz.underlying91 rfl (iCon _) ?_)
        | (refine wpList_storeRow (op := ⟨none, .store 91 (.tmp 4) (.tmp 23), _, _, _, _⟩) rfl _ _ _ rfl w.heap.size (cC f.is) rfl rfl _ _ h4 rfl (iCon _) (cC_one _) ?_; intro w3 hg3 hs3 h5; clear hs3)))
    refine bodyPost_ret (v := .agg (cC f.is)) ?_ rfl ⟨rfl, hB2.trans (below_of_grown hg3 (Nat.le_refl _) hB2.size)⟩
    exact results_cell_row rfl _ _ w.heap.size _ _ _ _ rfl h5.out Tryz.underlying91 rfl (iCon _)
end Go.Proofs.YtaiiojbakmminaaGreatDoor
namespace Go.Proofs.YtaiiojbakmminaaGreatDoor
open Go Go.RowKit
/-- The error of a name. -/
def namE (m : DM) (n : B) : Nat := if m.dead = true then 7 else if okN n = true then 0 else 110
set_option maxRecDepth 100000 in
set_option maxHeartbeats 1000000 in
theorem named_any (p : Nat) (sl : Value) (m : DM) (n : B) (w : World) (h : Blk w p (dC sl m) 61) (hn : n.length ≤ 9223372036854775807) :
    Calls Tryz.prog 57 #[.pointer (some ⟨p, 0, none⟩), .string ⟨n.toArray⟩] w fun e w' => e = .returned (.int .i64 (namE m n : Nat)) ∧ w' = w := by
  have HD := dead_any p sl m w h
  have HN := name_any n w hn
  unfold namE
  generalize okN n = k at *
  generalize m.dead = d at *
  cases d <;> cases k <;>
  · go_enter Tryz.func57, Tryz.ntmps57
    go_wp2_with (first
      | (go_at_call 23; refine HD.mono ?_; rintro e w' ⟨rfl, hw'⟩; subst hw')
      | (go_at_call 73; refine HN.mono ?_; rintro e w' ⟨rfl, hw'⟩; subst hw'))
    go_ret
    exact ⟨rfl, rfl⟩
/-- What is there of a name, and the error. -/
def theC (m : DM) (n : B) : Option B := if namE m n = 0 then atL n m.l else none
def theE (m : DM) (n : B) : Nat := if namE m n = 0 then (if (atL n m.l).isSome = true then 0 else 2) else namE m n
set_option maxRecDepth 100000 in
set_option maxHeartbeats 1000000 in
theorem there_any (p : Nat) (b : Option Nat) (m : DM) (n : B) (w : World) (h : DK w p b m) (hr : Ris m.l) (hl : m.l.length ≤ 1000000) (hn : n.length ≤ 9223372036854775807) :
    Calls Tryz.prog 72 #[.pointer (some ⟨p, 0, none⟩), .string ⟨n.toArray⟩] w fun e w' => e = .returned (.tuple #[.agg (cC (theC m n)), .int .i64 (theE m n : Nat)]) ∧ Below w.heap.size w w' := by
  have HA := fun w1 (hB : Below w.heap.size w w1) => at_any p b m n w1 (h.below hB) hr hl
  have HN : ∀ w1, Below w.heap.size w w1 → Calls Tryz.prog 57 #[.pointer (some ⟨p, 0, none⟩), .string ⟨n.toArray⟩] w1 fun e w' => e = .returned (.int .i64 (namE m n : Nat)) ∧ w' = w1 := fun w1 hB => by
    obtain ⟨sl, hD, _, _⟩ := h.out
    exact named_any p sl m n w1 (hD.belowSize hB) hn
  unfold theC theE
  generalize namE m n = k at *
  by_cases hk : k = 0
  · subst hk
    rw [if_pos rfl, if_pos rfl]
    generalize atL n m.l = c at *
    cases c with
    | none =>
      rw [show (if (none : Option B).isSome = true then 0 else 2) = 2 from rfl]
      go_enter Tryz.func72, Tryz.ntmps72
      go_wp2_with (first
        | (go_at_call 57; refine (HN _ hw1).mono ?_; rintro e w2 ⟨rfl, hw2⟩; subst hw2)
        | (go_at_call 82; refine (HA _ hw1).mono ?_; rintro e w3 ⟨rfl, hw3⟩; replace h4 := h4.belowSize hw3; have hB3 := hw1.trans (hw3.mono hw1.size); have h47 := h4.lt)
        | (with_reducible refine at_list ?_; first
          | (refine wpList_allocRow (op := ⟨some 4, _, _, _, _, _⟩) rfl _ rfl _ zCon.1 ?_; intro w1 hw1 hs1 h4; clear hs1)
          | (refine wpList_allocRow (op := ⟨some 7, _, _, _, _, _⟩) rfl _ rfl _ zCon.1 ?_; intro w4 hw4 hs4 h7; clear hs4; replace h4 := h4.belowSize hw4; have hB4 := hB3.trans (hw4.mono hB3.size))
          | (refine wpList_storeRow (op := ⟨none, .store 91 (.tmp 7) (.tmp 17), _, _, _, _⟩) rfl _ _ _ rfl w3.heap.size (cC none) rfl rfl _ _ h7 rfl (iCon _) (cC_one _) ?_; intro w5 hg5 hs5 h7b; clear hs5; replace h4 := h4.grown hg5 (by simp; omega); have hB5 := hB4.trans (below_of_grown hg5 (by omega) hB4.size))
          | (refine wpList_loadCell (op := ⟨some 19, _, _, _, _, _⟩) rfl _ _ rfl w3.heap.size 0 rfl _ _ h7b _ Tryz.underlying4 rfl _ (cC_g0 _) ?_)
          | (refine wpList_run (op := ⟨some 21, _, _, _, _, _⟩) rfl _ _ (run_built0 _ rfl _ built0) ?_)
          | (refine wpList_storeRow (op := ⟨none, .store 91 (.tmp 4) (.tmp 21), _, _, _, _⟩) rfl _ _ _ rfl w.heap.size (cC none) rfl rfl _ _ h4 rfl (iCon _) (cC_one _) ?_; intro w6 hg6 hs6 h4b; clear hs6)))
      refine bodyPost_ret (v := .tuple #[.agg (cC none), .int .i64 2]) ?_ rfl ⟨rfl, hB5.trans (below_of_grown hg6 (Nat.le_refl _) hB5.size)⟩
      exact res_cv rfl _ _ w.heap.size _ _ _ _ rfl rfl h4b Tryz.underlying91 rfl (iCon _)
    | some s =>
      rw [show (if (some s : Option B).isSome = true then 0 else 2) = 0 from rfl]
      go_enter Tryz.func72, Tryz.ntmps72
      go_wp2_with (first
        | (go_at_call 57; refine (HN _ hw1).mono ?_; rintro e w2 ⟨rfl, hw2⟩; subst hw2)
        | (go_at_call 82; refine (HA _ hw1).mono ?_; rintro e w3 ⟨rfl, hw3⟩; replace h4 := h4.belowSize hw3; have hB3 := hw1.trans (hw3.mono hw1.size); have h47 := h4.lt)
        | (with_reducible refine at_list ?_; first
          | (refine wpList_allocRow (op := ⟨some 4, _, _, _, _, _⟩) rfl _ rfl _ zCon.1 ?_; intro w1 hw1 hs1 h4; clear hs1)
          | (refine wpList_allocRow (op := ⟨some 7, _, _, _, _, _⟩) rfl _ rfl _ zCon.1 ?_; intro w4 hw4 hs4 h7; clear hs4; replace h4 := h4.belowSize hw4; have hB4 := hB3.trans (hw4.mono hB3.size))
          | (refine wpList_storeRow (op := ⟨none, .store 91 (.tmp 7) (.tmp 17), _, _, _, _⟩) rfl _ _ _ rfl w3.heap.size (cC (some s)) rfl rfl _ _ h7 rfl (iCon _) (cC_one _) ?_; intro w5 hg5 hs5 h7b; clear hs5; replace h4 := h4.grown hg5 (by simp; omega); have hB5 := hB4.trans (below_of_grown hg5 (by omega) hB4.size))
          | (refine wpList_loadCell (op := ⟨some 19, _, _, _, _, _⟩) rfl _ _ rfl w3.heap.size 0 rfl _ _ h7b _ Tryz.underlying4 rfl _ (cC_g0 _) ?_)
          | (refine wpList_loadRow (op := ⟨some 22, _, _, _, _, _⟩) rfl _ _ rfl w3.heap.size rfl _ _ h7b _ Tryz.underlying91 rfl (iCon _) ?_)
          | (refine wpList_storeRow (op := ⟨none, .store 91 (.tmp 4) (.tmp 22), _, _, _, _⟩) rfl _ _ _ rfl w.heap.size (cC (some s)) rfl rfl _ _ h4 rfl (iCon _) (cC_one _) ?_; intro w6 hg6 hs6 h4b; clear hs6)))
      refine bodyPost_ret (v := .tuple #[.agg (cC (some s)), .int .i64 0]) ?_ rfl ⟨rfl, hB5.trans (below_of_grown hg6 (Nat.le_refl _) hB5.size)⟩
      exact res_cv rfl _ _ w.heap.size _ _ _ _ rfl rfl h4b Tryz.underlying91 rfl (iCon _)
  · rw [if_neg hk, if_neg hk]
    have hd : decide ((k : Int) = 0) = false := decide_eq_false (by omega)
    have hkz : ¬ (k : Int) = 0 := by omega
    go_enter Tryz.func72, Tryz.ntmps72
    go_wp2_with (first
      | (go_at_call 57; refine (HN _ hw1).mono ?_; rintro e w2 ⟨rfl, hw2⟩; subst hw2)
      | (with_reducible refine at_list ?_; first
        | (refine wpList_allocRow (op := ⟨some 4, _, _, _, _, _⟩) rfl _ rfl _ zCon.1 ?_; intro w1 hw1 hs1 h4; clear hs1)
        | (refine wpList_run (op := ⟨some 13, _, _, _, _, _⟩) rfl _ _ (run_built0 _ rfl _ built0) ?_)
        | (refine wpList_storeRow (op := ⟨none, .store 91 (.tmp 4) (.tmp 13), _, _, _, _⟩) rfl _ _ _ rfl w.heap.size (cC none) rfl rfl _ _ h4 rfl (iCon _) (cC_one _) ?_; intro w6 hg6 hs6 h4b; clear hs6)))
    refine bodyPost_ret (v := .tuple #[.agg (cC none), .int .i64 (k : Nat)]) ?_ rfl ⟨rfl, hw1.trans (below_of_grown hg6 (Nat.le_refl _) hw1.size)⟩
    exact res_cv rfl _ _ w.heap.size _ _ _ _ rfl rfl h4b Tryz.underlying91 rfl (iCon _)
set_option maxRecDepth 100000 in
set_option maxHeartbeats 1000000 in
theorem readD (pv s : Value) (c : Option B) (k : Nat) (w : World)
    (HT : Calls Tryz.prog 72 #[pv, s] w fun e w' => e = .returned (.tuple #[.agg (cC c), .int .i64 (k : Nat)]) ∧ Below w.heap.size w w') :
    Calls Tryz.prog 93 #[pv, s] w fun e w' => e = .returned (.tuple #[.string ⟨(kbyt c).toArray⟩, .int .i64 (k : Nat)]) ∧ Below w.heap.size w w' := by
  go_enter Tryz.func93, Tryz.ntmps93
  go_wp2_with (first
    | (go_at_call 72; refine HT.mono ?_; rintro e w1 ⟨rfl, hw1⟩)
    | (with_reducible refine at_list ?_; first
      | (refine wpList_allocRow (op := ⟨some 6, _, _, _, _, _⟩) rfl _ rfl _ zCon.1 ?_; intro w2 hw2 hs2 h6; clear hs2; have hB2 := hw1.trans (hw2.mono hw1.size); have hsz := hw1.size)
      | (refine wpList_storeRow (op := ⟨none, .store 91 (.tmp 6) (.tmp 12), _, _, _, _⟩) rfl _ _ _ rfl w1.heap.size (cC c) rfl rfl _ _ h6 rfl (iCon _) (cC_one _) ?_; intro w3 hg3 hs3 h6b; clear hs3; have hB3 := hB2.trans (below_of_grown hg3 (by omega) hB2.size))
      | (refine wpList_loadCell (op := ⟨some 15, _, _, _, _, _⟩) rfl _ _ rfl w1.heap.size 1 rfl _ _ h6b _ Tryz.underlying9 rfl _ (cC_g1 _) ?_)))
  go_ret2
  exact ⟨rfl, hB3⟩
theorem read_any (p : Nat) (b : Option Nat) (m : DM) (n : B) (w : World) (h : DK w p b m) (hr : Ris m.l) (hl : m.l.length ≤ 1000000) (hn : n.length ≤ 9223372036854775807) :
    Calls Tryz.prog 93 #[.pointer (some ⟨p, 0, none⟩), .string ⟨n.toArray⟩] w fun e w' => e = .returned (.tuple #[.string ⟨(kbyt (theC m n)).toArray⟩, .int .i64 (theE m n : Nat)]) ∧ Below w.heap.size w w' :=
  readD _ _ _ _ w (there_any p b m n w h hr hl hn)
theorem builtD : Tryz.prog.built 61 [] = some (dC (.slice none 0 0) ⟨[], false, false, 0, 0, .slice none 0 0⟩) := by kernel_rfl
set_option maxRecDepth 100000 in
theorem new_any (w : World) : Calls Tryz.prog 9 #[] w fun e w' => e = .returned (.pointer (some ⟨w.heap.size, 0, none⟩)) ∧ Below w.heap.size w w' ∧ DK w' w.heap.size none ⟨[], false, false, 0, 0, .slice none 0 0⟩ := by
  go_enter Tryz.func9, Tryz.ntmps9
  go_wp2_with (with_reducible refine at_list ?_; first
    | (refine wpList_run (op := ⟨some 1, _, _, _, _, _⟩) rfl _ _ (run_built0 _ rfl _ builtD) ?_)
    | (refine wpList_boxRow (op := ⟨some 2, _, _, _, _, _⟩) rfl _ _ rfl _ rfl ?_; intro w1 hw1 hs1 hb1; clear hs1))
  go_ret
  exact ⟨rfl, hw1, ⟨_, hb1, GL.nil _ _ _ _, rfl⟩⟩
theorem iBool : (Tryz.prog.info? 4).map (·.size) = some 1 := by kernel_rfl
theorem iInt : (Tryz.prog.info? 3).map (·.size) = some 1 := by kernel_rfl
theorem iSlF : (Tryz.prog.info? 59).map (·.size) = some 1 := by kernel_rfl
set_option maxRecDepth 100000 in
theorem up_any (p : Nat) (b : Option Nat) (m : DM) (w : World) (h : DK w p b m) : Calls Tryz.prog 15 #[.pointer (some ⟨p, 0, none⟩)] w fun e w' => e = .returned (.bool m.dead) ∧ Chg w w' p b b ∧ DK w' p b { m with dead := false } := by
  obtain ⟨sl, hD, hF, hb⟩ := h.out
  go_enter Tryz.func15, Tryz.ntmps15
  go_wp2_with (with_reducible refine at_list ?_; first
    | (refine wpList_loadCell (op := ⟨some 9, _, _, _, _, _⟩) rfl _ _ rfl p 1 rfl _ _ hD _ Tryz.underlying4 rfl _ (dC_g1 _ _) ?_)
    | (refine wpList_storeCell (op := ⟨none, .store 4 (.tmp 12) (.const (.bool false)), _, _, _, _⟩) rfl _ _ _ rfl p 1 rfl (.bool false) rfl _ _ hD iBool rfl rfl (by rw [dC_size]; decide) ?_; intro w1 hg1 hs1 hD1; rw [dC_s1] at hD1))
  go_ret
  exact ⟨rfl, Chg.own hg1, ⟨sl, hD1, hF.grown hg1 (hF.ne hD (by decide)), hb⟩⟩
set_option maxRecDepth 100000 in
theorem changes_any (p : Nat) (sl : Value) (m : DM) (w : World) (hD : Blk w p (dC sl m) 61) : Calls Tryz.prog 21 #[.pointer (some ⟨p, 0, none⟩)] w fun e w' => e = .returned (.int .i64 (m.ch : Nat)) ∧ w' = w := by
  go_enter Tryz.func21, Tryz.ntmps21
  go_wp2_with (with_reducible refine at_list ?_; first
    | (refine wpList_loadCell (op := ⟨some 8, _, _, _, _, _⟩) rfl _ _ rfl p 5 rfl _ _ hD _ Tryz.underlying3 rfl _ (dC_g5 _ _) ?_))
  go_ret
  exact ⟨rfl, rfl⟩
end Go.Proofs.YtaiiojbakmminaaGreatDoor
