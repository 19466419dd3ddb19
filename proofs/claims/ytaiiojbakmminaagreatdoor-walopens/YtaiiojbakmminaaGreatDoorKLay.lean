/- What lay of a disk does. -/
import Derived.Test.YtaiiojbakmminaaGreatDoorKStk
import Derived.Test.YtaiiojbakmminaaGreatDoorKDel
namespace Go.Proofs.YtaiiojbakmminaaGreatDoor
open Go Go.RowKit
theorem FL.cells {w : World} {sl : Value} {l : List F} (h : FL w sl l) : sl.cells = #[sl] ∧ sl.oneCell' = true := GL.cells h
theorem iDeed : (Tryz.prog.info? 81).map (·.size) = some 1 := by kernel_rfl
section
variable {ops : Array Oper} {rest : List Oper} {op : Oper} {a : Act} {w : World} {Q : Exit → Act → World → Prop}
theorem set_fL {l : List F} {i : Nat} {f : F} : (l.map fL).set i (fL f) = (l.set i f).map fL := (List.map_set ..).symm
theorem get_fL {l : List F} {i : Nat} {f : F} (h : l[i]? = some f) : (l.map fL)[i]? = some (fL f) := by rw [List.getElem?_map, h]; rfl
theorem in_cap {w : World} {t : TypeId} {g cap i : Nat} {l : List F} {f : F} (hS : GS w t 6 g cap (l.map fL)) (hf : l[i]? = some f) : i * 6 + 6 ≤ cap * 6 := by
  have h1 := (List.getElem?_eq_some_iff.1 hf).1
  have h2 : l.length ≤ cap := by simpa using hS.out.choose_spec.2.1
  omega
/-- What a file is, is put. -/
theorem wpList_stIs (hgd : op.guard = none) (x y : Operand) (ho : op.op = .store 91 x y) (g cap i : Nat) (l : List F) (f : F) (hf : l[i]? = some f) (c : Option B) (hx : a.eval x = .pointer (some ⟨g, i * 6 + 1, none⟩)) (hy : a.eval y = .agg (cC c)) (hS : GS w 93 6 g cap (l.map fL))
    (h : ∀ w1, w.grownBy w1 (some g) → GS w1 93 6 g cap ((l.set i { f with is := c }).map fL) → wpList Tryz.prog ops Q rest (a.put op.dst undef) w1) : wpList Tryz.prog ops Q (op :: rest) a w := by
  have hin := in_cap hS hf
  refine wpList_store_mid hgd _ x y ho g (i * 6 + 1) (cC c) hx hy (hS.there _ _ (by rw [cC_size]; omega)) (iCon c) (cC_one c) (h _ (grown_setCells _ _ _ _) ?_)
  rw [← set_fL]
  exact hS.part (fL_all l) i 1 (fL f) (cC c).toList _ (get_fL hf) (by simp [cC_size]) rfl
/-- A whole file is put. -/
theorem wpList_stFile (hgd : op.guard = none) (x y : Operand) (ho : op.op = .store 93 x y) (g cap i : Nat) (l : List F) (f f' : F) (hf : l[i]? = some f) (hx : a.eval x = .pointer (some ⟨g, i * 6, none⟩)) (hy : a.eval y = .agg (fC f')) (hS : GS w 93 6 g cap (l.map fL))
    (h : ∀ w1, w.grownBy w1 (some g) → GS w1 93 6 g cap ((l.set i f').map fL) → wpList Tryz.prog ops Q rest (a.put op.dst undef) w1) : wpList Tryz.prog ops Q (op :: rest) a w := by
  have hin := in_cap hS hf
  refine wpList_store_mid hgd _ x y ho g (i * 6) (fC f') hx hy (hS.there _ _ (by rw [fC_size]; omega)) (iFile f') (fC_one f') (h _ (grown_setCells _ _ _ _) ?_)
  rw [← set_fL]
  exact hS.part (fL_all l) i 0 (fL f) (fC f').toList _ (get_fL hf) (by simp [fC_size]) rfl
/-- What was last done to a file is put. -/
theorem wpList_stLast (hgd : op.guard = none) (x y : Operand) (ho : op.op = .store 81 x y) (g cap i : Nat) (l : List F) (f : F) (hf : l[i]? = some f) (n : Nat) (hx : a.eval x = .pointer (some ⟨g, i * 6 + 5, none⟩)) (hy : a.eval y = .int .i64 (n : Nat)) (hS : GS w 93 6 g cap (l.map fL))
    (h : ∀ w1, w.grownBy w1 (some g) → GS w1 93 6 g cap ((l.set i { f with last := n }).map fL) → wpList Tryz.prog ops Q rest (a.put op.dst undef) w1) : wpList Tryz.prog ops Q (op :: rest) a w := by
  have hin := in_cap hS hf
  have hth := hS.there (i * 6 + 5) 1 (by omega)
  refine wpList_plain hgd fun K hK => ?_
  unfold Oper.wp execOp
  have hs : (storeVar 81 ⟨g, i * 6 + 5, none⟩ (.int .i64 (n : Nat))).run Tryz.prog w = .ok () (w.setCells g (i * 6 + 5) [.int .i64 (n : Nat)]) := by
    have := run_storeCells_cells (P := Tryz.prog) g (i * 6 + 5) [.int .i64 (n : Nat)] 0 w (fun j hj => (hth j (by simpa using hj)).1) (fun j hj => (hth j (by simpa using hj)).2) (fun u hu => by simp at hu; subst hu; rfl)
    simp only [Nat.add_zero] at this
    simp [storeVar, Sem.run_bind, sizeOf_run iDeed, Value.cells, this]
  simp only [ho, hx, hy, Instr.storeAt, Instr.sureAddr, Sem.run_bind, Sem.run_pure, Result.andThen_ok, hs]
  refine hK _ _ (h _ (grown_setCells _ _ _ _) ?_)
  rw [← set_fL]
  exact hS.part (fL_all l) i 5 (fL f) [.int .i64 (n : Nat)] _ (get_fL hf) (by simp) rfl
end
theorem bslF1 (f : F) (w : World) : (Instr.buildSlice 59 1 #[(0, .agg (fC f))]).run Tryz.prog w = .ok (.slice (some ⟨w.heap.size, 0, none⟩) 1 1) (w.alloc (.cells (fC f) 93)) := by
  have hr6 : Array.range 6 = #[0, 1, 2, 3, 4, 5] := by decide
  simp [Instr.buildSlice, run_underlying Tryz.underlying59, sizeOf_run zFile.2, Sem.run_bind, Instr.fill, newRow, zFile.1, fC, Value.cells, hr6]
section
variable {ops : Array Oper} {rest : List Oper} {op : Oper} {a : Act} {w : World} {Q : Exit → Act → World → Prop}
theorem wpList_bslF1 (hgd : op.guard = none) (x : Operand) (ho : op.op = .buildSlice 59 1 #[(0, x)]) (f : F) (hx : a.eval x = .agg (fC f))
    (h : ∀ w1 : World, Below w.heap.size w w1 → Blk w1 w.heap.size (fC f) 93 → wpList Tryz.prog ops Q rest (a.put op.dst (.slice (some ⟨w.heap.size, 0, none⟩) 1 1)) w1) : wpList Tryz.prog ops Q (op :: rest) a w := by
  have e : (#[(0, x)] : Array (Nat × Operand)).map (fun (i, x) => (i, a.eval x)) = #[(0, .agg (fC f))] := by simp [hx]
  refine wpList_run hgd _ _ ?_ (h _ ((Below.refl _ _).alloc (Nat.le_refl _) _) (Blk.new _ _ _))
  unfold execOp
  simp only [ho, Sem.run_bind, e, bslF1, Result.andThen_ok]
  rfl
end
/-- What a change of the files leaves. -/
def LayP (w : World) (p : Nat) (b : Option Nat) (m : DM) (l : List F) (e : Ending) (w' : World) : Prop := e = .returned (.tuple #[]) ∧ ∃ b', Chg w w' p b b' ∧ DK w' p b' { m with l := l }

theorem mod_get {l : List F} {i : Nat} {f : F} (c : Option B) (h : Nat) (hf : l[i]? = some f) : (l.set i { f with is := c }).set i { ({ f with is := c } : F) with last := h } = l.modify i (kupd c h) ∧ (l.modify i (kupd c h))[i]? = some (kupd c h f) := by
  obtain ⟨hi, rfl⟩ := List.getElem?_eq_some_iff.1 hf
  refine ⟨?_, by simp [hi]⟩
  rw [List.set_set]
  apply List.ext_getElem?
  intro j
  by_cases hj : i = j
  · subst hj; simp [hi, kupd]
  · simp [List.getElem?_set_ne hj, hj]
theorem ins_get {n : B} {l : List F} (h : fnd n l = false) : (ins n l)[plc n l]? = some ⟨n, none, none, 0⟩ := by
  unfold ins
  rw [if_neg (by simp [h]), List.getElem?_append_right (by rw [List.length_take]; exact Nat.min_le_left ..), List.length_take, Nat.min_eq_left (plc_le n l), Nat.sub_self]
  rfl
theorem ins_len (n : B) (l : List F) : (ins n l).length ≤ l.length + 1 := by
  have := plc_le n l
  unfold ins
  split <;> simp <;> omega
/-- The files behind laying one, by whether it is gone. -/
theorem lay_eq {n : B} {c : Option B} {h : Nat} {l : List F} {f : F} (hf : (ins n l)[plc n l]? = some f) : lay n c h l = if gone (kupd c h f) = true then ((ins n l).modify (plc n l) (kupd c h)).take (plc n l) ++ ((ins n l).modify (plc n l) (kupd c h)).drop (plc n l + 1) else (ins n l).modify (plc n l) (kupd c h) := by
  unfold lay
  dsimp only
  rw [(mod_get c h hf).2]
  simp only [Option.any_some]
  rw [List.eraseIdx_eq_take_drop_succ]

theorem lay_apart {b : Option Nat} {N M : Nat} (h : ∀ r, b = some r → r < N) (hN : N ≤ M) : b ≠ some M := fun e => by have := h M e; omega
theorem lay_p {b : Option Nat} {p : Nat} (h : ∀ r, b = some r → some r ≠ some p) : some p ≠ b := fun e => h p e.symm rfl
theorem lay_c {b : Option Nat} {N : Nat} (h : ∀ r, b = some r → r < N) : some N ≠ b := fun e => by have := h N e.symm; omega
set_option maxRecDepth 100000 in
set_option maxHeartbeats 4000000 in
theorem lay_old (p : Nat) (b : Option Nat) (m : DM) (n : B) (c : Option B) (h : Nat) (w : World) (hK : DK w p b m) (hr : Ris m.l) (hl : m.l.length ≤ 999999) (hq : fnd n m.l = true) :
    Calls Tryz.prog 75 #[.pointer (some ⟨p, 0, none⟩), .string ⟨n.toArray⟩, .agg (cC c), .int .i64 (h : Nat)] w (LayP w p b m (lay n c h m.l)) := by
  have HP := fun w1 (hB : Below w.heap.size w w1) => place_any p b m n w1 (hK.below hB) hr (by omega)
  obtain ⟨sl, hD, hF, hb⟩ := hK.out
  obtain ⟨a, cap, rfl, hcap⟩ := hF.sl
  obtain ⟨f, hf, _⟩ := fnd_at hq
  obtain ⟨g, rfl, hS, hg⟩ := hF.at _ f hf
  have hb2 : b = some g := hb.symm
  subst hb2
  have hI : ins n m.l = m.l := by unfold ins; rw [if_pos hq]
  have hLay := lay_eq (c := c) (h := h) (l := m.l) (f := f) (by rw [hI]; exact hf)
  rw [hI] at hLay
  rw [hq] at HP
  have hpg : p ≠ g := fun e => hF.ne hD (by decide) g rfl (by rw [e])
  have hpl := hD.lt
  have hgl := hS.lt
  have hcg : w.heap.size ≠ g := by omega
  clear hg hb hI hK
  generalize plc n m.l = i at *
  go_enter Tryz.func75, Tryz.ntmps75
  go_wp2_with (first
    | (go_at_call 101; refine (HP _ hw1).mono ?_; rintro e w2 ⟨rfl, hw2⟩; replace h6 := h6.belowSize hw2; have hB2 := hw1.trans (hw2.mono hw1.size))
    | (with_reducible refine at_list ?_; first
      | (refine wpList_boxRow (op := ⟨some 6, _, _, _, _, _⟩) rfl _ _ rfl _ rfl ?_; intro w1 hw1 hs1 h6; clear hs1)))
  have hD2 := hD.belowSize hB2
  have hS2 := hS.grown (row := none) (grown_of_below hB2) (fun e => nomatch e)
  have hz1 : (i : Int) < (m.l.length : Int) := by have := (List.getElem?_eq_some_iff.1 hf).1; omega
  clear HP hw1 hw2 hS hF
  have hH0 : Blk w2.drew p (dC (.slice (some ⟨g, 0, none⟩) m.l.length cap) m) 61 ∧ Blk w2.drew w.heap.size (cC c) 91 := ⟨hD2.drew, h6.drew⟩
  have hS9 : GS w2.drew 93 6 g cap (m.l.map fL) := hS2.grown (row := none) (grown_of_below ((Below.refl w2.heap.size w2).drew)) (fun e => nomatch e)
  refine wp_region_held_drew (S := fun w' : World => Blk w' p (dC (.slice (some ⟨g, 0, none⟩) m.l.length cap) m) 61 ∧ Blk w' w.heap.size (cC c) 91) (by kernel_rfl) hH0 (fun hH => ?_)
  try go_frame
  refine wpAnyH_take (i := 0) (oi := ⟨some 30, _, _, _, _, _⟩) (v := .pointer (some ⟨p, 0, none⟩)) rfl (by kernel_rfl) (by kernel_rfl) (by kernel_rfl) (fun _ _ _ h => h) (Or.inl ⟨by rfl, fun w hSw => by go_simp⟩) hH ?_
  try simp only [Act.put, List.setIfInBounds_toArray, List.set_cons_zero, List.set_cons_succ]
  refine wpAnyH_take (i := 1) (oi := ⟨some 31, _, _, _, _, _⟩) (v := .pointer (some ⟨p, 0, none⟩)) rfl (by kernel_rfl) (by kernel_rfl) (by kernel_rfl) (fun _ _ _ h => h) (Or.inl ⟨by rfl, fun w hSw => by go_simp⟩) hH ?_
  try simp only [Act.put, List.setIfInBounds_toArray, List.set_cons_zero, List.set_cons_succ]
  refine wpAnyH_take (i := 2) (oi := ⟨some 32, _, _, _, _, _⟩) (v := .pointer (some ⟨p, 0, none⟩)) rfl (by kernel_rfl) (by kernel_rfl) (by kernel_rfl) (fun _ _ _ h => h) (Or.inl ⟨by rfl, fun w hSw => by go_simp⟩) hH ?_
  try simp only [Act.put, List.setIfInBounds_toArray, List.set_cons_zero, List.set_cons_succ]
  refine wpAnyH_take (i := 3) (oi := ⟨some 33, _, _, _, _, _⟩) (v := .slice (some ⟨g, 0, none⟩) m.l.length cap) rfl (by kernel_rfl) (by kernel_rfl) (by kernel_rfl) (fun _ _ _ h => h) (Or.inl ⟨by rfl, fun w hSw => run_loadCellB _ _ rfl _ 0 rfl _ _ hSw.1 _ Tryz.underlying59 rfl _ (dC_g0 _ _)⟩) hH ?_
  try simp only [Act.put, List.setIfInBounds_toArray, List.set_cons_zero, List.set_cons_succ]
  refine wpAnyH_take (i := 4) (oi := ⟨some 34, _, _, _, _, _⟩) (v := .int .i64 (i : Nat)) rfl (by kernel_rfl) (by kernel_rfl) (by kernel_rfl) (fun _ _ _ h => h) (Or.inl ⟨by rfl, fun w hSw => by go_simp⟩) hH ?_
  try simp only [Act.put, List.setIfInBounds_toArray, List.set_cons_zero, List.set_cons_succ]
  refine wpAnyH_take (i := 5) (oi := ⟨some 35, _, _, _, _, _⟩) (v := .pointer (some ⟨p, 0, none⟩)) rfl (by kernel_rfl) (by kernel_rfl) (by kernel_rfl) (fun _ _ _ h => h) (Or.inl ⟨by rfl, fun w hSw => by go_simp⟩) hH ?_
  try simp only [Act.put, List.setIfInBounds_toArray, List.set_cons_zero, List.set_cons_succ]
  refine wpAnyH_take (i := 6) (oi := ⟨some 36, _, _, _, _, _⟩) (v := .pointer (some ⟨p, 0, none⟩)) rfl (by kernel_rfl) (by kernel_rfl) (by kernel_rfl) (fun _ _ _ h => h) (Or.inl ⟨by rfl, fun w hSw => by go_simp⟩) hH ?_
  try simp only [Act.put, List.setIfInBounds_toArray, List.set_cons_zero, List.set_cons_succ]
  refine wpAnyH_take (i := 7) (oi := ⟨some 37, _, _, _, _, _⟩) (v := .pointer (some ⟨p, 0, none⟩)) rfl (by kernel_rfl) (by kernel_rfl) (by kernel_rfl) (fun _ _ _ h => h) (Or.inl ⟨by rfl, fun w hSw => by go_simp⟩) hH ?_
  try simp only [Act.put, List.setIfInBounds_toArray, List.set_cons_zero, List.set_cons_succ]
  refine wpAnyH_take (i := 8) (oi := ⟨some 38, _, _, _, _, _⟩) (v := .slice (some ⟨g, 0, none⟩) m.l.length cap) rfl (by kernel_rfl) (by kernel_rfl) (by kernel_rfl) (fun _ _ _ h => h) (Or.inl ⟨by rfl, fun w hSw => run_loadCellB _ _ rfl _ 0 rfl _ _ hSw.1 _ Tryz.underlying59 rfl _ (dC_g0 _ _)⟩) hH ?_
  try simp only [Act.put, List.setIfInBounds_toArray, List.set_cons_zero, List.set_cons_succ]
  refine wpAnyH_take (i := 9) (oi := ⟨some 39, _, _, _, _, _⟩) (v := .int .i64 (i : Nat)) rfl (by kernel_rfl) (by kernel_rfl) (by kernel_rfl) (fun _ _ _ h => h) (Or.inl ⟨by rfl, fun w hSw => by go_simp⟩) hH ?_
  try simp only [Act.put, List.setIfInBounds_toArray, List.set_cons_zero, List.set_cons_succ]
  refine wpAnyH_take (i := 10) (oi := ⟨some 40, _, _, _, _, _⟩) (v := .agg (cC c)) rfl (by kernel_rfl) (by kernel_rfl) (by kernel_rfl) (fun _ _ _ h => h) (Or.inl ⟨by rfl, fun w hSw => run_loadMid _ _ rfl _ 0 rfl _ hSw.2.rangeAll _ Tryz.underlying91 rfl (iCon _)⟩) hH ?_
  try simp only [Act.put, List.setIfInBounds_toArray, List.set_cons_zero, List.set_cons_succ]
  refine wpAnyH_take (i := 11) (oi := ⟨some 41, _, _, _, _, _⟩) (v := .int .i64 (h : Nat)) rfl (by kernel_rfl) (by kernel_rfl) (by kernel_rfl) (fun _ _ _ h => h) (Or.inl ⟨by rfl, fun w hSw => by go_simp⟩) hH ?_
  try simp only [Act.put, List.setIfInBounds_toArray, List.set_cons_zero, List.set_cons_succ]
  refine wpAnyH_take (i := 12) (oi := ⟨some 42, _, _, _, _, _⟩) (v := .pointer (some ⟨g, i * 6, none⟩)) rfl (by kernel_rfl) (by kernel_rfl) (by kernel_rfl) (fun _ _ _ h => h) (Or.inl ⟨by rfl, fun w hSw => by go_simp⟩) hH ?_
  try simp only [Act.put, List.setIfInBounds_toArray, List.set_cons_zero, List.set_cons_succ]
  refine wpAnyH_take (i := 13) (oi := ⟨some 43, _, _, _, _, _⟩) (v := .pointer (some ⟨g, i * 6 + 1, none⟩)) rfl (by kernel_rfl) (by kernel_rfl) (by kernel_rfl) (fun _ _ _ h => h) (Or.inl ⟨by rfl, fun w hSw => by go_simp⟩) hH ?_
  try simp only [Act.put, List.setIfInBounds_toArray, List.set_cons_zero, List.set_cons_succ]
  refine wpAnyH_solo (i := 14) (o := ⟨none, _, _, _, _, _⟩) rfl (by kernel_rfl) (fun K hK => ?_)
  refine wpList_stIs rfl _ _ rfl g cap i m.l f hf c rfl rfl hS9 ?_
  intro w8 hg8 hS8
  have hH8 : Blk w8 p (dC (.slice (some ⟨g, 0, none⟩) m.l.length cap) m) 61 ∧ Blk w8 w.heap.size (cC c) 91 := ⟨hH.1.grown hg8 (fun e => hpg (Option.some.inj e)), hH.2.grown hg8 (fun e => hcg (Option.some.inj e))⟩
  refine hK _ _ hH8 ?_
  clear hK K
  try simp only [Act.put]
  refine wpAnyH_take (i := 15) (oi := ⟨some 44, _, _, _, _, _⟩) (v := .pointer (some ⟨g, i * 6, none⟩)) rfl (by kernel_rfl) (by kernel_rfl) (by kernel_rfl) (fun _ _ _ h => h) (Or.inl ⟨by rfl, fun w hSw => by go_simp⟩) hH8 ?_
  try simp only [Act.put, List.setIfInBounds_toArray, List.set_cons_zero, List.set_cons_succ]
  refine wpAnyH_take (i := 16) (oi := ⟨some 45, _, _, _, _, _⟩) (v := .pointer (some ⟨g, i * 6 + 5, none⟩)) rfl (by kernel_rfl) (by kernel_rfl) (by kernel_rfl) (fun _ _ _ h => h) (Or.inl ⟨by rfl, fun w hSw => by go_simp⟩) hH8 ?_
  try simp only [Act.put, List.setIfInBounds_toArray, List.set_cons_zero, List.set_cons_succ]
  refine wpAnyH_solo (i := 17) (o := ⟨none, _, _, _, _, _⟩) rfl (by kernel_rfl) (fun K hK => ?_)
  refine wpList_stLast rfl _ _ rfl g cap i _ _ (List.getElem?_set_self (List.getElem?_eq_some_iff.1 hf).1) h rfl rfl hS8 ?_
  intro w9 hg9 hS10
  have hH9 : Blk w9 p (dC (.slice (some ⟨g, 0, none⟩) m.l.length cap) m) 61 ∧ Blk w9 w.heap.size (cC c) 91 := ⟨hH8.1.grown hg9 (fun e => hpg (Option.some.inj e)), hH8.2.grown hg9 (fun e => hcg (Option.some.inj e))⟩
  refine hK _ _ hH9 ?_
  clear hK K
  try simp only [Act.put]
  refine wpAnyH_done (by kernel_rfl) ?_ _
  go_simp
  have hM := mod_get c h hf
  rw [hM.1] at hS10
  have hl5 : (m.l.modify i (kupd c h)).length = m.l.length := List.length_modify ..
  have hi5 := (List.getElem?_eq_some_iff.1 hf).1
  have hF9 : FL w9 (.slice (some ⟨g, 0, none⟩) m.l.length cap) (m.l.modify i (kupd c h)) := ⟨fL_all _, .inr ⟨g, cap, Nat.zero_le _, by rw [List.length_map, hl5], hS10⟩⟩
  have hC9 : Chg w w9 p (some g) (some g) := ((Chg.below hB2).trans (Chg.below ((Below.refl _ w2).drew))).trans ((Chg.row hg8 (fun r e => .inl e)).trans (Chg.row hg9 (fun r e => .inl e)))
  have hr9 := hS10.range (fL_all _) i _ (get_fL hM.2)
  have HG := fun w' => gone_any (kupd c h f) w'
  have HD : ∀ w' : World, GS w' 93 6 g cap ((m.l.modify i (kupd c h)).map fL) → Calls Tryz.prog 103 #[.slice (some ⟨g, 0, none⟩) m.l.length cap, .int .i64 (i : Nat), .int .i64 ((i + 1 : Nat) : Int)] w' (SlP w' (some g) ((m.l.modify i (kupd c h)).take i ++ (m.l.modify i (kupd c h)).drop (i + 1))) := fun w' hS' => by
    have := delete_any (m.l.modify i (kupd c h)) g cap i w' hS' (by rw [hl5]; exact hi5) (by rw [hl5]; omega)
    rw [hl5] at this
    exact this
  have hz7 : (i : Int) < (m.l.length : Int) := by omega
  have hw7 : IntKind.i64.wrap ((i : Int) + 1) = ((i + 1 : Nat) : Int) := by rw [IntKind.wrap_i64]; omega
  obtain ⟨hD9, hCC⟩ := hH9
  generalize m.l.modify i (kupd c h) = l9 at *
  generalize kupd c h f = f9 at *
  have HE : Hid _ := hLay
  clear hLay hS9 hS8 hH hH8 hH0 hM hl5 hCC hi5
  cases hgn : gone f9
  · rw [hgn] at HG HE
    rw [if_neg (by simp)] at HE
    go_wp2_with (first
      | (go_at_call 89; refine (HG _).mono ?_; rintro e w10 ⟨rfl, hw10⟩; replace hD9 := hD9.belowSize hw10; replace hF9 := hF9.below hw10; have hS11 := hS10.grown (row := none) (grown_of_below hw10) (fun e => nomatch e); have hC10 := hC9.trans (Chg.below hw10))
      | (with_reducible refine at_list ?_; first
        | (refine wpList_loadCell (op := ⟨some 49, _, _, _, _, _⟩) rfl _ _ rfl p 0 rfl _ _ hD9 _ Tryz.underlying59 rfl _ (dC_g0 _ _) ?_)
        | (refine wpList_loadAt (op := ⟨some 52, _, _, _, _, _⟩) rfl _ _ rfl g (i * 6) rfl (fC f9) hr9 _ Tryz.underlying93 rfl (iFile _) ?_)))
    refine bodyPost_end (results_none rfl _ _ _) rfl ⟨rfl, some g, hC10, ⟨_, by rw [HE.out]; exact hD9, by rw [HE.out]; exact hF9, rfl⟩⟩
  · rw [hgn] at HG HE
    rw [if_pos rfl] at HE
    go_wp2_with (first
      | (go_at_call 89; refine (HG _).mono ?_; rintro e w10 ⟨rfl, hw10⟩; replace hD9 := hD9.belowSize hw10; replace hF9 := hF9.below hw10; have hS11 := hS10.grown (row := none) (grown_of_below hw10) (fun e => nomatch e); have hC10 := hC9.trans (Chg.below hw10))
      | (go_at_call 103; refine (HD w10 hS11).mono ?_; rintro e w11 ⟨sl11, rfl, hg11, hF11, hn11⟩; replace hD9 := hD9.grown hg11 (fun e => hpg (Option.some.inj e)); have hC11 := hC10.trans (Chg.row hg11 hn11))
      | (with_reducible refine at_list ?_; first
        | (refine wpList_loadCell (op := ⟨some 49, _, _, _, _, _⟩) rfl _ _ rfl p 0 rfl _ _ hD9 _ Tryz.underlying59 rfl _ (dC_g0 _ _) ?_)
        | (refine wpList_loadAt (op := ⟨some 52, _, _, _, _, _⟩) rfl _ _ rfl g (i * 6) rfl (fC f9) hr9 _ Tryz.underlying93 rfl (iFile _) ?_)
        | (refine wpList_loadCell (op := ⟨some 58, _, _, _, _, _⟩) rfl _ _ rfl p 0 rfl _ _ hD9 _ Tryz.underlying59 rfl _ (dC_g0 _ _) ?_)
        | (refine wpList_storeCell (op := ⟨none, .store 59 (.tmp 64) (.tmp 62), _, _, _, _⟩) rfl _ _ _ rfl p 0 rfl sl11 (by with_unfolding_all exact rfl) _ _ hD9 iSlF hF11.cells.1 hF11.cells.2 (by rw [dC_size]; decide) ?_; intro w12 hg12 hs12 hD12; clear hs12)))
    refine bodyPost_end (results_none rfl _ _ _) rfl ⟨rfl, slBlk sl11, hC11.trans (Chg.own hg12), ⟨sl11, ?_, by rw [HE.out]; exact hF11.grown hg12 (hF11.ne hD9 (by decide)), rfl⟩⟩
    rw [dC_s0 _ _ _ (lay n c h m.l)] at hD12
    exact hD12
set_option maxRecDepth 100000 in
set_option maxHeartbeats 4000000 in
theorem lay_none (p : Nat) (b : Option Nat) (m : DM) (n : B) (c : Option B) (h : Nat) (w : World) (hK : DK w p b m) (hr : Ris m.l) (hl : m.l.length ≤ 999999) (hq : fnd n m.l = false) :
    Calls Tryz.prog 75 #[.pointer (some ⟨p, 0, none⟩), .string ⟨n.toArray⟩, .agg (cC c), .int .i64 (h : Nat)] w (LayP w p b m (lay n c h m.l)) := by
  have HP := fun w1 (hB : Below w.heap.size w w1) => place_any p b m n w1 (hK.below hB) hr (by omega)
  obtain ⟨sl, hD, hF, hb⟩ := hK.out
  obtain ⟨a, cap0, rfl, hcap⟩ := hF.sl
  have hI : ins n m.l = m.l.take (plc n m.l) ++ ⟨n, none, none, 0⟩ :: m.l.drop (plc n m.l) := by unfold ins; rw [if_neg (by simp [hq])]
  have hf := ins_get hq
  have hL5 := ins_len n m.l
  have hLay := lay_eq (c := c) (h := h) (l := m.l) hf
  have HN : ∀ (w' : World) (vb : Nat), FL w' (.slice a m.l.length cap0) m.l → Blk w' vb (fC ⟨n, none, none, 0⟩) 93 → slBlk (.slice a m.l.length cap0) ≠ some vb → Calls Tryz.prog 102 #[.slice a m.l.length cap0, .int .i64 (plc n m.l : Nat), .slice (some ⟨vb, 0, none⟩) 1 1] w' (SlP w' (slBlk (.slice a m.l.length cap0)) (ins n m.l)) := fun w' vb h1 h2 h3 => by
    rw [hI]
    exact insert_any m.l _ a cap0 vb _ w' h1 h2 h3 (plc_le _ _) (by omega)
  rw [hq] at HP
  have hpl := hD.lt
  have hbl : ∀ r, slBlk (.slice a m.l.length cap0) = some r → r < w.heap.size := fun r e => (GL.lt hF r e).2
  have hpb := hF.ne hD (by decide)
  clear hK hI hr
  generalize plc n m.l = i at *
  generalize hSB : slBlk (.slice a m.l.length cap0) = b0 at *
  subst hb
  generalize ins n m.l = L5 at *
  go_enter Tryz.func75, Tryz.ntmps75
  go_wp2_with (first
    | (go_at_call 101; refine (HP _ hw1).mono ?_; rintro e w2 ⟨rfl, hw2⟩; replace h6 := h6.belowSize hw2; have hB2 := hw1.trans (hw2.mono hw1.size); replace hD := hD.belowSize hB2; replace hF := hF.below hB2)
    | (go_at_call 102; refine (HN w3 w2.heap.size hF h7 (lay_apart hbl hB2.size)).mono ?_; rintro e w4 ⟨sl4, rfl, hg4, hF4, hn4⟩; have hD4 := hD.grown hg4 (lay_p hpb); have h64 := h6.grown hg4 (lay_c hbl); have hC4 := (Chg.below (p := p) (b := b0) hB3).trans (Chg.row hg4 hn4))
    | (with_reducible refine at_list ?_; first
      | (refine wpList_boxRow (op := ⟨some 6, _, _, _, _, _⟩) rfl _ _ rfl _ rfl ?_; intro w1 hw1 hs1 h6; clear hs1)
      | (refine wpList_loadCell (op := ⟨some 22, _, _, _, _, _⟩) rfl _ _ rfl p 0 rfl _ _ hD _ Tryz.underlying59 rfl _ (dC_g0 _ _) ?_)
      | (refine wpList_run (op := ⟨some 25, _, _, _, _, _⟩) rfl _ _ (run_built1 _ _ _ rfl _ rfl _ (builtF n)) ?_)
      | (refine wpList_bslF1 (op := ⟨some 26, _, _, _, _, _⟩) rfl _ rfl _ rfl ?_; intro w3 hw3 h7; replace h6 := h6.belowSize hw3; have hB3 := hB2.trans (hw3.mono hB2.size); replace hD := hD.belowSize hw3; replace hF := hF.below hw3)
      | (refine wpList_storeCell (op := ⟨none, .store 59 (.tmp 29) (.tmp 27), _, _, _, _⟩) rfl _ _ _ rfl p 0 rfl sl4 (by with_unfolding_all exact rfl) _ _ hD4 iSlF hF4.cells.1 hF4.cells.2 (by rw [dC_size]; decide) ?_; intro w5 hg5 hs5 hD5; clear hs5)))
  have hF5 := hF4.grown hg5 (hF4.ne hD4 (by decide))
  have h65 := h64.grown hg5 (by simp; omega)
  have hD6 : Blk w5 p (dC sl4 m) 61 := hD5
  have hC5 := hC4.trans (Chg.own hg5)
  obtain ⟨a5, cap, rfl, hcap5⟩ := hF5.sl
  obtain ⟨g, rfl, hS5, _⟩ := hF5.at i _ hf
  have hpg : p ≠ g := fun e => hF5.ne hD6 (by decide) g rfl (by rw [e])
  have hcg : w.heap.size ≠ g := fun e => hF5.ne h65 (by decide) g rfl (by rw [e])
  have hz1 : (i : Int) < (L5.length : Int) := by have := (List.getElem?_eq_some_iff.1 hf).1; omega
  have hC5' : Chg w w5 p b0 (some g) := hC5
  clear HP HN hw1 hw2 hF hF4 hD4 hD hg4 hn4 hC4 h64 h6 h7 hw3 hB3 hB2 hD5 hg5 hC5 hF5 hbl hpb hSB hcap
  have hH0 : Blk w5.drew p (dC (.slice (some ⟨g, 0, none⟩) L5.length cap) m) 61 ∧ Blk w5.drew w.heap.size (cC c) 91 := ⟨hD6.drew, h65.drew⟩
  have hS9 : GS w5.drew 93 6 g cap (L5.map fL) := hS5.grown (row := none) (grown_of_below ((Below.refl w5.heap.size w5).drew)) (fun e => nomatch e)
  refine wp_region_held_drew (S := fun w' : World => Blk w' p (dC (.slice (some ⟨g, 0, none⟩) L5.length cap) m) 61 ∧ Blk w' w.heap.size (cC c) 91) (by kernel_rfl) hH0 (fun hH => ?_)
  try go_frame
  refine wpAnyH_take (i := 0) (oi := ⟨some 30, _, _, _, _, _⟩) (v := .pointer (some ⟨p, 0, none⟩)) rfl (by kernel_rfl) (by kernel_rfl) (by kernel_rfl) (fun _ _ _ h => h) (Or.inl ⟨by rfl, fun w hSw => by go_simp⟩) hH ?_
  try simp only [Act.put, List.setIfInBounds_toArray, List.set_cons_zero, List.set_cons_succ]
  refine wpAnyH_take (i := 1) (oi := ⟨some 31, _, _, _, _, _⟩) (v := .pointer (some ⟨p, 0, none⟩)) rfl (by kernel_rfl) (by kernel_rfl) (by kernel_rfl) (fun _ _ _ h => h) (Or.inl ⟨by rfl, fun w hSw => by go_simp⟩) hH ?_
  try simp only [Act.put, List.setIfInBounds_toArray, List.set_cons_zero, List.set_cons_succ]
  refine wpAnyH_take (i := 2) (oi := ⟨some 32, _, _, _, _, _⟩) (v := .pointer (some ⟨p, 0, none⟩)) rfl (by kernel_rfl) (by kernel_rfl) (by kernel_rfl) (fun _ _ _ h => h) (Or.inl ⟨by rfl, fun w hSw => by go_simp⟩) hH ?_
  try simp only [Act.put, List.setIfInBounds_toArray, List.set_cons_zero, List.set_cons_succ]
  refine wpAnyH_take (i := 3) (oi := ⟨some 33, _, _, _, _, _⟩) (v := .slice (some ⟨g, 0, none⟩) L5.length cap) rfl (by kernel_rfl) (by kernel_rfl) (by kernel_rfl) (fun _ _ _ h => h) (Or.inl ⟨by rfl, fun w hSw => run_loadCellB _ _ rfl _ 0 rfl _ _ hSw.1 _ Tryz.underlying59 rfl _ (dC_g0 _ _)⟩) hH ?_
  try simp only [Act.put, List.setIfInBounds_toArray, List.set_cons_zero, List.set_cons_succ]
  refine wpAnyH_take (i := 4) (oi := ⟨some 34, _, _, _, _, _⟩) (v := .int .i64 (i : Nat)) rfl (by kernel_rfl) (by kernel_rfl) (by kernel_rfl) (fun _ _ _ h => h) (Or.inl ⟨by rfl, fun w hSw => by go_simp⟩) hH ?_
  try simp only [Act.put, List.setIfInBounds_toArray, List.set_cons_zero, List.set_cons_succ]
  refine wpAnyH_take (i := 5) (oi := ⟨some 35, _, _, _, _, _⟩) (v := .pointer (some ⟨p, 0, none⟩)) rfl (by kernel_rfl) (by kernel_rfl) (by kernel_rfl) (fun _ _ _ h => h) (Or.inl ⟨by rfl, fun w hSw => by go_simp⟩) hH ?_
  try simp only [Act.put, List.setIfInBounds_toArray, List.set_cons_zero, List.set_cons_succ]
  refine wpAnyH_take (i := 6) (oi := ⟨some 36, _, _, _, _, _⟩) (v := .pointer (some ⟨p, 0, none⟩)) rfl (by kernel_rfl) (by kernel_rfl) (by kernel_rfl) (fun _ _ _ h => h) (Or.inl ⟨by rfl, fun w hSw => by go_simp⟩) hH ?_
  try simp only [Act.put, List.setIfInBounds_toArray, List.set_cons_zero, List.set_cons_succ]
  refine wpAnyH_take (i := 7) (oi := ⟨some 37, _, _, _, _, _⟩) (v := .pointer (some ⟨p, 0, none⟩)) rfl (by kernel_rfl) (by kernel_rfl) (by kernel_rfl) (fun _ _ _ h => h) (Or.inl ⟨by rfl, fun w hSw => by go_simp⟩) hH ?_
  try simp only [Act.put, List.setIfInBounds_toArray, List.set_cons_zero, List.set_cons_succ]
  refine wpAnyH_take (i := 8) (oi := ⟨some 38, _, _, _, _, _⟩) (v := .slice (some ⟨g, 0, none⟩) L5.length cap) rfl (by kernel_rfl) (by kernel_rfl) (by kernel_rfl) (fun _ _ _ h => h) (Or.inl ⟨by rfl, fun w hSw => run_loadCellB _ _ rfl _ 0 rfl _ _ hSw.1 _ Tryz.underlying59 rfl _ (dC_g0 _ _)⟩) hH ?_
  try simp only [Act.put, List.setIfInBounds_toArray, List.set_cons_zero, List.set_cons_succ]
  refine wpAnyH_take (i := 9) (oi := ⟨some 39, _, _, _, _, _⟩) (v := .int .i64 (i : Nat)) rfl (by kernel_rfl) (by kernel_rfl) (by kernel_rfl) (fun _ _ _ h => h) (Or.inl ⟨by rfl, fun w hSw => by go_simp⟩) hH ?_
  try simp only [Act.put, List.setIfInBounds_toArray, List.set_cons_zero, List.set_cons_succ]
  refine wpAnyH_take (i := 10) (oi := ⟨some 40, _, _, _, _, _⟩) (v := .agg (cC c)) rfl (by kernel_rfl) (by kernel_rfl) (by kernel_rfl) (fun _ _ _ h => h) (Or.inl ⟨by rfl, fun w hSw => run_loadMid _ _ rfl _ 0 rfl _ hSw.2.rangeAll _ Tryz.underlying91 rfl (iCon _)⟩) hH ?_
  try simp only [Act.put, List.setIfInBounds_toArray, List.set_cons_zero, List.set_cons_succ]
  refine wpAnyH_take (i := 11) (oi := ⟨some 41, _, _, _, _, _⟩) (v := .int .i64 (h : Nat)) rfl (by kernel_rfl) (by kernel_rfl) (by kernel_rfl) (fun _ _ _ h => h) (Or.inl ⟨by rfl, fun w hSw => by go_simp⟩) hH ?_
  try simp only [Act.put, List.setIfInBounds_toArray, List.set_cons_zero, List.set_cons_succ]
  refine wpAnyH_take (i := 12) (oi := ⟨some 42, _, _, _, _, _⟩) (v := .pointer (some ⟨g, i * 6, none⟩)) rfl (by kernel_rfl) (by kernel_rfl) (by kernel_rfl) (fun _ _ _ h => h) (Or.inl ⟨by rfl, fun w hSw => by go_simp⟩) hH ?_
  try simp only [Act.put, List.setIfInBounds_toArray, List.set_cons_zero, List.set_cons_succ]
  refine wpAnyH_take (i := 13) (oi := ⟨some 43, _, _, _, _, _⟩) (v := .pointer (some ⟨g, i * 6 + 1, none⟩)) rfl (by kernel_rfl) (by kernel_rfl) (by kernel_rfl) (fun _ _ _ h => h) (Or.inl ⟨by rfl, fun w hSw => by go_simp⟩) hH ?_
  try simp only [Act.put, List.setIfInBounds_toArray, List.set_cons_zero, List.set_cons_succ]
  refine wpAnyH_solo (i := 14) (o := ⟨none, _, _, _, _, _⟩) rfl (by kernel_rfl) (fun K hK => ?_)
  refine wpList_stIs rfl _ _ rfl g cap i L5 (⟨n, none, none, 0⟩ : F) hf c rfl rfl hS9 ?_
  intro w8 hg8 hS8
  have hH8 : Blk w8 p (dC (.slice (some ⟨g, 0, none⟩) L5.length cap) m) 61 ∧ Blk w8 w.heap.size (cC c) 91 := ⟨hH.1.grown hg8 (fun e => hpg (Option.some.inj e)), hH.2.grown hg8 (fun e => hcg (Option.some.inj e))⟩
  refine hK _ _ hH8 ?_
  clear hK K
  try simp only [Act.put]
  refine wpAnyH_take (i := 15) (oi := ⟨some 44, _, _, _, _, _⟩) (v := .pointer (some ⟨g, i * 6, none⟩)) rfl (by kernel_rfl) (by kernel_rfl) (by kernel_rfl) (fun _ _ _ h => h) (Or.inl ⟨by rfl, fun w hSw => by go_simp⟩) hH8 ?_
  try simp only [Act.put, List.setIfInBounds_toArray, List.set_cons_zero, List.set_cons_succ]
  refine wpAnyH_take (i := 16) (oi := ⟨some 45, _, _, _, _, _⟩) (v := .pointer (some ⟨g, i * 6 + 5, none⟩)) rfl (by kernel_rfl) (by kernel_rfl) (by kernel_rfl) (fun _ _ _ h => h) (Or.inl ⟨by rfl, fun w hSw => by go_simp⟩) hH8 ?_
  try simp only [Act.put, List.setIfInBounds_toArray, List.set_cons_zero, List.set_cons_succ]
  refine wpAnyH_solo (i := 17) (o := ⟨none, _, _, _, _, _⟩) rfl (by kernel_rfl) (fun K hK => ?_)
  refine wpList_stLast rfl _ _ rfl g cap i _ _ (List.getElem?_set_self (List.getElem?_eq_some_iff.1 hf).1) h rfl rfl hS8 ?_
  intro w9 hg9 hS10
  have hH9 : Blk w9 p (dC (.slice (some ⟨g, 0, none⟩) L5.length cap) m) 61 ∧ Blk w9 w.heap.size (cC c) 91 := ⟨hH8.1.grown hg9 (fun e => hpg (Option.some.inj e)), hH8.2.grown hg9 (fun e => hcg (Option.some.inj e))⟩
  refine hK _ _ hH9 ?_
  clear hK K
  try simp only [Act.put]
  refine wpAnyH_done (by kernel_rfl) ?_ _
  go_simp
  have hM := mod_get c h hf
  rw [hM.1] at hS10
  have hl5 : (L5.modify i (kupd c h)).length = L5.length := List.length_modify ..
  have hi5 := (List.getElem?_eq_some_iff.1 hf).1
  have hF9 : FL w9 (.slice (some ⟨g, 0, none⟩) L5.length cap) (L5.modify i (kupd c h)) := ⟨fL_all _, .inr ⟨g, cap, Nat.zero_le _, by rw [List.length_map, hl5], hS10⟩⟩
  have hC9 : Chg w w9 p b0 (some g) := (hC5'.trans (Chg.below ((Below.refl _ w5).drew))).trans ((Chg.row hg8 (fun r e => .inl e)).trans (Chg.row hg9 (fun r e => .inl e)))
  have hr9 := hS10.range (fL_all _) i _ (get_fL hM.2)
  have HG := fun w' => gone_any (kupd c h (⟨n, none, none, 0⟩ : F)) w'
  have HD : ∀ w' : World, GS w' 93 6 g cap ((L5.modify i (kupd c h)).map fL) → Calls Tryz.prog 103 #[.slice (some ⟨g, 0, none⟩) L5.length cap, .int .i64 (i : Nat), .int .i64 ((i + 1 : Nat) : Int)] w' (SlP w' (some g) ((L5.modify i (kupd c h)).take i ++ (L5.modify i (kupd c h)).drop (i + 1))) := fun w' hS' => by
    have := delete_any (L5.modify i (kupd c h)) g cap i w' hS' (by rw [hl5]; exact hi5) (by rw [hl5]; omega)
    rw [hl5] at this
    exact this
  have hz7 : (i : Int) < (L5.length : Int) := by omega
  have hw7 : IntKind.i64.wrap ((i : Int) + 1) = ((i + 1 : Nat) : Int) := by rw [IntKind.wrap_i64]; omega
  obtain ⟨hD9, hCC⟩ := hH9
  generalize L5.modify i (kupd c h) = l9 at *
  generalize kupd c h (⟨n, none, none, 0⟩ : F) = f9 at *
  have HE : Hid _ := hLay
  clear hLay hS9 hS8 hH hH8 hH0 hM hl5 hCC hi5
  cases hgn : gone f9
  · rw [hgn] at HG HE
    rw [if_neg (by simp)] at HE
    go_wp2_with (first
      | (go_at_call 89; refine (HG _).mono ?_; rintro e w10 ⟨rfl, hw10⟩; replace hD9 := hD9.belowSize hw10; replace hF9 := hF9.below hw10; have hS11 := hS10.grown (row := none) (grown_of_below hw10) (fun e => nomatch e); have hC10 := hC9.trans (Chg.below hw10))
      | (with_reducible refine at_list ?_; first
        | (refine wpList_loadCell (op := ⟨some 49, _, _, _, _, _⟩) rfl _ _ rfl p 0 rfl _ _ hD9 _ Tryz.underlying59 rfl _ (dC_g0 _ _) ?_)
        | (refine wpList_loadAt (op := ⟨some 52, _, _, _, _, _⟩) rfl _ _ rfl g (i * 6) rfl (fC f9) hr9 _ Tryz.underlying93 rfl (iFile _) ?_)))
    refine bodyPost_end (results_none rfl _ _ _) rfl ⟨rfl, some g, hC10, ⟨_, by rw [HE.out]; exact hD9, by rw [HE.out]; exact hF9, rfl⟩⟩
  · rw [hgn] at HG HE
    rw [if_pos rfl] at HE
    go_wp2_with (first
      | (go_at_call 89; refine (HG _).mono ?_; rintro e w10 ⟨rfl, hw10⟩; replace hD9 := hD9.belowSize hw10; replace hF9 := hF9.below hw10; have hS11 := hS10.grown (row := none) (grown_of_below hw10) (fun e => nomatch e); have hC10 := hC9.trans (Chg.below hw10))
      | (go_at_call 103; refine (HD w10 hS11).mono ?_; rintro e w11 ⟨sl11, rfl, hg11, hF11, hn11⟩; replace hD9 := hD9.grown hg11 (fun e => hpg (Option.some.inj e)); have hC11 := hC10.trans (Chg.row hg11 hn11))
      | (with_reducible refine at_list ?_; first
        | (refine wpList_loadCell (op := ⟨some 49, _, _, _, _, _⟩) rfl _ _ rfl p 0 rfl _ _ hD9 _ Tryz.underlying59 rfl _ (dC_g0 _ _) ?_)
        | (refine wpList_loadAt (op := ⟨some 52, _, _, _, _, _⟩) rfl _ _ rfl g (i * 6) rfl (fC f9) hr9 _ Tryz.underlying93 rfl (iFile _) ?_)
        | (refine wpList_loadCell (op := ⟨some 58, _, _, _, _, _⟩) rfl _ _ rfl p 0 rfl _ _ hD9 _ Tryz.underlying59 rfl _ (dC_g0 _ _) ?_)
        | (refine wpList_storeCell (op := ⟨none, .store 59 (.tmp 64) (.tmp 62), _, _, _, _⟩) rfl _ _ _ rfl p 0 rfl sl11 (by with_unfolding_all exact rfl) _ _ hD9 iSlF hF11.cells.1 hF11.cells.2 (by rw [dC_size]; decide) ?_; intro w12 hg12 hs12 hD12; clear hs12)))
    refine bodyPost_end (results_none rfl _ _ _) rfl ⟨rfl, slBlk sl11, hC11.trans (Chg.own hg12), ⟨sl11, ?_, by rw [HE.out]; exact hF11.grown hg12 (hF11.ne hD9 (by decide)), rfl⟩⟩
    rw [dC_s0 _ _ _ (lay n c h m.l)] at hD12
    exact hD12
/-- What lay of a disk does. -/
theorem lay_any (p : Nat) (b : Option Nat) (m : DM) (n : B) (c : Option B) (h : Nat) (w : World) (hK : DK w p b m) (hr : Ris m.l) (hl : m.l.length ≤ 999999) :
    Calls Tryz.prog 75 #[.pointer (some ⟨p, 0, none⟩), .string ⟨n.toArray⟩, .agg (cC c), .int .i64 (h : Nat)] w (LayP w p b m (lay n c h m.l)) := by
  cases hq : fnd n m.l
  · exact lay_none p b m n c h w hK hr hl hq
  · exact lay_old p b m n c h w hK hr hl hq
end Go.Proofs.YtaiiojbakmminaaGreatDoor
