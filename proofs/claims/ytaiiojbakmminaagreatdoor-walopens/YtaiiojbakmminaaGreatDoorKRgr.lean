/- What gone, loose, Used, Loose and Names of a disk do. Copying, clearing, appending and cutting slices of things of several cells. What Names of a disk does; slices of texts and of files that grow. Regions that draw their order: laws of one operation, of a call, and of loads. -/
import Derived.Test.YtaiiojbakmminaaGreatDoorKRdg
import Derived.Lib.AppendZerosOnto
import Derived.Deep.RegionLaw
import Derived.Test.YtaiiojbakmminaaGreatDoorKSml
import Derived.RegionTactic
import Derived.Deep.RegionHeld3
import Derived.Maps.RangeWalk
import Derived.Deep.Cut
namespace Go.Proofs.YtaiiojbakmminaaGreatDoor
open Go Go.RowKit
set_option maxRecDepth 100000 in
theorem gone_any (f : F) (w : World) : Calls Tryz.prog 89 #[.agg (fC f)] w fun e w' => e = .returned (.bool (gone f)) ∧ Below w.heap.size w w' := by
  unfold gone
  cases hi : f.is.isSome <;> cases hs : f.sure.isSome <;>
  · have g1 := fC_g1 f
    have g3 := fC_g3 f
    rw [hi] at g1
    rw [hs] at g3
    clear hi hs
    go_enter Tryz.func89, Tryz.ntmps89
    go_wp2_with (with_reducible refine at_list ?_; first
        | (refine wpList_boxRow (op := ⟨some 1, _, _, _, _, _⟩) rfl _ _ rfl _ rfl ?_; intro w1 hw1 hs1 hb1; clear hs1; have c3 := (hb1.cell 3).trans g3)
        | (refine wpList_loadCell (op := ⟨some 5, _, _, _, _, _⟩) rfl _ _ rfl w.heap.size 1 rfl _ _ hb1 _ Tryz.underlying4 rfl _ g1 ?_))
    go_ret
    exact ⟨rfl, hw1⟩
/-- Is a file otherwise than it is sure to be? -/
def isLoose (f : F) : Bool := !decide (f.is = f.sure)
theorem eqStr (a b : B) (w : World) : (Op.equalIn 9999 9 (.string ⟨a.toArray⟩) (.string ⟨b.toArray⟩)).run Tryz.prog w = .ok (decide (a = b)) w := by
  go_simp
  rw [Bool.eq_iff_iff]; simp
theorem eqBool (a b : Bool) (w : World) : (Op.equalIn 9999 4 (.bool a) (.bool b)).run Tryz.prog w = .ok (decide (a = b)) w := by
  go_simp
  rw [Bool.eq_iff_iff]; simp
theorem run_neqC {op : Oper} {a : Act} (x y : Operand) (ho : op.op = .binOp .neq 91 x y 91) (c d : Option B) (hx : a.eval x = .agg (cC c)) (hy : a.eval y = .agg (cC d)) (w : World) :
    (execOp a.eval op).run Tryz.prog w = .ok (.value (.bool (!decide (c = d)))) w := by
  unfold execOp
  simp only [ho, hx, hy]
  go_simp
  simp only [cC_g0, cC_g1, Sem.run_pure, Result.andThen_ok, eqBool, eqStr]
  cases c with
  | none => cases d with
    | none => simp [kbyt]
    | some t => simp
  | some s => cases d with
    | none => simp
    | some t => by_cases h : s = t <;> simp [kbyt, h]
set_option maxRecDepth 100000 in
theorem loose_any (f : F) (w : World) : Calls Tryz.prog 79 #[.agg (fC f)] w fun e w' => e = .returned (.bool (isLoose f)) ∧ Below w.heap.size w w' := by
  go_enter Tryz.func79, Tryz.ntmps79
  go_wp2_with (with_reducible refine at_list ?_; first
    | (refine wpList_boxRow (op := ⟨some 1, _, _, _, _, _⟩) rfl _ _ rfl _ rfl ?_; intro w1 hw1 hs1 hb1; clear hs1; have hra := hb1.rangeAll; have h1 := fL_is hra; have h2 := fL_sure hra)
    | (refine wpList_loadAt (op := ⟨some 4, _, _, _, _, _⟩) rfl _ _ rfl w.heap.size 1 rfl (cC f.is) h1 _ Tryz.underlying91 rfl (iCon _) ?_)
    | (refine wpList_loadAt (op := ⟨some 6, _, _, _, _, _⟩) rfl _ _ rfl w.heap.size 3 rfl (cC f.sure) h2 _ Tryz.underlying91 rfl (iCon _) ?_)
    | (refine wpList_run (op := ⟨some 7, _, _, _, _, _⟩) rfl _ _ (run_neqC _ _ rfl f.is f.sure rfl rfl _) ?_))
  go_ret
  exact ⟨rfl, hw1⟩
/-- The error of a room that is too small comes of the bytes of all files. -/
theorem used_take (l : List F) (i : Nat) (f : F) (h : l[i]? = some f) : usedL (l.take (i + 1)) = usedL (l.take i) + (kbyt f.is).length := by
  obtain ⟨hi, rfl⟩ := List.getElem?_eq_some_iff.1 h
  unfold usedL
  rw [List.take_succ_eq_append_getElem hi, List.map_append, List.sum_append]
  simp
theorem used_le (l : List F) (i : Nat) : usedL (l.take i) ≤ usedL l := by
  unfold usedL
  conv => rhs; rw [← List.take_append_drop i l]
  rw [List.map_append, List.sum_append]
  omega
set_option maxRecDepth 100000 in
set_option maxHeartbeats 1000000 in
theorem used_any (p : Nat) (b : Option Nat) (m : DM) (w : World) (h : DK w p b m) (hl : m.l.length ≤ 1000000) (hu : usedL m.l ≤ 1000000000000) :
    Calls Tryz.prog 33 #[.pointer (some ⟨p, 0, none⟩)] w fun e w' => e = .returned (.int .i64 (usedL m.l : Nat)) ∧ Below w.heap.size w w' := by
  obtain ⟨sl, hD, hF, _⟩ := h.out
  obtain ⟨a, cap, rfl, _⟩ := hF.sl
  obtain ⟨U, hU⟩ : ∃ U, Hid (U = usedL m.l) := ⟨_, rfl⟩
  rw [← hU.out] at hu ⊢
  go_enter Tryz.func33, Tryz.ntmps33
  go_wp2_with (with_reducible refine at_list ?_; refine wpList_loadCell (op := ⟨some 11, _, _, _, _, _⟩) rfl _ _ rfl p 0 rfl _ _ hD _ Tryz.underlying59 rfl _ (dC_g0 _ _) ?_)
  go_loopw [3, 5, 13] (fun v3 _ v13 wl => ∃ i : Nat, i ≤ m.l.length ∧ v13 = .int .i64 i ∧ v3 = .int .i64 (usedL (m.l.take i) : Nat) ∧ Below w.heap.size w wl) (fun _ _ v13 _ => m.l.length - (intOf v13).toNat)
  case atStart => exact ⟨0, by omega, rfl, rfl, Below.refl _ _⟩
  case round =>
    obtain ⟨i, hil, rfl, rfl, hB⟩ := hrel
    have hsz := hB.size
    by_cases hlt : i < m.l.length
    · have hz2 : (i : Int) < (m.l.length : Int) := by omega
      obtain ⟨f, hf⟩ : ∃ f, m.l[i]? = some f := ⟨_, List.getElem?_eq_getElem hlt⟩
      obtain ⟨g, rfl, hS, hg⟩ := hF.at i f hf
      have hg2 := rangeAt_below hg hB hS.lt
      have e1 := used_take m.l i f hf
      have e2 := used_le m.l (i + 1)
      rw [← hU.out] at e2
      have e3 : Hid (usedL (m.l.take (i + 1)) = usedL (m.l.take i) + (kbyt f.is).length) := e1
      rw [e1] at e2
      clear e1 hf hg
      generalize usedL (m.l.take i) = u at *
      have hw1 : IntKind.i64.wrap ((u : Int) + ((kbyt f.is).length : Int)) = (u : Int) + ((kbyt f.is).length : Int) := by rw [IntKind.wrap_i64]; omega
      go_wp2_with (with_reducible refine at_list ?_; first
        | (refine wpList_loadAt (op := ⟨some 16, _, _, _, _, _⟩) rfl _ _ rfl g (i * 6) rfl (fC f) hg2 _ Tryz.underlying93 rfl (iFile f) ?_)
        | (refine wpList_allocRow (op := ⟨some 5, _, _, _, _, _⟩) rfl _ rfl _ zFile.1 ?_; intro w2 hw2 hs2 h5; clear hs2; have hB2 := hB.trans (hw2.mono hB.size))
        | (refine wpList_storeRow (op := ⟨none, .store 93 (.tmp 5) (.tmp 16), _, _, _, _⟩) rfl _ _ _ rfl wr.heap.size (fC f) rfl rfl _ _ h5 rfl (iFile _) (fC_one _) ?_; intro w3 hg3 hs3 h5b; clear hs3)
        | (refine wpList_loadCell (op := ⟨some 20, _, _, _, _, _⟩) rfl _ _ rfl wr.heap.size 2 rfl _ _ h5b _ Tryz.underlying9 rfl _ (fC_g2 _) ?_))
      go_roundw
      case rel => exact ⟨i + 1, by omega, by go_num, by rw [e3.out]; simp, hB2.trans (below_of_grown hg3 (by omega) hB2.size)⟩
      case measure => simp [intOf]; omega
    · have hz2 : ¬ (i : Int) < (m.l.length : Int) := by omega
      have e1 : usedL (m.l.take i) = U := by rw [List.take_of_length_le (by omega), hU.out]
      rw [e1]
      go_wp2_with fail
      go_ret
      exact ⟨rfl, hB⟩
end Go.Proofs.YtaiiojbakmminaaGreatDoor
namespace Go.Proofs.YtaiiojbakmminaaGreatDoor
open Go Go.RowKit
section
variable {P : Program} {ops : Array Oper} {rest : List Oper} {op : Oper} {a : Act} {w : World} {Q : Exit → Act → World → Prop} {K : Act → World → Prop} {E : Prop}
theorem run_copyK (dT sT ty elem : TypeId) (b o dLen dCap : Nat) (ad : Addr) (sLen sCap k n : Nat) (cs : List Value)
    (hu : P.underlying dT = some (.slice elem)) (hs : (P.info? elem).map (·.size) = some k) (hn : n = Nat.min sLen dLen) (hc0 : cs.length = n * k)
    (hsrc : ∀ j v, cs[j]? = some v → w.cell? (ad.add j) = some v) (hth : w.there b o cs.length) (h1 : ∀ v ∈ cs, v.oneCell' = true) :
    (Builtin.copy_ #[dT, sT] ty #[.slice (some ⟨b, o, none⟩) dLen dCap, .slice (some ad) sLen sCap]).run P w = .ok (goInt n) (w.setCells b o cs) := by
  have hl := run_loadCells_list (P := P) w ad cs hsrc
  have hst := run_storeCells_cells (P := P) b o cs 0 w (by simpa using fun j hj => (hth j hj).1) (by simpa using fun j hj => (hth j hj).2) h1
  cases hq : P.info? elem with
  | none => simp [hq] at hs
  | some i =>
    have hi : i.size = k := by simpa [hq] using hs
    rw [hc0] at hl
    simp [Builtin.copy_, run_underlying hu, Builtin.lenOf, Builtin.firstCells, sizeOf, typeInfo, hq, hi, ← hn, hl, hst]
theorem wp_copy (d x : Operand) (dT sT : TypeId) (hop : op.op = Op.call { callee := Callee.builtin Builtin.copy, args := #[d, x], argTypes := #[dT, sT] })
    (v u : Value) (hd : a.eval d = v) (hx : a.eval x = u) {v' : Value} {w' : World} (hr : (Builtin.copy_ #[dT, sT] op.type #[v, u]).run P w = .ok v' w') : (execOp a.eval op).run P w = .ok (.value v') w' := by
  unfold execOp
  simp only [hop]
  simp [resolve, invoke, builtin, hd, hx, hr, Result.andThen]
theorem step_run (hgd : op.guard = none) {v' : Value} {w' : World} (hr : (execOp a.eval op).run P w = .ok (.value v') w') (hK : K (a.put op.dst v') w') :
    if Region.wanted op (yielded ops a.tmps) = true then Oper.wp P op a w K Q else E := by
  have hw : Region.wanted op (yielded ops a.tmps) = true := by simp [Region.wanted, hgd]
  rw [if_pos hw]
  unfold Oper.wp
  rw [hr]
  exact hK
theorem wp_append (s x : Operand) (t tn : TypeId) (ho : op.op = .call { callee := .builtin .append, args := #[s, x], argTypes := #[t, tn] }) (vs vx : Value) (hs : a.eval s = vs) (hx : a.eval x = vx)
    {v' : Value} {w' : World} (hr : (Builtin.append_ #[t, tn] op.type #[vs, vx]).run P w = .ok v' w') : (execOp a.eval op).run P w = .ok (.value v') w' := by
  unfold execOp
  simp only [ho]
  simp [resolve, invoke, builtin, hs, hx, hr, Result.andThen]
theorem wp_clear (s : Operand) (t : TypeId) (ho : op.op = .call { callee := .builtin .clear, args := #[s], argTypes := #[t] }) (vs : Value) (hs : a.eval s = vs)
    {v' : Value} {w' : World} (hr : (Builtin.clear_ #[t] op.type #[vs]).run P w = .ok v' w') : (execOp a.eval op).run P w = .ok (.value v') w' := by
  unfold execOp
  simp only [ho]
  simp [resolve, invoke, builtin, hs, hr, Result.andThen]
end
theorem zeroCells_rep (c : Array Value) (n : Nat) : (Builtin.zeroCells c n).toList = (List.replicate n c.toList).flatten := by
  apply List.ext_getElem?
  intro j
  have hlen : ((List.replicate n c.toList).flatten).length = n * c.size := by
    rw [flat_len (k := c.size) (fun x hx => by rw [(List.mem_replicate.1 hx).2]; simp), List.length_replicate]
  by_cases hj : j < n * c.size
  · have hs : 0 < c.size := Nat.pos_of_ne_zero (fun e => by rw [e, Nat.mul_zero] at hj; omega)
    have hd : j / c.size < n := Nat.div_lt_of_lt_mul (by rw [Nat.mul_comm]; exact hj)
    have hm : j % c.size < c.size := Nat.mod_lt _ hs
    have h1 := flat_get (k := c.size) (l := List.replicate n c.toList) (fun x hx => by rw [(List.mem_replicate.1 hx).2]; simp) (j / c.size) (by simpa using hd) (j % c.size) (c[j % c.size]) (by simp [hm])
    rw [Nat.mul_comm, Nat.div_add_mod] at h1
    rw [h1]
    simp [Builtin.zeroCells, hj, hm]
  · rw [List.getElem?_eq_none (by simp [Builtin.zeroCells]; omega), List.getElem?_eq_none (by omega)]
/-- clear of so many things. -/
theorem run_clearK {P : Program} (w : World) (t e ty : TypeId) (z : Array Value) (ht : P.underlying t = some (.slice e)) (hv : ∀ w, (zeroValue e).run P w = .ok (.agg z) w) (h1 : z.all (·.oneCell') = true) (b o n c : Nat)
    (hth : w.there b o (n * z.size)) :
    (Builtin.clear_ #[t] ty #[.slice (some ⟨b, o, none⟩) n c]).run P w = .ok (.tuple #[]) (w.setCells b o (List.replicate n z.toList).flatten) := by
  have hl : ((List.replicate n z.toList).flatten).length = n * z.size := by
    rw [flat_len (k := z.size) (fun x hx => by rw [(List.mem_replicate.1 hx).2]; simp), List.length_replicate]
  cases n with
  | zero =>
    simp [Builtin.clear_, run_underlying ht]
    rfl
  | succ n =>
    have hst := run_storeCells_cells (P := P) b o ((List.replicate (n + 1) z.toList).flatten) 0 w (by rw [hl]; simpa using fun j hj => (hth j hj).1) (by rw [hl]; simpa using fun j hj => (hth j hj).2) (fun v hv' => by
      obtain ⟨x, hx, hvx⟩ := List.mem_flatten.1 hv'
      rw [(List.mem_replicate.1 hx).2] at hvx
      exact Array.all_eq_true_iff_forall_mem.1 h1 v (by simpa using hvx))
    simp only [Nat.add_zero] at hst
    have hzc := zeroCells_rep z (n + 1)
    simp [Builtin.clear_, run_underlying ht, hv, Value.cells, hzc, hst]
end Go.Proofs.YtaiiojbakmminaaGreatDoor
namespace Go.Proofs.YtaiiojbakmminaaGreatDoor
open Go Go.RowKit
theorem range0 : Array.range 0 = #[] := by decide
theorem krange1 : Array.range 1 = #[0] := by decide
theorem iStr : (Tryz.prog.info? 9).map (·.size) = some 1 := by kernel_rfl
theorem infoStr : ∃ i, Tryz.prog.info? 9 = some i ∧ i.zero = some (.string ⟨#[]⟩) ∧ i.size = 1 ∧ i.bytes ≤ 256 := by
  have h : (Tryz.prog.info? 9).map (fun i => (i.zero, i.size, decide (i.bytes ≤ 256))) = some (some (.string ⟨#[]⟩), 1, true) := by kernel_rfl
  cases hq : Tryz.prog.info? 9 with
  | none => rw [hq] at h; cases h
  | some i => rw [hq] at h; simp at h; exact ⟨i, rfl, h.1, h.2.1, h.2.2⟩
theorem tsl1 (x : B) (w : World) : (Instr.buildSlice 30 1 #[(0, .string ⟨x.toArray⟩)]).run Tryz.prog w = .ok (.slice (some ⟨w.heap.size, 0, none⟩) 1 1) (w.alloc (.cells #[.string ⟨x.toArray⟩] 9)) := by
  simp [Instr.buildSlice, run_underlying Tryz.underlying30, sizeOf_run iStr, Sem.run_bind, Instr.fill, newRow, Tryz.zeroValue9, Value.cells, krange1]
/-- A slice of texts. -/
def XL (w : World) (lo : Nat) (sl : Value) (l : List B) : Prop := GL w 9 1 lo sl (l.map fun n => [.string ⟨n.toArray⟩])
section
variable {ops : Array Oper} {rest : List Oper} {op : Oper} {a : Act} {w : World} {Q : Exit → Act → World → Prop}
theorem wpList_tsl1 (hgd : op.guard = none) (x : Operand) (ho : op.op = .buildSlice 30 1 #[(0, x)]) (v : B) (hx : a.eval x = .string ⟨v.toArray⟩)
    (h : ∀ w1 : World, Below w.heap.size w w1 → Blk w1 w.heap.size #[.string ⟨v.toArray⟩] 9 → wpList Tryz.prog ops Q rest (a.put op.dst (.slice (some ⟨w.heap.size, 0, none⟩) 1 1)) w1) : wpList Tryz.prog ops Q (op :: rest) a w := by
  have e : (#[(0, x)] : Array (Nat × Operand)).map (fun (i, x) => (i, a.eval x)) = #[(0, .string ⟨v.toArray⟩)] := by simp [hx]
  refine wpList_run hgd _ _ ?_ (h _ ((Below.refl _ _).alloc (Nat.le_refl _) _) (Blk.new _ _ _))
  unfold execOp
  simp only [ho, Sem.run_bind, e, tsl1, Result.andThen_ok]
  rfl
/-- A text is put behind a slice of texts. -/
theorem wpList_appX (hgd : op.guard = none) (x y : Operand) (ho : op.op = .call { callee := .builtin .append, args := #[x, y], argTypes := #[30, 30] })
    (lo : Nat) (sl : Value) (l : List B) (hlo : lo ≤ w.heap.size) (hx : a.eval x = sl) (hsl : XL w lo sl l) (g2 : Nat) (hy : a.eval y = .slice (some ⟨g2, 0, none⟩) 1 1) (v : B) (hb2 : Blk w g2 #[.string ⟨v.toArray⟩] 9) (hlen : l.length ≤ 1000000)
    (h : ∀ (w1 : World) (sl1 : Value), w.grownBy w1 (slBlk sl) → XL w1 lo sl1 (l ++ [v]) → wpList Tryz.prog ops Q rest (a.put op.dst sl1) w1) : wpList Tryz.prog ops Q (op :: rest) a w := by
  obtain ⟨i, hi, hz, hs, hby⟩ := infoStr
  refine wpList_appendGL hgd x y 30 9 ho 1 lo sl _ hlo hx hsl g2 1 hy [.string ⟨v.toArray⟩] rfl (fun u hu => by rw [List.mem_singleton.1 hu]; rfl) 9 hb2 i _ rfl Tryz.underlying30 hi hz hs hby (by simpa using hlen) (fun w1 sl1 h1 h2 => h w1 sl1 h1 ?_)
  unfold XL
  rw [List.map_append]
  exact h2
end
theorem XL.below {w w' : World} {lo : Nat} {sl : Value} {l : List B} (h : XL w lo sl l) (hb : Below w.heap.size w w') : XL w' lo sl l := GL.below h hb
theorem XL.nil (w : World) (lo : Nat) : XL w lo (.slice none 0 0) [] := GL.nil _ _ _ _
theorem XL.grow {w w' : World} {lo : Nat} {sl : Value} {l : List B} (h : XL w lo sl l) (hg : w.grownBy w' (slBlk sl)) (hlo : lo ≤ w.heap.size) : Below lo w w' := ⟨hg.os, hg.tape, hg.output, hg.size, fun k hk => hg.block k (by omega) (fun e => by have := (GL.lt h k e.symm).1; omega)⟩
/-- The block of another kind is not the slice's. -/
theorem XL.other {w w' : World} {lo i : Nat} {sl : Value} {l : List B} {c : Array Value} {t : TypeId} (h : XL w lo sl l) (hg : w.grownBy w' (some i)) (hb : Blk w i c t) (ht : t ≠ 9) : XL w' lo sl l := GL.grown h hg (GL.ne h hb (.inl ht))
theorem XL.at {w : World} {lo : Nat} {a : Option Addr} {n cap : Nat} {l : List B} (h : XL w lo (.slice a n cap) l) (i : Nat) (x : B) (hx : l[i]? = some x) : ∃ g, a = some ⟨g, 0, none⟩ ∧ w.cell? ⟨g, i, none⟩ = some (.string ⟨x.toArray⟩) := by
  obtain ⟨a', cap', e, h1⟩ := GL.sl h
  simp only [Value.slice.injEq] at e
  obtain ⟨rfl, _, rfl⟩ := e
  obtain ⟨hi, rfl⟩ := List.getElem?_eq_some_iff.1 hx
  obtain ⟨g, ha, h2⟩ := h1 i (by simpa using hi)
  refine ⟨g, ha, ?_⟩
  have := h2 0 (.string ⟨(l[i]).toArray⟩) (by simp)
  simpa using this
theorem XL.sl {w : World} {lo : Nat} {sl : Value} {l : List B} (h : XL w lo sl l) : ∃ a cap, sl = .slice a l.length cap := by
  obtain ⟨a, cap, e, _⟩ := GL.sl h
  exact ⟨a, cap, by rw [e, List.length_map]⟩
/-- The names of those that are there. -/
def namesL (l : List F) : List B := (nowL l).map (·.1)
theorem names_take (l : List F) (i : Nat) (f : F) (h : l[i]? = some f) : namesL (l.take (i + 1)) = namesL (l.take i) ++ (if f.is.isSome = true then [f.name] else []) := by
  obtain ⟨hi, rfl⟩ := List.getElem?_eq_some_iff.1 h
  unfold namesL nowL
  rw [List.take_succ_eq_append_getElem hi, view_app, List.map_append]
  congr 1
  rw [view_cons]
  cases (l[i]).is <;> simp [viewL]
theorem names_len (l : List F) : (namesL l).length ≤ l.length := by
  unfold namesL nowL viewL
  rw [List.length_map]
  exact List.length_filterMap_le ..
set_option maxRecDepth 100000 in
set_option maxHeartbeats 1000000 in
theorem names_any (p : Nat) (b : Option Nat) (m : DM) (w : World) (h : DK w p b m) (hl : m.l.length ≤ 1000000) :
    Calls Tryz.prog 29 #[.pointer (some ⟨p, 0, none⟩)] w fun e w' => ∃ sl, e = .returned sl ∧ Below w.heap.size w w' ∧ XL w' w.heap.size sl (namesL m.l) := by
  obtain ⟨sl, hD, hF, _⟩ := h.out
  obtain ⟨a, cap, rfl, _⟩ := hF.sl
  obtain ⟨U, hU⟩ : ∃ U, Hid (U = namesL m.l) := ⟨_, rfl⟩
  rw [← hU.out]
  go_enter Tryz.func29, Tryz.ntmps29
  go_wp2_with (with_reducible refine at_list ?_; refine wpList_loadCell (op := ⟨some 11, _, _, _, _, _⟩) rfl _ _ rfl p 0 rfl _ _ hD _ Tryz.underlying59 rfl _ (dC_g0 _ _) ?_)
  go_loopw [3, 5, 13] (fun v3 _ v13 wl => ∃ i : Nat, i ≤ m.l.length ∧ v13 = .int .i64 i ∧ XL wl w.heap.size v3 (namesL (m.l.take i)) ∧ Below w.heap.size w wl) (fun _ _ v13 _ => m.l.length - (intOf v13).toNat)
  case atStart => exact ⟨0, by omega, rfl, XL.nil _ _, Below.refl _ _⟩
  case round =>
    obtain ⟨i, hil, rfl, hX, hB⟩ := hrel
    have hsz := hB.size
    by_cases hlt : i < m.l.length
    · have hz2 : (i : Int) < (m.l.length : Int) := by omega
      obtain ⟨f, hf⟩ : ∃ f, m.l[i]? = some f := ⟨_, List.getElem?_eq_getElem hlt⟩
      obtain ⟨g, rfl, hS, hg⟩ := hF.at i f hf
      have hg2 := rangeAt_below hg hB hS.lt
      have e3 : Hid _ := names_take m.l i f hf
      have e4 : (namesL (m.l.take i)).length ≤ 1000000 := Nat.le_trans (names_len _) (by rw [List.length_take]; omega)
      have g1 := fC_g1 f
      clear hf hg
      generalize namesL (m.l.take i) = u at *
      cases hq : f.is.isSome <;>
      · rw [hq] at e3 g1
        go_wp2_with (with_reducible refine at_list ?_; first
            | (refine wpList_loadAt (op := ⟨some 16, _, _, _, _, _⟩) rfl _ _ rfl g (i * 6) rfl (fC f) hg2 _ Tryz.underlying93 rfl (iFile f) ?_)
            | (refine wpList_allocRow (op := ⟨some 5, _, _, _, _, _⟩) rfl _ rfl _ zFile.1 ?_; intro w2 hw2 hs2 h5; clear hs2; have hB2 := hB.trans (hw2.mono hB.size); replace hX := hX.below hw2)
            | (refine wpList_storeRow (op := ⟨none, .store 93 (.tmp 5) (.tmp 16), _, _, _, _⟩) rfl _ _ _ rfl wr.heap.size (fC f) rfl rfl _ _ h5 rfl (iFile _) (fC_one _) ?_; intro w3 hg3 hs3 h5b; clear hs3; have hB3 := hB2.trans (below_of_grown hg3 (by omega) hB2.size); replace hX := hX.other hg3 h5 (by decide))
            | (refine wpList_loadCell (op := ⟨some 19, _, _, _, _, _⟩) rfl _ _ rfl wr.heap.size 1 rfl _ _ h5b _ Tryz.underlying4 rfl _ g1 ?_)
            | (refine wpList_loadCell (op := ⟨some 22, _, _, _, _, _⟩) rfl _ _ rfl wr.heap.size 0 rfl _ _ h5b _ Tryz.underlying9 rfl _ (fC_g0 f) ?_)
            | (refine wpList_tsl1 (op := ⟨some 23, _, _, _, _, _⟩) rfl _ rfl f.name rfl ?_; intro w4 hw4 h6; have hB4 := hB3.trans (hw4.mono hB3.size); replace hX := hX.below hw4)
            | (refine wpList_appX (op := ⟨some 24, _, _, _, _, _⟩) rfl _ _ rfl w.heap.size u3 u hB4.size (by with_unfolding_all exact rfl) hX w3.heap.size (by with_unfolding_all exact rfl) f.name h6 e4 ?_; intro w5 sl5 hg5 hX5; have hB5 := hB4.trans (hX.grow hg5 hB4.size)))
        go_roundw
        case rel => first
          | exact ⟨i + 1, by omega, by go_num, by rw [e3.out]; exact hX5, hB5⟩
          | exact ⟨i + 1, by omega, by go_num, by rw [e3.out]; simpa using hX, hB3⟩
        case measure => simp [intOf]; omega
    · have hz2 : ¬ (i : Int) < (m.l.length : Int) := by omega
      have e1 : namesL (m.l.take i) = U := by rw [List.take_of_length_le (by omega), hU.out]
      rw [e1] at hX
      go_wp2_with fail
      go_ret
      exact ⟨_, rfl, hB, hX⟩
end Go.Proofs.YtaiiojbakmminaaGreatDoor
namespace Go.Proofs.YtaiiojbakmminaaGreatDoor
open Go Go.RowKit
/-- The one exit replaced. -/
def QK (Q : Exit → Act → World → Prop) (K : Act → World → Prop) : Exit → Act → World → Prop
  | .normal, a, w => K a w
  | e, a, w => Q e a w
section
variable {P : Program} {ops : Array Oper} {Q : Exit → Act → World → Prop}
theorem wp_QK {o : Oper} {a : Act} {w : World} {K : Act → World → Prop} (h : o.wp P a w (wpList P ops (QK Q K) []) (QK Q K)) : o.wp P a w K Q := by
  have hl : LetsOut (QK Q K) → LetsOut Q := fun ⟨a, w, h⟩ => ⟨a, w, h⟩
  unfold Oper.wp at h ⊢
  generalize (execOp a.eval o).run P w = r at h ⊢
  match r, h with
  | .ok (.value v) w', h => exact h
  | .ok .skip w', h => exact h
  | .ok (.defer d) w', h => exact h
  | .ok (.enter f args) w', h =>
    refine Calls.mono h fun e w'' h => ?_
    match e, h with
    | .returned v, h => exact h
    | .panicked c, h => exact h
    | .outgrown, h => exact hl h
  | .ok (.row row args) w', h => exact Rows.mono h fun v w'' h => h
  | .halt (.panic v) w', h => exact h
theorem wpOp_list {i : Nat} {o : Oper} {K : Act → World → Prop} {a : Act} {w : World} (ho : ops[i]? = some o) (h : wpList P ops (QK Q K) [o] a w) : wpOp P ops Q i K a w := by
  unfold wpOp
  rw [ho]
  unfold wpList at h
  show if Region.wanted o (yielded ops a.tmps) = true then _ else _
  split
  · rename_i hw
    rw [if_pos hw] at h
    rcases h with h | ⟨h1, a', w', h2⟩
    · exact .inl (wp_QK h)
    · exact .inr ⟨h1, a', w', h2⟩
  · rename_i hw
    rw [if_neg hw] at h
    exact h
theorem run_callF {f : FuncId} {op : Oper} {a : Act} {w : World} {fn : Func} (hf : P.funcs[f]? = some fn) (hn : (fn.name == "runtime.NumGoroutine") = false) (hb : fn.body.isNone = false) (xs : Array Operand) (tys : Array TypeId) (ho : op.op = .call { callee := .value (.func f), args := xs, argTypes := tys }) : (execOp a.eval op).run P w = .ok (.enter f (xs.map a.eval)) w := by
  unfold execOp
  simp only [ho]
  have hn' : ¬ fn.name = "runtime.NumGoroutine" := by simpa using hn
  have hb' : ¬ fn.body = none := fun e => by rw [e] at hb; cases hb
  simp [resolve, invoke, Act.eval, Deferred.ofValue, callFunc, hf, hn', hb']
/-- A call by its contract. -/
theorem wpList_callR {rest : List Oper} {op : Oper} {a : Act} {w : World} {f : FuncId} {fn : Func} (hf : P.funcs[f]? = some fn) (hn : (fn.name == "runtime.NumGoroutine") = false) (hb : fn.body.isNone = false) (hgd : op.guard = none) (xs : Array Operand) (tys : Array TypeId) (ho : op.op = .call { callee := .value (.func f), args := xs, argTypes := tys })
    (args : Array Value) (hargs : xs.map a.eval = args) (R : Ending → World → Prop) (hc : Calls P f args w R) (h : ∀ e w', R e w' → ∃ v, e = .returned v ∧ wpList P ops Q rest (a.put op.dst v) w') : wpList P ops Q (op :: rest) a w := by
  refine wpList_plain hgd fun K hK => ?_
  unfold Oper.wp
  rw [run_callF hf hn hb xs tys ho, Oper.upon_enter, hargs]
  refine hc.mono fun e w'' hh => ?_
  obtain ⟨v, rfl, h2⟩ := h e w'' hh
  exact hK _ _ h2
/-- An operation without memory. -/
theorem wpList_pure {rest : List Oper} {op : Oper} {a : Act} {w : World} (hgd : op.guard = none) (v : Value) (hr : (execOp a.eval op).run P w = .ok (.value v) w) (h : wpList P ops Q rest (a.put op.dst v) w) : wpList P ops Q (op :: rest) a w := wpList_run hgd v w hr h
theorem run_extract {op : Oper} {a : Act} {w : World} (x : Operand) (k : Nat) (ho : op.op = .extract x k) (vs : Array Value) (hx : a.eval x = .tuple vs) (v : Value) (hv : vs[k]? = some v) : (execOp a.eval op).run P w = .ok (.value v) w := by
  unfold execOp
  simp [ho, hx, Instr.extract, hv]
theorem wpAnyH_solo {md : Region.Mode} {S : World → Prop} {i : Nat} {o : Oper} {fuel : Nat} {listed : Array Bool} {a : Act} {w : World} (ho : ops[i]? = some o) (hr : Region.ready md ops listed = [i])
    (h : ∀ K : Act → World → Prop, (∀ a w, S w → wpAnyH P md ops Q S fuel (listed.setIfInBounds i true) a w → K a w) → wpList P ops (QK Q K) [o] a w) : wpAnyH P md ops Q S (fuel + 1) listed a w :=
  ⟨(fun h0 => absurd (hr ▸ h0) (List.cons_ne_nil _ _)), fun j hj => by
    rw [hr] at hj
    obtain rfl := List.mem_singleton.1 hj
    exact wpOp_list ho (h _ (fun a w hS hW => ⟨hS, hW⟩))⟩
theorem run_loadCellB {op : Oper} {a : Act} {w : World} (ty : TypeId) (x : Operand) (ho : op.op = .load ty x) (b o : Nat) (hx : a.eval x = .pointer (some ⟨b, o, none⟩))
    (c : Array Value) (t : TypeId) (hb : Blk w b c t) (d : TypeDesc) (hu : P.underlying ty = some d) (hd : d.isRow = false) (v : Value) (hv : c[o]? = some v) :
    (execOp a.eval op).run P w = .ok (.value v) w := by
  have hc : w.cell? ⟨b, o, none⟩ = some v := (hb.cell o).trans hv
  unfold execOp
  simp only [ho, hx]
  simp [Instr.loadAt, Instr.sureAddr, Sem.run_bind, loadVar, isAgg_run hu hd, hc, go_sem]
end
theorem run_loadMid {P : Program} {op : Oper} {a : Act} {w : World} (ty : TypeId) (x : Operand) (ho : op.op = .load ty x) (b o : Nat) (hx : a.eval x = .pointer (some ⟨b, o, none⟩))
    (c : Array Value) (hb : w.rangeAt b o c.toList) (d : TypeDesc) (hu : P.underlying ty = some d) (hd : d.isRow = true) (hi : (P.info? ty).map (·.size) = some c.size) :
    (execOp a.eval op).run P w = .ok (.value (.agg c)) w := by
  have hl := run_loadVar_mid (P := P) w b o ty c.toList d hb hu hd (by simpa using hi)
  rw [Array.toArray_toList] at hl
  unfold execOp
  simp only [ho, hx]
  simp [Instr.loadAt, Instr.sureAddr, hl]
theorem args0 {a : Act} : (#[] : Array Operand).map a.eval = #[] := by simp
theorem args1 {a : Act} {x : Operand} {u : Value} (hx : a.eval x = u) : #[x].map a.eval = #[u] := by simp [hx]
theorem args2 {a : Act} {x y : Operand} {u v : Value} (hx : a.eval x = u) (hy : a.eval y = v) : #[x, y].map a.eval = #[u, v] := by simp [hx, hy]
theorem args3 {a : Act} {x y z : Operand} {u v t : Value} (hx : a.eval x = u) (hy : a.eval y = v) (hz : a.eval z = t) : #[x, y, z].map a.eval = #[u, v, t] := by simp [hx, hy, hz]
end Go.Proofs.YtaiiojbakmminaaGreatDoor
