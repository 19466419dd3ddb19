/- Copying, clearing, appending and cutting slices of things of several cells. What Names of a disk does; slices of texts and of files that grow. Regions that draw their order: laws of one operation, of a call, and of loads. Slices of texts that lie anywhere in their block: what they hold, and appending to them. -/
import Derived.Test.YtaiiojbakmminaaGreatDoorKUse
import Derived.Lib.AppendZerosOnto
import Derived.Deep.RegionLaw
import Derived.Test.YtaiiojbakmminaaGreatDoorKPlc
import Derived.RegionTactic
import Derived.Deep.RegionHeld3
import Derived.Maps.RangeWalk
import Derived.Deep.Cut
namespace Go.Proofs.YtaiiojbakmminaaGreatDoor
open Go Go.RowKit
section
variable {P : Program} {ops : Array Oper} {rest : List Oper} {op : Oper} {a : Act} {w : World} {Q : Exit → Act → World → Prop} {K : Act → World → Prop} {E : Prop}
theorem run_copyK (dT sT ty elem : TypeId) (b o dLen dCap : Nat) (ad : Addr) (sLen sCap k n : Nat) (cs : List Value)
    (hu : P.underlying dT = some (.slice elem)) (hs : (P.info? elem).map (·.size) = some k) (hn : n = Nat.min sLen dLen) (hc0 : cs.length = n * k)
    (hsrc : ∀ j v, cs[j]? = some v → w.cell? (ad.add j) = some v) (hth : w.there b o cs.length) (h1 : ∀ v ∈ cs, v.oneCell' = true) :
    (Builtin.copy_ #[dT, sT] ty #[.slice (some ⟨b, o, none⟩) dLen dCap, .slice (some ad) sLen sCap]).run P w = .ok (goInt n) (w.setCells b o cs) := by
  have hl := run_loadCells_list (P := P) w ad cs hsrc
  have hst := run_storeCells_cells (P := P) b o cs 0 w (by simpa using fun j hj => (hth j hj).1) (by simpa using fun j hj => (hth j hj).2) h1
  cases hq : P.info? elem with
  | none => simp [hq] at hs
  | some i =>
    have hi : i.size = k := by simpa [hq] using hs
    rw [hc0] at hl
    simp [Builtin.copy_, run_underlying hu, Builtin.lenOf, Builtin.firstCells, sizeOf, typeInfo, hq, hi, ← hn, hl, hst]
theorem wp_copy (d x : Operand) (dT sT : TypeId) (hop : op.op = Op.call { callee := Callee.builtin Builtin.copy, args := #[d, x], argTypes := #[dT, sT] })
    (v u : Value) (hd : a.eval d = v) (hx : a.eval x = u) {v' : Value} {w' : World} (hr : (Builtin.copy_ #[dT, sT] op.type #[v, u]).run P w = .ok v' w') : (execOp a.eval op).run P w = .ok (.value v') w' := by
  unfold execOp
  simp only [hop]
  simp [resolve, invoke, builtin, hd, hx, hr, Result.andThen]
theorem step_run (hgd : op.guard = none) {v' : Value} {w' : World} (hr : (execOp a.eval op).run P w = .ok (.value v') w') (hK : K (a.put op.dst v') w') :
    if Region.wanted op (yielded ops a.tmps) = true then Oper.wp P op a w K Q else E := by
  have hw : Region.wanted op (yielded ops a.tmps) = true := by simp [Region.wanted, hgd]
  rw [if_pos hw]
  unfold Oper.wp
  rw [hr]
  exact hK
theorem wp_append (s x : Operand) (t tn : TypeId) (ho : op.op = .call { callee := .builtin .append, args := #[s, x], argTypes := #[t, tn] }) (vs vx : Value) (hs : a.eval s = vs) (hx : a.eval x = vx)
    {v' : Value} {w' : World} (hr : (Builtin.append_ #[t, tn] op.type #[vs, vx]).run P w = .ok v' w') : (execOp a.eval op).run P w = .ok (.value v') w' := by
  unfold execOp
  simp only [ho]
  simp [resolve, invoke, builtin, hs, hx, hr, Result.andThen]
theorem wp_clear (s : Operand) (t : TypeId) (ho : op.op = .call { callee := .builtin .clear, args := #[s], argTypes := #[t] }) (vs : Value) (hs : a.eval s = vs)
    {v' : Value} {w' : World} (hr : (Builtin.clear_ #[t] op.type #[vs]).run P w = .ok v' w') : (execOp a.eval op).run P w = .ok (.value v') w' := by
  unfold execOp
  simp only [ho]
  simp [resolve, invoke, builtin, hs, hr, Result.andThen]
end
theorem zeroCells_rep (c : Array Value) (n : Nat) : (Builtin.zeroCells c n).toList = (List.replicate n c.toList).flatten := by
  apply List.ext_getElem?
  intro j
  have hlen : ((List.replicate n c.toList).flatten).length = n * c.size := by
    rw [flat_len (k := c.size) (fun x hx => by rw [(List.mem_replicate.1 hx).2]; simp), List.length_replicate]
  by_cases hj : j < n * c.size
  · have hs : 0 < c.size := Nat.pos_of_ne_zero (fun e => by rw [e, Nat.mul_zero] at hj; omega)
    have hd : j / c.size < n := Nat.div_lt_of_lt_mul (by rw [Nat.mul_comm]; exact hj)
    have hm : j % c.size < c.size := Nat.mod_lt _ hs
    have h1 := flat_get (k := c.size) (l := List.replicate n c.toList) (fun x hx => by rw [(List.mem_replicate.1 hx).2]; simp) (j / c.size) (by simpa using hd) (j % c.size) (c[j % c.size]) (by simp [hm])
    rw [Nat.mul_comm, Nat.div_add_mod] at h1
    rw [h1]
    simp [Builtin.zeroCells, hj, hm]
  · rw [List.getElem?_eq_none (by simp [Builtin.zeroCells]; omega), List.getElem?_eq_none (by omega)]
/-- clear of so many things. -/
theorem run_clearK {P : Program} (w : World) (t e ty : TypeId) (z : Array Value) (ht : P.underlying t = some (.slice e)) (hv : ∀ w, (zeroValue e).run P w = .ok (.agg z) w) (h1 : z.all (·.oneCell') = true) (b o n c : Nat)
    (hth : w.there b o (n * z.size)) :
    (Builtin.clear_ #[t] ty #[.slice (some ⟨b, o, none⟩) n c]).run P w = .ok (.tuple #[]) (w.setCells b o (List.replicate n z.toList).flatten) := by
  have hl : ((List.replicate n z.toList).flatten).length = n * z.size := by
    rw [flat_len (k := z.size) (fun x hx => by rw [(List.mem_replicate.1 hx).2]; simp), List.length_replicate]
  cases n with
  | zero =>
    simp [Builtin.clear_, run_underlying ht]
    rfl
  | succ n =>
    have hst := run_storeCells_cells (P := P) b o ((List.replicate (n + 1) z.toList).flatten) 0 w (by rw [hl]; simpa using fun j hj => (hth j hj).1) (by rw [hl]; simpa using fun j hj => (hth j hj).2) (fun v hv' => by
      obtain ⟨x, hx, hvx⟩ := List.mem_flatten.1 hv'
      rw [(List.mem_replicate.1 hx).2] at hvx
      exact Array.all_eq_true_iff_forall_mem.1 h1 v (by simpa using hvx))
    simp only [Nat.add_zero] at hst
    have hzc := zeroCells_rep z (n + 1)
    simp [Builtin.clear_, run_underlying ht, hv, Value.cells, hzc, hst]
end Go.Proofs.YtaiiojbakmminaaGreatDoor
namespace Go.Proofs.YtaiiojbakmminaaGreatDoor
open Go Go.RowKit
theorem range0 : Array.range 0 = #[] := by decide
theorem krange1 : Array.range 1 = #[0] := by decide
theorem iStr : (Tryz.prog.info? 9).map (·.size) = some 1 := by kernel_rfl
theorem infoStr : ∃ i, Tryz.prog.info? 9 = some i ∧ i.zero = some (.string ⟨#[]⟩) ∧ i.size = 1 ∧ i.bytes ≤ 256 := by
  have h : (Tryz.prog.info? 9).map (fun i => (i.zero, i.size, decide (i.bytes ≤ 256))) = some (some (.string ⟨#[]⟩), 1, true) := by kernel_rfl
  cases hq : Tryz.prog.info? 9 with
  | none => rw [hq] at h; cases h
  | some i => rw [hq] at h; simp at h; exact ⟨i, rfl, h.1, h.2.1, h.2.2⟩
theorem tsl0 (w : World) : (Instr.buildSlice 30 0 #[]).run Tryz.prog w = .ok (.slice (some ⟨w.heap.size, 0, none⟩) 0 0) (w.alloc (.cells #[] 9)) := by
  simp [Instr.buildSlice, run_underlying Tryz.underlying30, sizeOf_run iStr, Sem.run_bind, Instr.fill, newRow, range0]
theorem tsl1 (x : B) (w : World) : (Instr.buildSlice 30 1 #[(0, .string ⟨x.toArray⟩)]).run Tryz.prog w = .ok (.slice (some ⟨w.heap.size, 0, none⟩) 1 1) (w.alloc (.cells #[.string ⟨x.toArray⟩] 9)) := by
  simp [Instr.buildSlice, run_underlying Tryz.underlying30, sizeOf_run iStr, Sem.run_bind, Instr.fill, newRow, Tryz.zeroValue9, Value.cells, krange1]
/-- A slice of texts. -/
def XL (w : World) (lo : Nat) (sl : Value) (l : List B) : Prop := GL w 9 1 lo sl (l.map fun n => [.string ⟨n.toArray⟩])
section
variable {ops : Array Oper} {rest : List Oper} {op : Oper} {a : Act} {w : World} {Q : Exit → Act → World → Prop}
theorem wpList_tsl1 (hgd : op.guard = none) (x : Operand) (ho : op.op = .buildSlice 30 1 #[(0, x)]) (v : B) (hx : a.eval x = .string ⟨v.toArray⟩)
    (h : ∀ w1 : World, Below w.heap.size w w1 → Blk w1 w.heap.size #[.string ⟨v.toArray⟩] 9 → wpList Tryz.prog ops Q rest (a.put op.dst (.slice (some ⟨w.heap.size, 0, none⟩) 1 1)) w1) : wpList Tryz.prog ops Q (op :: rest) a w := by
  have e : (#[(0, x)] : Array (Nat × Operand)).map (fun (i, x) => (i, a.eval x)) = #[(0, .string ⟨v.toArray⟩)] := by simp [hx]
  refine wpList_run hgd _ _ ?_ (h _ ((Below.refl _ _).alloc (Nat.le_refl _) _) (Blk.new _ _ _))
  unfold execOp
  simp only [ho, Sem.run_bind, e, tsl1, Result.andThen_ok]
  rfl
/-- A text is put behind a slice of texts. -/
theorem wpList_appX (hgd : op.guard = none) (x y : Operand) (ho : op.op = .call { callee := .builtin .append, args := #[x, y], argTypes := #[30, 30] })
    (lo : Nat) (sl : Value) (l : List B) (hlo : lo ≤ w.heap.size) (hx : a.eval x = sl) (hsl : XL w lo sl l) (g2 : Nat) (hy : a.eval y = .slice (some ⟨g2, 0, none⟩) 1 1) (v : B) (hb2 : Blk w g2 #[.string ⟨v.toArray⟩] 9) (hlen : l.length ≤ 1000000)
    (h : ∀ (w1 : World) (sl1 : Value), w.grownBy w1 (slBlk sl) → XL w1 lo sl1 (l ++ [v]) → wpList Tryz.prog ops Q rest (a.put op.dst sl1) w1) : wpList Tryz.prog ops Q (op :: rest) a w := by
  obtain ⟨i, hi, hz, hs, hby⟩ := infoStr
  refine wpList_appendGL hgd x y 30 9 ho 1 lo sl _ hlo hx hsl g2 1 hy [.string ⟨v.toArray⟩] rfl (fun u hu => by rw [List.mem_singleton.1 hu]; rfl) 9 hb2 i _ rfl Tryz.underlying30 hi hz hs hby (by simpa using hlen) (fun w1 sl1 h1 h2 => h w1 sl1 h1 ?_)
  unfold XL
  rw [List.map_append]
  exact h2
end
theorem XL.below {w w' : World} {lo : Nat} {sl : Value} {l : List B} (h : XL w lo sl l) (hb : Below w.heap.size w w') : XL w' lo sl l := GL.below h hb
theorem XL.nil (w : World) (lo : Nat) : XL w lo (.slice none 0 0) [] := GL.nil _ _ _ _
theorem XL.grow {w w' : World} {lo : Nat} {sl : Value} {l : List B} (h : XL w lo sl l) (hg : w.grownBy w' (slBlk sl)) (hlo : lo ≤ w.heap.size) : Below lo w w' := ⟨hg.os, hg.tape, hg.output, hg.size, fun k hk => hg.block k (by omega) (fun e => by have := (GL.lt h k e.symm).1; omega)⟩
/-- The block of another kind is not the slice's. -/
theorem XL.other {w w' : World} {lo i : Nat} {sl : Value} {l : List B} {c : Array Value} {t : TypeId} (h : XL w lo sl l) (hg : w.grownBy w' (some i)) (hb : Blk w i c t) (ht : t ≠ 9) : XL w' lo sl l := GL.grown h hg (GL.ne h hb (.inl ht))
theorem XL.at {w : World} {lo : Nat} {a : Option Addr} {n cap : Nat} {l : List B} (h : XL w lo (.slice a n cap) l) (i : Nat) (x : B) (hx : l[i]? = some x) : ∃ g, a = some ⟨g, 0, none⟩ ∧ w.cell? ⟨g, i, none⟩ = some (.string ⟨x.toArray⟩) := by
  obtain ⟨a', cap', e, h1⟩ := GL.sl h
  simp only [Value.slice.injEq] at e
  obtain ⟨rfl, _, rfl⟩ := e
  obtain ⟨hi, rfl⟩ := List.getElem?_eq_some_iff.1 hx
  obtain ⟨g, ha, h2⟩ := h1 i (by simpa using hi)
  refine ⟨g, ha, ?_⟩
  have := h2 0 (.string ⟨(l[i]).toArray⟩) (by simp)
  simpa using this
theorem XL.sl {w : World} {lo : Nat} {sl : Value} {l : List B} (h : XL w lo sl l) : ∃ a cap, sl = .slice a l.length cap := by
  obtain ⟨a, cap, e, _⟩ := GL.sl h
  exact ⟨a, cap, by rw [e, List.length_map]⟩
/-- The names of those that are there. -/
def namesL (l : List F) : List B := (nowL l).map (·.1)
theorem names_take (l : List F) (i : Nat) (f : F) (h : l[i]? = some f) : namesL (l.take (i + 1)) = namesL (l.take i) ++ (if f.is.isSome = true then [f.name] else []) := by
  obtain ⟨hi, rfl⟩ := List.getElem?_eq_some_iff.1 h
  unfold namesL nowL
  rw [List.take_succ_eq_append_getElem hi, view_app, List.map_append]
  congr 1
  rw [view_cons]
  cases (l[i]).is <;> simp [viewL]
theorem names_len (l : List F) : (namesL l).length ≤ l.length := by
  unfold namesL nowL viewL
  rw [List.length_map]
  exact List.length_filterMap_le ..
set_option maxRecDepth 100000 in
set_option maxHeartbeats 1000000 in
theorem names_any (p : Nat) (b : Option Nat) (m : DM) (w : World) (h : DK w p b m) (hl : m.l.length ≤ 1000000) :
    Calls Tryz.prog 29 #[.pointer (some ⟨p, 0, none⟩)] w fun e w' => ∃ sl, e = .returned sl ∧ Below w.heap.size w w' ∧ XL w' w.heap.size sl (namesL m.l) := by
  obtain ⟨sl, hD, hF, _⟩ := h.out
  obtain ⟨a, cap, rfl, _⟩ := hF.sl
  obtain ⟨U, hU⟩ : ∃ U, Hid (U = namesL m.l) := ⟨_, rfl⟩
  rw [← hU.out]
  go_enter Tryz.func29, Tryz.ntmps29
  go_wp2_with (with_reducible refine at_list ?_; refine wpList_loadCell (op := ⟨some 11, _, _, _, _, _⟩) rfl _ _ rfl p 0 rfl _ _ hD _ Tryz.underlying59 rfl _ (dC_g0 _ _) ?_)
  go_loopw [3, 5, 13] (fun v3 _ v13 wl => ∃ i : Nat, i ≤ m.l.length ∧ v13 = .int .i64 i ∧ XL wl w.heap.size v3 (namesL (m.l.take i)) ∧ Below w.heap.size w wl) (fun _ _ v13 _ => m.l.length - (intOf v13).toNat)
  case atStart => exact ⟨0, by omega, rfl, XL.nil _ _, Below.refl _ _⟩
  case round =>
    obtain ⟨i, hil, rfl, hX, hB⟩ := hrel
    have hsz := hB.size
    by_cases hlt : i < m.l.length
    · have hz2 : (i : Int) < (m.l.length : Int) := by omega
      obtain ⟨f, hf⟩ : ∃ f, m.l[i]? = some f := ⟨_, List.getElem?_eq_getElem hlt⟩
      obtain ⟨g, rfl, hS, hg⟩ := hF.at i f hf
      have hg2 := rangeAt_below hg hB hS.lt
      have e3 : Hid _ := names_take m.l i f hf
      have e4 : (namesL (m.l.take i)).length ≤ 1000000 := Nat.le_trans (names_len _) (by rw [List.length_take]; omega)
      have g1 := fC_g1 f
      clear hf hg
      generalize namesL (m.l.take i) = u at *
      cases hq : f.is.isSome <;>
      · rw [hq] at e3 g1
        go_wp2_with (with_reducible refine at_list ?_; first
            | (refine wpList_loadAt (op := ⟨some 16, _, _, _, _, _⟩) rfl _ _ rfl g (i * 6) rfl (fC f) hg2 _ Tryz.underlying93 rfl (iFile f) ?_)
            | (refine wpList_allocRow (op := ⟨some 5, _, _, _, _, _⟩) rfl _ rfl _ zFile.1 ?_; intro w2 hw2 hs2 h5; clear hs2; have hB2 := hB.trans (hw2.mono hB.size); replace hX := hX.below hw2)
            | (refine wpList_storeRow (op := ⟨none, .store 93 (.tmp 5) (.tmp 16), _, _, _, _⟩) rfl _ _ _ rfl wr.heap.size (fC f) rfl rfl _ _ h5 rfl (iFile _) (fC_one _) ?_; intro w3 hg3 hs3 h5b; clear hs3; have hB3 := hB2.trans (below_of_grown hg3 (by omega) hB2.size); replace hX := hX.other hg3 h5 (by decide))
            | (refine wpList_loadCell (op := ⟨some 19, _, _, _, _, _⟩) rfl _ _ rfl wr.heap.size 1 rfl _ _ h5b _ Tryz.underlying4 rfl _ g1 ?_)
            | (refine wpList_loadCell (op := ⟨some 22, _, _, _, _, _⟩) rfl _ _ rfl wr.heap.size 0 rfl _ _ h5b _ Tryz.underlying9 rfl _ (fC_g0 f) ?_)
            | (refine wpList_tsl1 (op := ⟨some 23, _, _, _, _, _⟩) rfl _ rfl f.name rfl ?_; intro w4 hw4 h6; have hB4 := hB3.trans (hw4.mono hB3.size); replace hX := hX.below hw4)
            | (refine wpList_appX (op := ⟨some 24, _, _, _, _, _⟩) rfl _ _ rfl w.heap.size u3 u hB4.size (by with_unfolding_all exact rfl) hX w3.heap.size (by with_unfolding_all exact rfl) f.name h6 e4 ?_; intro w5 sl5 hg5 hX5; have hB5 := hB4.trans (hX.grow hg5 hB4.size)))
        go_roundw
        case rel => first
          | exact ⟨i + 1, by omega, by go_num, by rw [e3.out]; exact hX5, hB5⟩
          | exact ⟨i + 1, by omega, by go_num, by rw [e3.out]; simpa using hX, hB3⟩
        case measure => simp [intOf]; omega
    · have hz2 : ¬ (i : Int) < (m.l.length : Int) := by omega
      have e1 : namesL (m.l.take i) = U := by rw [List.take_of_length_le (by omega), hU.out]
      rw [e1] at hX
      go_wp2_with fail
      go_ret
      exact ⟨_, rfl, hB, hX⟩
end Go.Proofs.YtaiiojbakmminaaGreatDoor
namespace Go.Proofs.YtaiiojbakmminaaGreatDoor
open Go Go.RowKit
/-- The one exit replaced. -/
def QK (Q : Exit → Act → World → Prop) (K : Act → World → Prop) : Exit → Act → World → Prop
  | .normal, a, w => K a w
  | e, a, w => Q e a w
section
variable {P : Program} {ops : Array Oper} {Q : Exit → Act → World → Prop}
theorem wp_QK {o : Oper} {a : Act} {w : World} {K : Act → World → Prop} (h : o.wp P a w (wpList P ops (QK Q K) []) (QK Q K)) : o.wp P a w K Q := by
  have hl : LetsOut (QK Q K) → LetsOut Q := fun ⟨a, w, h⟩ => ⟨a, w, h⟩
  unfold Oper.wp at h ⊢
  generalize (execOp a.eval o).run P w = r at h ⊢
  match r, h with
  | .ok (.value v) w', h => exact h
  | .ok .skip w', h => exact h
  | .ok (.defer d) w', h => exact h
  | .ok (.enter f args) w', h =>
    refine Calls.mono h fun e w'' h => ?_
    match e, h with
    | .returned v, h => exact h
    | .panicked c, h => exact h
    | .outgrown, h => exact hl h
  | .ok (.row row args) w', h => exact Rows.mono h fun v w'' h => h
  | .halt (.panic v) w', h => exact h
theorem wpOp_list {i : Nat} {o : Oper} {K : Act → World → Prop} {a : Act} {w : World} (ho : ops[i]? = some o) (h : wpList P ops (QK Q K) [o] a w) : wpOp P ops Q i K a w := by
  unfold wpOp
  rw [ho]
  unfold wpList at h
  show if Region.wanted o (yielded ops a.tmps) = true then _ else _
  split
  · rename_i hw
    rw [if_pos hw] at h
    rcases h with h | ⟨h1, a', w', h2⟩
    · exact .inl (wp_QK h)
    · exact .inr ⟨h1, a', w', h2⟩
  · rename_i hw
    rw [if_neg hw] at h
    exact h
theorem run_callF {f : FuncId} {op : Oper} {a : Act} {w : World} {fn : Func} (hf : P.funcs[f]? = some fn) (hn : (fn.name == "runtime.NumGoroutine") = false) (hb : fn.body.isNone = false) (xs : Array Operand) (tys : Array TypeId) (ho : op.op = .call { callee := .value (.func f), args := xs, argTypes := tys }) : (execOp a.eval op).run P w = .ok (.enter f (xs.map a.eval)) w := by
  unfold execOp
  simp only [ho]
  have hn' : ¬ fn.name = "runtime.NumGoroutine" := by simpa using hn
  have hb' : ¬ fn.body = none := fun e => by rw [e] at hb; cases hb
  simp [resolve, invoke, Act.eval, Deferred.ofValue, callFunc, hf, hn', hb']
/-- A call by its contract. -/
theorem wpList_callR {rest : List Oper} {op : Oper} {a : Act} {w : World} {f : FuncId} {fn : Func} (hf : P.funcs[f]? = some fn) (hn : (fn.name == "runtime.NumGoroutine") = false) (hb : fn.body.isNone = false) (hgd : op.guard = none) (xs : Array Operand) (tys : Array TypeId) (ho : op.op = .call { callee := .value (.func f), args := xs, argTypes := tys })
    (args : Array Value) (hargs : xs.map a.eval = args) (R : Ending → World → Prop) (hc : Calls P f args w R) (h : ∀ e w', R e w' → ∃ v, e = .returned v ∧ wpList P ops Q rest (a.put op.dst v) w') : wpList P ops Q (op :: rest) a w := by
  refine wpList_plain hgd fun K hK => ?_
  unfold Oper.wp
  rw [run_callF hf hn hb xs tys ho, Oper.upon_enter, hargs]
  refine hc.mono fun e w'' hh => ?_
  obtain ⟨v, rfl, h2⟩ := h e w'' hh
  exact hK _ _ h2
/-- An operation without memory. -/
theorem wpList_pure {rest : List Oper} {op : Oper} {a : Act} {w : World} (hgd : op.guard = none) (v : Value) (hr : (execOp a.eval op).run P w = .ok (.value v) w) (h : wpList P ops Q rest (a.put op.dst v) w) : wpList P ops Q (op :: rest) a w := wpList_run hgd v w hr h
theorem run_extract {op : Oper} {a : Act} {w : World} (x : Operand) (k : Nat) (ho : op.op = .extract x k) (vs : Array Value) (hx : a.eval x = .tuple vs) (v : Value) (hv : vs[k]? = some v) : (execOp a.eval op).run P w = .ok (.value v) w := by
  unfold execOp
  simp [ho, hx, Instr.extract, hv]
theorem wpAnyH_solo {md : Region.Mode} {S : World → Prop} {i : Nat} {o : Oper} {fuel : Nat} {listed : Array Bool} {a : Act} {w : World} (ho : ops[i]? = some o) (hr : Region.ready md ops listed = [i])
    (h : ∀ K : Act → World → Prop, (∀ a w, S w → wpAnyH P md ops Q S fuel (listed.setIfInBounds i true) a w → K a w) → wpList P ops (QK Q K) [o] a w) : wpAnyH P md ops Q S (fuel + 1) listed a w :=
  ⟨(fun h0 => absurd (hr ▸ h0) (List.cons_ne_nil _ _)), fun j hj => by
    rw [hr] at hj
    obtain rfl := List.mem_singleton.1 hj
    exact wpOp_list ho (h _ (fun a w hS hW => ⟨hS, hW⟩))⟩
theorem wpList_callG {rest : List Oper} {op : Oper} {a : Act} {w : World} {f : FuncId} {fn : Func} (hf : P.funcs[f]? = some fn) (hn : (fn.name == "runtime.NumGoroutine") = false) (hb : fn.body.isNone = false) (hw : Region.wanted op (yielded ops a.tmps) = true) (xs : Array Operand) (tys : Array TypeId) (ho : op.op = .call { callee := .value (.func f), args := xs, argTypes := tys })
    (args : Array Value) (hargs : xs.map a.eval = args) (R : Ending → World → Prop) (hc : Calls P f args w R) (h : ∀ e w', R e w' → ∃ v, e = .returned v ∧ wpList P ops Q rest (a.put op.dst v) w') : wpList P ops Q (op :: rest) a w := by
  refine wpList_step fun K hK => ?_
  rw [if_pos hw]
  unfold Oper.wp
  rw [run_callF hf hn hb xs tys ho, Oper.upon_enter, hargs]
  refine hc.mono fun e w'' hh => ?_
  obtain ⟨v, rfl, h3⟩ := h e w'' hh
  exact hK _ _ h3
theorem run_loadCellB {op : Oper} {a : Act} {w : World} (ty : TypeId) (x : Operand) (ho : op.op = .load ty x) (b o : Nat) (hx : a.eval x = .pointer (some ⟨b, o, none⟩))
    (c : Array Value) (t : TypeId) (hb : Blk w b c t) (d : TypeDesc) (hu : P.underlying ty = some d) (hd : d.isRow = false) (v : Value) (hv : c[o]? = some v) :
    (execOp a.eval op).run P w = .ok (.value v) w := by
  have hc : w.cell? ⟨b, o, none⟩ = some v := (hb.cell o).trans hv
  unfold execOp
  simp only [ho, hx]
  simp [Instr.loadAt, Instr.sureAddr, Sem.run_bind, loadVar, isAgg_run hu hd, hc, go_sem]
end
theorem run_loadMid {P : Program} {op : Oper} {a : Act} {w : World} (ty : TypeId) (x : Operand) (ho : op.op = .load ty x) (b o : Nat) (hx : a.eval x = .pointer (some ⟨b, o, none⟩))
    (c : Array Value) (hb : w.rangeAt b o c.toList) (d : TypeDesc) (hu : P.underlying ty = some d) (hd : d.isRow = true) (hi : (P.info? ty).map (·.size) = some c.size) :
    (execOp a.eval op).run P w = .ok (.value (.agg c)) w := by
  have hl := run_loadVar_mid (P := P) w b o ty c.toList d hb hu hd (by simpa using hi)
  rw [Array.toArray_toList] at hl
  unfold execOp
  simp only [ho, hx]
  simp [Instr.loadAt, Instr.sureAddr, hl]
theorem args0 {a : Act} : (#[] : Array Operand).map a.eval = #[] := by simp
theorem args1 {a : Act} {x : Operand} {u : Value} (hx : a.eval x = u) : #[x].map a.eval = #[u] := by simp [hx]
theorem args2 {a : Act} {x y : Operand} {u v : Value} (hx : a.eval x = u) (hy : a.eval y = v) : #[x, y].map a.eval = #[u, v] := by simp [hx, hy]
theorem args3 {a : Act} {x y z : Operand} {u v t : Value} (hx : a.eval x = u) (hy : a.eval y = v) (hz : a.eval z = t) : #[x, y, z].map a.eval = #[u, v, t] := by simp [hx, hy, hz]
end Go.Proofs.YtaiiojbakmminaaGreatDoor
namespace Go.Proofs.YtaiiojbakmminaaGreatDoor
open Go Go.RowKit
def sv (t : B) : Value := .string ⟨t.toArray⟩
/-- The value v is a slice of the texts l, which lies in block b. -/
structure TS (w : World) (v : Value) (b : Option Nat) (l : List B) : Prop where
  out : (v = .slice none 0 0 ∧ b = none ∧ l = []) ∨ ∃ g o cap cur, v = .slice (some ⟨g, o, none⟩) l.length cap ∧ b = some g ∧ w.heap[g]? = some (.cells cur 9 (0, 0)) ∧ l.length ≤ cap ∧ o + cap ≤ cur.size ∧ ∀ j x, l[j]? = some x → cur[o + j]? = some (sv x)
theorem TS.nil (w : World) : TS w (.slice none 0 0) none [] := ⟨.inl ⟨rfl, rfl, rfl⟩⟩
theorem TS.lt {w : World} {v : Value} {b : Option Nat} {l : List B} (h : TS w v b l) : ∀ k, b = some k → k < w.heap.size := fun k e => by
  rcases h.out with ⟨_, hb, _⟩ | ⟨g, o, cap, cur, _, hb, hg, _⟩
  · rw [hb] at e; cases e
  · rw [hb] at e
    cases e
    exact (Array.getElem?_eq_some_iff.1 hg).1
theorem TS.keep {w w' : World} {v : Value} {b : Option Nat} {l : List B} (h : TS w v b l) (hk : ∀ k, b = some k → w'.heap[k]? = w.heap[k]?) : TS w' v b l := by
  rcases h.out with h | ⟨g, o, cap, cur, h1, h2, h3, h4⟩
  · exact ⟨.inl h⟩
  · exact ⟨.inr ⟨g, o, cap, cur, h1, h2, (hk g h2).trans h3, h4⟩⟩
theorem TS.below {w w' : World} {v : Value} {b : Option Nat} {l : List B} (h : TS w v b l) (hb : Below w.heap.size w w') : TS w' v b l := h.keep fun k e => hb.block k (h.lt k e)
theorem TS.grown {w w' : World} {v : Value} {b row : Option Nat} {l : List B} (h : TS w v b l) (hb : w.grownBy w' row) (hr : ∀ k, b = some k → some k ≠ row) : TS w' v b l := h.keep fun k e => hb.block k (h.lt k e) (hr k e)
theorem TS.sl {w : World} {v : Value} {b : Option Nat} {l : List B} (h : TS w v b l) : ∃ a cap, v = .slice a l.length cap ∧ (∀ j x, l[j]? = some x → ∃ g o, a = some ⟨g, o, none⟩ ∧ w.cell? ⟨g, o + j, none⟩ = some (sv x)) ∧ v.cells = #[v] ∧ v.oneCell' = true := by
  rcases h.out with ⟨rfl, _, rfl⟩ | ⟨g, o, cap, cur, rfl, _, hg, _, _, hc⟩
  · exact ⟨none, 0, rfl, fun j x hx => by simp at hx, rfl, rfl⟩
  · exact ⟨_, cap, rfl, fun j x hx => ⟨g, o, rfl, by simp only [World.cell?, hg]; exact hc j x hx⟩, rfl, rfl⟩
/-- Texts that can be read at an address. -/
structure TA (w : World) (a : Option Addr) (l : List B) : Prop where
  out : l = [] ∨ ∃ g o cur fr, a = some ⟨g, o, none⟩ ∧ w.heap[g]? = some (.cells cur 9 fr) ∧ ∀ j x, l[j]? = some x → cur[o + j]? = some (sv x)
theorem TA.nil (w : World) (a : Option Addr) : TA w a [] := ⟨.inl rfl⟩
theorem TA.at {w : World} {a : Option Addr} {l : List B} (h : TA w a l) (j : Nat) (x : B) (hx : l[j]? = some x) : ∃ g o, a = some ⟨g, o, none⟩ ∧ g < w.heap.size ∧ w.cell? ⟨g, o + j, none⟩ = some (sv x) := by
  rcases h.out with rfl | ⟨g, o, cur, fr, h1, h2, h3⟩
  · simp at hx
  · refine ⟨g, o, h1, (Array.getElem?_eq_some_iff.1 h2).1, ?_⟩
    simp only [World.cell?, h2]
    exact h3 j x hx
theorem TA.below {w w' : World} {a : Option Addr} {l : List B} (h : TA w a l) (hb : Below w.heap.size w w') : TA w' a l := by
  rcases h.out with h | ⟨g, o, cur, fr, h1, h2, h3⟩
  · exact ⟨.inl h⟩
  · exact ⟨.inr ⟨g, o, cur, fr, h1, (hb.block g (Array.getElem?_eq_some_iff.1 h2).1).trans h2, h3⟩⟩
theorem TS.ta {w : World} {a : Option Addr} {n cap : Nat} {b : Option Nat} {l : List B} (h : TS w (.slice a n cap) b l) : TA w a l := by
  rcases h.out with ⟨_, _, rfl⟩ | ⟨g, o, c, cur, h1, h2, h3, _, _, h4⟩
  · exact ⟨.inl rfl⟩
  · simp only [Value.slice.injEq] at h1
    exact ⟨.inr ⟨g, o, cur, (0, 0), h1.1, h3, h4⟩⟩
theorem flat_one : ∀ l : List B, (l.map fun n => [Value.string ⟨n.toArray⟩]).flatten = l.map sv
  | [] => rfl
  | y :: r => by rw [List.map_cons, List.flatten_cons, flat_one r]; rfl
theorem XL.ta {w : World} {lo : Nat} {a : Option Addr} {n cap : Nat} {l : List B} (h : XL w lo (.slice a n cap) l) : TA w a l := by
  rcases h.2 with ⟨h1, _⟩ | ⟨g, c, _, h2, h3⟩
  · exact ⟨.inl (by simpa using h1)⟩
  · simp only [Value.slice.injEq] at h2
    obtain ⟨cur, h4, _, _, h5⟩ := h3.out
    refine ⟨.inr ⟨g, 0, cur, (0, 0), h2.1, h4, fun j x hx => ?_⟩⟩
    rw [Nat.zero_add]
    refine h5 j _ ?_
    have e : (l.map fun n => [Value.string ⟨n.toArray⟩]).flatten = l.map sv := flat_one l
    rw [e, List.getElem?_map, hx]
    rfl
theorem XL.ts {w : World} {lo : Nat} {v : Value} {l : List B} (h : XL w lo v l) : TS w v (slBlk v) l ∧ ∀ k, slBlk v = some k → lo ≤ k := by
  refine ⟨?_, fun k e => (GL.lt h k e).1⟩
  rcases h.2 with ⟨h1, h2⟩ | ⟨g, c, _, h2, h3⟩
  · exact ⟨.inl ⟨h2, by rw [h2]; rfl, by simpa using h1⟩⟩
  · obtain ⟨cur, h4, h5, h6, h7⟩ := h3.out
    subst h2
    rw [List.length_map] at h5 h
    rcases (XL.ta (a := some ⟨g, 0, none⟩) (n := l.length) (cap := c) h).out with rfl | ⟨g', o, cur', fr, e1, e2, e3⟩
    · exact ⟨.inr ⟨g, 0, c, cur, by simp, rfl, h4, by simp, by omega, fun j x hx => by simp at hx⟩⟩
    · have e1 := Option.some.inj e1
      simp only [Addr.mk.injEq] at e1
      obtain ⟨rfl, rfl, _⟩ := e1
      rw [h4] at e2
      simp only [Option.some.injEq, Obj.cells.injEq] at e2
      obtain ⟨rfl, _, _⟩ := e2
      exact ⟨.inr ⟨g, 0, c, cur, by simp, rfl, h4, h5, by omega, e3⟩⟩
section
variable {P : Program} {ops : Array Oper} {rest : List Oper} {op : Oper} {a : Act} {w : World} {Q : Exit → Act → World → Prop}
theorem heap_setC {b : Nat} {t : TypeId} {fr : Nat × Nat} : ∀ (vs : List Value) (o : Nat) {w : World} {c : Array Value}, w.heap[b]? = some (.cells c t fr) → (w.setCells b o vs).heap[b]? = some (.cells (spl c o vs) t fr)
  | [], _, _, _, h => h
  | v :: vs, o, w, c, h => by
    have h1 : (w.setCell ⟨b, o, none⟩ v).heap[b]? = some (.cells (c.setIfInBounds o v) t fr) := by
      simp [World.setCell, Array.getElem?_modify, h]
    exact heap_setC vs (o + 1) h1
theorem src_ta {t : TypeId} (hu : P.underlying t = some (.slice 9)) (x : Option Addr) (m : List B) (c : Nat) (h : TA w x m) : Src P 1 t (.slice x m.length c) m.length (m.map sv) w := by
  have hone : ∀ u ∈ m.map sv, u.oneCell' = true := fun u hu => by
    obtain ⟨y, _, rfl⟩ := List.mem_map.1 hu
    rfl
  cases x with
  | none =>
    rcases h.out with rfl | ⟨g, o, cur, fr, h1, _⟩
    · exact Src.ofNil w hu c
    · cases h1
  | some ad =>
    refine Src.ofSlice w hu ad m.length c (m.map sv) (by simp) (fun j u hj => ?_) hone
    rw [List.getElem?_map] at hj
    obtain ⟨y, hy, rfl⟩ := Option.map_eq_some_iff.1 hj
    obtain ⟨g, o, ha, _, hc⟩ := h.at j y hy
    have ha := Option.some.inj ha
    subst ha
    rw [Addr.add_mid, hc]
theorem run_appendTS (t ty : TypeId) (v : Value) (b : Option Nat) (l : List B) (hv : TS w v b l) (x : Option Addr) (c : Nat) (m : List B) (hm : TA w x m) (i : TypeInfo)
    (hu : P.underlying t = some (.slice 9)) (hi : P.info? 9 = some i) (hz : i.zero = some (.string ⟨#[]⟩)) (hs : i.size = 1) (hby : i.bytes ≤ 256) (hlen : l.length + m.length ≤ 1000000) :
    ∃ (w1 : World) (v1 : Value) (b1 : Option Nat), (Builtin.append_ #[t, t] ty #[v, .slice x m.length c]).run P w = .ok v1 w1 ∧ w.grownBy w1 b ∧ (∀ k, b1 = some k → b = some k ∨ w.heap.size ≤ k) ∧ TS w1 v1 b1 (l ++ m) := by
  have hsrc : Src P i.size t (.slice x m.length c) m.length (m.map sv) w := by rw [hs]; exact src_ta hu x m c hm
  have hone : ∀ j : Nat, ∀ y, (l ++ m)[j]? = some y → ((l ++ m).map sv)[j]? = some (sv y) := fun j y hy => by rw [List.getElem?_map, hy]; rfl
  have hgrow : ∀ (base : Option Addr) (cap : Nat), cap < l.length + m.length → (Builtin.firstCells i.size l.length (.slice base l.length cap)).run P w.drew = .ok (l.map sv).toArray w.drew →
      ∃ (w1 : World) (v1 : Value) (b1 : Option Nat), (Builtin.append_ #[t, t] ty #[.slice base l.length cap, .slice x m.length c]).run P w = .ok v1 w1 ∧ w.grownBy w1 b ∧ (∀ k, b1 = some k → b = some k ∨ w.heap.size ≤ k) ∧ TS w1 v1 b1 (l ++ m) := by
    intro base cap hcap hold
    have hr := run_append_grow_src (P := P) w t t ty 9 i _ hu hi hz base l.length cap _ hold _ m.length _ hsrc hcap (by omega) (growslice_fits hcap (Nat.le_trans (Nat.mul_le_mul (show l.length + m.length ≤ 1000001 by omega) hby) (by decide)))
    have hge : l.length + m.length ≤ grownCap w (l.length + m.length) cap 9 := grownCap_ge w _ _ _
    refine ⟨_, _, some w.heap.size, hr, grown_of_below ((Below.refl w.heap.size w).drew.alloc (Nat.le_refl _) _), fun k e => .inr (Nat.le_of_eq (Option.some.inj e)), ⟨.inr ⟨w.heap.size, 0, _, _, by rw [List.length_append], rfl, heap_alloc_last w.drew _, by rw [List.length_append]; exact hge, ?_, fun j y hy => ?_⟩⟩⟩
    · simp [size_zeroCells, Value.cells]; omega
    · have hj : j < l.length + m.length := by have := (List.getElem?_eq_some_iff.1 hy).1; simpa using this
      rw [Nat.zero_add, Array.getElem?_append_left (by simp; omega)]
      simp only [List.getElem?_toArray]
      rw [show (l.map sv ++ m.map sv) = (l ++ m).map sv from by simp]
      exact hone j y hy
  rcases hv.out with ⟨rfl, rfl, rfl⟩ | ⟨g, o, cap, cur, rfl, rfl, hg, h4, h5, h6⟩
  · by_cases hm0 : m.length = 0
    · have hm0 : m = [] := List.length_eq_zero_iff.1 hm0
      subst hm0
      have hr : (Builtin.append_ #[t, t] ty #[.slice none 0 0, .slice x 0 c]).run P w = .ok (.slice none 0 0) w := by
        have hl0 := hsrc.len
        have hc0 := hsrc.cells
        simp only [List.length_nil, List.map_nil] at hl0 hc0
        rcases hsrc.kind with ⟨e', hk⟩ | hk <;> simp [Builtin.append_, run_underlying hu, Go.sizeOf, typeInfo, hi, hl0, hc0]
      exact ⟨_, _, none, hr, grown_of_below (Below.refl _ _), fun k e => (by cases e), TS.nil _⟩
    · exact hgrow none 0 (by simp; omega) (run_firstCells_none (w := w.drew) i.size 0 0 0)
  · by_cases hroom : l.length + m.length ≤ cap
    · have hr := run_append_room_src (P := P) w t t ty 9 i hu hi g o l.length cap _ m.length _ hsrc hroom
        (fun j hj => by
          rw [hs, Nat.mul_one]
          simp only [World.cell?, hg]
          rw [Array.getElem?_eq_getElem (by simp at hj; omega)]; rfl)
        (fun j hj => by
          rw [hs, Nat.mul_one]
          simp only [World.frozen?, hg]
          simp)
      rw [hs, Nat.mul_one] at hr
      have hset : (w.setCells g (o + l.length) (m.map sv)).heap[g]? = some (.cells (spl cur (o + l.length) (m.map sv)) 9 (0, 0)) := heap_setC (m.map sv) (o + l.length) hg
      refine ⟨_, _, some g, hr, grown_setCells _ _ _ _, fun k e => .inl e, ⟨.inr ⟨g, o, cap, _, by rw [List.length_append], rfl, hset, by rw [List.length_append]; exact hroom, by rw [spl_size]; exact h5, fun j y hy => ?_⟩⟩⟩
      have hj : j < l.length + m.length := by have := (List.getElem?_eq_some_iff.1 hy).1; simpa using this
      rw [spl_get _ _ _ _ (by simp; omega)]
      by_cases hjl : j < l.length
      · rw [if_neg (by simp; omega)]
        rw [List.getElem?_append_left hjl] at hy
        exact h6 j y hy
      · rw [if_pos (by simp; omega)]
        rw [List.getElem?_append_right (by omega)] at hy
        rw [List.getElem?_map, show o + j - (o + l.length) = j - l.length by omega, hy]
        rfl
    · refine hgrow (some ⟨g, o, none⟩) cap (by omega) (run_firstCells_some w.drew i.size l.length ⟨g, o, none⟩ l.length cap _ (by simp [hs]) (fun j u hj => ?_))
      rw [List.getElem?_map] at hj
      obtain ⟨y, hy, rfl⟩ := Option.map_eq_some_iff.1 hj
      rw [Addr.add_mid]
      show w.cell? _ = _
      simp only [World.cell?, hg]
      exact h6 j y hy
end
end Go.Proofs.YtaiiojbakmminaaGreatDoor
