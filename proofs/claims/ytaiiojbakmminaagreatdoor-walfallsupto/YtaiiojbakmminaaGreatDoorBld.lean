/- Regions that draw their order: laws of one operation, of a call, and of loads. Slices of texts that lie anywhere in their block: what they hold, and appending to them. What copyCheck and WriteString of a strings.Builder do at this program. -/
import Derived.Test.YtaiiojbakmminaaGreatDoorKSml
import Derived.RegionTactic
import Derived.Deep.RegionHeld3
import Derived.Maps.RangeWalk
import Derived.Deep.Cut
import Derived.Test.YtaiiojbakmminaaGreatDoorKNam
import Derived.Test.YtaiiojbakmminaaGreatDoorWsh
import Derived.Test.YtaiiojbakmminaaGreatDoorUfr
namespace Go.Proofs.YtaiiojbakmminaaGreatDoor
open Go Go.RowKit
/-- The one exit replaced. -/
def QK (Q : Exit → Act → World → Prop) (K : Act → World → Prop) : Exit → Act → World → Prop
  | .normal, a, w => K a w
  | e, a, w => Q e a w
section
variable {P : Program} {ops : Array Oper} {Q : Exit → Act → World → Prop}
theorem wp_QK {o : Oper} {a : Act} {w : World} {K : Act → World → Prop} (h : o.wp P a w (wpList P ops (QK Q K) []) (QK Q K)) : o.wp P a w K Q := by
  have hl : LetsOut (QK Q K) → LetsOut Q := fun ⟨a, w, h⟩ => ⟨a, w, h⟩
  unfold Oper.wp at h ⊢
  generalize (execOp a.eval o).run P w = r at h ⊢
  match r, h with
  | .ok (.value v) w', h => exact h
  | .ok .skip w', h => exact h
  | .ok (.defer d) w', h => exact h
  | .ok (.enter f args) w', h =>
    refine Calls.mono h fun e w'' h => ?_
    match e, h with
    | .returned v, h => exact h
    | .panicked c, h => exact h
    | .outgrown, h => exact hl h
  | .ok (.row row args) w', h => exact Rows.mono h fun v w'' h => h
  | .halt (.panic v) w', h => exact h
theorem wpOp_list {i : Nat} {o : Oper} {K : Act → World → Prop} {a : Act} {w : World} (ho : ops[i]? = some o) (h : wpList P ops (QK Q K) [o] a w) : wpOp P ops Q i K a w := by
  unfold wpOp
  rw [ho]
  unfold wpList at h
  show if Region.wanted o (yielded ops a.tmps) = true then _ else _
  split
  · rename_i hw
    rw [if_pos hw] at h
    rcases h with h | ⟨h1, a', w', h2⟩
    · exact .inl (wp_QK h)
    · exact .inr ⟨h1, a', w', h2⟩
  · rename_i hw
    rw [if_neg hw] at h
    exact h
theorem run_callF {f : FuncId} {op : Oper} {a : Act} {w : World} {fn : Func} (hf : P.funcs[f]? = some fn) (hn : (fn.name == "runtime.NumGoroutine") = false) (hb : fn.body.isNone = false) (xs : Array Operand) (tys : Array TypeId) (ho : op.op = .call { callee := .value (.func f), args := xs, argTypes := tys }) : (execOp a.eval op).run P w = .ok (.enter f (xs.map a.eval)) w := by
  unfold execOp
  simp only [ho]
  have hn' : ¬ fn.name = "runtime.NumGoroutine" := by simpa using hn
  have hb' : ¬ fn.body = none := fun e => by rw [e] at hb; cases hb
  simp [resolve, invoke, Act.eval, Deferred.ofValue, callFunc, hf, hn', hb']
/-- A call by its contract. -/
theorem wpList_callR {rest : List Oper} {op : Oper} {a : Act} {w : World} {f : FuncId} {fn : Func} (hf : P.funcs[f]? = some fn) (hn : (fn.name == "runtime.NumGoroutine") = false) (hb : fn.body.isNone = false) (hgd : op.guard = none) (xs : Array Operand) (tys : Array TypeId) (ho : op.op = .call { callee := .value (.func f), args := xs, argTypes := tys })
    (args : Array Value) (hargs : xs.map a.eval = args) (R : Ending → World → Prop) (hc : Calls P f args w R) (h : ∀ e w', R e w' → ∃ v, e = .returned v ∧ wpList P ops Q rest (a.put op.dst v) w') : wpList P ops Q (op :: rest) a w := by
  refine wpList_plain hgd fun K hK => ?_
  unfold Oper.wp
  rw [run_callF hf hn hb xs tys ho, Oper.upon_enter, hargs]
  refine hc.mono fun e w'' hh => ?_
  obtain ⟨v, rfl, h2⟩ := h e w'' hh
  exact hK _ _ h2
/-- An operation without memory. -/
theorem wpList_pure {rest : List Oper} {op : Oper} {a : Act} {w : World} (hgd : op.guard = none) (v : Value) (hr : (execOp a.eval op).run P w = .ok (.value v) w) (h : wpList P ops Q rest (a.put op.dst v) w) : wpList P ops Q (op :: rest) a w := wpList_run hgd v w hr h
theorem run_extract {op : Oper} {a : Act} {w : World} (x : Operand) (k : Nat) (ho : op.op = .extract x k) (vs : Array Value) (hx : a.eval x = .tuple vs) (v : Value) (hv : vs[k]? = some v) : (execOp a.eval op).run P w = .ok (.value v) w := by
  unfold execOp
  simp [ho, hx, Instr.extract, hv]
theorem wpAnyH_solo {md : Region.Mode} {S : World → Prop} {i : Nat} {o : Oper} {fuel : Nat} {listed : Array Bool} {a : Act} {w : World} (ho : ops[i]? = some o) (hr : Region.ready md ops listed = [i])
    (h : ∀ K : Act → World → Prop, (∀ a w, S w → wpAnyH P md ops Q S fuel (listed.setIfInBounds i true) a w → K a w) → wpList P ops (QK Q K) [o] a w) : wpAnyH P md ops Q S (fuel + 1) listed a w :=
  ⟨(fun h0 => absurd (hr ▸ h0) (List.cons_ne_nil _ _)), fun j hj => by
    rw [hr] at hj
    obtain rfl := List.mem_singleton.1 hj
    exact wpOp_list ho (h _ (fun a w hS hW => ⟨hS, hW⟩))⟩
theorem run_loadCellB {op : Oper} {a : Act} {w : World} (ty : TypeId) (x : Operand) (ho : op.op = .load ty x) (b o : Nat) (hx : a.eval x = .pointer (some ⟨b, o, none⟩))
    (c : Array Value) (t : TypeId) (hb : Blk w b c t) (d : TypeDesc) (hu : P.underlying ty = some d) (hd : d.isRow = false) (v : Value) (hv : c[o]? = some v) :
    (execOp a.eval op).run P w = .ok (.value v) w := by
  have hc : w.cell? ⟨b, o, none⟩ = some v := (hb.cell o).trans hv
  unfold execOp
  simp only [ho, hx]
  simp [Instr.loadAt, Instr.sureAddr, Sem.run_bind, loadVar, isAgg_run hu hd, hc, go_sem]
end
theorem run_loadMid {P : Program} {op : Oper} {a : Act} {w : World} (ty : TypeId) (x : Operand) (ho : op.op = .load ty x) (b o : Nat) (hx : a.eval x = .pointer (some ⟨b, o, none⟩))
    (c : Array Value) (hb : w.rangeAt b o c.toList) (d : TypeDesc) (hu : P.underlying ty = some d) (hd : d.isRow = true) (hi : (P.info? ty).map (·.size) = some c.size) :
    (execOp a.eval op).run P w = .ok (.value (.agg c)) w := by
  have hl := run_loadVar_mid (P := P) w b o ty c.toList d hb hu hd (by simpa using hi)
  rw [Array.toArray_toList] at hl
  unfold execOp
  simp only [ho, hx]
  simp [Instr.loadAt, Instr.sureAddr, hl]
theorem args0 {a : Act} : (#[] : Array Operand).map a.eval = #[] := by simp
theorem args1 {a : Act} {x : Operand} {u : Value} (hx : a.eval x = u) : #[x].map a.eval = #[u] := by simp [hx]
theorem args2 {a : Act} {x y : Operand} {u v : Value} (hx : a.eval x = u) (hy : a.eval y = v) : #[x, y].map a.eval = #[u, v] := by simp [hx, hy]
theorem args3 {a : Act} {x y z : Operand} {u v t : Value} (hx : a.eval x = u) (hy : a.eval y = v) (hz : a.eval z = t) : #[x, y, z].map a.eval = #[u, v, t] := by simp [hx, hy, hz]
end Go.Proofs.YtaiiojbakmminaaGreatDoor
namespace Go.Proofs.YtaiiojbakmminaaGreatDoor
open Go Go.RowKit
def sv (t : B) : Value := .string ⟨t.toArray⟩
/-- The value v is a slice of the texts l, which lies in block b. -/
structure TS (w : World) (v : Value) (b : Option Nat) (l : List B) : Prop where
  out : (v = .slice none 0 0 ∧ b = none ∧ l = []) ∨ ∃ g o cap cur, v = .slice (some ⟨g, o, none⟩) l.length cap ∧ b = some g ∧ w.heap[g]? = some (.cells cur 9 (0, 0)) ∧ l.length ≤ cap ∧ o + cap ≤ cur.size ∧ ∀ j x, l[j]? = some x → cur[o + j]? = some (sv x)
theorem TS.nil (w : World) : TS w (.slice none 0 0) none [] := ⟨.inl ⟨rfl, rfl, rfl⟩⟩
theorem TS.lt {w : World} {v : Value} {b : Option Nat} {l : List B} (h : TS w v b l) : ∀ k, b = some k → k < w.heap.size := fun k e => by
  rcases h.out with ⟨_, hb, _⟩ | ⟨g, o, cap, cur, _, hb, hg, _⟩
  · rw [hb] at e; cases e
  · rw [hb] at e
    cases e
    exact (Array.getElem?_eq_some_iff.1 hg).1
theorem TS.keep {w w' : World} {v : Value} {b : Option Nat} {l : List B} (h : TS w v b l) (hk : ∀ k, b = some k → w'.heap[k]? = w.heap[k]?) : TS w' v b l := by
  rcases h.out with h | ⟨g, o, cap, cur, h1, h2, h3, h4⟩
  · exact ⟨.inl h⟩
  · exact ⟨.inr ⟨g, o, cap, cur, h1, h2, (hk g h2).trans h3, h4⟩⟩
theorem TS.below {w w' : World} {v : Value} {b : Option Nat} {l : List B} (h : TS w v b l) (hb : Below w.heap.size w w') : TS w' v b l := h.keep fun k e => hb.block k (h.lt k e)
theorem TS.grown {w w' : World} {v : Value} {b row : Option Nat} {l : List B} (h : TS w v b l) (hb : w.grownBy w' row) (hr : ∀ k, b = some k → some k ≠ row) : TS w' v b l := h.keep fun k e => hb.block k (h.lt k e) (hr k e)
theorem TS.sl {w : World} {v : Value} {b : Option Nat} {l : List B} (h : TS w v b l) : ∃ a cap, v = .slice a l.length cap ∧ (∀ j x, l[j]? = some x → ∃ g o, a = some ⟨g, o, none⟩ ∧ w.cell? ⟨g, o + j, none⟩ = some (sv x)) ∧ v.cells = #[v] ∧ v.oneCell' = true := by
  rcases h.out with ⟨rfl, _, rfl⟩ | ⟨g, o, cap, cur, rfl, _, hg, _, _, hc⟩
  · exact ⟨none, 0, rfl, fun j x hx => by simp at hx, rfl, rfl⟩
  · exact ⟨_, cap, rfl, fun j x hx => ⟨g, o, rfl, by simp only [World.cell?, hg]; exact hc j x hx⟩, rfl, rfl⟩
/-- Texts that can be read at an address. -/
structure TA (w : World) (a : Option Addr) (l : List B) : Prop where
  out : l = [] ∨ ∃ g o cur fr, a = some ⟨g, o, none⟩ ∧ w.heap[g]? = some (.cells cur 9 fr) ∧ ∀ j x, l[j]? = some x → cur[o + j]? = some (sv x)
theorem TA.nil (w : World) (a : Option Addr) : TA w a [] := ⟨.inl rfl⟩
theorem TA.at {w : World} {a : Option Addr} {l : List B} (h : TA w a l) (j : Nat) (x : B) (hx : l[j]? = some x) : ∃ g o, a = some ⟨g, o, none⟩ ∧ g < w.heap.size ∧ w.cell? ⟨g, o + j, none⟩ = some (sv x) := by
  rcases h.out with rfl | ⟨g, o, cur, fr, h1, h2, h3⟩
  · simp at hx
  · refine ⟨g, o, h1, (Array.getElem?_eq_some_iff.1 h2).1, ?_⟩
    simp only [World.cell?, h2]
    exact h3 j x hx
theorem TA.below {w w' : World} {a : Option Addr} {l : List B} (h : TA w a l) (hb : Below w.heap.size w w') : TA w' a l := by
  rcases h.out with h | ⟨g, o, cur, fr, h1, h2, h3⟩
  · exact ⟨.inl h⟩
  · exact ⟨.inr ⟨g, o, cur, fr, h1, (hb.block g (Array.getElem?_eq_some_iff.1 h2).1).trans h2, h3⟩⟩
theorem TS.ta {w : World} {a : Option Addr} {n cap : Nat} {b : Option Nat} {l : List B} (h : TS w (.slice a n cap) b l) : TA w a l := by
  rcases h.out with ⟨_, _, rfl⟩ | ⟨g, o, c, cur, h1, h2, h3, _, _, h4⟩
  · exact ⟨.inl rfl⟩
  · simp only [Value.slice.injEq] at h1
    exact ⟨.inr ⟨g, o, cur, (0, 0), h1.1, h3, h4⟩⟩
theorem flat_one : ∀ l : List B, (l.map fun n => [Value.string ⟨n.toArray⟩]).flatten = l.map sv
  | [] => rfl
  | y :: r => by rw [List.map_cons, List.flatten_cons, flat_one r]; rfl
theorem XL.ta {w : World} {lo : Nat} {a : Option Addr} {n cap : Nat} {l : List B} (h : XL w lo (.slice a n cap) l) : TA w a l := by
  rcases h.2 with ⟨h1, _⟩ | ⟨g, c, _, h2, h3⟩
  · exact ⟨.inl (by simpa using h1)⟩
  · simp only [Value.slice.injEq] at h2
    obtain ⟨cur, h4, _, _, h5⟩ := h3.out
    refine ⟨.inr ⟨g, 0, cur, (0, 0), h2.1, h4, fun j x hx => ?_⟩⟩
    rw [Nat.zero_add]
    refine h5 j _ ?_
    have e : (l.map fun n => [Value.string ⟨n.toArray⟩]).flatten = l.map sv := flat_one l
    rw [e, List.getElem?_map, hx]
    rfl
theorem XL.ts {w : World} {lo : Nat} {v : Value} {l : List B} (h : XL w lo v l) : TS w v (slBlk v) l ∧ ∀ k, slBlk v = some k → lo ≤ k := by
  refine ⟨?_, fun k e => (GL.lt h k e).1⟩
  rcases h.2 with ⟨h1, h2⟩ | ⟨g, c, _, h2, h3⟩
  · exact ⟨.inl ⟨h2, by rw [h2]; rfl, by simpa using h1⟩⟩
  · obtain ⟨cur, h4, h5, h6, h7⟩ := h3.out
    subst h2
    rw [List.length_map] at h5 h
    rcases (XL.ta (a := some ⟨g, 0, none⟩) (n := l.length) (cap := c) h).out with rfl | ⟨g', o, cur', fr, e1, e2, e3⟩
    · exact ⟨.inr ⟨g, 0, c, cur, by simp, rfl, h4, by simp, by omega, fun j x hx => by simp at hx⟩⟩
    · have e1 := Option.some.inj e1
      simp only [Addr.mk.injEq] at e1
      obtain ⟨rfl, rfl, _⟩ := e1
      rw [h4] at e2
      simp only [Option.some.injEq, Obj.cells.injEq] at e2
      obtain ⟨rfl, _, _⟩ := e2
      exact ⟨.inr ⟨g, 0, c, cur, by simp, rfl, h4, h5, by omega, e3⟩⟩
section
variable {P : Program} {ops : Array Oper} {rest : List Oper} {op : Oper} {a : Act} {w : World} {Q : Exit → Act → World → Prop}
theorem heap_setC {b : Nat} {t : TypeId} {fr : Nat × Nat} : ∀ (vs : List Value) (o : Nat) {w : World} {c : Array Value}, w.heap[b]? = some (.cells c t fr) → (w.setCells b o vs).heap[b]? = some (.cells (spl c o vs) t fr)
  | [], _, _, _, h => h
  | v :: vs, o, w, c, h => by
    have h1 : (w.setCell ⟨b, o, none⟩ v).heap[b]? = some (.cells (c.setIfInBounds o v) t fr) := by
      simp [World.setCell, Array.getElem?_modify, h]
    exact heap_setC vs (o + 1) h1
theorem src_ta {t : TypeId} (hu : P.underlying t = some (.slice 9)) (x : Option Addr) (m : List B) (c : Nat) (h : TA w x m) : Src P 1 t (.slice x m.length c) m.length (m.map sv) w := by
  have hone : ∀ u ∈ m.map sv, u.oneCell' = true := fun u hu => by
    obtain ⟨y, _, rfl⟩ := List.mem_map.1 hu
    rfl
  cases x with
  | none =>
    rcases h.out with rfl | ⟨g, o, cur, fr, h1, _⟩
    · exact Src.ofNil w hu c
    · cases h1
  | some ad =>
    refine Src.ofSlice w hu ad m.length c (m.map sv) (by simp) (fun j u hj => ?_) hone
    rw [List.getElem?_map] at hj
    obtain ⟨y, hy, rfl⟩ := Option.map_eq_some_iff.1 hj
    obtain ⟨g, o, ha, _, hc⟩ := h.at j y hy
    have ha := Option.some.inj ha
    subst ha
    rw [Addr.add_mid, hc]
theorem run_appendTS (t ty : TypeId) (v : Value) (b : Option Nat) (l : List B) (hv : TS w v b l) (x : Option Addr) (c : Nat) (m : List B) (hm : TA w x m) (i : TypeInfo)
    (hu : P.underlying t = some (.slice 9)) (hi : P.info? 9 = some i) (hz : i.zero = some (.string ⟨#[]⟩)) (hs : i.size = 1) (hby : i.bytes ≤ 256) (hlen : l.length + m.length ≤ 1000000) :
    ∃ (w1 : World) (v1 : Value) (b1 : Option Nat), (Builtin.append_ #[t, t] ty #[v, .slice x m.length c]).run P w = .ok v1 w1 ∧ w.grownBy w1 b ∧ (∀ k, b1 = some k → b = some k ∨ w.heap.size ≤ k) ∧ TS w1 v1 b1 (l ++ m) := by
  have hsrc : Src P i.size t (.slice x m.length c) m.length (m.map sv) w := by rw [hs]; exact src_ta hu x m c hm
  have hone : ∀ j : Nat, ∀ y, (l ++ m)[j]? = some y → ((l ++ m).map sv)[j]? = some (sv y) := fun j y hy => by rw [List.getElem?_map, hy]; rfl
  have hgrow : ∀ (base : Option Addr) (cap : Nat), cap < l.length + m.length → (Builtin.firstCells i.size l.length (.slice base l.length cap)).run P w.drew = .ok (l.map sv).toArray w.drew →
      ∃ (w1 : World) (v1 : Value) (b1 : Option Nat), (Builtin.append_ #[t, t] ty #[.slice base l.length cap, .slice x m.length c]).run P w = .ok v1 w1 ∧ w.grownBy w1 b ∧ (∀ k, b1 = some k → b = some k ∨ w.heap.size ≤ k) ∧ TS w1 v1 b1 (l ++ m) := by
    intro base cap hcap hold
    have hr := run_append_grow_src (P := P) w t t ty 9 i _ hu hi hz base l.length cap _ hold _ m.length _ hsrc hcap (by omega) (growslice_fits hcap (Nat.le_trans (Nat.mul_le_mul (show l.length + m.length ≤ 1000001 by omega) hby) (by decide)))
    have hge : l.length + m.length ≤ grownCap w (l.length + m.length) cap 9 := grownCap_ge w _ _ _
    refine ⟨_, _, some w.heap.size, hr, grown_of_below ((Below.refl w.heap.size w).drew.alloc (Nat.le_refl _) _), fun k e => .inr (Nat.le_of_eq (Option.some.inj e)), ⟨.inr ⟨w.heap.size, 0, _, _, by rw [List.length_append], rfl, heap_alloc_last w.drew _, by rw [List.length_append]; exact hge, ?_, fun j y hy => ?_⟩⟩⟩
    · simp [size_zeroCells, Value.cells]; omega
    · have hj : j < l.length + m.length := by have := (List.getElem?_eq_some_iff.1 hy).1; simpa using this
      rw [Nat.zero_add, Array.getElem?_append_left (by simp; omega)]
      simp only [List.getElem?_toArray]
      rw [show (l.map sv ++ m.map sv) = (l ++ m).map sv from by simp]
      exact hone j y hy
  rcases hv.out with ⟨rfl, rfl, rfl⟩ | ⟨g, o, cap, cur, rfl, rfl, hg, h4, h5, h6⟩
  · by_cases hm0 : m.length = 0
    · have hm0 : m = [] := List.length_eq_zero_iff.1 hm0
      subst hm0
      have hr : (Builtin.append_ #[t, t] ty #[.slice none 0 0, .slice x 0 c]).run P w = .ok (.slice none 0 0) w := by
        have hl0 := hsrc.len
        have hc0 := hsrc.cells
        simp only [List.length_nil, List.map_nil] at hl0 hc0
        rcases hsrc.kind with ⟨e', hk⟩ | hk <;> simp [Builtin.append_, run_underlying hu, Go.sizeOf, typeInfo, hi, hl0, hc0]
      exact ⟨_, _, none, hr, grown_of_below (Below.refl _ _), fun k e => (by cases e), TS.nil _⟩
    · exact hgrow none 0 (by simp; omega) (run_firstCells_none (w := w.drew) i.size 0 0 0)
  · by_cases hroom : l.length + m.length ≤ cap
    · have hr := run_append_room_src (P := P) w t t ty 9 i hu hi g o l.length cap _ m.length _ hsrc hroom
        (fun j hj => by
          rw [hs, Nat.mul_one]
          simp only [World.cell?, hg]
          rw [Array.getElem?_eq_getElem (by simp at hj; omega)]; rfl)
        (fun j hj => by
          rw [hs, Nat.mul_one]
          simp only [World.frozen?, hg]
          simp)
      rw [hs, Nat.mul_one] at hr
      have hset : (w.setCells g (o + l.length) (m.map sv)).heap[g]? = some (.cells (spl cur (o + l.length) (m.map sv)) 9 (0, 0)) := heap_setC (m.map sv) (o + l.length) hg
      refine ⟨_, _, some g, hr, grown_setCells _ _ _ _, fun k e => .inl e, ⟨.inr ⟨g, o, cap, _, by rw [List.length_append], rfl, hset, by rw [List.length_append]; exact hroom, by rw [spl_size]; exact h5, fun j y hy => ?_⟩⟩⟩
      have hj : j < l.length + m.length := by have := (List.getElem?_eq_some_iff.1 hy).1; simpa using this
      rw [spl_get _ _ _ _ (by simp; omega)]
      by_cases hjl : j < l.length
      · rw [if_neg (by simp; omega)]
        rw [List.getElem?_append_left hjl] at hy
        exact h6 j y hy
      · rw [if_pos (by simp; omega)]
        rw [List.getElem?_append_right (by omega)] at hy
        rw [List.getElem?_map, show o + j - (o + l.length) = j - l.length by omega, hy]
        rfl
    · refine hgrow (some ⟨g, o, none⟩) cap (by omega) (run_firstCells_some w.drew i.size l.length ⟨g, o, none⟩ l.length cap _ (by simp [hs]) (fun j u hj => ?_))
      rw [List.getElem?_map] at hj
      obtain ⟨y, hy, rfl⟩ := Option.map_eq_some_iff.1 hj
      rw [Addr.add_mid]
      show w.cell? _ = _
      simp only [World.cell?, hg]
      exact h6 j y hy
end
end Go.Proofs.YtaiiojbakmminaaGreatDoor
namespace Go.Proofs.YtaiiojbakmminaaGreatDoor
open Go Go.RowKit Go.Shelf
theorem bSize : (Tryz.prog.info? 100).map (·.size) = some 2 := by kernel_rfl
theorem bLies : liesAt Tryz.prog Tryz.prog.depth 100 (2 / Tryz.prog.cellsOf 100) 0 100 1 = true := by kernel_rfl
theorem bByte : (Tryz.prog.info? 5).map (fun i => (i.zero, i.size, i.bytes)) = some (some (.int .u8 0), 1, 1) := by kernel_rfl
set_option maxHeartbeats 1000000 in
set_option maxRecDepth 100000 in
theorem bCheck_used (b : Nat) (w : World) (h0 : w.cell? ⟨b, 0, none⟩ = some (.pointer (some ⟨b, 0, none⟩))) :
    Calls Tryz.prog 97 #[.pointer (some ⟨b, 0, none⟩)] w fun e w' => e = .returned (.tuple #[]) ∧ w' = w := by
  obtain ⟨j, hj, _⟩ := Option.map_eq_some_iff.1 bSize
  go_enter Tryz.func97, Tryz.ntmps97
  go_wp2
  rw [Lib.run_neq_ptr_same w _ Tryz.underlying98 hj]
  go_wp2
  go_end0
  exact ⟨rfl, rfl⟩
set_option maxHeartbeats 1000000 in
set_option maxRecDepth 100000 in
theorem bCheck_fresh (b : Nat) (w : World) (h0 : w.cell? ⟨b, 0, none⟩ = some (.pointer none)) (hsh : w.shape? b = some (100, 2)) (hfz : w.frozen? ⟨b, 0, none⟩ = false) :
    Calls Tryz.prog 97 #[.pointer (some ⟨b, 0, none⟩)] w fun e w' => e = .returned (.tuple #[]) ∧ w' = w.setCell ⟨b, 0, none⟩ (.pointer (some ⟨b, 0, none⟩)) := by
  obtain ⟨j, hj, hjs⟩ := Option.map_eq_some_iff.1 bSize
  go_enter Tryz.func97, Tryz.ntmps97
  go_wp2
  rw [Lib.run_to_unsafe w ⟨b, 0, none⟩ Tryz.underlying98 Tryz.underlying144 hj (by rw [hjs]; decide) hsh (Nat.zero_lt_succ 1)]
  simp only [Result.andThen]
  rw [Oper.upon_value]
  go_wp2
  rw [run_callFunc_extern Tryz.func119 (by kernel_rfl) (by kernel_rfl) (by kernel_rfl) (e := Extern.AbiNoEscape.same) (by kernel_rfl)]
  rw [Lib.run_noEscape]
  simp only [Result.andThen]
  rw [Oper.upon_value]
  go_wp2
  rw [Lib.run_from_unsafe w ⟨b, 0, none⟩ Tryz.underlying144 Tryz.underlying98 hj hsh bLies]
  simp only [Result.andThen]
  rw [Oper.upon_value]
  go_wp2
  go_end0
  exact ⟨rfl, rfl⟩
theorem bCheck (B b : Nat) (bs : List Value) (w : World) (h : Lib.IsBuilder 100 5 B b bs w) :
    Calls Tryz.prog 97 #[.pointer (some ⟨b, 0, none⟩)] w fun e w' => e = .returned (.tuple #[]) ∧ (Lib.BuilderAt 100 5 B b (.pointer (some ⟨b, 0, none⟩)) bs w' ∧ Below B w w') := by
  rcases h with h | h
  · refine (bCheck_fresh b w h.cell0 h.shape h.frozen0).mono ?_
    rintro e w' ⟨rfl, rfl⟩
    exact ⟨rfl, h.used _, (Below.refl B w).setCell (p := ⟨b, 0, none⟩) h.1 _⟩
  · refine (bCheck_used b w h.cell0).mono ?_
    rintro e w' ⟨rfl, rfl⟩
    exact ⟨rfl, h, Below.refl B _⟩
set_option maxHeartbeats 2000000 in
set_option maxRecDepth 100000 in
theorem bWrite (B b : Nat) (bs : List Value) (s : ByteArray) (w : World) (h : Lib.IsBuilder 100 5 B b bs w) (hlen : bs.length + s.size ≤ 140737488355328) (hBw : B ≤ w.heap.size) :
    Calls Tryz.prog 69 #[.pointer (some ⟨b, 0, none⟩), .string s] w fun e w' => e = .returned (.tuple #[.int .i64 s.size, .nilIface]) ∧ (Lib.BuilderAt 100 5 B b (.pointer (some ⟨b, 0, none⟩)) (bs ++ Lib.strCells s) w' ∧ Below B w w') := by
  obtain ⟨i0, hi, hz0, hz1, hz2⟩ := info_parts bByte
  have HC := bCheck B b bs w h
  go_enter Tryz.func69, Tryz.ntmps69
  go_wp2_with (go_at_call 97; refine HC.mono ?_)
  rintro e w1 ⟨rfl, h1, hb1⟩
  obtain ⟨hB, v, hbk, hown, hne⟩ := h1
  have c0 : w1.cell? ⟨b, 0, none⟩ = some (.pointer (some ⟨b, 0, none⟩)) := by rw [Lib.cell_of_heap hbk]; rfl
  have c1 : w1.cell? ⟨b, 1, none⟩ = some v := by rw [Lib.cell_of_heap hbk]; rfl
  go_wp2_with (at_builtin; refine Lib.wpList_append_own_string _ rfl _ _ 50 9 rfl B 5 i0 Tryz.underlying50 Tryz.underlying9 hi hz0 hz1 hz2 _ _ _ rfl hown s rfl ?c3 ?c4 ?c5 ?_)
  case c3 => unfold maxLen; omega
  case c4 => omega
  case c5 => have := hb1.size; omega
  intro v' w2 hown' hgrow _
  have hlt : b < w1.heap.size := by
    rcases Nat.lt_or_ge b w1.heap.size with h' | h'
    · exact h'
    · simp [Array.getElem?_eq_none h'] at hbk
  have hb2 : w2.heap[b]? = some (.cells #[.pointer (some ⟨b, 0, none⟩), v] 100 (0, 0)) := by
    rw [hgrow.block b hlt (fun e => hne e.symm)]
    exact hbk
  have d0 : w2.cell? ⟨b, 0, none⟩ = some (.pointer (some ⟨b, 0, none⟩)) := by rw [Lib.cell_of_heap hb2]; rfl
  have d1 : w2.cell? ⟨b, 1, none⟩ = some v := by rw [Lib.cell_of_heap hb2]; rfl
  have f1 : w2.frozen? ⟨b, 1, none⟩ = false := Lib.frozen_of_heap hb2 1
  obtain ⟨ao, n', cap, rfl⟩ : ∃ ao n' cap, v' = .slice ao n' cap := by
    rcases hown'.2 with ⟨hv, _⟩ | ⟨g, cap, cur, hv, _⟩
    · exact ⟨_, _, _, hv⟩
    · exact ⟨_, _, _, hv⟩
  go_wp2
  go_ret2
  refine ⟨rfl, ?_, ?_⟩
  · exact Lib.BuilderAt.put (T := 100) (e := 5) hB hb2 (bs' := bs ++ Lib.strCells s) (by simpa [Lib.strCells_length] using hown') (by decide)
  · exact (hb1.grown hgrow (by have := hb1.size; omega) (fun k hk => (hown.lt k hk).1)).setCell (p := ⟨b, 1, none⟩) hB _
end Go.Proofs.YtaiiojbakmminaaGreatDoor
