/- Copying, clearing, appending and cutting slices of things of several cells. -/
import Derived.Test.YtgkkpmliociieaaRdg
import Derived.Lib.AppendZerosOnto
import Derived.Deep.RegionLaw
namespace Go.Proofs.Ytgkkpmliociieaa
open Go Go.RowKit
section
variable {P : Program} {ops : Array Oper} {rest : List Oper} {op : Oper} {a : Act} {w : World} {Q : Exit → Act → World → Prop} {K : Act → World → Prop} {E : Prop}
theorem run_copyK (dT sT ty elem : TypeId) (b o dLen dCap : Nat) (ad : Addr) (sLen sCap k n : Nat) (cs : List Value)
    (hu : P.underlying dT = some (.slice elem)) (hs : (P.info? elem).map (·.size) = some k) (hn : n = Nat.min sLen dLen) (hc0 : cs.length = n * k)
    (hsrc : ∀ j v, cs[j]? = some v → w.cell? (ad.add j) = some v) (hth : w.there b o cs.length) (h1 : ∀ v ∈ cs, v.oneCell' = true) :
    (Builtin.copy_ #[dT, sT] ty #[.slice (some ⟨b, o, none⟩) dLen dCap, .slice (some ad) sLen sCap]).run P w = .ok (goInt n) (w.setCells b o cs) := by
  have hl := run_loadCells_list (P := P) w ad cs hsrc
  have hst := run_storeCells_cells (P := P) b o cs 0 w (by simpa using fun j hj => (hth j hj).1) (by simpa using fun j hj => (hth j hj).2) h1
  cases hq : P.info? elem with
  | none => simp [hq] at hs
  | some i =>
    have hi : i.size = k := by simpa [hq] using hs
    rw [hc0] at hl
    simp [Builtin.copy_, run_underlying hu, Builtin.lenOf, Builtin.firstCells, sizeOf, typeInfo, hq, hi, ← hn, hl, hst]
theorem wp_copy (d x : Operand) (dT sT : TypeId) (hop : op.op = Op.call { callee := Callee.builtin Builtin.copy, args := #[d, x], argTypes := #[dT, sT] })
    (v u : Value) (hd : a.eval d = v) (hx : a.eval x = u) {v' : Value} {w' : World} (hr : (Builtin.copy_ #[dT, sT] op.type #[v, u]).run P w = .ok v' w') : (execOp a.eval op).run P w = .ok (.value v') w' := by
  unfold execOp
  simp only [hop]
  simp [resolve, invoke, builtin, hd, hx, hr, Result.andThen]
theorem step_run (hgd : op.guard = none) {v' : Value} {w' : World} (hr : (execOp a.eval op).run P w = .ok (.value v') w') (hK : K (a.put op.dst v') w') :
    if Region.wanted op (yielded ops a.tmps) = true then Oper.wp P op a w K Q else E := by
  have hw : Region.wanted op (yielded ops a.tmps) = true := by simp [Region.wanted, hgd]
  rw [if_pos hw]
  unfold Oper.wp
  rw [hr]
  exact hK
theorem wp_append (s x : Operand) (t tn : TypeId) (ho : op.op = .call { callee := .builtin .append, args := #[s, x], argTypes := #[t, tn] }) (vs vx : Value) (hs : a.eval s = vs) (hx : a.eval x = vx)
    {v' : Value} {w' : World} (hr : (Builtin.append_ #[t, tn] op.type #[vs, vx]).run P w = .ok v' w') : (execOp a.eval op).run P w = .ok (.value v') w' := by
  unfold execOp
  simp only [ho]
  simp [resolve, invoke, builtin, hs, hx, hr, Result.andThen]
theorem wp_clear (s : Operand) (t : TypeId) (ho : op.op = .call { callee := .builtin .clear, args := #[s], argTypes := #[t] }) (vs : Value) (hs : a.eval s = vs)
    {v' : Value} {w' : World} (hr : (Builtin.clear_ #[t] op.type #[vs]).run P w = .ok v' w') : (execOp a.eval op).run P w = .ok (.value v') w' := by
  unfold execOp
  simp only [ho]
  simp [resolve, invoke, builtin, hs, hr, Result.andThen]
end
theorem zeroCells_rep (c : Array Value) (n : Nat) : (Builtin.zeroCells c n).toList = (List.replicate n c.toList).flatten := by
  apply List.ext_getElem?
  intro j
  have hlen : ((List.replicate n c.toList).flatten).length = n * c.size := by
    rw [flat_len (k := c.size) (fun x hx => by rw [(List.mem_replicate.1 hx).2]; simp), List.length_replicate]
  by_cases hj : j < n * c.size
  · have hs : 0 < c.size := Nat.pos_of_ne_zero (fun e => by rw [e, Nat.mul_zero] at hj; omega)
    have hd : j / c.size < n := Nat.div_lt_of_lt_mul (by rw [Nat.mul_comm]; exact hj)
    have hm : j % c.size < c.size := Nat.mod_lt _ hs
    have h1 := flat_get (k := c.size) (l := List.replicate n c.toList) (fun x hx => by rw [(List.mem_replicate.1 hx).2]; simp) (j / c.size) (by simpa using hd) (j % c.size) (c[j % c.size]) (by simp [hm])
    rw [Nat.mul_comm, Nat.div_add_mod] at h1
    rw [h1]
    simp [Builtin.zeroCells, hj, hm]
  · rw [List.getElem?_eq_none (by simp [Builtin.zeroCells]; omega), List.getElem?_eq_none (by omega)]
/-- clear of so many things. -/
theorem run_clearK {P : Program} (w : World) (t e ty : TypeId) (z : Array Value) (ht : P.underlying t = some (.slice e)) (hv : ∀ w, (zeroValue e).run P w = .ok (.agg z) w) (h1 : z.all (·.oneCell') = true) (b o n c : Nat)
    (hth : w.there b o (n * z.size)) :
    (Builtin.clear_ #[t] ty #[.slice (some ⟨b, o, none⟩) n c]).run P w = .ok (.tuple #[]) (w.setCells b o (List.replicate n z.toList).flatten) := by
  have hl : ((List.replicate n z.toList).flatten).length = n * z.size := by
    rw [flat_len (k := z.size) (fun x hx => by rw [(List.mem_replicate.1 hx).2]; simp), List.length_replicate]
  cases n with
  | zero =>
    simp [Builtin.clear_, run_underlying ht]
    rfl
  | succ n =>
    have hst := run_storeCells_cells (P := P) b o ((List.replicate (n + 1) z.toList).flatten) 0 w (by rw [hl]; simpa using fun j hj => (hth j hj).1) (by rw [hl]; simpa using fun j hj => (hth j hj).2) (fun v hv' => by
      obtain ⟨x, hx, hvx⟩ := List.mem_flatten.1 hv'
      rw [(List.mem_replicate.1 hx).2] at hvx
      exact Array.all_eq_true_iff_forall_mem.1 h1 v (by simpa using hvx))
    simp only [Nat.add_zero] at hst
    have hzc := zeroCells_rep z (n + 1)
    simp [Builtin.clear_, run_underlying ht, hv, Value.cells, hzc, hst]
end Go.Proofs.Ytgkkpmliociieaa
