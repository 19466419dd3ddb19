/- Maps from numbers to numbers, or to yes and no, whose keys are among some numbers. -/
import Derived.Test.YtahpkahbifnndaaCmq
import Derived.Maps.Ext
import Derived.Maps.Range
namespace Go.Proofs.Ytahpkahbifnndaa
open Go Go.RowKit Go.Maps
/-- All keys are among X. -/
def Keys (D : DataW Unit) (X : List Int) : Prop := ∀ es, D = .map es → ∀ p ∈ es, ∃ x ∈ X, p.1 = Lit.int .i64 x
theorem keys_len : ∀ (es : List (Lit × DataW Unit)) (X : List Int), es.Pairwise (fun p q => p.1 ≠ q.1) → (∀ p ∈ es, ∃ x ∈ X, p.1 = Lit.int .i64 x) → es.length ≤ X.length
  | [], _, _, _ => Nat.zero_le _
  | p :: r, X, hp, hk => by
    obtain ⟨h1, h2⟩ := List.pairwise_cons.1 hp
    obtain ⟨x, hx, he⟩ := hk p (List.mem_cons_self ..)
    have := keys_len r (X.erase x) h2 (fun q hq => by
      obtain ⟨y, hy, hqe⟩ := hk q (List.mem_cons_of_mem _ hq)
      refine ⟨y, ?_, hqe⟩
      refine (List.mem_erase_of_ne fun e => ?_).2 hy
      subst e
      exact h1 q hq (he.trans hqe.symm))
    rw [List.length_erase_of_mem hx] at this
    have h0 : 0 < X.length := List.length_pos_of_mem hx
    rw [List.length_cons]
    omega
theorem Keys.empty (X : List Int) : Keys (.map []) X := fun es e p hp => by
  cases e
  cases hp
theorem Keys.put {D : DataW Unit} {X : List Int} (h : Keys D X) (hm : IsMap D) {k : Int} (hk : k ∈ X) (d : DataW Unit) : Keys (D.put (.int .i64 k) d) X := fun es e p hp => by
  obtain ⟨es0, rfl⟩ := hm
  rw [DataW.put_eq] at e
  cases e
  unfold ChangeMaps.putKey at hp
  rcases ChangeMaps.mem_insert_iff.1 hp with h1 | h1
  · exact ⟨k, hk, by rw [h1]⟩
  · exact h es0 rfl p (List.mem_filter.1 h1).1
theorem Keys.del {D : DataW Unit} {X : List Int} (h : Keys D X) (hm : IsMap D) (k : Int) : Keys (D.del (.int .i64 k)) X := fun es e p hp => by
  obtain ⟨es0, rfl⟩ := hm
  rw [DataW.del_eq] at e
  cases e
  exact h es0 rfl p (List.mem_filter.1 hp).1
/-- Block b is a map of numbers among X that says f of each. -/
def MA (w : World) (et : TypeId) (z : DataW Unit) (b : Nat) (X : List Int) (f : Int → DataW Unit) : Prop :=
  ∃ (n : Nat) (D : DataW Unit), w.ownsMap Try.prog 3 (plainElem Try.prog et) b n D ∧ IsMap D ∧ (∀ x : Int, D.atKey (.int .i64 x) z = f x) ∧ Keys D X
section
variable {w : World} {et : TypeId} {z : DataW Unit} {b : Nat} {X : List Int} {f : Int → DataW Unit}
theorem MA.lt (h : MA w et z b X f) : b < w.heap.size := by
  obtain ⟨n, D, h1, _⟩ := h
  exact World.ownsMap.lt h1
theorem MA.block {w' : World} (h : MA w et z b X f) (hb : w'.heap[b]? = w.heap[b]?) : MA w' et z b X f := by
  obtain ⟨n, D, ⟨es, clock, h1, hr⟩, h2⟩ := h
  exact ⟨n, D, ⟨es, clock, hb.trans h1, hr⟩, h2⟩
/-- It is no bigger than what it may be of. -/
theorem MA.tight (h : MA w et z b X f) : ∃ D : DataW Unit, w.ownsMap Try.prog 3 (plainElem Try.prog et) b X.length D ∧ IsMap D ∧ (∀ x : Int, D.atKey (.int .i64 x) z = f x) ∧ Keys D X := by
  obtain ⟨n, D, h1, h2, h3, h4⟩ := h
  refine ⟨D, ?_, h2, h3, h4⟩
  obtain ⟨es0, e0, e1, _⟩ := h1.entries KI
  have hl := keys_len es0 X e1 (h4 es0 e0)
  obtain ⟨es, clock, k1, k2, k3, k4⟩ := h1
  refine ⟨es, clock, k1, k2, ?_, k4⟩
  rw [e0] at k4
  cases k4
  have : ((es.toList.map (WideElems.rg (H := Unit) Try.prog 3 (plainElem Try.prog et))).foldr DataW.insert []).length = es.size := by
    simp [length_sorted]
  omega
theorem MA.put {t : TypeId} (h : MA w et z b X f) (ht : Try.prog.underlying t = some (.map 3 et)) (hX : X.length < maxLen) {k : Int} (hk : (Lit.int .i64 k).wf = true) (hkX : k ∈ X) {v : Value} {d : DataW Unit} (hv : plainElem Try.prog et v = some (d, [])) :
    ∃ w', (Instr.mapUpdate t (.map (some b)) (.int .i64 k) v).run Try.prog w = .ok () w' ∧ MA w' et z b X (fun j => if j = k then d else f j) ∧ w.grownBy w' (some b) := by
  obtain ⟨D, h1, h2, h3, h4⟩ := h.tight
  obtain ⟨w', hr, ho, hg⟩ := h1.update KI ht hX (keyOf_int_mk Try.underlying3 hk) hv
  refine ⟨w', hr, ⟨_, _, ho, h2.put _ _, fun j => ?_, h4.put h2 hkX _⟩, hg⟩
  dsimp only
  by_cases hj : j = k
  · subst hj
    rw [if_pos rfl]
    exact atKey_put_same h2 (by trivial) _ _
  · rw [if_neg hj, ← h3 j]
    exact atKey_put_other (fun e => hj (by simpa using e)) _ _
theorem MA.drop {t : TypeId} (h : MA w et z b X f) (ht : Try.prog.underlying t = some (.map 3 et)) {k : Int} (hk : (Lit.int .i64 k).wf = true) (ty : TypeId) :
    ∃ w', (Builtin.delete_ #[t, 3] ty #[.map (some b), .int .i64 k]).run Try.prog w = .ok (.tuple #[]) w' ∧ MA w' et z b X (fun j => if j = k then z else f j) ∧ w.grownBy w' (some b) := by
  obtain ⟨n, D, h1, h2, h3, h4⟩ := h
  obtain ⟨w', hr, ho, hg⟩ := h1.drop KI ht (keyOf_int_mk Try.underlying3 hk) ty
  refine ⟨w', hr, ⟨_, _, ho, h2.del _, fun j => ?_, h4.del h2 _⟩, hg.grown⟩
  dsimp only
  by_cases hj : j = k
  · subst hj
    rw [if_pos rfl]
    exact atKey_del_same _
  · rw [if_neg hj, ← h3 j]
    exact atKey_del_other (fun e => hj (by simpa using e)) _
theorem MA.clear {t : TypeId} (h : MA w et z b X f) (ht : Try.prog.underlying t = some (.map 3 et)) (Y : List Int) (ty : TypeId) :
    ∃ w', (Builtin.clear_ #[t] ty #[.map (some b)]).run Try.prog w = .ok (.tuple #[]) w' ∧ MA w' et z b Y (fun _ => z) ∧ w.grownBy w' (some b) := by
  obtain ⟨n, D, ⟨es, clock, k1, k2, k3, k4⟩, h2, h3, h4⟩ := h
  have hs := MapKept.heap_set (o' := Obj.map #[] clock) k1
  refine ⟨{ w with heap := w.heap.setIfInBounds b (.map #[] clock) }, ?_, ⟨0, .map [], ⟨#[], clock, hs.1, ⟨by simp, MapKept.stamped_empty _, by simp⟩, Nat.le_refl _, rfl⟩, isMap_empty, fun _ => rfl, Keys.empty Y⟩, ⟨rfl, rfl, rfl, by simp, fun i hi hne => hs.2 i (fun e => hne (by rw [e]))⟩⟩
  simp [Builtin.clear_, run_underlying ht, MapKept.run_getObj_map k1, MapKept.run_setObj_map _ k1, Result.andThen]
end
section
variable {ops : Array Oper} {rest : List Oper} {op : Oper} {a : Act} {w : World} {Q : Exit → Act → World → Prop} {et : TypeId} {z : DataW Unit} {b : Nat} {X : List Int} {f : Int → DataW Unit}
theorem wpList_putM (hgd : op.guard = none) (t : TypeId) (x y u : Operand) (hop : op.op = Op.mapUpdate t x y u) (h : MA w et z b X f) (ht : Try.prog.underlying t = some (.map 3 et)) (hX : X.length < maxLen) (hx : a.eval x = .map (some b)) {k : Int} (hy : a.eval y = .int .i64 k) (hk : (Lit.int .i64 k).wf = true) (hkX : k ∈ X) {v : Value} (hu : a.eval u = v) {d : DataW Unit} (hv : plainElem Try.prog et v = some (d, []))
    (hK : ∀ w', MA w' et z b X (fun j => if j = k then d else f j) → w.grownBy w' (some b) → wpList Try.prog ops Q rest (a.put op.dst undef) w') : wpList Try.prog ops Q (op :: rest) a w := by
  obtain ⟨w', hr, hm, hg⟩ := h.put ht hX hk hkX hv
  refine wpList_plain hgd fun K' hK' => ?_
  unfold Oper.wp
  simp [execOp, hop, hx, hy, hu, hr, Result.andThen]
  exact hK' _ _ (hK w' hm hg)
theorem wpList_dropM (hgd : op.guard = none) (t : TypeId) (x y : Operand) (hop : op.op = Op.call { callee := Callee.builtin Builtin.delete, args := #[x, y], argTypes := #[t, 3] }) (h : MA w et z b X f) (ht : Try.prog.underlying t = some (.map 3 et)) (hx : a.eval x = .map (some b)) {k : Int} (hy : a.eval y = .int .i64 k) (hk : (Lit.int .i64 k).wf = true)
    (hK : ∀ w', MA w' et z b X (fun j => if j = k then z else f j) → w.grownBy w' (some b) → wpList Try.prog ops Q rest (a.put op.dst (.tuple #[])) w') : wpList Try.prog ops Q (op :: rest) a w := by
  obtain ⟨w', hr, hm, hg⟩ := h.drop ht hk op.type
  refine wpList_plain hgd fun K' hK' => ?_
  unfold Oper.wp
  simp [execOp, hop, resolve, invoke, builtin, hx, hy, hr, Result.andThen]
  exact hK' _ _ (hK w' hm hg)
theorem wpList_clearM (hgd : op.guard = none) (t : TypeId) (x : Operand) (hop : op.op = Op.call { callee := Callee.builtin Builtin.clear, args := #[x], argTypes := #[t] }) (h : MA w et z b X f) (ht : Try.prog.underlying t = some (.map 3 et)) (hx : a.eval x = .map (some b)) (Y : List Int)
    (hK : ∀ w', MA w' et z b Y (fun _ => z) → w.grownBy w' (some b) → wpList Try.prog ops Q rest (a.put op.dst (.tuple #[])) w') : wpList Try.prog ops Q (op :: rest) a w := by
  obtain ⟨w', hr, hm, hg⟩ := h.clear ht Y op.type
  refine wpList_plain hgd fun K' hK' => ?_
  unfold Oper.wp
  simp [execOp, hop, resolve, invoke, builtin, hx, hr, Result.andThen]
  exact hK' _ _ (hK w' hm hg)
end
/-- A map from numbers to numbers; one from numbers to yes and no. -/
abbrev MI (w : World) (b : Nat) (X : List Int) (f : Int → Int) : Prop := MA w 3 (.lit (.int .i64 0)) b X fun x => .lit (.int .i64 (f x))
abbrev MB (w : World) (b : Nat) (X : List Int) (f : Int → Bool) : Prop := MA w 4 (.lit (.bool false)) b X fun x => .lit (.bool (f x))
theorem zeroIn (w : World) : (zeroValue 3).run Try.prog w = .ok (.int .i64 0) w := by kernel_rfl
set_option maxRecDepth 100000 in
theorem MI.get {w : World} {b : Nat} {X : List Int} {f : Int → Int} (h : MI w b X f) (k : Int) (hk : (Lit.int .i64 k).wf = true) : (Instr.lookup 48 (.map (some b)) (.int .i64 k) false).run Try.prog w = .ok (.int .i64 (f k)) w := by
  obtain ⟨n, D, h1, h2, h3, _⟩ := h
  obtain ⟨v, ps, hrun, hv⟩ := h1.lookup KI Try.underlying48 (zeroIn w) (plainElem_int Try.underlying3 (by decide)) (keyOf_int_mk Try.underlying3 hk)
  rw [h3 k] at hv
  obtain ⟨c, hc, he, _⟩ := plainElem_int_inv Try.underlying3 hv
  rw [hrun, hc]
  simp at he
  rw [he.1]
theorem MI.upd {w : World} {b : Nat} {X : List Int} {f : Int → Int} {k v : Int} (h : MA w 3 (.lit (.int .i64 0)) b X (fun j => if j = k then .lit (.int .i64 v) else .lit (.int .i64 (f j)))) : MI w b X (fun j => if j = k then v else f j) := by
  unfold MI
  have e : (fun j => if j = k then (DataW.lit (.int .i64 v) : DataW Unit) else .lit (.int .i64 (f j))) = fun j => .lit (.int .i64 (if j = k then v else f j)) := funext fun j => by split <;> rfl
  rw [← e]
  exact h
theorem MB.upd {w : World} {b : Nat} {X : List Int} {f : Int → Bool} {k : Int} {v : Bool} (h : MA w 4 (.lit (.bool false)) b X (fun j => if j = k then .lit (.bool v) else .lit (.bool (f j)))) : MB w b X (fun j => if j = k then v else f j) := by
  unfold MB
  have e : (fun j => if j = k then (DataW.lit (.bool v) : DataW Unit) else .lit (.bool (f j))) = fun j => .lit (.bool (if j = k then v else f j)) := funext fun j => by split <;> rfl
  rw [← e]
  exact h
end Go.Proofs.Ytahpkahbifnndaa
