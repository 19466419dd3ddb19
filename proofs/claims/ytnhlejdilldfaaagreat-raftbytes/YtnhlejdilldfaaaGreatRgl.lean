/- Maps from numbers to numbers, or to yes and no, whose keys are among some numbers. A slice of things of so many cells each that grows, or nil: what it holds, and appending to it; all but its own block is as it was. -/
import Derived.Test.YtnhlejdilldfaaaGreatCmq
import Derived.Maps.Ext
import Derived.Maps.Range
import Derived.Test.YtnhlejdilldfaaaGreatVsi
namespace Go.Proofs.YtnhlejdilldfaaaGreat
open Go Go.RowKit Go.Maps
/-- All keys are among X. -/
def Keys (D : DataW Unit) (X : List Int) : Prop := ∀ es, D = .map es → ∀ p ∈ es, ∃ x ∈ X, p.1 = Lit.int .i64 x
theorem keys_len : ∀ (es : List (Lit × DataW Unit)) (X : List Int), es.Pairwise (fun p q => p.1 ≠ q.1) → (∀ p ∈ es, ∃ x ∈ X, p.1 = Lit.int .i64 x) → es.length ≤ X.length
  | [], _, _, _ => Nat.zero_le _
  | p :: r, X, hp, hk => by
    obtain ⟨h1, h2⟩ := List.pairwise_cons.1 hp
    obtain ⟨x, hx, he⟩ := hk p (List.mem_cons_self ..)
    have := keys_len r (X.erase x) h2 (fun q hq => by
      obtain ⟨y, hy, hqe⟩ := hk q (List.mem_cons_of_mem _ hq)
      refine ⟨y, ?_, hqe⟩
      refine (List.mem_erase_of_ne fun e => ?_).2 hy
      subst e
      exact h1 q hq (he.trans hqe.symm))
    rw [List.length_erase_of_mem hx] at this
    have h0 : 0 < X.length := List.length_pos_of_mem hx
    rw [List.length_cons]
    omega
theorem Keys.empty (X : List Int) : Keys (.map []) X := fun es e p hp => by
  cases e
  cases hp
theorem Keys.put {D : DataW Unit} {X : List Int} (h : Keys D X) (hm : IsMap D) {k : Int} (hk : k ∈ X) (d : DataW Unit) : Keys (D.put (.int .i64 k) d) X := fun es e p hp => by
  obtain ⟨es0, rfl⟩ := hm
  rw [DataW.put_eq] at e
  cases e
  unfold ChangeMaps.putKey at hp
  rcases ChangeMaps.mem_insert_iff.1 hp with h1 | h1
  · exact ⟨k, hk, by rw [h1]⟩
  · exact h es0 rfl p (List.mem_filter.1 h1).1
theorem Keys.del {D : DataW Unit} {X : List Int} (h : Keys D X) (hm : IsMap D) (k : Int) : Keys (D.del (.int .i64 k)) X := fun es e p hp => by
  obtain ⟨es0, rfl⟩ := hm
  rw [DataW.del_eq] at e
  cases e
  exact h es0 rfl p (List.mem_filter.1 hp).1
/-- Block b is a map of numbers among X that says f of each. -/
def MA (w : World) (et : TypeId) (z : DataW Unit) (b : Nat) (X : List Int) (f : Int → DataW Unit) : Prop :=
  ∃ (n : Nat) (D : DataW Unit), w.ownsMap Tryz.prog 3 (plainElem Tryz.prog et) b n D ∧ IsMap D ∧ (∀ x : Int, D.atKey (.int .i64 x) z = f x) ∧ Keys D X
section
variable {w : World} {et : TypeId} {z : DataW Unit} {b : Nat} {X : List Int} {f : Int → DataW Unit}
theorem MA.lt (h : MA w et z b X f) : b < w.heap.size := by
  obtain ⟨n, D, h1, _⟩ := h
  exact World.ownsMap.lt h1
theorem MA.block {w' : World} (h : MA w et z b X f) (hb : w'.heap[b]? = w.heap[b]?) : MA w' et z b X f := by
  obtain ⟨n, D, ⟨es, clock, h1, hr⟩, h2⟩ := h
  exact ⟨n, D, ⟨es, clock, hb.trans h1, hr⟩, h2⟩
/-- It is no bigger than what it may be of. -/
theorem MA.tight (h : MA w et z b X f) : ∃ D : DataW Unit, w.ownsMap Tryz.prog 3 (plainElem Tryz.prog et) b X.length D ∧ IsMap D ∧ (∀ x : Int, D.atKey (.int .i64 x) z = f x) ∧ Keys D X := by
  obtain ⟨n, D, h1, h2, h3, h4⟩ := h
  refine ⟨D, ?_, h2, h3, h4⟩
  obtain ⟨es0, e0, e1, _⟩ := h1.entries KI
  have hl := keys_len es0 X e1 (h4 es0 e0)
  obtain ⟨es, clock, k1, k2, k3, k4⟩ := h1
  refine ⟨es, clock, k1, k2, ?_, k4⟩
  rw [e0] at k4
  cases k4
  have : ((es.toList.map (WideElems.rg (H := Unit) Tryz.prog 3 (plainElem Tryz.prog et))).foldr DataW.insert []).length = es.size := by
    simp [length_sorted]
  omega
theorem MA.put {t : TypeId} (h : MA w et z b X f) (ht : Tryz.prog.underlying t = some (.map 3 et)) (hX : X.length < maxLen) {k : Int} (hk : (Lit.int .i64 k).wf = true) (hkX : k ∈ X) {v : Value} {d : DataW Unit} (hv : plainElem Tryz.prog et v = some (d, [])) :
    ∃ w', (Instr.mapUpdate t (.map (some b)) (.int .i64 k) v).run Tryz.prog w = .ok () w' ∧ MA w' et z b X (fun j => if j = k then d else f j) ∧ w.grownBy w' (some b) := by
  obtain ⟨D, h1, h2, h3, h4⟩ := h.tight
  obtain ⟨w', hr, ho, hg⟩ := h1.update KI ht hX (keyOf_int_mk Tryz.underlying3 hk) hv
  refine ⟨w', hr, ⟨_, _, ho, h2.put _ _, fun j => ?_, h4.put h2 hkX _⟩, hg⟩
  dsimp only
  by_cases hj : j = k
  · subst hj
    rw [if_pos rfl]
    exact atKey_put_same h2 (by trivial) _ _
  · rw [if_neg hj, ← h3 j]
    exact atKey_put_other (fun e => hj (by simpa using e)) _ _
theorem MA.drop {t : TypeId} (h : MA w et z b X f) (ht : Tryz.prog.underlying t = some (.map 3 et)) {k : Int} (hk : (Lit.int .i64 k).wf = true) (ty : TypeId) :
    ∃ w', (Builtin.delete_ #[t, 3] ty #[.map (some b), .int .i64 k]).run Tryz.prog w = .ok (.tuple #[]) w' ∧ MA w' et z b X (fun j => if j = k then z else f j) ∧ w.grownBy w' (some b) := by
  obtain ⟨n, D, h1, h2, h3, h4⟩ := h
  obtain ⟨w', hr, ho, hg⟩ := h1.drop KI ht (keyOf_int_mk Tryz.underlying3 hk) ty
  refine ⟨w', hr, ⟨_, _, ho, h2.del _, fun j => ?_, h4.del h2 _⟩, hg.grown⟩
  dsimp only
  by_cases hj : j = k
  · subst hj
    rw [if_pos rfl]
    exact atKey_del_same _
  · rw [if_neg hj, ← h3 j]
    exact atKey_del_other (fun e => hj (by simpa using e)) _
theorem MA.clear {t : TypeId} (h : MA w et z b X f) (ht : Tryz.prog.underlying t = some (.map 3 et)) (Y : List Int) (ty : TypeId) :
    ∃ w', (Builtin.clear_ #[t] ty #[.map (some b)]).run Tryz.prog w = .ok (.tuple #[]) w' ∧ MA w' et z b Y (fun _ => z) ∧ w.grownBy w' (some b) := by
  obtain ⟨n, D, ⟨es, clock, k1, k2, k3, k4⟩, h2, h3, h4⟩ := h
  have hs := MapKept.heap_set (o' := Obj.map #[] clock) k1
  refine ⟨{ w with heap := w.heap.setIfInBounds b (.map #[] clock) }, ?_, ⟨0, .map [], ⟨#[], clock, hs.1, ⟨by simp, MapKept.stamped_empty _, by simp⟩, Nat.le_refl _, rfl⟩, isMap_empty, fun _ => rfl, Keys.empty Y⟩, ⟨rfl, rfl, rfl, by simp, fun i hi hne => hs.2 i (fun e => hne (by rw [e]))⟩⟩
  simp [Builtin.clear_, run_underlying ht, MapKept.run_getObj_map k1, MapKept.run_setObj_map _ k1, Result.andThen]
end
section
variable {ops : Array Oper} {rest : List Oper} {op : Oper} {a : Act} {w : World} {Q : Exit → Act → World → Prop} {et : TypeId} {z : DataW Unit} {b : Nat} {X : List Int} {f : Int → DataW Unit}
theorem wpList_putM (hgd : op.guard = none) (t : TypeId) (x y u : Operand) (hop : op.op = Op.mapUpdate t x y u) (h : MA w et z b X f) (ht : Tryz.prog.underlying t = some (.map 3 et)) (hX : X.length < maxLen) (hx : a.eval x = .map (some b)) {k : Int} (hy : a.eval y = .int .i64 k) (hk : (Lit.int .i64 k).wf = true) (hkX : k ∈ X) {v : Value} (hu : a.eval u = v) {d : DataW Unit} (hv : plainElem Tryz.prog et v = some (d, []))
    (hK : ∀ w', MA w' et z b X (fun j => if j = k then d else f j) → w.grownBy w' (some b) → wpList Tryz.prog ops Q rest (a.put op.dst undef) w') : wpList Tryz.prog ops Q (op :: rest) a w := by
  obtain ⟨w', hr, hm, hg⟩ := h.put ht hX hk hkX hv
  refine wpList_plain hgd fun K' hK' => ?_
  unfold Oper.wp
  simp [execOp, hop, hx, hy, hu, hr, Result.andThen]
  exact hK' _ _ (hK w' hm hg)
theorem wpList_dropM (hgd : op.guard = none) (t : TypeId) (x y : Operand) (hop : op.op = Op.call { callee := Callee.builtin Builtin.delete, args := #[x, y], argTypes := #[t, 3] }) (h : MA w et z b X f) (ht : Tryz.prog.underlying t = some (.map 3 et)) (hx : a.eval x = .map (some b)) {k : Int} (hy : a.eval y = .int .i64 k) (hk : (Lit.int .i64 k).wf = true)
    (hK : ∀ w', MA w' et z b X (fun j => if j = k then z else f j) → w.grownBy w' (some b) → wpList Tryz.prog ops Q rest (a.put op.dst (.tuple #[])) w') : wpList Tryz.prog ops Q (op :: rest) a w := by
  obtain ⟨w', hr, hm, hg⟩ := h.drop ht hk op.type
  refine wpList_plain hgd fun K' hK' => ?_
  unfold Oper.wp
  simp [execOp, hop, resolve, invoke, builtin, hx, hy, hr, Result.andThen]
  exact hK' _ _ (hK w' hm hg)
theorem wpList_clearM (hgd : op.guard = none) (t : TypeId) (x : Operand) (hop : op.op = Op.call { callee := Callee.builtin Builtin.clear, args := #[x], argTypes := #[t] }) (h : MA w et z b X f) (ht : Tryz.prog.underlying t = some (.map 3 et)) (hx : a.eval x = .map (some b)) (Y : List Int)
    (hK : ∀ w', MA w' et z b Y (fun _ => z) → w.grownBy w' (some b) → wpList Tryz.prog ops Q rest (a.put op.dst (.tuple #[])) w') : wpList Tryz.prog ops Q (op :: rest) a w := by
  obtain ⟨w', hr, hm, hg⟩ := h.clear ht Y op.type
  refine wpList_plain hgd fun K' hK' => ?_
  unfold Oper.wp
  simp [execOp, hop, resolve, invoke, builtin, hx, hr, Result.andThen]
  exact hK' _ _ (hK w' hm hg)
end
/-- A map from numbers to numbers; one from numbers to yes and no. -/
abbrev MI (w : World) (b : Nat) (X : List Int) (f : Int → Int) : Prop := MA w 3 (.lit (.int .i64 0)) b X fun x => .lit (.int .i64 (f x))
abbrev MB (w : World) (b : Nat) (X : List Int) (f : Int → Bool) : Prop := MA w 4 (.lit (.bool false)) b X fun x => .lit (.bool (f x))
theorem zeroIn (w : World) : (zeroValue 3).run Tryz.prog w = .ok (.int .i64 0) w := by kernel_rfl
set_option maxRecDepth 100000 in
theorem MI.get {w : World} {b : Nat} {X : List Int} {f : Int → Int} (h : MI w b X f) (k : Int) (hk : (Lit.int .i64 k).wf = true) : (Instr.lookup 61 (.map (some b)) (.int .i64 k) false).run Tryz.prog w = .ok (.int .i64 (f k)) w := by
  obtain ⟨n, D, h1, h2, h3, _⟩ := h
  obtain ⟨v, ps, hrun, hv⟩ := h1.lookup KI Tryz.underlying61 (zeroIn w) (plainElem_int Tryz.underlying3 (by decide)) (keyOf_int_mk Tryz.underlying3 hk)
  rw [h3 k] at hv
  obtain ⟨c, hc, he, _⟩ := plainElem_int_inv Tryz.underlying3 hv
  rw [hrun, hc]
  simp at he
  rw [he.1]
theorem MI.upd {w : World} {b : Nat} {X : List Int} {f : Int → Int} {k v : Int} (h : MA w 3 (.lit (.int .i64 0)) b X (fun j => if j = k then .lit (.int .i64 v) else .lit (.int .i64 (f j)))) : MI w b X (fun j => if j = k then v else f j) := by
  unfold MI
  have e : (fun j => if j = k then (DataW.lit (.int .i64 v) : DataW Unit) else .lit (.int .i64 (f j))) = fun j => .lit (.int .i64 (if j = k then v else f j)) := funext fun j => by split <;> rfl
  rw [← e]
  exact h
theorem MB.upd {w : World} {b : Nat} {X : List Int} {f : Int → Bool} {k : Int} {v : Bool} (h : MA w 4 (.lit (.bool false)) b X (fun j => if j = k then .lit (.bool v) else .lit (.bool (f j)))) : MB w b X (fun j => if j = k then v else f j) := by
  unfold MB
  have e : (fun j => if j = k then (DataW.lit (.bool v) : DataW Unit) else .lit (.bool (f j))) = fun j => .lit (.bool (if j = k then v else f j)) := funext fun j => by split <;> rfl
  rw [← e]
  exact h
end Go.Proofs.YtnhlejdilldfaaaGreat
namespace Go.Proofs.YtnhlejdilldfaaaGreat
open Go Go.RowKit
theorem flat_len {k : Nat} : ∀ {l : List (List Value)}, (∀ x ∈ l, x.length = k) → l.flatten.length = l.length * k
  | [], _ => by simp
  | x :: r, h => by
    rw [List.flatten_cons, List.length_append, flat_len (fun y hy => h y (List.mem_cons_of_mem _ hy)), h x (List.mem_cons_self ..), List.length_cons, Nat.succ_mul]
    omega
theorem flat_get {k : Nat} : ∀ {l : List (List Value)} (_ : ∀ x ∈ l, x.length = k) (i : Nat) (hi : i < l.length) (j : Nat) (v : Value), (l[i])[j]? = some v → l.flatten[i * k + j]? = some v
  | x :: r, h, 0, _, j, v, hv => by
    have hj : j < x.length := (List.getElem?_eq_some_iff.1 hv).1
    rw [List.flatten_cons, Nat.zero_mul, Nat.zero_add, List.getElem?_append_left hj]
    exact hv
  | x :: r, h, i + 1, hi, j, v, hv => by
    have hx := h x (List.mem_cons_self ..)
    rw [List.flatten_cons, List.getElem?_append_right (by rw [hx, Nat.succ_mul]; omega), hx, show (i + 1) * k + j - k = i * k + j by rw [Nat.succ_mul]; omega]
    exact flat_get (fun y hy => h y (List.mem_cons_of_mem _ hy)) i (by simpa using hi) j v hv
/-- Block g holds a slice's things l, of k cells each, with room for cap. -/
structure GS (w : World) (t : TypeId) (k g cap : Nat) (l : List (List Value)) : Prop where
  out : ∃ cur : Array Value, w.heap[g]? = some (.cells cur t (0, 0)) ∧ l.length ≤ cap ∧ cap * k ≤ cur.size ∧ ∀ (j : Nat) (v : Value), l.flatten[j]? = some v → cur[j]? = some v
/-- The value sl is a slice of the things l, from block lo on, or nil where there are none. -/
def GL (w : World) (t : TypeId) (k lo : Nat) (sl : Value) (l : List (List Value)) : Prop :=
  (∀ x ∈ l, x.length = k) ∧ ((l = [] ∧ sl = .slice none 0 0) ∨ ∃ g cap, lo ≤ g ∧ sl = .slice (some ⟨g, 0, none⟩) l.length cap ∧ GS w t k g cap l)
/-- The block that a slice lies in. -/
def slBlk : Value → Option Nat
  | .slice (some a) _ _ => some a.block
  | _ => none
theorem GS.lt {w : World} {t : TypeId} {k g cap : Nat} {l : List (List Value)} (h : GS w t k g cap l) : g < w.heap.size := by
  obtain ⟨cur, h1, _⟩ := h.out
  exact (Array.getElem?_eq_some_iff.1 h1).1
theorem GS.cell {w : World} {t : TypeId} {k g cap : Nat} {l : List (List Value)} (h : GS w t k g cap l) (j : Nat) (v : Value) (hv : l.flatten[j]? = some v) : w.cell? ⟨g, j, none⟩ = some v := by
  obtain ⟨cur, h1, _, _, h4⟩ := h.out
  simp [World.cell?, h1, h4 j v hv]
theorem GS.grown {w w' : World} {t : TypeId} {k g cap : Nat} {l : List (List Value)} {row : Option Nat} (h : GS w t k g cap l) (hb : w.grownBy w' row) (hr : some g ≠ row) : GS w' t k g cap l := by
  obtain ⟨cur, h1, hr'⟩ := h.out
  exact ⟨cur, by rw [hb.block g h.lt hr]; exact h1, hr'⟩
theorem GL.nil (w : World) (t : TypeId) (k lo : Nat) : GL w t k lo (.slice none 0 0) [] := ⟨(fun _ hx => nomatch hx), .inl ⟨rfl, rfl⟩⟩
theorem GL.lt {w : World} {t : TypeId} {k lo : Nat} {sl : Value} {l : List (List Value)} (h : GL w t k lo sl l) : ∀ r, slBlk sl = some r → lo ≤ r ∧ r < w.heap.size := fun r e => by
  rcases h.2 with ⟨_, rfl⟩ | ⟨g, cap, h1, rfl, h3⟩
  · cases e
  · cases e
    exact ⟨h1, h3.lt⟩
theorem GL.grown {w w' : World} {t : TypeId} {k lo : Nat} {sl : Value} {l : List (List Value)} {row : Option Nat} (h : GL w t k lo sl l) (hb : w.grownBy w' row) (hr : ∀ r, slBlk sl = some r → some r ≠ row) : GL w' t k lo sl l := by
  refine ⟨h.1, ?_⟩
  rcases h.2 with h | ⟨g, cap, h1, rfl, h3⟩
  · exact .inl h
  · exact .inr ⟨g, cap, h1, rfl, h3.grown hb (hr g rfl)⟩
theorem GL.below {w w' : World} {t : TypeId} {k lo : Nat} {sl : Value} {l : List (List Value)} (h : GL w t k lo sl l) (hb : Below w.heap.size w w') : GL w' t k lo sl l := h.grown (row := none) (grown_of_below hb) (fun _ _ e => nomatch e)
theorem GL.drew {w : World} {t : TypeId} {k lo : Nat} {sl : Value} {l : List (List Value)} (h : GL w t k lo sl l) : GL w.drew t k lo sl l := h.below (Below.refl _ _).drew
theorem GL.cells {w : World} {t : TypeId} {k lo : Nat} {sl : Value} {l : List (List Value)} (h : GL w t k lo sl l) : sl.cells = #[sl] ∧ sl.oneCell' = true := by
  rcases h.2 with ⟨_, rfl⟩ | ⟨g, cap, _, rfl, _⟩
  · exact ⟨rfl, rfl⟩
  · exact ⟨rfl, rfl⟩
theorem GL.sl {w : World} {t : TypeId} {k lo : Nat} {sl : Value} {l : List (List Value)} (h : GL w t k lo sl l) : ∃ a cap, sl = .slice a l.length cap ∧ ∀ i (hi : i < l.length), ∃ g, a = some ⟨g, 0, none⟩ ∧ ∀ j v, (l[i])[j]? = some v → w.cell? ⟨g, i * k + j, none⟩ = some v := by
  rcases h.2 with ⟨rfl, rfl⟩ | ⟨g, cap, _, rfl, h3⟩
  · exact ⟨none, 0, rfl, fun i hi => by simp at hi⟩
  · exact ⟨_, cap, rfl, fun i hi => ⟨g, rfl, fun j v hv => h3.cell _ _ (flat_get h.1 i hi j v hv)⟩⟩
section
variable {P : Program} {ops : Array Oper} {rest : List Oper} {op : Oper} {a : Act} {w : World} {Q : Exit → Act → World → Prop} {K : Act → World → Prop} {E : Prop}
theorem run_appendGL (st ty t : TypeId) (k lo : Nat) (sl : Value) (l : List (List Value)) (hlo : lo ≤ w.heap.size) (hsl : GL w t k lo sl l) (g2 c : Nat) (o : List Value) (hok : o.length = k) (ho1 : ∀ u ∈ o, u.oneCell' = true) (t2 : TypeId) (hb2 : Blk w g2 o.toArray t2) (i : TypeInfo) (z : Value) (hz1 : z.cells.size = k)
    (hu : P.underlying st = some (.slice t)) (hi : P.info? t = some i) (hz : i.zero = some z) (hs : i.size = k) (hby : i.bytes ≤ 256) (hlen : l.length ≤ 274877906944) :
    ∃ (w1 : World) (sl1 : Value), (Builtin.append_ #[st, st] ty #[sl, .slice (some ⟨g2, 0, none⟩) 1 c]).run P w = .ok sl1 w1 ∧ w.grownBy w1 (slBlk sl) ∧ GL w1 t k lo sl1 (l ++ [o]) ∧ (∀ r, slBlk sl1 = some r → slBlk sl = some r ∨ w.heap.size ≤ r) := by
  have hsrc : Src P i.size st (.slice (some ⟨g2, 0, none⟩) 1 c) 1 o w :=
    Src.ofSlice w hu ⟨g2, 0, none⟩ 1 c _ (by rw [hs, Nat.one_mul]; exact hok) (fun j u hj => by
      rw [Addr.add_mid, Nat.zero_add, hb2.cell]
      simpa using hj)
      ho1
  have hall : ∀ x ∈ l ++ [o], x.length = k := fun x hx => by
    rcases List.mem_append.1 hx with hx | hx
    · exact hsl.1 x hx
    · rw [List.mem_singleton.1 hx]; exact hok
  have hfl := flat_len hsl.1
  have hfs : (l ++ [o]).flatten = l.flatten ++ o := by simp
  have hgrow : ∀ (base : Option Addr) (cap : Nat), cap < l.length + 1 → (Builtin.firstCells i.size l.length (.slice base l.length cap)).run P w.drew = .ok l.flatten.toArray w.drew →
      ∃ (w1 : World) (sl1 : Value), (Builtin.append_ #[st, st] ty #[.slice base l.length cap, .slice (some ⟨g2, 0, none⟩) 1 c]).run P w = .ok sl1 w1 ∧ w.grownBy w1 (slBlk (.slice base l.length cap)) ∧ GL w1 t k lo sl1 (l ++ [o]) ∧ (∀ r, slBlk sl1 = some r → slBlk (.slice base l.length cap) = some r ∨ w.heap.size ≤ r) := by
    intro base cap hcap hold
    have hr := run_append_grow_src (P := P) w st st ty t i _ hu hi hz base l.length cap _ hold _ 1 _ hsrc hcap (by omega) (growslice_fits hcap (Nat.le_trans (Nat.mul_le_mul (show l.length + 1 ≤ 274877906945 by omega) hby) (by decide)))
    have hge : l.length + 1 ≤ grownCap w (l.length + 1) cap t := grownCap_ge w _ _ _
    refine ⟨_, _, hr, grown_of_below ((Below.refl w.heap.size w).drew.alloc (Nat.le_refl _) _), ⟨hall, .inr ⟨w.heap.size, _, hlo, by rw [List.length_append]; rfl, ?_⟩⟩, fun r hr2 => .inr (Nat.le_of_eq (Option.some.inj hr2))⟩
    refine ⟨_, heap_alloc_last w.drew _, by rw [List.length_append]; exact hge, ?_, ?_⟩
    · simp only [Array.size_append, List.size_toArray, List.length_append, hfl, hok, size_zeroCells, hz1]
      have h9 : grownCap w (l.length + 1) cap t * k = l.length * k + k + (grownCap w (l.length + 1) cap t - (l.length + 1)) * k := by
        rw [Nat.sub_mul, Nat.succ_mul]
        have := Nat.mul_le_mul_right k hge
        rw [Nat.succ_mul] at this
        omega
      omega
    · intro j v hj
      rw [hfs] at hj
      have hjl := (List.getElem?_eq_some_iff.1 hj).1
      rw [Array.getElem?_append_left (by simpa using hjl)]
      simpa using hj
  rcases hsl.2 with ⟨rfl, rfl⟩ | ⟨g, cap, hg, rfl, hS⟩
  · exact hgrow none 0 (by simp) (run_firstCells_none (w := w.drew) i.size 0 0 0)
  · by_cases hroom : l.length + 1 ≤ cap
    · obtain ⟨cur, h1, h2, h4, h5⟩ := hS.out
      have hmul : l.length * k + k ≤ cur.size := by
        have := Nat.mul_le_mul_right k hroom
        rw [Nat.succ_mul] at this
        omega
      have hcell : ∀ j, j < o.length → (w.cell? ⟨g, l.length * k + j, none⟩).isSome = true := fun j hj => by
        simp only [World.cell?, h1]
        rw [Array.getElem?_eq_getElem (by omega)]; rfl
      have hfro : ∀ j, j < o.length → w.frozen? ⟨g, l.length * k + j, none⟩ = false := fun j hj => by
        simp [World.frozen?, h1]
      have hr := run_append_room_src (P := P) w st st ty t i hu hi g 0 l.length cap _ 1 _ hsrc hroom
        (fun j hj => by rw [hs, Nat.zero_add]; exact hcell j hj)
        (fun j hj => by rw [hs, Nat.zero_add]; exact hfro j hj)
      rw [hs, Nat.zero_add] at hr
      have hgr := grown_setCells g o (l.length * k) w
      refine ⟨_, _, hr, hgr, ⟨hall, .inr ⟨g, cap, hg, by rw [List.length_append]; rfl, ?_⟩⟩, fun r hr2 => .inl hr2⟩
      have hblk : Blk w g cur t := ⟨h1⟩
      refine ⟨_, (hblk.setCells o (l.length * k)).out, by rw [List.length_append]; exact hroom, by rw [spl_size]; exact h4, ?_⟩
      intro j v hj
      rw [spl_get _ _ _ _ (by rw [hok]; exact hmul), hok]
      rw [hfs] at hj
      by_cases hjl : j < l.length * k
      · rw [if_neg (by omega)]
        rw [List.getElem?_append_left (by rw [hfl]; exact hjl)] at hj
        exact h5 j v hj
      · have hj3 := (List.getElem?_eq_some_iff.1 hj).1
        rw [List.length_append, hfl, hok] at hj3
        rw [if_pos (by omega)]
        rw [List.getElem?_append_right (by rw [hfl]; omega), hfl] at hj
        exact hj
    · exact hgrow (some ⟨g, 0, none⟩) cap (by omega) (run_firstCells_some w.drew i.size l.length ⟨g, 0, none⟩ l.length cap _ (by rw [hfl, hs]) (fun j u hj => by
        rw [Addr.add_mid, Nat.zero_add]
        exact (GS.grown hS (row := none) (grown_of_below ((Below.refl w.heap.size w).drew)) (fun e => nomatch e)).cell j u hj))
theorem wpList_appendGLR (hgd : op.guard = none) (x y : Operand) (st t : TypeId) (ho : op.op = .call { callee := .builtin .append, args := #[x, y], argTypes := #[st, st] })
    (k lo : Nat) (sl : Value) (l : List (List Value)) (hlo : lo ≤ w.heap.size) (hx : a.eval x = sl) (hsl : GL w t k lo sl l) (g2 c : Nat) (hy : a.eval y = .slice (some ⟨g2, 0, none⟩) 1 c) (o : List Value) (hok : o.length = k) (ho1 : ∀ u ∈ o, u.oneCell' = true) (t2 : TypeId) (hb2 : Blk w g2 o.toArray t2) (i : TypeInfo) (z : Value) (hz1 : z.cells.size = k)
    (hu : P.underlying st = some (.slice t)) (hi : P.info? t = some i) (hz : i.zero = some z) (hs : i.size = k) (hby : i.bytes ≤ 256) (hlen : l.length ≤ 274877906944)
    (h : ∀ (w1 : World) (sl1 : Value), w.grownBy w1 (slBlk sl) → GL w1 t k lo sl1 (l ++ [o]) → (∀ r, slBlk sl1 = some r → slBlk sl = some r ∨ w.heap.size ≤ r) → wpList P ops Q rest (a.put op.dst sl1) w1) : wpList P ops Q (op :: rest) a w := by
  obtain ⟨w1, sl1, hr, hb, hl, hz2⟩ := run_appendGL (P := P) (w := w) st op.type t k lo sl l hlo hsl g2 c o hok ho1 t2 hb2 i z hz1 hu hi hz hs hby hlen
  refine wpList_run hgd _ _ ?_ (h w1 sl1 hb hl hz2)
  unfold execOp
  simp only [ho]
  simp [resolve, invoke, builtin, hx, hy, hr, Result.andThen]
end
end Go.Proofs.YtnhlejdilldfaaaGreat
