/- A map from numbers to yes or no. What the landed Next does. What the landed Most does. Maps from numbers to numbers, or to yes and no, whose keys are among some numbers. -/
import Derived.Test.YtnhlejdilldfaaaGreatCix
import Derived.Deep.CutRange
import Derived.Maps.OwnOps
import Derived.Maps.Views
import Derived.Maps.Ext
import Derived.Maps.Range
namespace Go.Proofs.YtnhlejdilldfaaaGreat
open Go Go.RowKit Go.Maps
theorem KI : Keyed Tryz.prog 3 := int_keyed Tryz.underlying3
theorem zeroBo (w : World) : (zeroValue 4).run Tryz.prog w = .ok (.bool false) w := by kernel_rfl
/-- Block b is a map of at most n entries that says f of every number. -/
def OB (w : World) (b n : Nat) (f : Int → Bool) : Prop := ∃ D : DataW Unit, w.ownsMap Tryz.prog 3 (plainElem Tryz.prog 4) b n D ∧ IsMap D ∧ ∀ x : Int, D.atKey (.int .i64 x) (.lit (.bool false)) = .lit (.bool (f x))
section
variable {ops : Array Oper} {rest : List Oper} {op : Oper} {a : Act} {w : World} {Q : Exit → Act → World → Prop}
set_option maxRecDepth 100000 in
theorem run_getB {b n : Nat} {f : Int → Bool} (hown : OB w b n f) (k : Int) (hk : (Lit.int .i64 k).wf = true) : (Instr.lookup 105 (.map (some b)) (.int .i64 k) false).run Tryz.prog w = .ok (.bool (f k)) w := by
  obtain ⟨D, h1, h2, h3⟩ := hown
  obtain ⟨v, ps, hrun, hv⟩ := h1.lookup KI Tryz.underlying105 (zeroBo w) (plainElem_bool Tryz.underlying4 false) (keyOf_int_mk Tryz.underlying3 hk)
  rw [h3 k] at hv
  have : v = .bool (f k) := by
    unfold plainElem at hv
    rw [Tryz.underlying4] at hv
    cases v <;> simp at hv
    rw [hv.1]
  rw [hrun, this]
end
/-- What Most is asked to do. -/
def MostC : Prop := ∀ (l : List Int) (a : Option Addr) (cap b n : Nat) (f : Int → Bool) (w : World), IA w a l → l.length ≤ 17592186044416 → (∀ x ∈ l, (Lit.int .i64 x).wf = true) → OB w b n f → Calls Tryz.prog 118 #[.slice a l.length cap, .map (some b)] w fun e w' => e = .returned (.bool (decide (l.length < 2 * (l.filter f).length))) ∧ Below w.heap.size w w'
end Go.Proofs.YtnhlejdilldfaaaGreat
namespace Go.Proofs.YtnhlejdilldfaaaGreat
open Go Go.RowKit
theorem take_getD {l : List Int} {i : Nat} (h : i < l.length) : l.take (i + 1) = l.take i ++ [l.getD i 0] := by
  rw [List.take_add_one, List.getElem?_eq_getElem h, List.getD_eq_getElem?_getD, List.getElem?_eq_getElem h]
  rfl
end Go.Proofs.YtnhlejdilldfaaaGreat
namespace Go.Proofs.YtnhlejdilldfaaaGreat
open Go Go.RowKit Go.Maps
/-- How many of the first i numbers the map says yes of. -/
def yesN (l : List Int) (f : Int → Bool) (i : Nat) : Nat := ((l.take i).filter f).length
theorem yesN_step {l : List Int} {f : Int → Bool} {i : Nat} (h : i < l.length) (q : Bool) (hq : f (l.getD i 0) = q) : yesN l f (i + 1) = yesN l f i + q.toNat := by
  unfold yesN
  rw [take_getD h]
  generalize l.getD i 0 = x at *
  rw [List.filter_append]
  cases q <;> simp [hq]
theorem yesN_le (l : List Int) (f : Int → Bool) (i : Nat) : yesN l f i ≤ l.length := by
  unfold yesN
  refine Nat.le_trans (List.length_filter_le ..) ?_
  rw [List.length_take]
  omega
set_option maxRecDepth 100000 in
theorem hmost_any (n : Nat) (hn : n ≤ 17592186044416) (w : World) : Calls Tryz.prog 124 #[.int .i64 (n : Nat)] w fun e w' => e = .returned (.int .i64 ((n / 2 + 1 : Nat) : Int)) ∧ w' = w := by
  have hw1 : IntKind.i64.wrap ((n : Int).tdiv 2 + 1) = ((n / 2 + 1 : Nat) : Int) := by
    rw [IntKind.wrap_i64, Int.tdiv_eq_ediv_of_nonneg (Int.natCast_nonneg n)]; omega
  have hw2 : IntKind.i64.wrap ((n : Int) / 2 + 1) = ((n / 2 + 1 : Nat) : Int) := by
    rw [IntKind.wrap_i64]; omega
  go_enter Tryz.func124, Tryz.ntmps124
  go_wp2_with fail
  go_ret
  exact ⟨by go_num, rfl⟩
set_option maxRecDepth 100000 in
set_option maxHeartbeats 800000 in
theorem most_any : MostC := fun l a cap b n f w hA hl hx hO => by
  have HM := fun w => hmost_any l.length (by omega) w
  obtain ⟨R, hR0⟩ : ∃ R, decide (l.length < 2 * (l.filter f).length) = R := ⟨_, rfl⟩
  rw [hR0]
  have hR : Hid (decide (l.length < 2 * (l.filter f).length) = R) := hR0
  clear hR0
  go_enter Tryz.func118, Tryz.ntmps118
  go_wp2_with fail
  go_loopw [5, 10] (fun v5 v10 wl => ∃ i : Nat, i ≤ l.length ∧ v10 = .int .i64 i ∧ v5 = .int .i64 (yesN l f i : Nat) ∧ wl = w) (fun _ v10 _ => l.length - (intOf v10).toNat)
  case atStart => exact ⟨0, by omega, rfl, rfl, rfl⟩
  case round =>
    obtain ⟨i, hil, rfl, rfl, hw⟩ := hrel
    have hw2 := hw.symm
    subst hw2
    clear hw
    by_cases hlt : i < l.length
    · obtain ⟨g, o, rfl⟩ := hA.ex (by omega)
      have c0 := hA.cell hlt
      have hw1 : IntKind.i64.wrap ((i : Int) + 1) = ((i + 1 : Nat) : Int) := by rw [IntKind.wrap_i64]; omega
      have hz1 : (0 : Int) ≤ (i : Int) := by omega
      have hz2 : (i : Int) < (l.length : Int) := by omega
      have hd : decide ((i : Int) < (l.length : Int)) = true := decide_eq_true hz2
      have hle := yesN_le l f i
      have hw2 : IntKind.i64.wrap ((yesN l f i : Int) + 1) = ((yesN l f i + 1 : Nat) : Int) := by rw [IntKind.wrap_i64]; omega
      have hxi := hx (l.getD i 0) (by rw [List.getD_eq_getElem?_getD, List.getElem?_eq_getElem hlt]; exact List.getElem_mem hlt)
      have hg := run_getB hO (l.getD i 0) hxi
      cases hq : f (l.getD i 0) with
      | true =>
        have hs := yesN_step hlt true hq
        rw [hq] at hg
        clear hq hx hxi
        generalize l.getD i 0 = x at *
        go_wp2_with fail
        go_roundw
        case rel => exact ⟨i + 1, by omega, by go_num, by rw [hs]; go_num, by trivial⟩
        case measure => simp [intOf]; omega
      | false =>
        have hs := yesN_step hlt false hq
        rw [hq] at hg
        clear hq hx hxi
        generalize l.getD i 0 = x at *
        go_wp2_with fail
        go_roundw
        case rel => exact ⟨i + 1, by omega, by go_num, by rw [hs]; rfl, by trivial⟩
        case measure => simp [intOf]; omega
    · have hd : decide ((i : Int) < (l.length : Int)) = false := decide_eq_false (by omega)
      have hz2 : ¬ (i : Int) < (l.length : Int) := by omega
      obtain rfl : i = l.length := by omega
      have he : yesN l f l.length = (l.filter f).length := by unfold yesN; rw [List.take_length]
      have hR1 := hR.out
      rw [← he] at hR1
      have hB := Below.refl w.heap.size w
      have hq : decide (((l.length / 2 + 1 : Nat) : Int) ≤ (yesN l f l.length : Int)) = R := by
        rw [← hR1]
        by_cases h : l.length < 2 * yesN l f l.length
        · rw [decide_eq_true h, decide_eq_true (by omega)]
        · rw [decide_eq_false h, decide_eq_false (by omega)]
      clear hR hR1 he
      generalize yesN l f l.length = c at *
      subst hq
      go_wp2_with (go_at_call 124; refine (HM _).mono ?_; rintro e w1 ⟨rfl, h1⟩; replace h1 := h1.symm; subst h1; clear HM)
      go_ret
      exact ⟨rfl, hB⟩
end Go.Proofs.YtnhlejdilldfaaaGreat
namespace Go.Proofs.YtnhlejdilldfaaaGreat
open Go Go.RowKit Go.Maps
/-- All keys are among X. -/
def Keys (D : DataW Unit) (X : List Int) : Prop := ∀ es, D = .map es → ∀ p ∈ es, ∃ x ∈ X, p.1 = Lit.int .i64 x
theorem keys_len : ∀ (es : List (Lit × DataW Unit)) (X : List Int), es.Pairwise (fun p q => p.1 ≠ q.1) → (∀ p ∈ es, ∃ x ∈ X, p.1 = Lit.int .i64 x) → es.length ≤ X.length
  | [], _, _, _ => Nat.zero_le _
  | p :: r, X, hp, hk => by
    obtain ⟨h1, h2⟩ := List.pairwise_cons.1 hp
    obtain ⟨x, hx, he⟩ := hk p (List.mem_cons_self ..)
    have := keys_len r (X.erase x) h2 (fun q hq => by
      obtain ⟨y, hy, hqe⟩ := hk q (List.mem_cons_of_mem _ hq)
      refine ⟨y, ?_, hqe⟩
      refine (List.mem_erase_of_ne fun e => ?_).2 hy
      subst e
      exact h1 q hq (he.trans hqe.symm))
    rw [List.length_erase_of_mem hx] at this
    have h0 : 0 < X.length := List.length_pos_of_mem hx
    rw [List.length_cons]
    omega
theorem Keys.empty (X : List Int) : Keys (.map []) X := fun es e p hp => by
  cases e
  cases hp
theorem Keys.put {D : DataW Unit} {X : List Int} (h : Keys D X) (hm : IsMap D) {k : Int} (hk : k ∈ X) (d : DataW Unit) : Keys (D.put (.int .i64 k) d) X := fun es e p hp => by
  obtain ⟨es0, rfl⟩ := hm
  rw [DataW.put_eq] at e
  cases e
  unfold ChangeMaps.putKey at hp
  rcases ChangeMaps.mem_insert_iff.1 hp with h1 | h1
  · exact ⟨k, hk, by rw [h1]⟩
  · exact h es0 rfl p (List.mem_filter.1 h1).1
theorem Keys.del {D : DataW Unit} {X : List Int} (h : Keys D X) (hm : IsMap D) (k : Int) : Keys (D.del (.int .i64 k)) X := fun es e p hp => by
  obtain ⟨es0, rfl⟩ := hm
  rw [DataW.del_eq] at e
  cases e
  exact h es0 rfl p (List.mem_filter.1 hp).1
/-- Block b is a map of numbers among X that says f of each. -/
def MA (w : World) (et : TypeId) (z : DataW Unit) (b : Nat) (X : List Int) (f : Int → DataW Unit) : Prop :=
  ∃ (n : Nat) (D : DataW Unit), w.ownsMap Tryz.prog 3 (plainElem Tryz.prog et) b n D ∧ IsMap D ∧ (∀ x : Int, D.atKey (.int .i64 x) z = f x) ∧ Keys D X
section
variable {w : World} {et : TypeId} {z : DataW Unit} {b : Nat} {X : List Int} {f : Int → DataW Unit}
theorem MA.lt (h : MA w et z b X f) : b < w.heap.size := by
  obtain ⟨n, D, h1, _⟩ := h
  exact World.ownsMap.lt h1
theorem MA.block {w' : World} (h : MA w et z b X f) (hb : w'.heap[b]? = w.heap[b]?) : MA w' et z b X f := by
  obtain ⟨n, D, ⟨es, clock, h1, hr⟩, h2⟩ := h
  exact ⟨n, D, ⟨es, clock, hb.trans h1, hr⟩, h2⟩
/-- It is no bigger than what it may be of. -/
theorem MA.tight (h : MA w et z b X f) : ∃ D : DataW Unit, w.ownsMap Tryz.prog 3 (plainElem Tryz.prog et) b X.length D ∧ IsMap D ∧ (∀ x : Int, D.atKey (.int .i64 x) z = f x) ∧ Keys D X := by
  obtain ⟨n, D, h1, h2, h3, h4⟩ := h
  refine ⟨D, ?_, h2, h3, h4⟩
  obtain ⟨es0, e0, e1, _⟩ := h1.entries KI
  have hl := keys_len es0 X e1 (h4 es0 e0)
  obtain ⟨es, clock, k1, k2, k3, k4⟩ := h1
  refine ⟨es, clock, k1, k2, ?_, k4⟩
  rw [e0] at k4
  cases k4
  have : ((es.toList.map (WideElems.rg (H := Unit) Tryz.prog 3 (plainElem Tryz.prog et))).foldr DataW.insert []).length = es.size := by
    simp [length_sorted]
  omega
theorem MA.put {t : TypeId} (h : MA w et z b X f) (ht : Tryz.prog.underlying t = some (.map 3 et)) (hX : X.length < maxLen) {k : Int} (hk : (Lit.int .i64 k).wf = true) (hkX : k ∈ X) {v : Value} {d : DataW Unit} (hv : plainElem Tryz.prog et v = some (d, [])) :
    ∃ w', (Instr.mapUpdate t (.map (some b)) (.int .i64 k) v).run Tryz.prog w = .ok () w' ∧ MA w' et z b X (fun j => if j = k then d else f j) ∧ w.grownBy w' (some b) := by
  obtain ⟨D, h1, h2, h3, h4⟩ := h.tight
  obtain ⟨w', hr, ho, hg⟩ := h1.update KI ht hX (keyOf_int_mk Tryz.underlying3 hk) hv
  refine ⟨w', hr, ⟨_, _, ho, h2.put _ _, fun j => ?_, h4.put h2 hkX _⟩, hg⟩
  dsimp only
  by_cases hj : j = k
  · subst hj
    rw [if_pos rfl]
    exact atKey_put_same h2 (by trivial) _ _
  · rw [if_neg hj, ← h3 j]
    exact atKey_put_other (fun e => hj (by simpa using e)) _ _
theorem MA.drop {t : TypeId} (h : MA w et z b X f) (ht : Tryz.prog.underlying t = some (.map 3 et)) {k : Int} (hk : (Lit.int .i64 k).wf = true) (ty : TypeId) :
    ∃ w', (Builtin.delete_ #[t, 3] ty #[.map (some b), .int .i64 k]).run Tryz.prog w = .ok (.tuple #[]) w' ∧ MA w' et z b X (fun j => if j = k then z else f j) ∧ w.grownBy w' (some b) := by
  obtain ⟨n, D, h1, h2, h3, h4⟩ := h
  obtain ⟨w', hr, ho, hg⟩ := h1.drop KI ht (keyOf_int_mk Tryz.underlying3 hk) ty
  refine ⟨w', hr, ⟨_, _, ho, h2.del _, fun j => ?_, h4.del h2 _⟩, hg.grown⟩
  dsimp only
  by_cases hj : j = k
  · subst hj
    rw [if_pos rfl]
    exact atKey_del_same _
  · rw [if_neg hj, ← h3 j]
    exact atKey_del_other (fun e => hj (by simpa using e)) _
theorem MA.clear {t : TypeId} (h : MA w et z b X f) (ht : Tryz.prog.underlying t = some (.map 3 et)) (Y : List Int) (ty : TypeId) :
    ∃ w', (Builtin.clear_ #[t] ty #[.map (some b)]).run Tryz.prog w = .ok (.tuple #[]) w' ∧ MA w' et z b Y (fun _ => z) ∧ w.grownBy w' (some b) := by
  obtain ⟨n, D, ⟨es, clock, k1, k2, k3, k4⟩, h2, h3, h4⟩ := h
  have hs := MapKept.heap_set (o' := Obj.map #[] clock) k1
  refine ⟨{ w with heap := w.heap.setIfInBounds b (.map #[] clock) }, ?_, ⟨0, .map [], ⟨#[], clock, hs.1, ⟨by simp, MapKept.stamped_empty _, by simp⟩, Nat.le_refl _, rfl⟩, isMap_empty, fun _ => rfl, Keys.empty Y⟩, ⟨rfl, rfl, rfl, by simp, fun i hi hne => hs.2 i (fun e => hne (by rw [e]))⟩⟩
  simp [Builtin.clear_, run_underlying ht, MapKept.run_getObj_map k1, MapKept.run_setObj_map _ k1, Result.andThen]
end
section
variable {ops : Array Oper} {rest : List Oper} {op : Oper} {a : Act} {w : World} {Q : Exit → Act → World → Prop} {et : TypeId} {z : DataW Unit} {b : Nat} {X : List Int} {f : Int → DataW Unit}
theorem wpList_putM (hgd : op.guard = none) (t : TypeId) (x y u : Operand) (hop : op.op = Op.mapUpdate t x y u) (h : MA w et z b X f) (ht : Tryz.prog.underlying t = some (.map 3 et)) (hX : X.length < maxLen) (hx : a.eval x = .map (some b)) {k : Int} (hy : a.eval y = .int .i64 k) (hk : (Lit.int .i64 k).wf = true) (hkX : k ∈ X) {v : Value} (hu : a.eval u = v) {d : DataW Unit} (hv : plainElem Tryz.prog et v = some (d, []))
    (hK : ∀ w', MA w' et z b X (fun j => if j = k then d else f j) → w.grownBy w' (some b) → wpList Tryz.prog ops Q rest (a.put op.dst undef) w') : wpList Tryz.prog ops Q (op :: rest) a w := by
  obtain ⟨w', hr, hm, hg⟩ := h.put ht hX hk hkX hv
  refine wpList_plain hgd fun K' hK' => ?_
  unfold Oper.wp
  simp [execOp, hop, hx, hy, hu, hr, Result.andThen]
  exact hK' _ _ (hK w' hm hg)
theorem wpList_dropM (hgd : op.guard = none) (t : TypeId) (x y : Operand) (hop : op.op = Op.call { callee := Callee.builtin Builtin.delete, args := #[x, y], argTypes := #[t, 3] }) (h : MA w et z b X f) (ht : Tryz.prog.underlying t = some (.map 3 et)) (hx : a.eval x = .map (some b)) {k : Int} (hy : a.eval y = .int .i64 k) (hk : (Lit.int .i64 k).wf = true)
    (hK : ∀ w', MA w' et z b X (fun j => if j = k then z else f j) → w.grownBy w' (some b) → wpList Tryz.prog ops Q rest (a.put op.dst (.tuple #[])) w') : wpList Tryz.prog ops Q (op :: rest) a w := by
  obtain ⟨w', hr, hm, hg⟩ := h.drop ht hk op.type
  refine wpList_plain hgd fun K' hK' => ?_
  unfold Oper.wp
  simp [execOp, hop, resolve, invoke, builtin, hx, hy, hr, Result.andThen]
  exact hK' _ _ (hK w' hm hg)
theorem wpList_clearM (hgd : op.guard = none) (t : TypeId) (x : Operand) (hop : op.op = Op.call { callee := Callee.builtin Builtin.clear, args := #[x], argTypes := #[t] }) (h : MA w et z b X f) (ht : Tryz.prog.underlying t = some (.map 3 et)) (hx : a.eval x = .map (some b)) (Y : List Int)
    (hK : ∀ w', MA w' et z b Y (fun _ => z) → w.grownBy w' (some b) → wpList Tryz.prog ops Q rest (a.put op.dst (.tuple #[])) w') : wpList Tryz.prog ops Q (op :: rest) a w := by
  obtain ⟨w', hr, hm, hg⟩ := h.clear ht Y op.type
  refine wpList_plain hgd fun K' hK' => ?_
  unfold Oper.wp
  simp [execOp, hop, resolve, invoke, builtin, hx, hr, Result.andThen]
  exact hK' _ _ (hK w' hm hg)
end
/-- A map from numbers to numbers; one from numbers to yes and no. -/
abbrev MI (w : World) (b : Nat) (X : List Int) (f : Int → Int) : Prop := MA w 3 (.lit (.int .i64 0)) b X fun x => .lit (.int .i64 (f x))
abbrev MB (w : World) (b : Nat) (X : List Int) (f : Int → Bool) : Prop := MA w 4 (.lit (.bool false)) b X fun x => .lit (.bool (f x))
theorem zeroIn (w : World) : (zeroValue 3).run Tryz.prog w = .ok (.int .i64 0) w := by kernel_rfl
set_option maxRecDepth 100000 in
theorem MI.get {w : World} {b : Nat} {X : List Int} {f : Int → Int} (h : MI w b X f) (k : Int) (hk : (Lit.int .i64 k).wf = true) : (Instr.lookup 61 (.map (some b)) (.int .i64 k) false).run Tryz.prog w = .ok (.int .i64 (f k)) w := by
  obtain ⟨n, D, h1, h2, h3, _⟩ := h
  obtain ⟨v, ps, hrun, hv⟩ := h1.lookup KI Tryz.underlying61 (zeroIn w) (plainElem_int Tryz.underlying3 (by decide)) (keyOf_int_mk Tryz.underlying3 hk)
  rw [h3 k] at hv
  obtain ⟨c, hc, he, _⟩ := plainElem_int_inv Tryz.underlying3 hv
  rw [hrun, hc]
  simp at he
  rw [he.1]
theorem MI.upd {w : World} {b : Nat} {X : List Int} {f : Int → Int} {k v : Int} (h : MA w 3 (.lit (.int .i64 0)) b X (fun j => if j = k then .lit (.int .i64 v) else .lit (.int .i64 (f j)))) : MI w b X (fun j => if j = k then v else f j) := by
  unfold MI
  have e : (fun j => if j = k then (DataW.lit (.int .i64 v) : DataW Unit) else .lit (.int .i64 (f j))) = fun j => .lit (.int .i64 (if j = k then v else f j)) := funext fun j => by split <;> rfl
  rw [← e]
  exact h
theorem MB.upd {w : World} {b : Nat} {X : List Int} {f : Int → Bool} {k : Int} {v : Bool} (h : MA w 4 (.lit (.bool false)) b X (fun j => if j = k then .lit (.bool v) else .lit (.bool (f j)))) : MB w b X (fun j => if j = k then v else f j) := by
  unfold MB
  have e : (fun j => if j = k then (DataW.lit (.bool v) : DataW Unit) else .lit (.bool (f j))) = fun j => .lit (.bool (if j = k then v else f j)) := funext fun j => by split <;> rfl
  rw [← e]
  exact h
end Go.Proofs.YtnhlejdilldfaaaGreat
