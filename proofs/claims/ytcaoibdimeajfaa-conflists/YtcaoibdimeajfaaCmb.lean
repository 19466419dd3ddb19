/- A map from numbers to yes or no. -/
import Derived.Test.YtcaoibdimeajfaaCnx
import Derived.Deep.CutRange
import Derived.Maps.OwnOps
import Derived.Maps.Views
namespace Go.Proofs.Ytcaoibdimeajfaa
open Go Go.RowKit Go.Maps
theorem KI : Keyed Try.prog 3 := int_keyed Try.underlying3
theorem zeroBo (w : World) : (zeroValue 4).run Try.prog w = .ok (.bool false) w := by kernel_rfl
/-- Block b is a map of at most n entries that says f of every number. -/
def OB (w : World) (b n : Nat) (f : Int → Bool) : Prop := ∃ D : DataW Unit, w.ownsMap Try.prog 3 (plainElem Try.prog 4) b n D ∧ IsMap D ∧ ∀ x : Int, D.atKey (.int .i64 x) (.lit (.bool false)) = .lit (.bool (f x))
theorem OB.made (w : World) : OB (w.alloc (.map #[] 0)) w.heap.size 0 fun _ => false := ⟨.map [], World.ownsMap_made _ _ _ _, isMap_empty, fun _ => rfl⟩
theorem OB.kept {w w' : World} {b n : Nat} {f : Int → Bool} {row : Option Nat} (h : OB w b n f) (hg : w.grownBy w' row) (hne : some b ≠ row) : OB w' b n f := by
  obtain ⟨D, h1, h2, h3⟩ := h
  exact ⟨D, World.ownsMap.kept h1 hg hne, h2, h3⟩
theorem OB.below {w w' : World} {b n : Nat} {f : Int → Bool} (h : OB w b n f) (hg : Below w.heap.size w w') : OB w' b n f := h.kept (row := none) ⟨hg.os, hg.tape, hg.output, hg.size, fun i hi _ => hg.block i hi⟩ (by simp)
theorem OB.lt {w : World} {b n : Nat} {f : Int → Bool} (h : OB w b n f) : b < w.heap.size := by
  obtain ⟨D, h1, _⟩ := h
  exact World.ownsMap.lt h1
theorem OB.ext {w : World} {b n : Nat} {f g : Int → Bool} (h : OB w b n f) (e : ∀ x, f x = g x) : OB w b n g := by
  obtain rfl : f = g := funext e
  exact h
section
variable {ops : Array Oper} {rest : List Oper} {op : Oper} {a : Act} {w : World} {Q : Exit → Act → World → Prop}
theorem wpList_putB (hgd : op.guard = none) (x y z : Operand) (hop : op.op = Op.mapUpdate 34 x y z) (b n : Nat) (f : Int → Bool) (hx : a.eval x = .map (some b)) (hown : OB w b n f) (hn : n < maxLen) (k : Int) (hk : (Lit.int .i64 k).wf = true) (q : Bool) (hy : a.eval y = .int .i64 k) (hz : a.eval z = .bool q)
    (h : ∀ w', OB w' b (n + 1) (fun j => if j = k then q else f j) → w.grownBy w' (some b) → wpList Try.prog ops Q rest (a.put op.dst undef) w') : wpList Try.prog ops Q (op :: rest) a w := by
  obtain ⟨D, h1, h2, h3⟩ := hown
  refine wpList_mapUpdate_own (H := Unit) w hgd x y z 34 hop 3 4 KI Try.underlying34 (plainElem Try.prog 4) b n D hx h1 hn _ _ (.int .i64 k) hy hz (keyOf_int_mk Try.underlying3 hk) (.lit (.bool q)) [] (plainElem_bool Try.underlying4 q) ?_
  intro w' hw hg
  refine h w' ⟨_, hw, h2.put _ _, fun j => ?_⟩ hg
  dsimp only
  by_cases hj : j = k
  · subst hj
    rw [if_pos rfl]
    exact atKey_put_same h2 (by trivial) _ _
  · rw [if_neg hj, ← h3 j]
    exact atKey_put_other (fun e => hj (by simpa using e)) _ _
/-- m[k] -/
theorem run_getB {b n : Nat} {f : Int → Bool} (hown : OB w b n f) (k : Int) (hk : (Lit.int .i64 k).wf = true) : (Instr.lookup 34 (.map (some b)) (.int .i64 k) false).run Try.prog w = .ok (.bool (f k)) w := by
  obtain ⟨D, h1, h2, h3⟩ := hown
  obtain ⟨v, ps, hrun, hv⟩ := h1.lookup KI Try.underlying34 (zeroBo w) (plainElem_bool Try.underlying4 false) (keyOf_int_mk Try.underlying3 hk)
  rw [h3 k] at hv
  have : v = .bool (f k) := by
    unfold plainElem at hv
    rw [Try.underlying4] at hv
    cases v <;> simp at hv
    rw [hv.1]
  rw [hrun, this]
end
/-- What Most is asked to do. -/
def MostC : Prop := ∀ (l : List Int) (a : Option Addr) (cap b n : Nat) (f : Int → Bool) (w : World), IA w a l → l.length ≤ 16 → (∀ x ∈ l, 0 ≤ x ∧ x ≤ 15) → OB w b n f → Calls Try.prog 16 #[.slice a l.length cap, .map (some b)] w fun e w' => e = .returned (.bool (decide (l.length < 2 * (l.filter f).length))) ∧ Below w.heap.size w w'
end Go.Proofs.Ytcaoibdimeajfaa
