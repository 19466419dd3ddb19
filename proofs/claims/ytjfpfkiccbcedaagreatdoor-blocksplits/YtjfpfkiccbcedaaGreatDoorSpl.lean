/- Slices of transactions that are cut in two; where a number is taken into a list. -/
import Derived.Test.YtjfpfkiccbcedaaGreatDoorMkr
namespace Go.Proofs.YtjfpfkiccbcedaaGreatDoor
open Go Go.RowKit
theorem sliceTo (a : Option Addr) (n cap k : Nat) (hk : k ≤ cap) (w : World) : (Instr.sliceAt 28 (.slice a n cap) none (some (.int .i64 (k : Nat))) none).run Tryz.prog w = .ok (.slice a k cap) w := by
  simp [Instr.sliceAt, Instr.slice, run_underlying Tryz.underlying28, Instr.sliceBounds, Instr.sliceBound, asIntOf, sizeOf_run zTx.2, Sem.run_bind, hk]
  intro _
  cases a <;> simp [Addr.add]
/-- Where the rest of a slice lies. -/
def fromA (a : Option Addr) (cap k : Nat) : Option Addr := if cap = k then a else a.map (·.add (k * 3))
theorem sliceFrom (a : Option Addr) (n cap k : Nat) (hk : k ≤ n) (w : World) : (Instr.sliceAt 28 (.slice a n cap) (some (.int .i64 (k : Nat))) none none).run Tryz.prog w = .ok (.slice (fromA a cap k) (n - k) (cap - k)) w := by
  simp [Instr.sliceAt, Instr.slice, run_underlying Tryz.underlying28, Instr.sliceBounds, Instr.sliceBound, asIntOf, sizeOf_run zTx.2, Sem.run_bind, hk, fromA]
theorem TA.drop {w : World} {a : Option Addr} {l : List TX} {cap k : Nat} (h : TA w a l) (hk : k ≤ l.length) (hc : l.length ≤ cap) : TA w (fromA a cap k) (l.drop k) := fun i hi => by
  rw [List.length_drop] at hi
  have hlt : k + i < l.length := by omega
  obtain ⟨g, o, sa, cp, ha, hr, h2⟩ := h (k + i) hlt
  subst ha
  refine ⟨g, o + k * 3, sa, cp, ?_, ?_, ?_⟩
  · unfold fromA
    rw [if_neg (by omega)]
    simp [Addr.add]
  · rw [List.getElem_drop, show o + k * 3 + i * 3 = o + (k + i) * 3 from by omega]
    exact hr
  · rw [List.getElem_drop]
    exact h2
section
variable {op : Oper} {a : Act} {w : World}
theorem run_sliceTo (x y : Operand) (ho : op.op = .slice 28 x none (some y) none) (s : Option Addr) (n cap k : Nat) (hx : a.eval x = .slice s n cap) (hy : a.eval y = .int .i64 (k : Nat)) (hk : k ≤ cap) : (execOp a.eval op).run Tryz.prog w = .ok (.value (.slice s k cap)) w := by
  unfold execOp
  simp only [ho, Option.map_some, Option.map_none, hx, hy]
  simp only [Sem.run_bind, sliceTo s n cap k hk, Result.andThen_ok]
  rfl
theorem run_sliceFrom (x y : Operand) (ho : op.op = .slice 28 x (some y) none none) (s : Option Addr) (n cap k : Nat) (hx : a.eval x = .slice s n cap) (hy : a.eval y = .int .i64 (k : Nat)) (hk : k ≤ n) : (execOp a.eval op).run Tryz.prog w = .ok (.value (.slice (fromA s cap k) (n - k) (cap - k))) w := by
  unfold execOp
  simp only [ho, Option.map_some, Option.map_none, hx, hy]
  simp only [Sem.run_bind, sliceFrom s n cap k hk, Result.andThen_ok]
  rfl
theorem run_fieldAddr (ty : TypeId) (x : Operand) (f : Nat) (ho : op.op = .fieldAddr ty x f) (v r : Value) (hx : a.eval x = v) (h : (Instr.fieldAt ty v f).run Tryz.prog w = .ok r w) : (execOp a.eval op).run Tryz.prog w = .ok (.value r) w := by
  unfold execOp
  simp only [ho, hx]
  simp only [Sem.run_bind, h, Result.andThen_ok]
  rfl
end
theorem fieldB0 (b : Nat) (w : World) : (Instr.fieldAt 30 (.pointer (some ⟨b, 0, none⟩)) 0).run Tryz.prog w = .ok (.pointer (some ⟨b, 0, none⟩)) w := by kernel_rfl
/-- A number, taken into those below another one. -/
theorem into_range (z : Int) (n : Nat) (hn : 0 < n) (hn2 : n ≤ 100) : ∃ k : Nat, k < n ∧ (z.tmod n + n).tmod n = (k : Nat) ∧ -100 ≤ z.tmod n ∧ z.tmod n ≤ 100 := by
  have h1 : z.tmod n < n := Int.tmod_lt_of_pos z (by omega)
  have h2 : -(n : Int) < z.tmod n := by
    have e := Int.lt_tmod_of_pos z (show (0 : Int) < (n : Int) by omega)
    exact e
  have h3 : 0 ≤ (z.tmod n + n).tmod n := Int.tmod_nonneg _ (by omega)
  have h4 : (z.tmod n + n).tmod n < n := Int.tmod_lt_of_pos _ (by omega)
  exact ⟨((z.tmod n + n).tmod n).toNat, by omega, by omega, by omega, by omega⟩
theorem iBool : (Tryz.prog.info? 4).map (·.size) = some 1 := by kernel_rfl
theorem bc_set1 (st : Value) (c c' : Bool) (sm : Value) : (bc st c sm).setIfInBounds 1 (.bool c') = bc st c' sm := rfl
end Go.Proofs.YtjfpfkiccbcedaaGreatDoor
