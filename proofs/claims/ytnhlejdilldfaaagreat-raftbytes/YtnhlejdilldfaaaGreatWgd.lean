/- A list of steps of which some are guarded by a value that is yes or no, unknown which. -/
import Derived.Test.YtnhlejdilldfaaaGreatRrg
namespace Go.Proofs.YtnhlejdilldfaaaGreat
open Go Go.RowKit
section
variable {P : Program} {ops : Array Oper} {rest : List Oper} {op : Oper} {a : Act} {w : World} {Q : Exit → Act → World → Prop}
theorem wanted_t {g : Nat} {b : Bool} (hg : op.guard = some (g, true)) (hy : yielded ops a.tmps g = some b) : Region.wanted op (yielded ops a.tmps) = b := by
  unfold Region.wanted
  rw [hg]
  dsimp only
  rw [hy]
  cases b <;> rfl
theorem wpList_runW (hw : Region.wanted op (yielded ops a.tmps) = true) (v : Value) (hr : (execOp a.eval op).run P w = .ok (.value v) w) (h : wpList P ops Q rest (a.put op.dst v) w) : wpList P ops Q (op :: rest) a w := by
  refine wpList_step fun K hK => ?_
  rw [if_pos hw]
  unfold Oper.wp
  rw [hr]
  exact hK _ _ h
/-- A step that is taken just where b is yes. -/
theorem wpList_gd (b : Bool) (g : Nat) (hg : op.guard = some (g, true)) (hy : yielded ops a.tmps g = some b) (v : Value) (hr : b = true → (execOp a.eval op).run P w = .ok (.value v) w) (h : ∀ z, (b = true → v = z) → wpList P ops Q rest (a.put op.dst z) w) : wpList P ops Q (op :: rest) a w := by
  cases b with
  | true => exact wpList_runW (wanted_t hg hy) v (hr rfl) (h v fun _ => rfl)
  | false => exact wpList_skip (wanted_t hg hy) (h undef fun e => absurd e Bool.false_ne_true)
end
end Go.Proofs.YtnhlejdilldfaaaGreat
