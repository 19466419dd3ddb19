/- What the plain digest does: its tables, and small slices made out of their parts. A slice of texts that grows: what it holds, and appending to it. -/
import Derived.Test.YtmbdhngoldganaaGreatDoorSWg
namespace Go.Proofs.YtmbdhngoldganaaGreatDoor.Sh
open Go.RowKit
theorem range1 : Array.range 1 = #[0] := by decide
end Go.Proofs.YtmbdhngoldganaaGreatDoor.Sh
namespace Go.Proofs.YtmbdhngoldganaaGreatDoor.Sh
open Go Go.RowKit
def sv (t : List UInt8) : Value := .string ⟨t.toArray⟩
section
variable {P : Program} {ops : Array Oper} {rest : List Oper} {op : Oper} {a : Act} {w : World} {Q : Exit → Act → World → Prop}
theorem wpList_buildTx (hgd : op.guard = none) (t : TypeId) (n : Nat) (parts : Array (Nat × Operand)) (ho : op.op = .buildSlice t n parts) (c : Array Value)
    (hr : ∀ w, (Instr.buildSlice t n (parts.map fun (i, x) => (i, a.eval x))).run P w = .ok (.slice (some ⟨w.heap.size, 0, none⟩) n n) (w.alloc (.cells c 9)))
    (h : ∀ w1 : World, Below w.heap.size w w1 → w1.heap.size = w.heap.size + 1 → Blk w1 w.heap.size c 9 → wpList P ops Q rest (a.put op.dst (.slice (some ⟨w.heap.size, 0, none⟩) n n)) w1) : wpList P ops Q (op :: rest) a w := by
  refine wpList_run hgd _ _ ?_ (h _ ((Below.refl _ _).alloc (Nat.le_refl _) _) (by simp) (Blk.new _ _ _))
  unfold execOp
  simp only [ho, Sem.run_bind, hr, Result.andThen_ok]
  rfl
end
theorem info9 : ∃ i, Tryz.prog.info? 9 = some i ∧ i.zero = some (.string ⟨#[]⟩) ∧ i.size = 1 ∧ i.bytes = 16 := by
  have h : (Tryz.prog.info? 9).map (fun i => (i.zero, i.size, i.bytes)) = some (some (.string ⟨#[]⟩), 1, 16) := by kernel_rfl
  cases hq : Tryz.prog.info? 9 with
  | none => rw [hq] at h; cases h
  | some i => rw [hq] at h; simp at h; exact ⟨i, rfl, h.1, h.2.1, h.2.2⟩
theorem i9 : (Tryz.prog.info? 9).map (·.size) = some 1 := by kernel_rfl
theorem tsl1 (x : List UInt8) (w : World) : (Instr.buildSlice 28 1 #[(0, sv x)]).run Tryz.prog w = .ok (.slice (some ⟨w.heap.size, 0, none⟩) 1 1) (w.alloc (.cells #[sv x] 9)) := by
  simp [Instr.buildSlice, run_underlying Tryz.underlying28, sizeOf_run i9, Sem.run_bind, Instr.fill, newRow, Tryz.zeroValue9, Value.cells, range1, sv]
section
variable {ops : Array Oper} {rest : List Oper} {op : Oper} {a : Act} {w : World} {Q : Exit → Act → World → Prop}
theorem wpList_tsl1 (hgd : op.guard = none) (x : Operand) (ho : op.op = .buildSlice 28 1 #[(0, x)]) (v : List UInt8) (hx : a.eval x = .string ⟨v.toArray⟩)
    (h : ∀ w1 : World, Below w.heap.size w w1 → w1.heap.size = w.heap.size + 1 → Blk w1 w.heap.size #[sv v] 9 → wpList Tryz.prog ops Q rest (a.put op.dst (.slice (some ⟨w.heap.size, 0, none⟩) 1 1)) w1) : wpList Tryz.prog ops Q (op :: rest) a w :=
  wpList_buildTx hgd 28 1 #[(0, x)] ho #[sv v] (fun w => by
    have e : (#[(0, x)] : Array (Nat × Operand)).map (fun (i, x) => (i, a.eval x)) = #[(0, sv v)] := by simp [hx, sv]
    rw [e]; exact tsl1 v w) h
end
/-- The texts l lie at a. -/
def XA (w : World) (a : Option Addr) (l : List (List UInt8)) : Prop := ∀ i (h : i < l.length), ∃ g o, a = some ⟨g, o, none⟩ ∧ w.cell? ⟨g, o + i, none⟩ = some (.string ⟨(l[i]).toArray⟩)
theorem XA.below {w w' : World} {a : Option Addr} {l : List (List UInt8)} (h : XA w a l) (hb : Below w.heap.size w w') : XA w' a l := fun i hi => by
  obtain ⟨g, o, ha, hr⟩ := h i hi
  exact ⟨g, o, ha, by rw [hb.cell (World.block_lt_of_cell? _ _ hr)]; exact hr⟩
theorem XA.ex {w : World} {a : Option Addr} {l : List (List UInt8)} (h : XA w a l) (h0 : 0 < l.length) : ∃ g o, a = some ⟨g, o, none⟩ := by
  obtain ⟨g, o, ha, _⟩ := h 0 h0
  exact ⟨g, o, ha⟩
theorem XA.at {w : World} {g o : Nat} {l : List (List UInt8)} (h : XA w (some ⟨g, o, none⟩) l) (i : Nat) (hi : i < l.length) : w.cell? ⟨g, o + i, none⟩ = some (.string ⟨(l[i]).toArray⟩) := by
  obtain ⟨g', o', ha, hr⟩ := h i hi
  simp only [Option.some.injEq, Addr.mk.injEq, and_true] at ha
  rw [ha.1, ha.2]
  exact hr
theorem XA.take {w : World} {a : Option Addr} {l : List (List UInt8)} (h : XA w a l) (k : Nat) : XA w a (l.take k) := fun i hi => by
  rw [List.length_take] at hi
  obtain ⟨g, o, ha, hr⟩ := h i (by omega)
  exact ⟨g, o, ha, by rw [List.getElem_take]; exact hr⟩
theorem XA.drop {w : World} {g o : Nat} {l : List (List UInt8)} (h : XA w (some ⟨g, o, none⟩) l) (k : Nat) : XA w (some ⟨g, o + k, none⟩) (l.drop k) := fun i hi => by
  rw [List.length_drop] at hi
  have hr := h.at (k + i) (by omega)
  exact ⟨g, o + k, rfl, by rw [List.getElem_drop, Nat.add_assoc]; exact hr⟩
end Go.Proofs.YtmbdhngoldganaaGreatDoor.Sh
