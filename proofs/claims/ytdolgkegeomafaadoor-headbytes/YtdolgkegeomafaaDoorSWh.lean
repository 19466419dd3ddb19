/- What the plain digest does: its tables, and small slices made out of their parts. -/
import Derived.Test.YtdolgkegeomafaaDoorSBsl
namespace Go.Proofs.YtdolgkegeomafaaDoor.Sh
open Go.RowKit
theorem results_cell2 {P : Program} {fn : Func} {p q : Tmp} {ty ty2 : TypeId} (h : fn.results = #[.cell p ty, .cell q ty2]) (tmps : Array Value) (w : World) (b b2 : Nat) (c c2 : Array Value)
    (hp : tmps.getD p undef = .pointer (some ⟨b, 0, none⟩)) (hq : tmps.getD q undef = .pointer (some ⟨b2, 0, none⟩)) (h1 : (loadVar ty ⟨b, 0, none⟩).run P w = .ok (.agg c) w) (h2 : (loadVar ty2 ⟨b2, 0, none⟩).run P w = .ok (.agg c2) w) :
    (results fn tmps).run P w = .ok (.tuple #[.agg c, .agg c2]) w := by
  have hp' : tmps[p]?.getD undef = .pointer (some ⟨b, 0, none⟩) := by simpa using hp
  have hq' : tmps[q]?.getD undef = .pointer (some ⟨b2, 0, none⟩) := by simpa using hq
  simp [results, h, hp', hq', asAddr, h1, h2]
set_option maxRecDepth 100000 in
set_option maxHeartbeats 400000 in
theorem table_any (w : World) : Calls Tryd.prog 54 #[] w fun e w' => e = .returned (.tuple #[.agg (row32 Kt 64), .agg (row32 H0.at 8)]) ∧ Below w.heap.size w w' := by
  go_enter Tryd.func54, Tryd.ntmps54
  go_wp2_with (with_reducible refine at_list ?_; first
    | (refine wpList_allocRow (op := ⟨some 0, _, _, _, _, _⟩) rfl _ rfl _ z39.1 ?_; intro w1 hw1 hs1 hb1)
    | (refine wpList_allocRow (op := ⟨some 1, _, _, _, _, _⟩) rfl _ rfl _ z40.1 ?_; intro w2 hw2 hs2 hb2)
    | (refine wpList_build (o := ⟨some 2, _, _, _, _, _⟩) rfl _ _ rfl (by kernel_rfl) ?_)
    | (refine wpList_build (o := ⟨some 3, _, _, _, _, _⟩) rfl _ _ rfl (by kernel_rfl) ?_)
    | (refine wpList_storeRow (op := ⟨none, .store 86 (.tmp 0) (.tmp 2), _, _, _, _⟩) rfl _ _ _ rfl w.heap.size (row32 Kt 64) rfl (by kernel_rfl) _ _ (hb1.belowSize hw2) (by rw [row32_size, row32_size]) (by rw [row32_size]; exact z39.2) (row32_one _ _) ?_; intro w3 hg3 hs3 hb3)
    | (refine wpList_storeRow (op := ⟨none, .store 80 (.tmp 1) (.tmp 3), _, _, _, _⟩) rfl _ _ _ rfl w1.heap.size (row32 H0.at 8) rfl (by kernel_rfl) _ _ (hb2.grown hg3 (by simp; omega)) (by rw [row32_size, row32_size]) (by rw [row32_size]; exact z40.2) (row32_one _ _) ?_; intro w4 hg4 hs4 hb4))
  have hB2 : Below w.heap.size w w2 := hw1.trans (hw2.mono (by omega))
  have hB3 : Below w.heap.size w w3 := hB2.trans (below_of_grown hg3 (Nat.le_refl _) (by omega))
  have hB4 : Below w.heap.size w w4 := hB3.trans (below_of_grown hg4 (by omega) (by omega))
  refine bodyPost_ret (v := .tuple #[.agg (row32 Kt 64), .agg (row32 H0.at 8)]) ?_ rfl ⟨rfl, hB4⟩
  exact results_cell2 rfl _ _ w.heap.size w1.heap.size _ _ rfl rfl ((hb3.grown hg4 (by simp; omega)).loadVar _ Tryd.underlying86 rfl (by rw [row32_size]; exact z39.2)) (hb4.loadVar _ Tryd.underlying80 rfl (by rw [row32_size]; exact z40.2))

theorem range0 : Array.range 0 = #[] := by decide
theorem range1 : Array.range 1 = #[0] := by decide
theorem range4 : Array.range 4 = #[0, 1, 2, 3] := by decide
theorem bsl0 (w : World) : (Instr.buildSlice 51 0 #[]).run Tryd.prog w = .ok (.slice (some ⟨w.heap.size, 0, none⟩) 0 0) (w.alloc (.cells #[] 5)) := by
  simp [Instr.buildSlice, run_underlying Tryd.underlying51, sizeOf_run i5, Sem.run_bind, Instr.fill, newRow, range0]
theorem bsl1 (z : Int) (w : World) : (Instr.buildSlice 51 1 #[(0, .int .u8 z)]).run Tryd.prog w = .ok (.slice (some ⟨w.heap.size, 0, none⟩) 1 1) (w.alloc (.cells #[.int .u8 z] 5)) := by
  simp [Instr.buildSlice, run_underlying Tryd.underlying51, sizeOf_run i5, Sem.run_bind, Instr.fill, newRow, Tryd.zeroValue5, Value.cells, range1]
theorem bsl4 (z0 z1 z2 z3 : Int) (w : World) : (Instr.buildSlice 51 4 #[(0, .int .u8 z0), (1, .int .u8 z1), (2, .int .u8 z2), (3, .int .u8 z3)]).run Tryd.prog w = .ok (.slice (some ⟨w.heap.size, 0, none⟩) 4 4) (w.alloc (.cells #[.int .u8 z0, .int .u8 z1, .int .u8 z2, .int .u8 z3] 5)) := by
  simp [Instr.buildSlice, run_underlying Tryd.underlying51, sizeOf_run i5, Sem.run_bind, Instr.fill, newRow, Tryd.zeroValue5, Value.cells, range4]
section
variable {ops : Array Oper} {rest : List Oper} {op : Oper} {a : Act} {w : World} {Q : Exit → Act → World → Prop}
theorem wpList_bsl0 (hgd : op.guard = none) (ho : op.op = .buildSlice 51 0 #[])
    (h : ∀ w1 : World, Below w.heap.size w w1 → w1.heap.size = w.heap.size + 1 → BS w1 w.heap.size 0 [] → wpList Tryd.prog ops Q rest (a.put op.dst (.slice (some ⟨w.heap.size, 0, none⟩) 0 0)) w1) : wpList Tryd.prog ops Q (op :: rest) a w :=
  wpList_buildSl hgd 51 0 #[] ho #[] (fun w => by rw [Array.map_empty]; exact bsl0 w) (fun w1 hw hs hb => h w1 hw hs ⟨#[], (0, 0), hb.out, by simp, by simp, .inl rfl, fun j hj => by simp at hj⟩)
theorem wpList_bsl1 (hgd : op.guard = none) (x : Operand) (ho : op.op = .buildSlice 51 1 #[(0, x)]) (v : UInt8) (hx : a.eval x = .int .u8 (n8 v))
    (h : ∀ w1 : World, Below w.heap.size w w1 → w1.heap.size = w.heap.size + 1 → Blk w1 w.heap.size (row8 (fun _ => v) 1) 5 → wpList Tryd.prog ops Q rest (a.put op.dst (.slice (some ⟨w.heap.size, 0, none⟩) 1 1)) w1) : wpList Tryd.prog ops Q (op :: rest) a w :=
  wpList_buildSl hgd 51 1 #[(0, x)] ho (row8 (fun _ => v) 1) (fun w => by
    have e : (#[(0, x)] : Array (Nat × Operand)).map (fun (i, x) => (i, a.eval x)) = #[(0, .int .u8 (n8 v))] := by simp [hx]
    rw [e]; exact bsl1 (n8 v) w) h
end
end Go.Proofs.YtdolgkegeomafaaDoor.Sh
