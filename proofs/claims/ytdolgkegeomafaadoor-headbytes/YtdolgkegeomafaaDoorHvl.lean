/- Slices of numbers that grow; readers' steps beside them. -/
import Derived.Test.YtdolgkegeomafaaDoorHdq
import Derived.Test.YtdolgkegeomafaaDoorVsi
namespace Go.Proofs.YtdolgkegeomafaaDoor
open Go Go.RowKit
theorem number1_lt (r : R) : (r.number 1).2 < 256 := by
  have h2 : ((r.early 1).bytes 1).2.length ≤ 1 := by
    unfold R.bytes
    split
    · simp
    · split
      · simp
      · split
        · simp
        · simp only [List.length_take]; omega
  have h3 := val_lt _ ((r.early 1).bytes 1).2 rfl
  have h4 : 256 ^ ((r.early 1).bytes 1).2.length ≤ 256 ^ 1 := Nat.pow_le_pow_right (by decide) h2
  unfold R.number
  simp only
  omega
theorem infoI : ∃ i, Tryd.prog.info? 3 = some i ∧ i.zero = some (.int .i64 0) ∧ i.size = 1 ∧ i.bytes ≤ 64 := by
  have h : (Tryd.prog.info? 3).map (fun i => (i.zero, i.size, i.bytes)) = some (some (.int .i64 0), 1, 8) := by kernel_rfl
  cases hq : Tryd.prog.info? 3 with
  | none => rw [hq] at h; cases h
  | some i => rw [hq] at h; simp at h; exact ⟨i, rfl, h.1, h.2.1, by omega⟩
theorem range0 : Array.range 0 = #[] := by decide
theorem bsl0I (w : World) : (Instr.buildSlice 23 0 #[]).run Tryd.prog w = .ok (.slice (some ⟨w.heap.size, 0, none⟩) 0 0) (w.alloc (.cells #[] 3)) := by
  simp [Instr.buildSlice, run_underlying Tryd.underlying23, sizeOf_run i3, Sem.run_bind, Instr.fill, newRow, range0]
theorem bsl1I (z : Int) (w : World) : (Instr.buildSlice 23 1 #[(0, .int .i64 z)]).run Tryd.prog w = .ok (.slice (some ⟨w.heap.size, 0, none⟩) 1 1) (w.alloc (.cells #[.int .i64 z] 3)) := by
  simp [Instr.buildSlice, run_underlying Tryd.underlying23, sizeOf_run i3, Sem.run_bind, Instr.fill, newRow, Tryd.zeroValue3, Value.cells, range1]
section
variable {ops : Array Oper} {rest : List Oper} {op : Oper} {a : Act} {w : World} {Q : Exit → Act → World → Prop}
theorem wpList_bsl0I (hgd : op.guard = none) (ho : op.op = .buildSlice 23 0 #[])
    (h : ∀ w1 : World, Below w.heap.size w w1 → w1.heap.size = w.heap.size + 1 → VL w1 3 w.heap.size (.slice (some ⟨w.heap.size, 0, none⟩) 0 0) [] → wpList Tryd.prog ops Q rest (a.put op.dst (.slice (some ⟨w.heap.size, 0, none⟩) 0 0)) w1) : wpList Tryd.prog ops Q (op :: rest) a w := by
  refine wpList_run hgd _ _ ?_ (h _ ((Below.refl _ _).alloc (Nat.le_refl _) (.cells #[] 3)) (by simp) (.inr ⟨w.heap.size, 0, Nat.le_refl _, rfl, ⟨#[], (0, 0), (Blk.new w _ _).out, by simp, by simp, .inl rfl, fun j v hv => by simp at hv⟩⟩))
  unfold execOp
  have hr := bsl0I w
  simp only [ho, Sem.run_bind, Array.map_empty, hr, Result.andThen_ok]
  rfl
theorem wpList_bsl1I (hgd : op.guard = none) (x : Operand) (ho : op.op = .buildSlice 23 1 #[(0, x)]) (z : Int) (hx : a.eval x = .int .i64 z)
    (h : ∀ w1 : World, Below w.heap.size w w1 → w1.heap.size = w.heap.size + 1 → Blk w1 w.heap.size #[.int .i64 z] 3 → wpList Tryd.prog ops Q rest (a.put op.dst (.slice (some ⟨w.heap.size, 0, none⟩) 1 1)) w1) : wpList Tryd.prog ops Q (op :: rest) a w := by
  refine wpList_run hgd _ _ ?_ (h _ ((Below.refl _ _).alloc (Nat.le_refl _) _) (by simp) (Blk.new _ _ _))
  unfold execOp
  have e : (#[(0, x)] : Array (Nat × Operand)).map (fun (i, x) => (i, a.eval x)) = #[(0, .int .i64 z)] := by simp [hx]
  have hr := bsl1I z w
  rw [← e] at hr
  simp only [ho, Sem.run_bind, hr, Result.andThen_ok]
  rfl
end
theorem VL.grown7 {w w' : World} {t : TypeId} {lo b : Nat} {sl : Value} {l : List Value} (h : VL w t lo sl l) (hg : w.grownBy w' (some b)) (hb : b < lo) : VL w' t lo sl l := by
  rcases h with h | ⟨g, cap, h1, h2, h3⟩
  · exact .inl h
  · exact .inr ⟨g, cap, h1, h2, h3.grown hg (fun e => by have := Option.some.inj e; omega)⟩
theorem VL.past {w w1 w2 : World} {t : TypeId} {lo b : Nat} {sl : Value} {l : List Value} (h : VL w t lo sl l) (hb : Below w.heap.size w w1) (hg : w1.grownBy w2 (some b)) (hlt : w.heap.size ≤ b) : VL w2 t lo sl l := by
  rcases h with h | ⟨g, cap, h1, h2, h3⟩
  · exact .inl h
  · exact .inr ⟨g, cap, h1, h2, (h3.below hb).grown hg (fun e => by have := Option.some.inj e; have := h3.lt; omega)⟩
theorem VL.ia {w : World} {t : TypeId} {lo : Nat} {sl : Value} {l : List Int} (h : VL w t lo sl (l.map fun x => .int .i64 x)) : ∃ a cap, sl = .slice a l.length cap ∧ IA w a l := by
  rcases h with ⟨h1, h2⟩ | ⟨g, cap, h1, h2, h3⟩
  · obtain rfl : l = [] := List.map_eq_nil_iff.1 h1
    exact ⟨none, 0, h2, fun i x hx => by simp at hx⟩
  · refine ⟨some ⟨g, 0, none⟩, cap, by rw [h2, List.length_map], fun i x hx => ⟨g, 0, rfl, ?_⟩⟩
    rw [Nat.zero_add]
    exact h3.cell i _ (by rw [List.getElem?_map, hx]; rfl)
theorem VL.ia0 {w : World} {t : TypeId} {lo n cap : Nat} {a : Option Addr} {l : List Int} (h : VL w t lo (.slice a n cap) (l.map fun x => .int .i64 x)) : IA w a l := by
  obtain ⟨a', cap', he, hi⟩ := h.ia
  simp only [Value.slice.injEq] at he
  rw [he.1]
  exact hi
theorem VS.ne {w : World} {t ty : TypeId} {g cap i : Nat} {l : List Value} {c : Array Value} (h : VS w t g cap l) (hb : Blk w i c ty) (ht : ty ≠ t) : i ≠ g := by
  intro e
  subst e
  obtain ⟨cur, fr, h1, _⟩ := h.out
  have h2 := hb.out
  rw [h1] at h2
  simp only [Option.some.injEq, Obj.cells.injEq] at h2
  exact ht h2.2.1.symm
theorem VL.grownT {w w' : World} {t ty : TypeId} {lo b : Nat} {sl : Value} {l : List Value} {c : Array Value} (h : VL w t lo sl l) (hb : w.grownBy w' (some b)) (hk : Blk w b c ty) (ht : ty ≠ t) : VL w' t lo sl l := by
  rcases h with h | ⟨g, cap, h1, h2, h3⟩
  · exact .inl h
  · exact .inr ⟨g, cap, h1, h2, h3.grown hb (fun e => h3.ne hk ht (Option.some.inj e).symm)⟩
theorem VL.cells {w : World} {t : TypeId} {lo : Nat} {sl : Value} {l : List Value} (h : VL w t lo sl l) : sl.cells = #[sl] ∧ sl.oneCell' = true := by
  rcases h with ⟨_, rfl⟩ | ⟨g, cap, _, rfl, _⟩
  · exact ⟨rfl, rfl⟩
  · exact ⟨rfl, rfl⟩
theorem Blk.to {w w' : World} {b i : Nat} {r : R} {c : Array Value} {ty : TypeId} (h : Blk w i c ty) (hT : To w w' b r) (hi : i ≠ b) : Blk w' i c ty := h.grown hT.grown (fun e => hi (Option.some.inj e))
theorem To.behind {w w1 w2 : World} {b : Nat} {r : R} (h : Below w.heap.size w w1) (k : To w1 w2 b r) : To w w2 b r := ⟨grown_trans (grown_of_below h) k.grown, k.rd⟩
theorem RD.lt {w : World} {b : Nat} {r : R} (h : RD w b r) : b < w.heap.size := h.blk.lt
theorem RD.grown {w w' : World} {b i : Nat} {r : R} (h : RD w b r) (hg : w.grownBy w' (some i)) (hi : b ≠ i) : RD w' b r := ⟨h.blk.grown hg (fun e => hi (Option.some.inj e))⟩
/-- What is written into a block that is new since w leaves a reader's step. -/
theorem To.write {w w1 w2 : World} {b i : Nat} {r : R} (k : To w w1 b r) (hg : w1.grownBy w2 (some i)) (hb : b < w.heap.size) (hi : w.heap.size ≤ i) : To w w2 b r :=
  ⟨⟨hg.os.trans k.grown.os, hg.tape.trans k.grown.tape, hg.output.trans k.grown.output, Nat.le_trans k.grown.size hg.size, fun j hj hr => (hg.block j (Nat.lt_of_lt_of_le hj k.grown.size) (fun e => by have := Option.some.inj e; omega)).trans (k.grown.block j hj hr)⟩, k.rd.grown hg (by omega)⟩
theorem To.low {w w1 w2 : World} {b : Nat} {r : R} (k : To w w1 b r) (h : Below w.heap.size w1 w2) (hr : RD w2 b r) : To w w2 b r :=
  ⟨⟨h.os.trans k.grown.os, h.tape.trans k.grown.tape, h.output.trans k.grown.output, Nat.le_trans k.grown.size h.size, fun j hj hne => (h.block j hj).trans (k.grown.block j hj hne)⟩, hr⟩
theorem RD.lowB {w w' : World} {b lo : Nat} {r : R} (h : RD w b r) (hB : Below lo w w') (hb : b < lo) : RD w' b r := ⟨h.blk.below hB hb⟩
end Go.Proofs.YtdolgkegeomafaaDoor
