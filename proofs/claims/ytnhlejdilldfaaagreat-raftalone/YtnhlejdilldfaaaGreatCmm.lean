/- A slice of values of one cell each that grows, or nil: what it holds, and appending to it. Lists of who takes part in memory; head.Members and the plain one; slices of numbers that grow. -/
import Derived.Test.YtnhlejdilldfaaaGreatRow
import Derived.Laws.MakeOwn
import Derived.Laws.BytesString
import Derived.Deep.AppendSrc
import Derived.Lib.ConvBytes
import Derived.Test.YtnhlejdilldfaaaGreatRows
namespace Go.Proofs.YtnhlejdilldfaaaGreat
open Go Go.RowKit
/-- Block g holds a slice's values l, with room for cap. -/
structure VS (w : World) (t : TypeId) (g cap : Nat) (l : List Value) : Prop where
  out : ∃ (cur : Array Value) (fr : Nat × Nat), w.heap[g]? = some (.cells cur t fr) ∧ l.length ≤ cap ∧ cap ≤ cur.size ∧ (fr = (0, 0) ∨ cur.size ≤ fr.1) ∧ ∀ (j : Nat) (v : Value), l[j]? = some v → cur[j]? = some v
/-- The value sl is a slice of the values l, from block lo on, or nil where there are none. -/
def VL (w : World) (t : TypeId) (lo : Nat) (sl : Value) (l : List Value) : Prop :=
  (l = [] ∧ sl = .slice none 0 0) ∨ ∃ g cap, lo ≤ g ∧ sl = .slice (some ⟨g, 0, none⟩) l.length cap ∧ VS w t g cap l
theorem VS.lt {w : World} {t : TypeId} {g cap : Nat} {l : List Value} (h : VS w t g cap l) : g < w.heap.size := by
  obtain ⟨cur, fr, h1, _⟩ := h.out
  exact (Array.getElem?_eq_some_iff.1 h1).1
theorem VS.cell {w : World} {t : TypeId} {g cap : Nat} {l : List Value} (h : VS w t g cap l) (j : Nat) (v : Value) (hv : l[j]? = some v) : w.cell? ⟨g, j, none⟩ = some v := by
  obtain ⟨cur, fr, h1, _, _, _, h4⟩ := h.out
  simp [World.cell?, h1, h4 j v hv]
theorem VS.below {w w' : World} {t : TypeId} {g cap : Nat} {l : List Value} (h : VS w t g cap l) (hb : Below w.heap.size w w') : VS w' t g cap l := by
  obtain ⟨cur, fr, h1, hr⟩ := h.out
  exact ⟨cur, fr, by rw [hb.block g h.lt]; exact h1, hr⟩
theorem VS.drew {w : World} {t : TypeId} {g cap : Nat} {l : List Value} (h : VS w t g cap l) : VS w.drew t g cap l := ⟨h.out⟩
theorem VL.below {w w' : World} {t : TypeId} {lo : Nat} {sl : Value} {l : List Value} (h : VL w t lo sl l) (hb : Below w.heap.size w w') : VL w' t lo sl l := by
  rcases h with h | ⟨g, cap, h1, h2, h3⟩
  · exact .inl h
  · exact .inr ⟨g, cap, h1, h2, h3.below hb⟩
theorem VL.nil (w : World) (t : TypeId) (lo : Nat) : VL w t lo (.slice none 0 0) [] := .inl ⟨rfl, rfl⟩
section
variable {P : Program} {ops : Array Oper} {rest : List Oper} {op : Oper} {a : Act} {w : World} {Q : Exit → Act → World → Prop}
theorem run_appendVL (st ty t : TypeId) (lo : Nat) (sl : Value) (l : List Value) (hlo : lo ≤ w.heap.size) (hsl : VL w t lo sl l) (g2 c : Nat) (x : Value) (t2 : TypeId) (hx1 : x.oneCell' = true) (hb2 : Blk w g2 #[x] t2) (i : TypeInfo) (z : Value) (hz1 : z.cells.size = 1)
    (hu : P.underlying st = some (.slice t)) (hi : P.info? t = some i) (hz : i.zero = some z) (hs : i.size = 1) (hby : i.bytes ≤ 256) (hlen : l.length ≤ 1000000) :
    ∃ (w1 : World) (sl1 : Value), (Builtin.append_ #[st, st] ty #[sl, .slice (some ⟨g2, 0, none⟩) 1 c]).run P w = .ok sl1 w1 ∧ Below lo w w1 ∧ VL w1 t lo sl1 (l ++ [x]) := by
  have hsrc : Src P i.size st (.slice (some ⟨g2, 0, none⟩) 1 c) 1 [x] w :=
    Src.ofSlice w hu ⟨g2, 0, none⟩ 1 c _ (by rw [hs]; rfl) (fun j u hj => by
      rw [Addr.add_mid, Nat.zero_add, hb2.cell]
      have hjn : j = 0 := by have := (List.getElem?_eq_some_iff.1 hj).1; simp at this; exact this
      subst hjn
      simpa using hj)
      (fun u hu => by rw [List.mem_singleton.1 hu]; exact hx1)
  have hgrow : ∀ (base : Option Addr) (cap : Nat), cap < l.length + 1 → (Builtin.firstCells i.size l.length (.slice base l.length cap)).run P w.drew = .ok l.toArray w.drew →
      ∃ (w1 : World) (sl1 : Value), (Builtin.append_ #[st, st] ty #[.slice base l.length cap, .slice (some ⟨g2, 0, none⟩) 1 c]).run P w = .ok sl1 w1 ∧ Below lo w w1 ∧ VL w1 t lo sl1 (l ++ [x]) := by
    intro base cap hcap hold
    have hr := run_append_grow_src (P := P) w st st ty t i _ hu hi hz base l.length cap _ hold _ 1 _ hsrc hcap (by omega) (growslice_fits hcap (Nat.le_trans (Nat.mul_le_mul (show l.length + 1 ≤ 1000001 by omega) hby) (by decide)))
    have hge : l.length + 1 ≤ grownCap w (l.length + 1) cap t := grownCap_ge w _ _ _
    refine ⟨_, _, hr, (Below.refl lo w).drew.alloc hlo _, .inr ⟨w.heap.size, _, hlo, by rw [List.length_append]; rfl, ?_⟩⟩
    refine ⟨_, (0, 0), heap_alloc_last w.drew _, by rw [List.length_append]; exact hge, ?_, .inl rfl, ?_⟩
    · simp only [Array.size_append, List.size_toArray, List.length_append, List.length_singleton, size_zeroCells, hz1]
      omega
    · intro j v hj
      have hjl := (List.getElem?_eq_some_iff.1 hj).1
      rw [Array.getElem?_append_left (by simpa using hjl)]
      simpa using hj
  rcases hsl with ⟨rfl, rfl⟩ | ⟨g, cap, hg, rfl, hS⟩
  · exact hgrow none 0 (by simp) (run_firstCells_none (w := w.drew) i.size 0 0 0)
  · by_cases hroom : l.length + 1 ≤ cap
    · obtain ⟨cur, fr, h1, h2, h4, hfr, h5⟩ := hS.out
      have hr := run_append_room_src (P := P) w st st ty t i hu hi g 0 l.length cap _ 1 _ hsrc hroom
        (fun j hj => by
          rw [hs, Nat.mul_one, Nat.zero_add]
          simp only [World.cell?, h1]
          rw [Array.getElem?_eq_getElem (by simp at hj; omega)]; rfl)
        (fun j hj => by
          rw [hs, Nat.mul_one, Nat.zero_add]
          simp only [World.frozen?, h1]
          simp at hj
          rcases hfr with hfr | hfr
          · rw [hfr]; simp
          · simp; intro h; omega)
      rw [hs, Nat.mul_one, Nat.zero_add] at hr
      have hgr := grown_setCells g [x] l.length w
      have hset : (w.setCells g l.length [x]).heap[g]? = some (.cells (spl cur l.length [x]) t fr) := by
        simp [World.setCells, World.setCell, Array.getElem?_modify, h1, spl]
      refine ⟨_, _, hr, below_of_grown hgr hg hlo, .inr ⟨g, cap, hg, by rw [List.length_append]; rfl, ?_⟩⟩
      refine ⟨_, fr, hset, by rw [List.length_append]; exact hroom, by rw [spl_size]; exact h4, by rw [spl_size]; exact hfr, ?_⟩
      intro j v hj
      rw [spl_get _ _ _ _ (by simp; omega)]
      by_cases hjl : j < l.length
      · rw [if_neg (by simp; omega)]
        rw [List.getElem?_append_left hjl] at hj
        exact h5 j v hj
      · have hj3 := (List.getElem?_eq_some_iff.1 hj).1
        rw [List.length_append, List.length_singleton] at hj3
        obtain rfl : j = l.length := by omega
        rw [if_pos (by simp)]
        rw [List.getElem?_append_right (by omega)] at hj
        simpa using hj
    · exact hgrow (some ⟨g, 0, none⟩) cap (by omega) (run_firstCells_some w.drew i.size l.length ⟨g, 0, none⟩ l.length cap _ (by rw [hs]; simp) (fun j u hj => by
        rw [Addr.add_mid, Nat.zero_add]; exact hS.drew.cell j u hj))
theorem wpList_appendVL (hgd : op.guard = none) (x y : Operand) (st t : TypeId) (ho : op.op = .call { callee := .builtin .append, args := #[x, y], argTypes := #[st, st] })
    (lo : Nat) (sl : Value) (l : List Value) (hlo : lo ≤ w.heap.size) (hx : a.eval x = sl) (hsl : VL w t lo sl l) (g2 c : Nat) (hy : a.eval y = .slice (some ⟨g2, 0, none⟩) 1 c) (o : Value) (t2 : TypeId) (ho1 : o.oneCell' = true) (hb2 : Blk w g2 #[o] t2) (i : TypeInfo) (z : Value) (hz1 : z.cells.size = 1)
    (hu : P.underlying st = some (.slice t)) (hi : P.info? t = some i) (hz : i.zero = some z) (hs : i.size = 1) (hby : i.bytes ≤ 256) (hlen : l.length ≤ 1000000)
    (h : ∀ (w1 : World) (sl1 : Value), Below lo w w1 → VL w1 t lo sl1 (l ++ [o]) → wpList P ops Q rest (a.put op.dst sl1) w1) : wpList P ops Q (op :: rest) a w := by
  obtain ⟨w1, sl1, hr, hb, hl⟩ := run_appendVL (P := P) (w := w) st op.type t lo sl l hlo hsl g2 c o t2 ho1 hb2 i z hz1 hu hi hz hs hby hlen
  refine wpList_run hgd _ _ ?_ (h w1 sl1 hb hl)
  unfold execOp
  simp only [ho]
  simp [resolve, invoke, builtin, hx, hy, hr, Result.andThen]
end
end Go.Proofs.YtnhlejdilldfaaaGreat
namespace Go.Proofs.YtnhlejdilldfaaaGreat
open Go Go.RowKit
/-- May they be who takes part? -/
def okM (l : List Int) : Bool := decide (l ≠ []) && ((l.all fun m => decide (0 ≤ m ∧ m ≤ 15)) && decide (l.Pairwise (· < ·)))
/-- The numbers l lie at a. -/
def IA (w : World) (a : Option Addr) (l : List Int) : Prop := ∀ i x, l[i]? = some x → ∃ g o, a = some ⟨g, o, none⟩ ∧ w.cell? ⟨g, o + i, none⟩ = some (.int .i64 x)
theorem IA.below {w w' : World} {a : Option Addr} {l : List Int} (h : IA w a l) (hb : Below w.heap.size w w') : IA w' a l := fun i x hx => by
  obtain ⟨g, o, ha, hc⟩ := h i x hx
  exact ⟨g, o, ha, by rw [hb.cell (World.block_lt_of_cell? _ _ hc)]; exact hc⟩
theorem IA.ex {w : World} {a : Option Addr} {l : List Int} (h : IA w a l) (h0 : 0 < l.length) : ∃ g o, a = some ⟨g, o, none⟩ := by
  obtain ⟨g, o, ha, _⟩ := h 0 _ (List.getElem?_eq_getElem h0)
  exact ⟨g, o, ha⟩
theorem IA.cell {w : World} {g o : Nat} {l : List Int} (h : IA w (some ⟨g, o, none⟩) l) {i : Nat} (hi : i < l.length) : w.cell? ⟨g, o + i, none⟩ = some (.int .i64 (l.getD i 0)) := by
  obtain ⟨g', o', ha, hc⟩ := h i _ (List.getElem?_eq_getElem hi)
  simp only [Option.some.injEq, Addr.mk.injEq, and_true] at ha
  obtain ⟨rfl, rfl⟩ := ha
  rw [hc, List.getD_eq_getElem?_getD, List.getElem?_eq_getElem hi]
  rfl
theorem infoI : ∃ i, Tryz.prog.info? 3 = some i ∧ i.zero = some (.int .i64 0) ∧ i.size = 1 ∧ i.bytes ≤ 256 := by
  have h : (Tryz.prog.info? 3).map (fun i => (i.zero, i.size, i.bytes)) = some (some (.int .i64 0), 1, 8) := by kernel_rfl
  cases hq : Tryz.prog.info? 3 with
  | none => rw [hq] at h; cases h
  | some i => rw [hq] at h; simp at h; exact ⟨i, rfl, h.1, h.2.1, by omega⟩
theorem i3 : (Tryz.prog.info? 3).map (·.size) = some 1 := by kernel_rfl
theorem range1 : Array.range 1 = #[0] := by decide
theorem range0 : Array.range 0 = #[] := by decide
theorem bsl0I (w : World) : (Instr.buildSlice 23 0 #[]).run Tryz.prog w = .ok (.slice (some ⟨w.heap.size, 0, none⟩) 0 0) (w.alloc (.cells #[] 3)) := by
  simp [Instr.buildSlice, run_underlying Tryz.underlying23, sizeOf_run i3, Sem.run_bind, Instr.fill, newRow, range0]
theorem bsl1I (z : Int) (w : World) : (Instr.buildSlice 23 1 #[(0, .int .i64 z)]).run Tryz.prog w = .ok (.slice (some ⟨w.heap.size, 0, none⟩) 1 1) (w.alloc (.cells #[.int .i64 z] 3)) := by
  simp [Instr.buildSlice, run_underlying Tryz.underlying23, sizeOf_run i3, Sem.run_bind, Instr.fill, newRow, Tryz.zeroValue3, Value.cells, range1]
section
variable {ops : Array Oper} {rest : List Oper} {op : Oper} {a : Act} {w : World} {Q : Exit → Act → World → Prop}
theorem wpList_bsl0I (hgd : op.guard = none) (ho : op.op = .buildSlice 23 0 #[])
    (h : ∀ w1 : World, Below w.heap.size w w1 → w1.heap.size = w.heap.size + 1 → VL w1 3 w.heap.size (.slice (some ⟨w.heap.size, 0, none⟩) 0 0) [] → wpList Tryz.prog ops Q rest (a.put op.dst (.slice (some ⟨w.heap.size, 0, none⟩) 0 0)) w1) : wpList Tryz.prog ops Q (op :: rest) a w := by
  refine wpList_run hgd _ _ ?_ (h _ ((Below.refl _ _).alloc (Nat.le_refl _) (.cells #[] 3)) (by simp) (.inr ⟨w.heap.size, 0, Nat.le_refl _, rfl, ⟨#[], (0, 0), (Blk.new w _ _).out, by simp, by simp, .inl rfl, fun j v hv => by simp at hv⟩⟩))
  unfold execOp
  have hr := bsl0I w
  simp only [ho, Sem.run_bind, Array.map_empty, hr, Result.andThen_ok]
  rfl
theorem wpList_bsl1I (hgd : op.guard = none) (x : Operand) (ho : op.op = .buildSlice 23 1 #[(0, x)]) (z : Int) (hx : a.eval x = .int .i64 z)
    (h : ∀ w1 : World, Below w.heap.size w w1 → w1.heap.size = w.heap.size + 1 → Blk w1 w.heap.size #[.int .i64 z] 3 → wpList Tryz.prog ops Q rest (a.put op.dst (.slice (some ⟨w.heap.size, 0, none⟩) 1 1)) w1) : wpList Tryz.prog ops Q (op :: rest) a w := by
  refine wpList_run hgd _ _ ?_ (h _ ((Below.refl _ _).alloc (Nat.le_refl _) _) (by simp) (Blk.new _ _ _))
  unfold execOp
  have e : (#[(0, x)] : Array (Nat × Operand)).map (fun (i, x) => (i, a.eval x)) = #[(0, .int .i64 z)] := by simp [hx]
  have hr := bsl1I z w
  rw [← e] at hr
  simp only [ho, Sem.run_bind, hr, Result.andThen_ok]
  rfl
end
theorem VL.ia {w : World} {t : TypeId} {lo : Nat} {sl : Value} {l : List Int} (h : VL w t lo sl (l.map fun x => .int .i64 x)) : ∃ a cap, sl = .slice a l.length cap ∧ IA w a l := by
  rcases h with ⟨h1, h2⟩ | ⟨g, cap, h1, h2, h3⟩
  · obtain rfl : l = [] := List.map_eq_nil_iff.1 h1
    exact ⟨none, 0, h2, fun i x hx => by simp at hx⟩
  · refine ⟨some ⟨g, 0, none⟩, cap, by rw [h2, List.length_map], fun i x hx => ⟨g, 0, rfl, ?_⟩⟩
    rw [Nat.zero_add]
    exact h3.cell i _ (by rw [List.getElem?_map, hx]; rfl)
end Go.Proofs.YtnhlejdilldfaaaGreat
