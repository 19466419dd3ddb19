/- A slice of operations that grows. Laws of a transaction's cells. What the plain Bytes does. -/
import Derived.Test.YtjfpfkiccbcedaaGreatDoorOpc
import Derived.Test.YtjfpfkiccbcedaaGreatDoorPut
import Derived.Deep.RegionHeld3
import Derived.Test.YtjfpfkiccbcedaaGreatDoorApr
namespace Go.Proofs.YtjfpfkiccbcedaaGreatDoor
open Go Go.RowKit
theorem zRop : (∀ w, (zeroValue 133).run Tryz.prog w = .ok (.agg (opc ⟨0, [], []⟩)) w) ∧ (Tryz.prog.info? 133).map (·.size) = some 3 := zero_of_info (by kernel_rfl)
theorem zRtx : (∀ w, (zeroValue 87).run Tryz.prog w = .ok (.agg (txc 0 0 (.slice none 0 0))) w) ∧ (Tryz.prog.info? 87).map (·.size) = some 3 := zero_of_info (by kernel_rfl)
def opsC (l : List O) : List Value := l.flatMap fun o => (opc o).toList
theorem opsC_snoc (l : List O) (o : O) : opsC (l ++ [o]) = opsC l ++ (opc o).toList := by simp [opsC]
theorem opsC_cons (l : List O) (o : O) : opsC (o :: l) = (opc o).toList ++ opsC l := by simp [opsC]
theorem opsC_length : ∀ l : List O, (opsC l).length = l.length * 3
  | [] => rfl
  | o :: l => by rw [opsC_cons, List.length_append, opsC_length l, List.length_cons]; show 3 + _ = _; omega
theorem opsC_one (l : List O) : ∀ u ∈ opsC l, u.oneCell' = true := fun u hu => by
  obtain ⟨o, _, ho⟩ := List.mem_flatMap.1 hu
  exact Array.all_eq_true_iff_forall_mem.1 (opc_one o) u (by simpa using ho)
theorem opsC_get : ∀ (l : List O) (i : Nat) (h : i < l.length) (j : Nat) (v : Value), (opc l[i]).toList[j]? = some v → (opsC l)[i * 3 + j]? = some v
  | o :: l, 0, _, j, v, hv => by
    have hj : j < 3 := (List.getElem?_eq_some_iff.1 hv).1
    rw [opsC_cons, List.getElem?_append_left (by show 0 * 3 + j < 3; omega), Nat.zero_mul, Nat.zero_add]
    exact hv
  | o :: l, i + 1, h, j, v, hv => by
    rw [opsC_cons, List.getElem?_append_right (by show 3 ≤ _; omega), show (i + 1) * 3 + j - (opc o).toList.length = i * 3 + j from by show _ - 3 = _; omega]
    exact opsC_get l i (by simpa using h) j v hv
/-- Block g holds a slice's operations l, with room for cap. -/
structure OS (w : World) (t : TypeId) (g cap : Nat) (l : List O) : Prop where
  out : ∃ cur : Array Value, w.heap[g]? = some (.cells cur t (0, 0)) ∧ l.length ≤ cap ∧ cap * 3 ≤ cur.size ∧ ∀ (j : Nat) (v : Value), (opsC l)[j]? = some v → cur[j]? = some v
/-- The value sl is a slice of the operations l, from block lo on, or nil where there are none. -/
def OL (w : World) (t : TypeId) (lo : Nat) (sl : Value) (l : List O) : Prop :=
  (l = [] ∧ sl = .slice none 0 0) ∨ ∃ g cap, lo ≤ g ∧ sl = .slice (some ⟨g, 0, none⟩) l.length cap ∧ OS w t g cap l
theorem OS.lt {w : World} {t : TypeId} {g cap : Nat} {l : List O} (h : OS w t g cap l) : g < w.heap.size := by
  obtain ⟨cur, h1, _⟩ := h.out
  exact (Array.getElem?_eq_some_iff.1 h1).1
theorem OS.cell {w : World} {t : TypeId} {g cap : Nat} {l : List O} (h : OS w t g cap l) (j : Nat) (v : Value) (hv : (opsC l)[j]? = some v) : w.cell? ⟨g, j, none⟩ = some v := by
  obtain ⟨cur, h1, _, _, h4⟩ := h.out
  simp [World.cell?, h1, h4 j v hv]
theorem OS.below {w w' : World} {t : TypeId} {g cap : Nat} {l : List O} (h : OS w t g cap l) (hb : Below w.heap.size w w') : OS w' t g cap l := by
  obtain ⟨cur, h1, hr⟩ := h.out
  exact ⟨cur, by rw [hb.block g h.lt]; exact h1, hr⟩
theorem OS.grown {w w' : World} {t : TypeId} {g cap : Nat} {l : List O} {row : Option Nat} (h : OS w t g cap l) (hb : w.grownBy w' row) (hr : some g ≠ row) : OS w' t g cap l := by
  obtain ⟨cur, h1, hr'⟩ := h.out
  exact ⟨cur, by rw [hb.block g h.lt hr]; exact h1, hr'⟩
theorem OS.drew {w : World} {t : TypeId} {g cap : Nat} {l : List O} (h : OS w t g cap l) : OS w.drew t g cap l := ⟨h.out⟩
theorem OS.ne {w : World} {t ty : TypeId} {g cap i : Nat} {l : List O} {c : Array Value} (h : OS w t g cap l) (hb : Blk w i c ty) (ht : ty ≠ t) : i ≠ g := by
  intro e
  subst e
  obtain ⟨cur, h1, _⟩ := h.out
  have h2 := hb.out
  rw [h1] at h2
  simp only [Option.some.injEq, Obj.cells.injEq] at h2
  exact ht h2.2.1.symm
theorem OL.below {w w' : World} {t : TypeId} {lo : Nat} {sl : Value} {l : List O} (h : OL w t lo sl l) (hb : Below w.heap.size w w') : OL w' t lo sl l := by
  rcases h with h | ⟨g, cap, h1, h2, h3⟩
  · exact .inl h
  · exact .inr ⟨g, cap, h1, h2, h3.below hb⟩
theorem OL.drew {w : World} {t : TypeId} {lo : Nat} {sl : Value} {l : List O} (h : OL w t lo sl l) : OL w.drew t lo sl l := by
  rcases h with h | ⟨g, cap, h1, h2, h3⟩
  · exact .inl h
  · exact .inr ⟨g, cap, h1, h2, h3.drew⟩
/-- What is written into a block of another type leaves it. -/
theorem OL.grown {w w' : World} {t ty : TypeId} {lo b : Nat} {sl : Value} {l : List O} {c : Array Value} (h : OL w t lo sl l) (hb : w.grownBy w' (some b)) (hk : Blk w b c ty) (ht : ty ≠ t) : OL w' t lo sl l := by
  rcases h with h | ⟨g, cap, h1, h2, h3⟩
  · exact .inl h
  · exact .inr ⟨g, cap, h1, h2, h3.grown hb (fun e => h3.ne hk ht (Option.some.inj e).symm)⟩
theorem OL.cells {w : World} {t : TypeId} {lo : Nat} {sl : Value} {l : List O} (h : OL w t lo sl l) : sl.cells = #[sl] ∧ sl.oneCell' = true := by
  rcases h with ⟨_, rfl⟩ | ⟨g, cap, _, rfl, _⟩
  · exact ⟨rfl, rfl⟩
  · exact ⟨rfl, rfl⟩
theorem OL.sl {w : World} {t : TypeId} {lo : Nat} {sl : Value} {l : List O} (h : OL w t lo sl l) : ∃ a cap, sl = .slice a l.length cap ∧ SL w a l := by
  rcases h with ⟨rfl, rfl⟩ | ⟨g, cap, _, rfl, h3⟩
  · exact ⟨none, 0, rfl, SL.nil _ _⟩
  · refine ⟨_, cap, rfl, fun i hi => ⟨g, 0, rfl, fun j v hv => ?_⟩⟩
    rw [Nat.zero_add]
    exact h3.cell _ _ (opsC_get l i hi j v hv)
/-- Blocks of other types are as they were. -/
structure KeepsT (t : TypeId) (w w' : World) : Prop where
  out : ∀ (i : Nat) (c : Array Value) (ty : TypeId), Blk w i c ty → ty ≠ t → Blk w' i c ty
theorem KeepsT.of_below {t : TypeId} {w w' : World} (h : Below w.heap.size w w') : KeepsT t w w' := ⟨fun _ _ _ hb _ => hb.belowSize h⟩
theorem KeepsT.of_ops {w w' : World} {t : TypeId} {g cap : Nat} {l : List O} (h : w.grownBy w' (some g)) (hs : OS w t g cap l) : KeepsT t w w' := ⟨fun _ _ _ hb ht => hb.grown h (fun e => hs.ne hb ht (Option.some.inj e))⟩
section
variable {P : Program} {ops : Array Oper} {rest : List Oper} {op : Oper} {a : Act} {w : World} {Q : Exit → Act → World → Prop}
theorem run_appendOL (st ty t : TypeId) (lo : Nat) (sl : Value) (l : List O) (hlo : lo ≤ w.heap.size) (hsl : OL w t lo sl l) (g2 c : Nat) (o : O) (t2 : TypeId) (hb2 : Blk w g2 (opc o) t2) (i : TypeInfo) (z : O)
    (hu : P.underlying st = some (.slice t)) (hi : P.info? t = some i) (hz : i.zero = some (.agg (opc z))) (hs : i.size = 3) (hby : i.bytes ≤ 64) (hlen : l.length ≤ 1000000) :
    ∃ (w1 : World) (sl1 : Value), (Builtin.append_ #[st, st] ty #[sl, .slice (some ⟨g2, 0, none⟩) 1 c]).run P w = .ok sl1 w1 ∧ Below lo w w1 ∧ KeepsT t w w1 ∧ OL w1 t lo sl1 (l ++ [o]) := by
  have hsrc : Src P i.size st (.slice (some ⟨g2, 0, none⟩) 1 c) 1 (opc o).toList w :=
    Src.ofSlice w hu ⟨g2, 0, none⟩ 1 c _ (by rw [hs]; rfl) (fun j u hj => by
      rw [Addr.add_mid, Nat.zero_add, hb2.cell]
      simpa using hj)
      (fun u hu => Array.all_eq_true_iff_forall_mem.1 (opc_one o) u (by simpa using hu))
  have h3 : (opc o).toList.length = 3 := rfl
  have hgrow : ∀ (base : Option Addr) (cap : Nat), cap < l.length + 1 → (Builtin.firstCells i.size l.length (.slice base l.length cap)).run P w.drew = .ok (opsC l).toArray w.drew →
      ∃ (w1 : World) (sl1 : Value), (Builtin.append_ #[st, st] ty #[.slice base l.length cap, .slice (some ⟨g2, 0, none⟩) 1 c]).run P w = .ok sl1 w1 ∧ Below lo w w1 ∧ KeepsT t w w1 ∧ OL w1 t lo sl1 (l ++ [o]) := by
    intro base cap hcap hold
    have hr := run_append_grow_src (P := P) w st st ty t i _ hu hi hz base l.length cap _ hold _ 1 _ hsrc hcap (by omega) (growslice_fits hcap (Nat.le_trans (Nat.mul_le_mul (show l.length + 1 ≤ 1000001 by omega) hby) (by decide)))
    have hge : l.length + 1 ≤ grownCap w (l.length + 1) cap t := grownCap_ge w _ _ _
    refine ⟨_, _, hr, (Below.refl lo w).drew.alloc hlo _, KeepsT.of_below ((Below.refl w.heap.size w).drew.alloc (Nat.le_refl _) _), .inr ⟨w.heap.size, _, hlo, by rw [List.length_append]; rfl, ?_⟩⟩
    refine ⟨_, heap_alloc_last w.drew _, by rw [List.length_append]; exact hge, ?_, ?_⟩
    · simp only [Array.size_append, List.size_toArray, List.length_append, opsC_length, h3, size_zeroCells, Value.cells, opc_size]
      omega
    · intro j v hj
      rw [opsC_snoc] at hj
      have hjl := (List.getElem?_eq_some_iff.1 hj).1
      rw [Array.getElem?_append_left (by simpa using hjl)]
      simpa using hj
  rcases hsl with ⟨rfl, rfl⟩ | ⟨g, cap, hg, rfl, hS⟩
  · exact hgrow none 0 (by simp) (run_firstCells_none (w := w.drew) i.size 0 0 0)
  · by_cases hroom : l.length + 1 ≤ cap
    · obtain ⟨cur, h1, h2, h4, h5⟩ := hS.out
      have hcell : ∀ j, j < 3 → (w.cell? ⟨g, l.length * 3 + j, none⟩).isSome = true := fun j hj => by
        simp only [World.cell?, h1]
        rw [Array.getElem?_eq_getElem (by omega)]; rfl
      have hfro : ∀ j, j < 3 → w.frozen? ⟨g, l.length * 3 + j, none⟩ = false := fun j hj => by
        simp [World.frozen?, h1]
      have hr := run_append_room_src (P := P) w st st ty t i hu hi g 0 l.length cap _ 1 _ hsrc hroom
        (fun j hj => by rw [hs, Nat.zero_add]; exact hcell j hj)
        (fun j hj => by rw [hs, Nat.zero_add]; exact hfro j hj)
      rw [hs, Nat.zero_add] at hr
      have hgr := grown_setCells g (opc o).toList (l.length * 3) w
      refine ⟨_, _, hr, below_of_grown hgr hg hlo, KeepsT.of_ops hgr hS, .inr ⟨g, cap, hg, by rw [List.length_append]; rfl, ?_⟩⟩
      have hblk : Blk w g cur t := ⟨h1⟩
      refine ⟨_, (hblk.setCells (opc o).toList (l.length * 3)).out, by rw [List.length_append]; exact hroom, by rw [spl_size]; exact h4, ?_⟩
      intro j v hj
      rw [spl_get _ _ _ _ (by rw [h3]; omega), h3]
      rw [opsC_snoc] at hj
      by_cases hjl : j < l.length * 3
      · rw [if_neg (by omega)]
        rw [List.getElem?_append_left (by rw [opsC_length]; exact hjl)] at hj
        exact h5 j v hj
      · have hj3 := (List.getElem?_eq_some_iff.1 hj).1
        rw [List.length_append, opsC_length, h3] at hj3
        rw [if_pos (by omega)]
        rw [List.getElem?_append_right (by rw [opsC_length]; omega), opsC_length] at hj
        exact hj
    · exact hgrow (some ⟨g, 0, none⟩) cap (by omega) (run_firstCells_some w.drew i.size l.length ⟨g, 0, none⟩ l.length cap _ (by rw [opsC_length, hs]) (fun j u hj => by
        rw [Addr.add_mid, Nat.zero_add]; exact hS.drew.cell j u hj))
theorem wp_appendOL {K : Act → World → Prop} (x y : Operand) (st t : TypeId) (ho : op.op = .call { callee := .builtin .append, args := #[x, y], argTypes := #[st, st] })
    (lo : Nat) (sl : Value) (l : List O) (hlo : lo ≤ w.heap.size) (hx : a.eval x = sl) (hsl : OL w t lo sl l) (g2 c : Nat) (hy : a.eval y = .slice (some ⟨g2, 0, none⟩) 1 c) (o : O) (t2 : TypeId) (hb2 : Blk w g2 (opc o) t2) (i : TypeInfo) (z : O)
    (hu : P.underlying st = some (.slice t)) (hi : P.info? t = some i) (hz : i.zero = some (.agg (opc z))) (hs : i.size = 3) (hby : i.bytes ≤ 64) (hlen : l.length ≤ 1000000)
    (h : ∀ (w1 : World) (sl1 : Value), Below lo w w1 → KeepsT t w w1 → OL w1 t lo sl1 (l ++ [o]) → K (a.put op.dst sl1) w1) : op.wp P a w K Q := by
  obtain ⟨w1, sl1, hr, hb, hkp, hl⟩ := run_appendOL (P := P) (w := w) st op.type t lo sl l hlo hsl g2 c o t2 hb2 i z hu hi hz hs hby hlen
  refine wp_run _ _ ?_ (h w1 sl1 hb hkp hl)
  unfold execOp
  simp only [ho]
  simp [resolve, invoke, builtin, hx, hy, hr, Result.andThen]
end
theorem infoOp : ∃ i, Tryz.prog.info? 90 = some i ∧ i.zero = some (.agg (opc ⟨0, [], []⟩)) ∧ i.size = 3 ∧ i.bytes ≤ 64 := by
  have h : (Tryz.prog.info? 90).map (fun i => (i.zero, i.size, i.bytes)) = some (some (.agg (opc ⟨0, [], []⟩)), 3, 40) := by kernel_rfl
  cases hq : Tryz.prog.info? 90 with
  | none => rw [hq] at h; cases h
  | some i => rw [hq] at h; simp at h; exact ⟨i, rfl, h.1, h.2.1, by omega⟩
theorem infoRop : ∃ i, Tryz.prog.info? 133 = some i ∧ i.zero = some (.agg (opc ⟨0, [], []⟩)) ∧ i.size = 3 ∧ i.bytes ≤ 64 := by
  have h : (Tryz.prog.info? 133).map (fun i => (i.zero, i.size, i.bytes)) = some (some (.agg (opc ⟨0, [], []⟩)), 3, 40) := by kernel_rfl
  cases hq : Tryz.prog.info? 133 with
  | none => rw [hq] at h; cases h
  | some i => rw [hq] at h; simp at h; exact ⟨i, rfl, h.1, h.2.1, by omega⟩
theorem range3 : Array.range 3 = #[0, 1, 2] := by decide
theorem bslOp (o : O) (w : World) : (Instr.buildSlice 58 1 #[(0, .agg (opc o))]).run Tryz.prog w = .ok (.slice (some ⟨w.heap.size, 0, none⟩) 1 1) (w.alloc (.cells (opc o) 90)) := by
  simp [Instr.buildSlice, run_underlying Tryz.underlying58, sizeOf_run zOp.2, Sem.run_bind, Instr.fill, newRow, zOp.1, Value.cells, opc, range3]
theorem run_bslOp {op : Oper} {a : Act} {w : World} (x : Operand) (ho : op.op = .buildSlice 58 1 #[(0, x)]) (o : O) (hx : a.eval x = .agg (opc o)) : (execOp a.eval op).run Tryz.prog w = .ok (.value (.slice (some ⟨w.heap.size, 0, none⟩) 1 1)) (w.alloc (.cells (opc o) 90)) := by
  unfold execOp
  have e : (#[(0, x)] : Array (Nat × Operand)).map (fun (i, x) => (i, a.eval x)) = #[(0, .agg (opc o))] := by simp [hx]
  have hr := bslOp o w
  rw [← e] at hr
  simp only [ho, Sem.run_bind, hr, Result.andThen_ok]
  rfl
theorem wpList_bslOp {ops : Array Oper} {rest : List Oper} {op : Oper} {a : Act} {w : World} {Q : Exit → Act → World → Prop} (hgd : op.guard = none) (x : Operand) (ho : op.op = .buildSlice 58 1 #[(0, x)]) (o : O) (hx : a.eval x = .agg (opc o))
    (h : ∀ w1 : World, Below w.heap.size w w1 → w1.heap.size = w.heap.size + 1 → Blk w1 w.heap.size (opc o) 90 → wpList Tryz.prog ops Q rest (a.put op.dst (.slice (some ⟨w.heap.size, 0, none⟩) 1 1)) w1) : wpList Tryz.prog ops Q (op :: rest) a w :=
  wpList_run hgd _ _ (run_bslOp x ho o hx) (h _ ((Below.refl _ _).alloc (Nat.le_refl _) _) (by simp) (Blk.new _ _ _))
theorem bslRop (o : O) (w : World) : (Instr.buildSlice 85 1 #[(0, .agg (opc o))]).run Tryz.prog w = .ok (.slice (some ⟨w.heap.size, 0, none⟩) 1 1) (w.alloc (.cells (opc o) 133)) := by
  simp [Instr.buildSlice, run_underlying Tryz.underlying85, sizeOf_run zRop.2, Sem.run_bind, Instr.fill, newRow, zRop.1, Value.cells, opc, range3]
theorem run_bslRop {op : Oper} {a : Act} {w : World} (x : Operand) (ho : op.op = .buildSlice 85 1 #[(0, x)]) (o : O) (hx : a.eval x = .agg (opc o)) : (execOp a.eval op).run Tryz.prog w = .ok (.value (.slice (some ⟨w.heap.size, 0, none⟩) 1 1)) (w.alloc (.cells (opc o) 133)) := by
  unfold execOp
  have e : (#[(0, x)] : Array (Nat × Operand)).map (fun (i, x) => (i, a.eval x)) = #[(0, .agg (opc o))] := by simp [hx]
  have hr := bslRop o w
  rw [← e] at hr
  simp only [ho, Sem.run_bind, hr, Result.andThen_ok]
  rfl
theorem wp_bslRop {op : Oper} {a : Act} {w : World} {K : Act → World → Prop} {Q : Exit → Act → World → Prop} (x : Operand) (ho : op.op = .buildSlice 85 1 #[(0, x)]) (o : O) (hx : a.eval x = .agg (opc o))
    (h : ∀ w1 : World, Below w.heap.size w w1 → w1.heap.size = w.heap.size + 1 → Blk w1 w.heap.size (opc o) 133 → K (a.put op.dst (.slice (some ⟨w.heap.size, 0, none⟩) 1 1)) w1) : op.wp Tryz.prog a w K Q :=
  wp_run _ _ (run_bslRop x ho o hx) (h _ ((Below.refl _ _).alloc (Nat.le_refl _) _) (by simp) (Blk.new _ _ _))
end Go.Proofs.YtjfpfkiccbcedaaGreatDoor
namespace Go.Proofs.YtjfpfkiccbcedaaGreatDoor
open Go Go.RowKit
theorem txc_set2 (c n : Nat) (sl sl' : Value) : (txc c n sl).setIfInBounds 2 sl' = txc c n sl' := rfl
theorem iSl : (Tryz.prog.info? 58).map (·.size) = some 1 := by kernel_rfl
section
variable {P : Program} {op : Oper} {a : Act} {w : World} {K : Act → World → Prop} {Q : Exit → Act → World → Prop}
theorem run_loadCellB (ty : TypeId) (x : Operand) (ho : op.op = .load ty x) (b o : Nat) (hx : a.eval x = .pointer (some ⟨b, o, none⟩))
    (c : Array Value) (t : TypeId) (hb : Blk w b c t) (d : TypeDesc) (hu : P.underlying ty = some d) (hd : d.isRow = false) (v : Value) (hv : c[o]? = some v) :
    (execOp a.eval op).run P w = .ok (.value v) w := by
  have hc : w.cell? ⟨b, o, none⟩ = some v := (hb.cell o).trans hv
  unfold execOp
  simp only [ho, hx]
  simp [Instr.loadAt, Instr.sureAddr, Sem.run_bind, loadVar, isAgg_run hu hd, hc, go_sem]
/-- One cell into a block that is known whole. -/
theorem wp_storeCellB (ty : TypeId) (x y : Operand) (ho : op.op = .store ty x y) (b o : Nat) (hx : a.eval x = .pointer (some ⟨b, o, none⟩)) (v : Value) (hy : a.eval y = v)
    (c : Array Value) (t : TypeId) (hb : Blk w b c t) (hi : (P.info? ty).map (·.size) = some 1) (hv : v.cells = #[v]) (h1 : v.oneCell' = true) (hn : o < c.size)
    (h : ∀ w1 : World, w.grownBy w1 (some b) → w1.heap.size = w.heap.size → Blk w1 b (c.setIfInBounds o v) t → K (a.put op.dst undef) w1) : op.wp P a w K Q := by
  unfold Oper.wp execOp
  have hs : (storeVar ty ⟨b, o, none⟩ v).run P w = .ok () (w.setCells b o [v]) := by
    have := run_storeCells_cells (P := P) b o [v] 0 w (fun j hj => (hb.there o 1 (by omega) j (by simpa using hj)).1) (fun j hj => (hb.there o 1 (by omega) j (by simpa using hj)).2) (fun u hu => by simp at hu; subst hu; exact h1)
    simp only [Nat.add_zero] at this
    simp [storeVar, Sem.run_bind, sizeOf_run hi, hv, this]
  simp only [ho, hx, hy, Instr.storeAt, Instr.sureAddr, Sem.run_bind, Sem.run_pure, Result.andThen_ok, hs]
  exact h _ (grown_setCells _ _ _ _) (size_setCells _ _ _ _) (hb.setCells [v] o)
end
end Go.Proofs.YtjfpfkiccbcedaaGreatDoor
namespace Go.Proofs.YtjfpfkiccbcedaaGreatDoor
open Go Go.RowKit
attribute [local go_sem] mkApp2
/-- Transactions whose operations may be. -/
structure OkL (t : TX) : Prop where
  len1 : t.ops.length ≤ 8
  okO : ∀ {o : O}, o ∈ t.ops → OkO o
theorem OkT.l {t : TX} (h : OkT t) : OkL t := ⟨h.len1, fun ho => h.okO ho⟩
theorem txB_leL {t : TX} (h : OkL t) : (txB t).length ≤ 860 := by
  have h1 := opsB_le t.ops (fun o ho => h.okO ho)
  have h2 := h.len1
  rw [txB, List.length_append, hdB_length]
  omega
set_option maxRecDepth 100000 in
set_option maxHeartbeats 400000 in
theorem rtxb_any (t : TX) (ht : OkL t) (hc : t.client < 18446744073709551616) (hn : t.nonce < 18446744073709551616) (a : Option Addr) (cap : Nat) (w : World) (h : SL w a t.ops) :
    Calls Tryz.prog 64 #[.agg (txc t.client t.nonce (.slice a t.ops.length cap))] w fun e w' => e = .returned (.string ⟨(txB t).toArray⟩) ∧ Below w.heap.size w w' := by
  obtain ⟨c, n, l⟩ := t
  have hl8 := ht.len1
  have hall : ∀ o ∈ l, OkO o := fun o ho => ht.okO ho
  have HT : Hid (txB ⟨c, n, l⟩ = hdB c n l.length ++ opsB l) := by exact rfl
  rw [HT.out]
  clear HT ht
  dsimp only at *
  have H1 := fun w => rnum_any c 8 w hc
  have H2 := fun w => rnum_any n 8 w hn
  have H3 := fun w => rnum_any l.length 4 w (by omega)
  rw [show cut8 8 = 8 from rfl] at H1 H2
  rw [show cut8 4 = 4 from rfl] at H3
  have h64 := wrap_u64_nat l.length (by omega)
  have HD : Hid (hdB c n l.length = (num c 8 ++ num n 8) ++ num l.length 4) := (List.append_assoc _ _ _).symm
  have hhd := hdB_length c n l.length
  have hn1 := num_length 8 c
  have hn2 := num_length 8 n
  have hn3 := num_length 4 l.length
  go_enter Tryz.func64, Tryz.ntmps64
  go_wp2_with (with_reducible refine at_list ?_; first
    | (refine wpList_boxRow (op := ⟨some 1, _, _, _, _, _⟩) rfl _ _ rfl _ rfl ?_; intro w1 hw1 hs1 hb1; replace hs1 := hs1.symm; have c0 := (hb1.cell 0).trans (txc_g0 _ _ _); have c1 := (hb1.cell 1).trans (txc_g1 _ _ _); have c2 := (hb1.cell 2).trans (txc_g2 _ _ _)))
  go_region_held3 (fun w' => w'.cell? ⟨w.heap.size, 0, none⟩ = some (.int .u64 (c : Nat)) ∧ w'.cell? ⟨w.heap.size, 1, none⟩ = some (.int .u64 (n : Nat)) ∧ w'.cell? ⟨w.heap.size, 2, none⟩ = some (.slice a l.length cap)) ((go_split_ands; first | exact ⟨c0, c1, c2⟩ | exact ⟨cell_keep (by assumption) (by assumption), cell_keep (by assumption) (by assumption), cell_keep (by assumption) (by assumption)⟩)) (first
    | (go_at_call 71; refine (H1 _).mono ?_; rintro e w2 ⟨rfl, hw2⟩; clear H1)
    | (go_at_call 71; refine (H2 _).mono ?_; rintro e w3 ⟨rfl, hw3⟩; clear H2)
    | (go_at_call 71; refine (H3 _).mono ?_; rintro e w4 ⟨rfl, hw4⟩; clear H3))
  have hB4 : Below w.heap.size w w4 := ((hw1.trans ((Below.refl _ _).drew.trans (hw2.mono (Nat.le_refl _)) |>.mono hw1.size)).trans (hw3.mono (Nat.le_trans hw1.size hw2.size))).trans (hw4.mono (Nat.le_trans (Nat.le_trans hw1.size hw2.size) hw3.size))
  have hb4 : Blk w4 w.heap.size (txc c n (.slice a l.length cap)) 87 := ((hb1.drew.belowSize hw2).belowSize hw3).belowSize hw4
  rw [show num c 8 ++ (num n 8 ++ num l.length 4) = hdB c n l.length from rfl]
  clear c0 c1 c2 hb1 hw1 hs1 hw2 hw3 hw4 hn1 hn2 hn3 HD h64
  go_wp2_with fail
  go_loopw [3, 4] (fun v3 v4 wl => ∃ i : Nat, i ≤ l.length ∧ v3 = .string ⟨(hdB c n l.length ++ opsB (l.take i)).toArray⟩ ∧ v4 = .int .i64 i ∧ Below w.heap.size w wl ∧ Blk wl w.heap.size (txc c n (.slice a l.length cap)) 87) (fun _ v4 _ => l.length - (intOf v4).toNat)
  case atStart => exact ⟨0, by omega, by rw [List.take_zero, opsB_nil, List.append_nil], rfl, hB4, hb4⟩
  case round =>
    obtain ⟨i, hi, rfl, rfl, hB, hM⟩ := hrel
    have c2 := (hM.cell 2).trans (txc_g2 _ _ _)
    clear hB4 hb4
    by_cases hlt : i < l.length
    · obtain ⟨g, o, rfl⟩ := h.ex (by omega)
      have hr := (h.below hB).at i hlt
      have hO := hall _ (List.getElem_mem hlt)
      have hT : Hid (opsB (l.take (i + 1)) = opsB (l.take i) ++ opB l[i]) := by
        rw [List.take_succ_eq_append_getElem hlt, opsB_snoc]
        exact rfl
      have hlen := opsB_le (l.take i) (fun o ho => hall o (List.mem_of_mem_take ho))
      rw [List.length_take] at hlen
      generalize l[i] = y at *
      obtain ⟨k, key, vv⟩ := y
      obtain ⟨hk0, hk1, hy0, hy1, hv1⟩ := hO
      dsimp only at hk0 hk1 hy0 hy1 hv1
      obtain ⟨m, rfl⟩ : ∃ m : Nat, k = m := ⟨k.toNat, by omega⟩
      have HT2 : Hid (opB ⟨(m : Nat), key, vv⟩ = num m 1 ++ ((num key.length 4 ++ key) ++ (num vv.length 4 ++ vv))) := by exact rfl
      rw [HT2.out] at hT
      clear HT2
      have d0 : wr.cell? ⟨g, o + i * 3, none⟩ = some (.int .i64 (m : Nat)) := hr 0 _ rfl
      have d1 : wr.cell? ⟨g, o + i * 3 + 1, none⟩ = some (.string ⟨key.toArray⟩) := hr 1 _ rfl
      have d2 : wr.cell? ⟨g, o + i * 3 + 2, none⟩ = some (.string ⟨vv.toArray⟩) := hr 2 _ rfl
      generalize opsB (l.take i) = ob at *
      have hm64 := wrap_u64_nat m (by omega)
      have G1 := fun w => rnum_any m 1 w (by omega)
      rw [show cut8 1 = 1 from rfl] at G1
      have G2 := fun w => rtext_str key w (by omega)
      have G3 := fun w => rtext_str vv w (by omega)
      have hn1 := num_length 1 m
      have hn2 : (num key.length 4 ++ key).length = 4 + key.length := by rw [List.length_append, num_length]
      have hn3 : (num vv.length 4 ++ vv).length = 4 + vv.length := by rw [List.length_append, num_length]
      generalize num key.length 4 ++ key = tk at *
      generalize num vv.length 4 ++ vv = tv at *
      generalize num m 1 = tm at *
      have hz1 : (0 : Int) ≤ (i : Int) := by omega
      have hz2 : (i : Int) < (l.length : Int) := by omega
      have HL : Hid ((hdB c n l.length ++ ob).length = 20 + ob.length) := by rw [List.length_append, hhd]; exact rfl
      have HLL := HL.out
      obtain ⟨tb, htb⟩ : ∃ tb, tb = hdB c n l.length ++ ob := ⟨_, rfl⟩
      have HTB : Hid (hdB c n l.length ++ ob = tb) := htb.symm
      rw [← htb] at HLL ⊢
      clear htb
      have f1 : ¬ 9223372036854775807 < tm.length + tk.length := by omega
      have f2 : ¬ 9223372036854775807 < tm.length + tk.length + tv.length := by omega
      have f3 : ¬ 9223372036854775807 < tb.length + (tm.length + (tk.length + tv.length)) := by omega
      clear hn1 hn2 hn3 HLL HL hlen
      go_wp2_with fail
      go_region_held3 (fun w' => w'.cell? ⟨w.heap.size, 2, none⟩ = some (.slice (some ⟨g, o, none⟩) l.length cap) ∧ w'.cell? ⟨g, o + i * 3, none⟩ = some (.int .i64 (m : Nat)) ∧ w'.cell? ⟨g, o + i * 3 + 1, none⟩ = some (.string ⟨key.toArray⟩) ∧ w'.cell? ⟨g, o + i * 3 + 2, none⟩ = some (.string ⟨vv.toArray⟩)) ((go_split_ands; first | exact ⟨c2, d0, d1, d2⟩ | exact ⟨cell_keep (by assumption) (by assumption), cell_keep (by assumption) (by assumption), cell_keep (by assumption) (by assumption), cell_keep (by assumption) (by assumption)⟩)) (first
        | (go_at_call 71; refine (G1 _).mono ?_; rintro e w5 ⟨rfl, hw5⟩; clear G1)
        | (go_at_call 72; refine (G2 _).mono ?_; rintro e w6 ⟨rfl, hw6⟩; clear G2)
        | (go_at_call 72; refine (G3 _).mono ?_; rintro e w7 ⟨rfl, hw7⟩; clear G3))
      have hB7 : Below w.heap.size w w7 := ((hB.trans ((Below.refl _ _).drew.trans (hw5.mono (Nat.le_refl _)) |>.mono hB.size)).trans (hw6.mono (Nat.le_trans hB.size hw5.size))).trans (hw7.mono (Nat.le_trans (Nat.le_trans hB.size hw5.size) hw6.size))
      have hM7 := ((hM.drew.belowSize hw5).belowSize hw6).belowSize hw7
      clear hB hM c2 d0 d1 d2 hw5 hw6 hw7 hr
      go_wp2_with fail
      go_roundw
      case rel => exact ⟨i + 1, by omega, by rw [hT.out, ← HTB.out]; simp only [List.append_assoc], by go_num, hB7, hM7⟩
      case measure => simp [intOf]; omega
    · have hT : Hid (l.take i = l) := List.take_of_length_le (by omega)
      rw [hT.out]
      clear hT
      go_wp2_with fail
      go_ret
      exact ⟨rfl, hB⟩
end Go.Proofs.YtjfpfkiccbcedaaGreatDoor
