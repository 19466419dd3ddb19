/- A slice of operations that grows. Laws of a transaction's cells. What the plain Bytes does. What Ref does. -/
import Derived.Test.YtmbdhngoldganaaGreatDoorChk
import Derived.Test.YtmbdhngoldganaaGreatDoorPut
import Derived.Deep.RegionHeld3
import Derived.Test.YtmbdhngoldganaaGreatDoorKys
namespace Go.Proofs.YtmbdhngoldganaaGreatDoor
open Go Go.RowKit
theorem zRop : (∀ w, (zeroValue 146).run Tryz.prog w = .ok (.agg (opc ⟨0, [], []⟩)) w) ∧ (Tryz.prog.info? 146).map (·.size) = some 3 := zero_of_info (by kernel_rfl)
theorem zRtx : (∀ w, (zeroValue 91).run Tryz.prog w = .ok (.agg (txc 0 0 (.slice none 0 0))) w) ∧ (Tryz.prog.info? 91).map (·.size) = some 3 := zero_of_info (by kernel_rfl)
def opsC (l : List O) : List Value := l.flatMap fun o => (opc o).toList
theorem opsC_snoc (l : List O) (o : O) : opsC (l ++ [o]) = opsC l ++ (opc o).toList := by simp [opsC]
theorem opsC_cons (l : List O) (o : O) : opsC (o :: l) = (opc o).toList ++ opsC l := by simp [opsC]
theorem opsC_length : ∀ l : List O, (opsC l).length = l.length * 3
  | [] => rfl
  | o :: l => by rw [opsC_cons, List.length_append, opsC_length l, List.length_cons]; show 3 + _ = _; omega
theorem opsC_one (l : List O) : ∀ u ∈ opsC l, u.oneCell' = true := fun u hu => by
  obtain ⟨o, _, ho⟩ := List.mem_flatMap.1 hu
  exact Array.all_eq_true_iff_forall_mem.1 (opc_one o) u (by simpa using ho)
theorem opsC_get : ∀ (l : List O) (i : Nat) (h : i < l.length) (j : Nat) (v : Value), (opc l[i]).toList[j]? = some v → (opsC l)[i * 3 + j]? = some v
  | o :: l, 0, _, j, v, hv => by
    have hj : j < 3 := (List.getElem?_eq_some_iff.1 hv).1
    rw [opsC_cons, List.getElem?_append_left (by show 0 * 3 + j < 3; omega), Nat.zero_mul, Nat.zero_add]
    exact hv
  | o :: l, i + 1, h, j, v, hv => by
    rw [opsC_cons, List.getElem?_append_right (by show 3 ≤ _; omega), show (i + 1) * 3 + j - (opc o).toList.length = i * 3 + j from by show _ - 3 = _; omega]
    exact opsC_get l i (by simpa using h) j v hv
/-- Block g holds a slice's operations l, with room for cap. -/
structure OS (w : World) (t : TypeId) (g cap : Nat) (l : List O) : Prop where
  out : ∃ cur : Array Value, w.heap[g]? = some (.cells cur t (0, 0)) ∧ l.length ≤ cap ∧ cap * 3 ≤ cur.size ∧ ∀ (j : Nat) (v : Value), (opsC l)[j]? = some v → cur[j]? = some v
/-- The value sl is a slice of the operations l, from block lo on, or nil where there are none. -/
def OL (w : World) (t : TypeId) (lo : Nat) (sl : Value) (l : List O) : Prop :=
  (l = [] ∧ sl = .slice none 0 0) ∨ ∃ g cap, lo ≤ g ∧ sl = .slice (some ⟨g, 0, none⟩) l.length cap ∧ OS w t g cap l
theorem OS.lt {w : World} {t : TypeId} {g cap : Nat} {l : List O} (h : OS w t g cap l) : g < w.heap.size := by
  obtain ⟨cur, h1, _⟩ := h.out
  exact (Array.getElem?_eq_some_iff.1 h1).1
theorem OS.cell {w : World} {t : TypeId} {g cap : Nat} {l : List O} (h : OS w t g cap l) (j : Nat) (v : Value) (hv : (opsC l)[j]? = some v) : w.cell? ⟨g, j, none⟩ = some v := by
  obtain ⟨cur, h1, _, _, h4⟩ := h.out
  simp [World.cell?, h1, h4 j v hv]
theorem OS.below {w w' : World} {t : TypeId} {g cap : Nat} {l : List O} (h : OS w t g cap l) (hb : Below w.heap.size w w') : OS w' t g cap l := by
  obtain ⟨cur, h1, hr⟩ := h.out
  exact ⟨cur, by rw [hb.block g h.lt]; exact h1, hr⟩
theorem OS.grown {w w' : World} {t : TypeId} {g cap : Nat} {l : List O} {row : Option Nat} (h : OS w t g cap l) (hb : w.grownBy w' row) (hr : some g ≠ row) : OS w' t g cap l := by
  obtain ⟨cur, h1, hr'⟩ := h.out
  exact ⟨cur, by rw [hb.block g h.lt hr]; exact h1, hr'⟩
theorem OS.drew {w : World} {t : TypeId} {g cap : Nat} {l : List O} (h : OS w t g cap l) : OS w.drew t g cap l := ⟨h.out⟩
theorem OS.ne {w : World} {t ty : TypeId} {g cap i : Nat} {l : List O} {c : Array Value} (h : OS w t g cap l) (hb : Blk w i c ty) (ht : ty ≠ t) : i ≠ g := by
  intro e
  subst e
  obtain ⟨cur, h1, _⟩ := h.out
  have h2 := hb.out
  rw [h1] at h2
  simp only [Option.some.injEq, Obj.cells.injEq] at h2
  exact ht h2.2.1.symm
theorem OL.below {w w' : World} {t : TypeId} {lo : Nat} {sl : Value} {l : List O} (h : OL w t lo sl l) (hb : Below w.heap.size w w') : OL w' t lo sl l := by
  rcases h with h | ⟨g, cap, h1, h2, h3⟩
  · exact .inl h
  · exact .inr ⟨g, cap, h1, h2, h3.below hb⟩
theorem OL.drew {w : World} {t : TypeId} {lo : Nat} {sl : Value} {l : List O} (h : OL w t lo sl l) : OL w.drew t lo sl l := by
  rcases h with h | ⟨g, cap, h1, h2, h3⟩
  · exact .inl h
  · exact .inr ⟨g, cap, h1, h2, h3.drew⟩
/-- What is written into a block of another type leaves it. -/
theorem OL.grown {w w' : World} {t ty : TypeId} {lo b : Nat} {sl : Value} {l : List O} {c : Array Value} (h : OL w t lo sl l) (hb : w.grownBy w' (some b)) (hk : Blk w b c ty) (ht : ty ≠ t) : OL w' t lo sl l := by
  rcases h with h | ⟨g, cap, h1, h2, h3⟩
  · exact .inl h
  · exact .inr ⟨g, cap, h1, h2, h3.grown hb (fun e => h3.ne hk ht (Option.some.inj e).symm)⟩
theorem OL.cells {w : World} {t : TypeId} {lo : Nat} {sl : Value} {l : List O} (h : OL w t lo sl l) : sl.cells = #[sl] ∧ sl.oneCell' = true := by
  rcases h with ⟨_, rfl⟩ | ⟨g, cap, _, rfl, _⟩
  · exact ⟨rfl, rfl⟩
  · exact ⟨rfl, rfl⟩
theorem OL.sl {w : World} {t : TypeId} {lo : Nat} {sl : Value} {l : List O} (h : OL w t lo sl l) : ∃ a cap, sl = .slice a l.length cap ∧ SL w a l := by
  rcases h with ⟨rfl, rfl⟩ | ⟨g, cap, _, rfl, h3⟩
  · exact ⟨none, 0, rfl, SL.nil _ _⟩
  · refine ⟨_, cap, rfl, fun i hi => ⟨g, 0, rfl, fun j v hv => ?_⟩⟩
    rw [Nat.zero_add]
    exact h3.cell _ _ (opsC_get l i hi j v hv)
/-- Blocks of other types are as they were. -/
structure KeepsT (t : TypeId) (w w' : World) : Prop where
  out : ∀ (i : Nat) (c : Array Value) (ty : TypeId), Blk w i c ty → ty ≠ t → Blk w' i c ty
theorem KeepsT.of_below {t : TypeId} {w w' : World} (h : Below w.heap.size w w') : KeepsT t w w' := ⟨fun _ _ _ hb _ => hb.belowSize h⟩
theorem KeepsT.of_ops {w w' : World} {t : TypeId} {g cap : Nat} {l : List O} (h : w.grownBy w' (some g)) (hs : OS w t g cap l) : KeepsT t w w' := ⟨fun _ _ _ hb ht => hb.grown h (fun e => hs.ne hb ht (Option.some.inj e))⟩
section
variable {P : Program} {ops : Array Oper} {rest : List Oper} {op : Oper} {a : Act} {w : World} {Q : Exit → Act → World → Prop}
theorem run_appendOL (st ty t : TypeId) (lo : Nat) (sl : Value) (l : List O) (hlo : lo ≤ w.heap.size) (hsl : OL w t lo sl l) (g2 c : Nat) (o : O) (t2 : TypeId) (hb2 : Blk w g2 (opc o) t2) (i : TypeInfo) (z : O)
    (hu : P.underlying st = some (.slice t)) (hi : P.info? t = some i) (hz : i.zero = some (.agg (opc z))) (hs : i.size = 3) (hby : i.bytes ≤ 256) (hlen : l.length ≤ 1000000) :
    ∃ (w1 : World) (sl1 : Value), (Builtin.append_ #[st, st] ty #[sl, .slice (some ⟨g2, 0, none⟩) 1 c]).run P w = .ok sl1 w1 ∧ Below lo w w1 ∧ KeepsT t w w1 ∧ OL w1 t lo sl1 (l ++ [o]) := by
  have hsrc : Src P i.size st (.slice (some ⟨g2, 0, none⟩) 1 c) 1 (opc o).toList w :=
    Src.ofSlice w hu ⟨g2, 0, none⟩ 1 c _ (by rw [hs]; rfl) (fun j u hj => by
      rw [Addr.add_mid, Nat.zero_add, hb2.cell]
      simpa using hj)
      (fun u hu => Array.all_eq_true_iff_forall_mem.1 (opc_one o) u (by simpa using hu))
  have h3 : (opc o).toList.length = 3 := rfl
  have hgrow : ∀ (base : Option Addr) (cap : Nat), cap < l.length + 1 → (Builtin.firstCells i.size l.length (.slice base l.length cap)).run P w.drew = .ok (opsC l).toArray w.drew →
      ∃ (w1 : World) (sl1 : Value), (Builtin.append_ #[st, st] ty #[.slice base l.length cap, .slice (some ⟨g2, 0, none⟩) 1 c]).run P w = .ok sl1 w1 ∧ Below lo w w1 ∧ KeepsT t w w1 ∧ OL w1 t lo sl1 (l ++ [o]) := by
    intro base cap hcap hold
    have hr := run_append_grow_src (P := P) w st st ty t i _ hu hi hz base l.length cap _ hold _ 1 _ hsrc hcap (by omega) (growslice_fits hcap (Nat.le_trans (Nat.mul_le_mul (show l.length + 1 ≤ 1000001 by omega) hby) (by decide)))
    have hge : l.length + 1 ≤ grownCap w (l.length + 1) cap t := grownCap_ge w _ _ _
    refine ⟨_, _, hr, (Below.refl lo w).drew.alloc hlo _, KeepsT.of_below ((Below.refl w.heap.size w).drew.alloc (Nat.le_refl _) _), .inr ⟨w.heap.size, _, hlo, by rw [List.length_append]; rfl, ?_⟩⟩
    refine ⟨_, heap_alloc_last w.drew _, by rw [List.length_append]; exact hge, ?_, ?_⟩
    · simp only [Array.size_append, List.size_toArray, List.length_append, opsC_length, h3, size_zeroCells, Value.cells, opc_size]
      omega
    · intro j v hj
      rw [opsC_snoc] at hj
      have hjl := (List.getElem?_eq_some_iff.1 hj).1
      rw [Array.getElem?_append_left (by simpa using hjl)]
      simpa using hj
  rcases hsl with ⟨rfl, rfl⟩ | ⟨g, cap, hg, rfl, hS⟩
  · exact hgrow none 0 (by simp) (run_firstCells_none (w := w.drew) i.size 0 0 0)
  · by_cases hroom : l.length + 1 ≤ cap
    · obtain ⟨cur, h1, h2, h4, h5⟩ := hS.out
      have hcell : ∀ j, j < 3 → (w.cell? ⟨g, l.length * 3 + j, none⟩).isSome = true := fun j hj => by
        simp only [World.cell?, h1]
        rw [Array.getElem?_eq_getElem (by omega)]; rfl
      have hfro : ∀ j, j < 3 → w.frozen? ⟨g, l.length * 3 + j, none⟩ = false := fun j hj => by
        simp [World.frozen?, h1]
      have hr := run_append_room_src (P := P) w st st ty t i hu hi g 0 l.length cap _ 1 _ hsrc hroom
        (fun j hj => by rw [hs, Nat.zero_add]; exact hcell j hj)
        (fun j hj => by rw [hs, Nat.zero_add]; exact hfro j hj)
      rw [hs, Nat.zero_add] at hr
      have hgr := grown_setCells g (opc o).toList (l.length * 3) w
      refine ⟨_, _, hr, below_of_grown hgr hg hlo, KeepsT.of_ops hgr hS, .inr ⟨g, cap, hg, by rw [List.length_append]; rfl, ?_⟩⟩
      have hblk : Blk w g cur t := ⟨h1⟩
      refine ⟨_, (hblk.setCells (opc o).toList (l.length * 3)).out, by rw [List.length_append]; exact hroom, by rw [spl_size]; exact h4, ?_⟩
      intro j v hj
      rw [spl_get _ _ _ _ (by rw [h3]; omega), h3]
      rw [opsC_snoc] at hj
      by_cases hjl : j < l.length * 3
      · rw [if_neg (by omega)]
        rw [List.getElem?_append_left (by rw [opsC_length]; exact hjl)] at hj
        exact h5 j v hj
      · have hj3 := (List.getElem?_eq_some_iff.1 hj).1
        rw [List.length_append, opsC_length, h3] at hj3
        rw [if_pos (by omega)]
        rw [List.getElem?_append_right (by rw [opsC_length]; omega), opsC_length] at hj
        exact hj
    · exact hgrow (some ⟨g, 0, none⟩) cap (by omega) (run_firstCells_some w.drew i.size l.length ⟨g, 0, none⟩ l.length cap _ (by rw [opsC_length, hs]) (fun j u hj => by
        rw [Addr.add_mid, Nat.zero_add]; exact hS.drew.cell j u hj))
theorem wp_appendOL {K : Act → World → Prop} (x y : Operand) (st t : TypeId) (ho : op.op = .call { callee := .builtin .append, args := #[x, y], argTypes := #[st, st] })
    (lo : Nat) (sl : Value) (l : List O) (hlo : lo ≤ w.heap.size) (hx : a.eval x = sl) (hsl : OL w t lo sl l) (g2 c : Nat) (hy : a.eval y = .slice (some ⟨g2, 0, none⟩) 1 c) (o : O) (t2 : TypeId) (hb2 : Blk w g2 (opc o) t2) (i : TypeInfo) (z : O)
    (hu : P.underlying st = some (.slice t)) (hi : P.info? t = some i) (hz : i.zero = some (.agg (opc z))) (hs : i.size = 3) (hby : i.bytes ≤ 256) (hlen : l.length ≤ 1000000)
    (h : ∀ (w1 : World) (sl1 : Value), Below lo w w1 → KeepsT t w w1 → OL w1 t lo sl1 (l ++ [o]) → K (a.put op.dst sl1) w1) : op.wp P a w K Q := by
  obtain ⟨w1, sl1, hr, hb, hkp, hl⟩ := run_appendOL (P := P) (w := w) st op.type t lo sl l hlo hsl g2 c o t2 hb2 i z hu hi hz hs hby hlen
  refine wp_run _ _ ?_ (h w1 sl1 hb hkp hl)
  unfold execOp
  simp only [ho]
  simp [resolve, invoke, builtin, hx, hy, hr, Result.andThen]
end
theorem infoOp : ∃ i, Tryz.prog.info? 97 = some i ∧ i.zero = some (.agg (opc ⟨0, [], []⟩)) ∧ i.size = 3 ∧ i.bytes ≤ 256 := by
  have h : (Tryz.prog.info? 97).map (fun i => (i.zero, i.size, i.bytes)) = some (some (.agg (opc ⟨0, [], []⟩)), 3, 40) := by kernel_rfl
  cases hq : Tryz.prog.info? 97 with
  | none => rw [hq] at h; cases h
  | some i => rw [hq] at h; simp at h; exact ⟨i, rfl, h.1, h.2.1, by omega⟩
theorem infoRop : ∃ i, Tryz.prog.info? 146 = some i ∧ i.zero = some (.agg (opc ⟨0, [], []⟩)) ∧ i.size = 3 ∧ i.bytes ≤ 256 := by
  have h : (Tryz.prog.info? 146).map (fun i => (i.zero, i.size, i.bytes)) = some (some (.agg (opc ⟨0, [], []⟩)), 3, 40) := by kernel_rfl
  cases hq : Tryz.prog.info? 146 with
  | none => rw [hq] at h; cases h
  | some i => rw [hq] at h; simp at h; exact ⟨i, rfl, h.1, h.2.1, by omega⟩
theorem range3 : Array.range 3 = #[0, 1, 2] := by decide
theorem bslOp (o : O) (w : World) : (Instr.buildSlice 93 1 #[(0, .agg (opc o))]).run Tryz.prog w = .ok (.slice (some ⟨w.heap.size, 0, none⟩) 1 1) (w.alloc (.cells (opc o) 97)) := by
  simp [Instr.buildSlice, run_underlying Tryz.underlying93, sizeOf_run zOp.2, Sem.run_bind, Instr.fill, newRow, zOp.1, Value.cells, opc, range3]
theorem run_bslOp {op : Oper} {a : Act} {w : World} (x : Operand) (ho : op.op = .buildSlice 93 1 #[(0, x)]) (o : O) (hx : a.eval x = .agg (opc o)) : (execOp a.eval op).run Tryz.prog w = .ok (.value (.slice (some ⟨w.heap.size, 0, none⟩) 1 1)) (w.alloc (.cells (opc o) 97)) := by
  unfold execOp
  have e : (#[(0, x)] : Array (Nat × Operand)).map (fun (i, x) => (i, a.eval x)) = #[(0, .agg (opc o))] := by simp [hx]
  have hr := bslOp o w
  rw [← e] at hr
  simp only [ho, Sem.run_bind, hr, Result.andThen_ok]
  rfl
theorem wpList_bslOp {ops : Array Oper} {rest : List Oper} {op : Oper} {a : Act} {w : World} {Q : Exit → Act → World → Prop} (hgd : op.guard = none) (x : Operand) (ho : op.op = .buildSlice 93 1 #[(0, x)]) (o : O) (hx : a.eval x = .agg (opc o))
    (h : ∀ w1 : World, Below w.heap.size w w1 → w1.heap.size = w.heap.size + 1 → Blk w1 w.heap.size (opc o) 97 → wpList Tryz.prog ops Q rest (a.put op.dst (.slice (some ⟨w.heap.size, 0, none⟩) 1 1)) w1) : wpList Tryz.prog ops Q (op :: rest) a w :=
  wpList_run hgd _ _ (run_bslOp x ho o hx) (h _ ((Below.refl _ _).alloc (Nat.le_refl _) _) (by simp) (Blk.new _ _ _))
theorem bslRop (o : O) (w : World) : (Instr.buildSlice 89 1 #[(0, .agg (opc o))]).run Tryz.prog w = .ok (.slice (some ⟨w.heap.size, 0, none⟩) 1 1) (w.alloc (.cells (opc o) 146)) := by
  simp [Instr.buildSlice, run_underlying Tryz.underlying89, sizeOf_run zRop.2, Sem.run_bind, Instr.fill, newRow, zRop.1, Value.cells, opc, range3]
theorem run_bslRop {op : Oper} {a : Act} {w : World} (x : Operand) (ho : op.op = .buildSlice 89 1 #[(0, x)]) (o : O) (hx : a.eval x = .agg (opc o)) : (execOp a.eval op).run Tryz.prog w = .ok (.value (.slice (some ⟨w.heap.size, 0, none⟩) 1 1)) (w.alloc (.cells (opc o) 146)) := by
  unfold execOp
  have e : (#[(0, x)] : Array (Nat × Operand)).map (fun (i, x) => (i, a.eval x)) = #[(0, .agg (opc o))] := by simp [hx]
  have hr := bslRop o w
  rw [← e] at hr
  simp only [ho, Sem.run_bind, hr, Result.andThen_ok]
  rfl
theorem wp_bslRop {op : Oper} {a : Act} {w : World} {K : Act → World → Prop} {Q : Exit → Act → World → Prop} (x : Operand) (ho : op.op = .buildSlice 89 1 #[(0, x)]) (o : O) (hx : a.eval x = .agg (opc o))
    (h : ∀ w1 : World, Below w.heap.size w w1 → w1.heap.size = w.heap.size + 1 → Blk w1 w.heap.size (opc o) 146 → K (a.put op.dst (.slice (some ⟨w.heap.size, 0, none⟩) 1 1)) w1) : op.wp Tryz.prog a w K Q :=
  wp_run _ _ (run_bslRop x ho o hx) (h _ ((Below.refl _ _).alloc (Nat.le_refl _) _) (by simp) (Blk.new _ _ _))
end Go.Proofs.YtmbdhngoldganaaGreatDoor
namespace Go.Proofs.YtmbdhngoldganaaGreatDoor
open Go Go.RowKit
theorem txc_set2 (c n : Nat) (sl sl' : Value) : (txc c n sl).setIfInBounds 2 sl' = txc c n sl' := rfl
theorem iSl : (Tryz.prog.info? 93).map (·.size) = some 1 := by kernel_rfl
section
variable {P : Program} {op : Oper} {a : Act} {w : World} {K : Act → World → Prop} {Q : Exit → Act → World → Prop}
theorem run_loadCellB (ty : TypeId) (x : Operand) (ho : op.op = .load ty x) (b o : Nat) (hx : a.eval x = .pointer (some ⟨b, o, none⟩))
    (c : Array Value) (t : TypeId) (hb : Blk w b c t) (d : TypeDesc) (hu : P.underlying ty = some d) (hd : d.isRow = false) (v : Value) (hv : c[o]? = some v) :
    (execOp a.eval op).run P w = .ok (.value v) w := by
  have hc : w.cell? ⟨b, o, none⟩ = some v := (hb.cell o).trans hv
  unfold execOp
  simp only [ho, hx]
  simp [Instr.loadAt, Instr.sureAddr, Sem.run_bind, loadVar, isAgg_run hu hd, hc, go_sem]
/-- One cell into a block that is known whole. -/
theorem wp_storeCellB (ty : TypeId) (x y : Operand) (ho : op.op = .store ty x y) (b o : Nat) (hx : a.eval x = .pointer (some ⟨b, o, none⟩)) (v : Value) (hy : a.eval y = v)
    (c : Array Value) (t : TypeId) (hb : Blk w b c t) (hi : (P.info? ty).map (·.size) = some 1) (hv : v.cells = #[v]) (h1 : v.oneCell' = true) (hn : o < c.size)
    (h : ∀ w1 : World, w.grownBy w1 (some b) → w1.heap.size = w.heap.size → Blk w1 b (c.setIfInBounds o v) t → K (a.put op.dst undef) w1) : op.wp P a w K Q := by
  unfold Oper.wp execOp
  have hs : (storeVar ty ⟨b, o, none⟩ v).run P w = .ok () (w.setCells b o [v]) := by
    have := run_storeCells_cells (P := P) b o [v] 0 w (fun j hj => (hb.there o 1 (by omega) j (by simpa using hj)).1) (fun j hj => (hb.there o 1 (by omega) j (by simpa using hj)).2) (fun u hu => by simp at hu; subst hu; exact h1)
    simp only [Nat.add_zero] at this
    simp [storeVar, Sem.run_bind, sizeOf_run hi, hv, this]
  simp only [ho, hx, hy, Instr.storeAt, Instr.sureAddr, Sem.run_bind, Sem.run_pure, Result.andThen_ok, hs]
  exact h _ (grown_setCells _ _ _ _) (size_setCells _ _ _ _) (hb.setCells [v] o)
end
end Go.Proofs.YtmbdhngoldganaaGreatDoor
namespace Go.Proofs.YtmbdhngoldganaaGreatDoor
open Go Go.RowKit
attribute [local go_sem] mkApp2
end Go.Proofs.YtmbdhngoldganaaGreatDoor
namespace Go.Proofs.YtmbdhngoldganaaGreatDoor
open Go Go.RowKit
theorem iSlR : (Tryz.prog.info? 89).map (·.size) = some 1 := by kernel_rfl
theorem keep4 {w w' : World} {p q r s : Addr} {a b c d : Value} (h : Below w.heap.size w w') (k : w.cell? p = some a ∧ w.cell? q = some b ∧ w.cell? r = some c ∧ w.cell? s = some d) : w'.cell? p = some a ∧ w'.cell? q = some b ∧ w'.cell? r = some c ∧ w'.cell? s = some d :=
  ⟨cell_keep h k.1, cell_keep h k.2.1, cell_keep h k.2.2.1, cell_keep h k.2.2.2⟩
theorem builtRtx (c n : Nat) : Tryz.prog.built 91 [(0, .int .u64 (c : Nat)), (1, .int .u64 (n : Nat))] = some (txc c n (.slice none 0 0)) := by kernel_rfl
/-- What Ref leaves. -/
def RefP (w : World) (c n : Nat) (l : List O) (e : Ending) (w' : World) : Prop := ∃ sl, e = .returned (.agg (txc c n sl)) ∧ Below w.heap.size w w' ∧ OL w' 146 w.heap.size sl l
set_option maxRecDepth 100000 in
set_option maxHeartbeats 1000000 in
theorem ref_any (c n : Nat) (l : List O) (a : Option Addr) (cap : Nat) (w : World) (h : SL w a l) : Calls Tryz.prog 36 #[.agg (txc c n (.slice a l.length cap))] w (RefP w c n (l.take 9)) := by
  obtain ⟨iop, hi, hz, hs, hby⟩ := infoRop
  go_enter Tryz.func36, Tryz.ntmps36
  go_wp2_with (with_reducible refine at_list ?_; first
    | (refine wpList_boxRow (op := ⟨some 1, _, _, _, _, _⟩) rfl _ _ rfl _ rfl ?_; intro w1 hw1 hs1 hb1; replace hs1 := hs1.symm)
    | (refine wpList_allocRow (op := ⟨some 2, _, _, _, _, _⟩) rfl _ rfl _ zRtx.1 ?_; intro w2 hw2 hs2 hz2; replace hs2 := hs2.symm; replace hb1 := hb1.belowSize hw2; have c0 := (hb1.cell 0).trans (txc_g0 _ _ _); have c1 := (hb1.cell 1).trans (txc_g1 _ _ _))
    | (refine wpList_build (o := ⟨some 9, _, _, _, _, _⟩) rfl _ _ rfl (builtRtx c n) ?_)
    | (refine wpList_allocRow (op := ⟨some 3, _, _, _, _, _⟩) rfl _ rfl _ zRtx.1 ?_; intro w3 hw3 hs3 hz3; replace hs3 := hs3.symm; replace hb1 := hb1.belowSize hw3; replace hz2 := hz2.belowSize hw3; clear c0 c1)
    | (refine wpList_storeRow (op := ⟨none, .store 91 (.tmp 3) (.tmp 9), _, _, _, _⟩) rfl _ _ _ rfl w2.heap.size (txc c n (.slice none 0 0)) rfl rfl _ _ hz3 (by simp only [txc_size]) (by rw [txc_size]; exact zRtx.2) (txc_one _ _ _ _ _) ?_; intro w4 hg4 hs4 hz4))
  have hl2 := hz2.lt
  obtain ⟨B2, hB20⟩ : ∃ B, B = w1.heap.size := ⟨_, rfl⟩
  obtain ⟨B3, hB30⟩ : ∃ B, B = w2.heap.size := ⟨_, rfl⟩
  have hB2 : w.heap.size < B2 := by omega
  have hB32 : B2 < B3 := by omega
  have hb4 := hb1.grown hg4 (by simp; omega)
  have hz5 := hz2.grown hg4 (by simp; omega)
  have hB4 : Below w.heap.size w w4 := ((hw1.trans (hw2.mono hw1.size)).trans (hw3.mono (Nat.le_trans hw1.size hw2.size))).trans (below_of_grown hg4 (Nat.le_trans hw1.size hw2.size) (Nat.le_trans (Nat.le_trans hw1.size hw2.size) hw3.size))
  rw [← hB20] at hz5 ⊢
  rw [← hB30] at hz4 ⊢
  have hB3 : w.heap.size ≤ B3 := by omega
  clear hb1 hz2 hz3 hw1 hw2 hw3 hs1 hs2 hs3 hg4 hs4 hl2 hB20 hB30
  go_loopw [4] (fun v4 wl => ∃ (i : Nat) (sl : Value), i ≤ l.length ∧ i ≤ 9 ∧ v4 = .int .i64 i ∧ Below w.heap.size w wl ∧ OL wl 146 w.heap.size sl (l.take i) ∧ Blk wl B3 (txc c n sl) 91 ∧ Blk wl w.heap.size (txc c n (.slice a l.length cap)) 95 ∧ Blk wl B2 (txc 0 0 (.slice none 0 0)) 91) (fun v4 _ => 9 - (intOf v4).toNat)
  case atStart => exact ⟨0, _, by omega, by omega, rfl, hB4, .inl ⟨rfl, rfl⟩, hz4, hb4, hz5⟩
  case round =>
    obtain ⟨i, sl, hi2, hi9, rfl, hB, hO, h3, h1, h2⟩ := hrel
    clear hz4 hz5 hb4 hB4
    have e2 := (h1.cell 2).trans (txc_g2 _ _ _)
    by_cases hlt : i < l.length ∧ i < 9
    · obtain ⟨hlt, hlt9⟩ := hlt
      obtain ⟨g, o, rfl⟩ := h.ex (by omega)
      have hr := (h.below hB).at i hlt
      have hTk : Hid (l.take (i + 1) = l.take i ++ [l[i]]) := List.take_succ_eq_append_getElem hlt
      obtain ⟨y, hy⟩ : ∃ y, l[i] = y := ⟨_, rfl⟩
      rw [hy] at hr hTk
      obtain ⟨k, key, vv⟩ := y
      have hi9b : decide ((i : Int) < 9) = true := decide_eq_true (by omega)
      have hz1 : (0 : Int) ≤ (i : Int) := by omega
      have hz2 : (i : Int) < (l.length : Int) := by omega
      go_wp2_with fail
      replace hB := hB.trans ((Below.refl w.heap.size wr).drew)
      replace h3 := h3.drew
      replace h1 := h1.drew
      replace h2 := h2.drew
      replace hO := hO.drew
      refine wp_region_held_drew (S := fun w' => w'.cell? ⟨w.heap.size, 2, none⟩ = some (.slice (some ⟨g, o, none⟩) l.length cap) ∧ w'.cell? ⟨g, o + i * 3, none⟩ = some (.int .i64 k) ∧ w'.cell? ⟨g, o + i * 3 + 1, none⟩ = some (.string ⟨key.toArray⟩) ∧ w'.cell? ⟨g, o + i * 3 + 2, none⟩ = some (.string ⟨vv.toArray⟩)) (by kernel_rfl) ⟨e2, hr 0 _ rfl, hr 1 _ rfl, hr 2 _ rfl⟩ (fun hHeld => ?_)
      clear e2 hr
      refine wpAnyH_take (i := 0) (oi := ⟨some 21, _, _, _, _, _⟩) (v := .pointer (some ⟨B3, 2, none⟩)) rfl (by kernel_rfl) (by kernel_rfl) (by kernel_rfl) (fun _ _ _ h => h) (Or.inl ⟨by rfl, fun w hSw => by obtain ⟨s1, s2, s3, s4⟩ := hSw; go_simp⟩) hHeld ?_
      refine wpAnyH_take (i := 2) (oi := ⟨some 23, _, _, _, _, _⟩) (v := .pointer (some ⟨w.heap.size, 2, none⟩)) rfl (by kernel_rfl) (by kernel_rfl) (by kernel_rfl) (fun _ _ _ h => h) (Or.inl ⟨by rfl, fun w hSw => by obtain ⟨s1, s2, s3, s4⟩ := hSw; go_simp⟩) hHeld ?_
      refine wpAnyH_take (i := 3) (oi := ⟨some 24, _, _, _, _, _⟩) (v := (.slice (some ⟨g, o, none⟩) l.length cap)) rfl (by kernel_rfl) (by kernel_rfl) (by kernel_rfl) (fun _ _ _ h => h) (Or.inl ⟨by rfl, fun w hSw => by obtain ⟨s1, s2, s3, s4⟩ := hSw; go_simp⟩) hHeld ?_
      refine wpAnyH_take (i := 4) (oi := ⟨some 25, _, _, _, _, _⟩) (v := .int .i64 (i : Nat)) rfl (by kernel_rfl) (by kernel_rfl) (by kernel_rfl) (fun _ _ _ h => h) (Or.inl ⟨by rfl, fun w hSw => by obtain ⟨s1, s2, s3, s4⟩ := hSw; go_simp⟩) hHeld ?_
      refine wpAnyH_take (i := 5) (oi := ⟨some 26, _, _, _, _, _⟩) (v := .pointer (some ⟨g, o + i * 3, none⟩)) rfl (by kernel_rfl) (by kernel_rfl) (by kernel_rfl) (fun _ _ _ h => h) (Or.inl ⟨by rfl, fun w hSw => by obtain ⟨s1, s2, s3, s4⟩ := hSw; go_simp⟩) hHeld ?_
      refine wpAnyH_take (i := 6) (oi := ⟨some 27, _, _, _, _, _⟩) (v := .pointer (some ⟨g, o + i * 3, none⟩)) rfl (by kernel_rfl) (by kernel_rfl) (by kernel_rfl) (fun _ _ _ h => h) (Or.inl ⟨by rfl, fun w hSw => by obtain ⟨s1, s2, s3, s4⟩ := hSw; go_simp⟩) hHeld ?_
      refine wpAnyH_take (i := 7) (oi := ⟨some 28, _, _, _, _, _⟩) (v := .int .i64 k) rfl (by kernel_rfl) (by kernel_rfl) (by kernel_rfl) (fun _ _ _ h => h) (Or.inl ⟨by rfl, fun w hSw => by obtain ⟨s1, s2, s3, s4⟩ := hSw; go_simp⟩) hHeld ?_
      refine wpAnyH_take (i := 8) (oi := ⟨some 29, _, _, _, _, _⟩) (v := .pointer (some ⟨w.heap.size, 2, none⟩)) rfl (by kernel_rfl) (by kernel_rfl) (by kernel_rfl) (fun _ _ _ h => h) (Or.inl ⟨by rfl, fun w hSw => by obtain ⟨s1, s2, s3, s4⟩ := hSw; go_simp⟩) hHeld ?_
      refine wpAnyH_take (i := 9) (oi := ⟨some 30, _, _, _, _, _⟩) (v := (.slice (some ⟨g, o, none⟩) l.length cap)) rfl (by kernel_rfl) (by kernel_rfl) (by kernel_rfl) (fun _ _ _ h => h) (Or.inl ⟨by rfl, fun w hSw => by obtain ⟨s1, s2, s3, s4⟩ := hSw; go_simp⟩) hHeld ?_
      refine wpAnyH_take (i := 10) (oi := ⟨some 31, _, _, _, _, _⟩) (v := .int .i64 (i : Nat)) rfl (by kernel_rfl) (by kernel_rfl) (by kernel_rfl) (fun _ _ _ h => h) (Or.inl ⟨by rfl, fun w hSw => by obtain ⟨s1, s2, s3, s4⟩ := hSw; go_simp⟩) hHeld ?_
      refine wpAnyH_take (i := 11) (oi := ⟨some 32, _, _, _, _, _⟩) (v := .pointer (some ⟨g, o + i * 3, none⟩)) rfl (by kernel_rfl) (by kernel_rfl) (by kernel_rfl) (fun _ _ _ h => h) (Or.inl ⟨by rfl, fun w hSw => by obtain ⟨s1, s2, s3, s4⟩ := hSw; go_simp⟩) hHeld ?_
      refine wpAnyH_take (i := 12) (oi := ⟨some 33, _, _, _, _, _⟩) (v := .pointer (some ⟨g, o + i * 3 + 1, none⟩)) rfl (by kernel_rfl) (by kernel_rfl) (by kernel_rfl) (fun _ _ _ h => h) (Or.inl ⟨by rfl, fun w hSw => by obtain ⟨s1, s2, s3, s4⟩ := hSw; go_simp⟩) hHeld ?_
      refine wpAnyH_take (i := 13) (oi := ⟨some 34, _, _, _, _, _⟩) (v := .string ⟨key.toArray⟩) rfl (by kernel_rfl) (by kernel_rfl) (by kernel_rfl) (fun _ _ _ h => h) (Or.inl ⟨by rfl, fun w hSw => by obtain ⟨s1, s2, s3, s4⟩ := hSw; go_simp⟩) hHeld ?_
      refine wpAnyH_take (i := 14) (oi := ⟨some 35, _, _, _, _, _⟩) (v := .pointer (some ⟨w.heap.size, 2, none⟩)) rfl (by kernel_rfl) (by kernel_rfl) (by kernel_rfl) (fun _ _ _ h => h) (Or.inl ⟨by rfl, fun w hSw => by obtain ⟨s1, s2, s3, s4⟩ := hSw; go_simp⟩) hHeld ?_
      refine wpAnyH_take (i := 15) (oi := ⟨some 36, _, _, _, _, _⟩) (v := (.slice (some ⟨g, o, none⟩) l.length cap)) rfl (by kernel_rfl) (by kernel_rfl) (by kernel_rfl) (fun _ _ _ h => h) (Or.inl ⟨by rfl, fun w hSw => by obtain ⟨s1, s2, s3, s4⟩ := hSw; go_simp⟩) hHeld ?_
      refine wpAnyH_take (i := 16) (oi := ⟨some 37, _, _, _, _, _⟩) (v := .int .i64 (i : Nat)) rfl (by kernel_rfl) (by kernel_rfl) (by kernel_rfl) (fun _ _ _ h => h) (Or.inl ⟨by rfl, fun w hSw => by obtain ⟨s1, s2, s3, s4⟩ := hSw; go_simp⟩) hHeld ?_
      refine wpAnyH_take (i := 17) (oi := ⟨some 38, _, _, _, _, _⟩) (v := .pointer (some ⟨g, o + i * 3, none⟩)) rfl (by kernel_rfl) (by kernel_rfl) (by kernel_rfl) (fun _ _ _ h => h) (Or.inl ⟨by rfl, fun w hSw => by obtain ⟨s1, s2, s3, s4⟩ := hSw; go_simp⟩) hHeld ?_
      refine wpAnyH_take (i := 18) (oi := ⟨some 39, _, _, _, _, _⟩) (v := .pointer (some ⟨g, o + i * 3 + 2, none⟩)) rfl (by kernel_rfl) (by kernel_rfl) (by kernel_rfl) (fun _ _ _ h => h) (Or.inl ⟨by rfl, fun w hSw => by obtain ⟨s1, s2, s3, s4⟩ := hSw; go_simp⟩) hHeld ?_
      refine wpAnyH_take (i := 19) (oi := ⟨some 40, _, _, _, _, _⟩) (v := .string ⟨vv.toArray⟩) rfl (by kernel_rfl) (by kernel_rfl) (by kernel_rfl) (fun _ _ _ h => h) (Or.inl ⟨by rfl, fun w hSw => by obtain ⟨s1, s2, s3, s4⟩ := hSw; go_simp⟩) hHeld ?_
      refine wpAnyH_take (i := 20) (oi := ⟨some 41, _, _, _, _, _⟩) (v := .agg (opc ⟨k, key, vv⟩)) rfl (by kernel_rfl) (by kernel_rfl) (by kernel_rfl) (fun _ _ _ h => h) (Or.inl ⟨by rfl, fun w hSw => by obtain ⟨s1, s2, s3, s4⟩ := hSw; go_simp; try rfl⟩) hHeld ?_
      simp only [Act.put, List.setIfInBounds_toArray, List.set_cons_zero, List.set_cons_succ]
      refine wpAnyH_ready (rs := [1, 21]) (by kernel_rfl) (by simp) ?_
      refine AllReadyH.cons (o := ⟨some 22, .load 89 (.tmp 21), _, _, _, _⟩) rfl (fun K hK => ?_) (AllReadyH.cons (o := ⟨some 42, .buildSlice 89 1 #[(0, .tmp 41)], _, _, _, _⟩) rfl (fun K hK => ?_) AllReadyH.nil)
      · skip
        rw [if_pos (by rfl)]
        refine wp_run _ _ (run_loadCellB _ _ rfl B3 2 rfl _ _ h3 _ Tryz.underlying89 rfl sl (txc_g2 _ _ _)) ?_
        refine hK.out _ _ hHeld (fun _ => ?_)
        clear hK K
        refine wpAnyH_ready (rs := [21]) (by kernel_rfl) (by simp) ?_
        refine AllReadyH.cons (o := ⟨some 42, .buildSlice 89 1 #[(0, .tmp 41)], _, _, _, _⟩) rfl (fun K hK => ?_) AllReadyH.nil
        rw [if_pos (by rfl)]
        refine wp_bslRop _ rfl ⟨k, key, vv⟩ rfl ?_
        intro wb hwb hsb hbb
        have hHb := keep4 hwb hHeld
        refine hK.out _ _ hHb (fun _ => ?_)
        clear hK K hsb hHeld
        have hHeld := hHb
        clear hHb
        replace h3 := h3.belowSize hwb
        replace h1 := h1.belowSize hwb
        replace h2 := h2.belowSize hwb
        replace hO := hO.below hwb
        replace hB := hB.trans (hwb.mono hB.size)
        clear hwb
        refine wpAnyH_ready (rs := [22]) (by kernel_rfl) (by simp) ?_
        refine AllReadyH.cons (o := ⟨some 43, .call ⟨.builtin .append, #[.tmp 22, .tmp 42], #[89, 89]⟩, _, _, _, _⟩) rfl (fun K hK => ?_) AllReadyH.nil
        rw [if_pos (by rfl)]
        refine wp_appendOL _ _ _ _ rfl w.heap.size sl _ hB.size rfl hO _ 1 rfl ⟨k, key, vv⟩ _ hbb _ _ Tryz.underlying89 hi hz hs hby (by rw [List.length_take]; omega) ?_
        intro wa sl1 hwa hkp hO1
        replace h3 := hkp.out _ _ _ h3 (by decide)
        replace h1 := hkp.out _ _ _ h1 (by decide)
        replace h2 := hkp.out _ _ _ h2 (by decide)
        have hBo := hB
        replace hB := hB.trans hwa
        have hra := (h.below hB).at i hlt
        rw [hy] at hra
        have hHa : wa.cell? ⟨w.heap.size, 2, none⟩ = some (.slice (some ⟨g, o, none⟩) l.length cap) ∧ wa.cell? ⟨g, o + i * 3, none⟩ = some (.int .i64 k) ∧ wa.cell? ⟨g, o + i * 3 + 1, none⟩ = some (.string ⟨key.toArray⟩) ∧ wa.cell? ⟨g, o + i * 3 + 2, none⟩ = some (.string ⟨vv.toArray⟩) := ⟨(h1.cell 2).trans (txc_g2 _ _ _), hra 0 _ rfl, hra 1 _ rfl, hra 2 _ rfl⟩
        refine hK.out _ _ hHa (fun _ => ?_)
        clear hK K hHeld hO hbb hkp hwa hBo
        have hHeld := hHa
        clear hHa
        try simp only [Act.put, List.setIfInBounds_toArray, List.set_cons_zero, List.set_cons_succ]
        refine wpAnyH_take (i := 23) (oi := ⟨some 44, _, _, _, _, _⟩) (v := .pointer (some ⟨B3, 2, none⟩)) rfl (by kernel_rfl) (by kernel_rfl) (by kernel_rfl) (fun _ _ _ h => h) (Or.inl ⟨by rfl, fun w hSw => by obtain ⟨s1, s2, s3, s4⟩ := hSw; go_simp⟩) hHeld ?_
        try simp only [Act.put, List.setIfInBounds_toArray, List.set_cons_zero, List.set_cons_succ]
        refine wpAnyH_ready (rs := [24]) (by kernel_rfl) (by simp) ?_
        refine AllReadyH.cons (o := ⟨none, .store 89 (.tmp 44) (.tmp 43), _, _, _, _⟩) rfl (fun K hK => ?_) AllReadyH.nil
        rw [if_pos (by rfl)]
        refine wp_storeCellB _ _ _ rfl B3 2 rfl sl1 rfl _ _ h3 iSlR hO1.cells.1 hO1.cells.2 (by simp [txc]) ?_
        intro ws hgs hss hbs
        rw [txc_set2] at hbs
        replace h1 := h1.grown hgs (by simp; omega)
        replace h2 := h2.grown hgs (by simp; omega)
        have hO2 := hO1.grown hgs h3 (by decide)
        replace hB := hB.trans (below_of_grown hgs hB3 hB.size)
        have hrs := (h.below hB).at i hlt
        rw [hy] at hrs
        have hHs : ws.cell? ⟨w.heap.size, 2, none⟩ = some (.slice (some ⟨g, o, none⟩) l.length cap) ∧ ws.cell? ⟨g, o + i * 3, none⟩ = some (.int .i64 k) ∧ ws.cell? ⟨g, o + i * 3 + 1, none⟩ = some (.string ⟨key.toArray⟩) ∧ ws.cell? ⟨g, o + i * 3 + 2, none⟩ = some (.string ⟨vv.toArray⟩) := ⟨(h1.cell 2).trans (txc_g2 _ _ _), hrs 0 _ rfl, hrs 1 _ rfl, hrs 2 _ rfl⟩
        refine hK.out _ _ hHs (fun _ => ?_)
        clear hK K
        refine wpAnyH_done (by kernel_rfl) ?_ _
        simp only [Act.put]
        clear hHeld hHs hra hrs h3 hgs hss hO1
        go_simp
        go_wp2_with fail
        go_roundw
        case rel => exact ⟨i + 1, sl1, by omega, by omega, by go_num, hB, by rw [hTk.out]; exact hO2, hbs, h1, h2⟩
        case measure => simp [intOf]; omega
      · skip
        rw [if_pos (by rfl)]
        refine wp_bslRop _ rfl ⟨k, key, vv⟩ rfl ?_
        intro wb hwb hsb hbb
        have hHb := keep4 hwb hHeld
        refine hK.out _ _ hHb (fun _ => ?_)
        clear hK K hsb hHeld
        have hHeld := hHb
        clear hHb
        replace h3 := h3.belowSize hwb
        replace h1 := h1.belowSize hwb
        replace h2 := h2.belowSize hwb
        replace hO := hO.below hwb
        replace hB := hB.trans (hwb.mono hB.size)
        clear hwb
        refine wpAnyH_ready (rs := [1]) (by kernel_rfl) (by simp) ?_
        refine AllReadyH.cons (o := ⟨some 22, .load 89 (.tmp 21), _, _, _, _⟩) rfl (fun K hK => ?_) AllReadyH.nil
        rw [if_pos (by rfl)]
        refine wp_run _ _ (run_loadCellB _ _ rfl B3 2 rfl _ _ h3 _ Tryz.underlying89 rfl sl (txc_g2 _ _ _)) ?_
        refine hK.out _ _ hHeld (fun _ => ?_)
        clear hK K
        refine wpAnyH_ready (rs := [22]) (by kernel_rfl) (by simp) ?_
        refine AllReadyH.cons (o := ⟨some 43, .call ⟨.builtin .append, #[.tmp 22, .tmp 42], #[89, 89]⟩, _, _, _, _⟩) rfl (fun K hK => ?_) AllReadyH.nil
        rw [if_pos (by rfl)]
        refine wp_appendOL _ _ _ _ rfl w.heap.size sl _ hB.size rfl hO _ 1 rfl ⟨k, key, vv⟩ _ hbb _ _ Tryz.underlying89 hi hz hs hby (by rw [List.length_take]; omega) ?_
        intro wa sl1 hwa hkp hO1
        replace h3 := hkp.out _ _ _ h3 (by decide)
        replace h1 := hkp.out _ _ _ h1 (by decide)
        replace h2 := hkp.out _ _ _ h2 (by decide)
        have hBo := hB
        replace hB := hB.trans hwa
        have hra := (h.below hB).at i hlt
        rw [hy] at hra
        have hHa : wa.cell? ⟨w.heap.size, 2, none⟩ = some (.slice (some ⟨g, o, none⟩) l.length cap) ∧ wa.cell? ⟨g, o + i * 3, none⟩ = some (.int .i64 k) ∧ wa.cell? ⟨g, o + i * 3 + 1, none⟩ = some (.string ⟨key.toArray⟩) ∧ wa.cell? ⟨g, o + i * 3 + 2, none⟩ = some (.string ⟨vv.toArray⟩) := ⟨(h1.cell 2).trans (txc_g2 _ _ _), hra 0 _ rfl, hra 1 _ rfl, hra 2 _ rfl⟩
        refine hK.out _ _ hHa (fun _ => ?_)
        clear hK K hHeld hO hbb hkp hwa hBo
        have hHeld := hHa
        clear hHa
        try simp only [Act.put, List.setIfInBounds_toArray, List.set_cons_zero, List.set_cons_succ]
        refine wpAnyH_take (i := 23) (oi := ⟨some 44, _, _, _, _, _⟩) (v := .pointer (some ⟨B3, 2, none⟩)) rfl (by kernel_rfl) (by kernel_rfl) (by kernel_rfl) (fun _ _ _ h => h) (Or.inl ⟨by rfl, fun w hSw => by obtain ⟨s1, s2, s3, s4⟩ := hSw; go_simp⟩) hHeld ?_
        try simp only [Act.put, List.setIfInBounds_toArray, List.set_cons_zero, List.set_cons_succ]
        refine wpAnyH_ready (rs := [24]) (by kernel_rfl) (by simp) ?_
        refine AllReadyH.cons (o := ⟨none, .store 89 (.tmp 44) (.tmp 43), _, _, _, _⟩) rfl (fun K hK => ?_) AllReadyH.nil
        rw [if_pos (by rfl)]
        refine wp_storeCellB _ _ _ rfl B3 2 rfl sl1 rfl _ _ h3 iSlR hO1.cells.1 hO1.cells.2 (by simp [txc]) ?_
        intro ws hgs hss hbs
        rw [txc_set2] at hbs
        replace h1 := h1.grown hgs (by simp; omega)
        replace h2 := h2.grown hgs (by simp; omega)
        have hO2 := hO1.grown hgs h3 (by decide)
        replace hB := hB.trans (below_of_grown hgs hB3 hB.size)
        have hrs := (h.below hB).at i hlt
        rw [hy] at hrs
        have hHs : ws.cell? ⟨w.heap.size, 2, none⟩ = some (.slice (some ⟨g, o, none⟩) l.length cap) ∧ ws.cell? ⟨g, o + i * 3, none⟩ = some (.int .i64 k) ∧ ws.cell? ⟨g, o + i * 3 + 1, none⟩ = some (.string ⟨key.toArray⟩) ∧ ws.cell? ⟨g, o + i * 3 + 2, none⟩ = some (.string ⟨vv.toArray⟩) := ⟨(h1.cell 2).trans (txc_g2 _ _ _), hrs 0 _ rfl, hrs 1 _ rfl, hrs 2 _ rfl⟩
        refine hK.out _ _ hHs (fun _ => ?_)
        clear hK K
        refine wpAnyH_done (by kernel_rfl) ?_ _
        simp only [Act.put]
        clear hHeld hHs hra hrs h3 hgs hss hO1
        go_simp
        go_wp2_with fail
        go_roundw
        case rel => exact ⟨i + 1, sl1, by omega, by omega, by go_num, hB, by rw [hTk.out]; exact hO2, hbs, h1, h2⟩
        case measure => simp [intOf]; omega
    · have hTe : Hid (l.take i = l.take 9) := by
        by_cases h9 : i = 9
        · rw [h9]; exact rfl
        · rw [List.take_of_length_le (show l.length ≤ i by omega), List.take_of_length_le (show l.length ≤ 9 by omega)]; exact rfl
      rw [hTe.out] at hO
      clear hTe
      obtain ⟨a1, cap1, rfl, hSL⟩ := hO.sl
      by_cases hlt1 : i < l.length
      · have hi9b : decide ((i : Int) < 9) = false := decide_eq_false (by omega)
        go_wp2_with (with_reducible refine at_list ?_; first
          | (refine wpList_loadRow (op := ⟨some 45, _, _, _, _, _⟩) rfl _ _ rfl B3 rfl _ _ h3 _ Tryz.underlying91 rfl (by rw [txc_size]; exact zRtx.2) ?_)
          | (refine wpList_storeRow (op := ⟨none, .store 91 (.tmp 2) (.tmp 45), _, _, _, _⟩) rfl _ _ _ rfl B2 (txc c n (.slice a1 (l.take 9).length cap1)) rfl rfl _ _ h2 (by simp only [txc_size]) (by rw [txc_size]; exact zRtx.2) (txc_one _ _ _ _ _) ?_; intro w9 hg9 hs9 hz9))
        refine bodyPost_ret (v := .agg (txc c n (.slice a1 (l.take 9).length cap1))) ?_ rfl ⟨_, rfl, hB.trans (below_of_grown hg9 (by omega) hB.size), hO.grown hg9 h2 (by decide)⟩
        exact results_cell_row rfl _ _ B2 _ _ _ _ rfl hz9.out Tryz.underlying91 rfl (by exact zRtx.2)
      · go_wp2_with (with_reducible refine at_list ?_; first
          | (refine wpList_loadRow (op := ⟨some 45, _, _, _, _, _⟩) rfl _ _ rfl B3 rfl _ _ h3 _ Tryz.underlying91 rfl (by rw [txc_size]; exact zRtx.2) ?_)
          | (refine wpList_storeRow (op := ⟨none, .store 91 (.tmp 2) (.tmp 45), _, _, _, _⟩) rfl _ _ _ rfl B2 (txc c n (.slice a1 (l.take 9).length cap1)) rfl rfl _ _ h2 (by simp only [txc_size]) (by rw [txc_size]; exact zRtx.2) (txc_one _ _ _ _ _) ?_; intro w9 hg9 hs9 hz9))
        refine bodyPost_ret (v := .agg (txc c n (.slice a1 (l.take 9).length cap1))) ?_ rfl ⟨_, rfl, hB.trans (below_of_grown hg9 (by omega) hB.size), hO.grown hg9 h2 (by decide)⟩
        exact results_cell_row rfl _ _ B2 _ _ _ _ rfl hz9.out Tryz.underlying91 rfl (by exact zRtx.2)
end Go.Proofs.YtmbdhngoldganaaGreatDoor
