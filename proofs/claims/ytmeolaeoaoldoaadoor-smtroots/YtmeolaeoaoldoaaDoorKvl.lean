/- A slice of pairs of texts that grows: what it holds, and appending to it. -/
import Derived.Test.YtmeolaeoaoldoaaDoorSSl
import Derived.Test.YtmeolaeoaoldoaaDoorSpm
namespace Go.Proofs.YtmeolaeoaoldoaaDoor.Sh
open Go Go.RowKit
section
variable {op : Oper} {a : Act} {w : World} {K : Act → World → Prop} {Q : Exit → Act → World → Prop}
theorem wp_runK {P : Program} (v : Value) (w1 : World) (hr : (execOp a.eval op).run P w = .ok (.value v) w1) (h : K (a.put op.dst v) w1) : op.wp P a w K Q := by
  unfold Oper.wp; rw [hr]; exact h
end
/-- The cells of a pair of texts. -/
def kvc (p : LF) : Array Value := #[.string ⟨p.1.toArray⟩, .string ⟨p.2.toArray⟩]
theorem kvc_size (p : LF) : (kvc p).size = 2 := rfl
theorem kvc_one (p : LF) : (kvc p).all (·.oneCell') = true := by simp [kvc, Value.oneCell']
theorem kvc_g0 (p : LF) : (kvc p)[0]? = some (.string ⟨p.1.toArray⟩) := rfl
theorem kvc_g1 (p : LF) : (kvc p)[1]? = some (.string ⟨p.2.toArray⟩) := rfl
/-- The texts l lie at a. -/
def KA (w : World) (a : Option Addr) (l : List LF) : Prop := ∀ i (h : i < l.length), ∃ g o, a = some ⟨g, o, none⟩ ∧ w.rangeAt g (o + i * 2) (kvc l[i]).toList
theorem KA.below {w w' : World} {a : Option Addr} {l : List LF} (h : KA w a l) (hb : Below w.heap.size w w') : KA w' a l := fun i hi => by
  obtain ⟨g, o, ha, hr⟩ := h i hi
  refine ⟨g, o, ha, fun j v hv => ?_⟩
  have h1 := hr j v hv
  rw [hb.cell (World.block_lt_of_cell? _ _ h1)]
  exact h1
theorem KA.nil (w : World) (a : Option Addr) : KA w a [] := fun i hi => by simp at hi
def kvsC (l : List LF) : List Value := l.flatMap fun o => (kvc o).toList
theorem kvsC_snoc (l : List LF) (o : LF) : kvsC (l ++ [o]) = kvsC l ++ (kvc o).toList := by simp [kvsC]
theorem kvsC_cons (l : List LF) (o : LF) : kvsC (o :: l) = (kvc o).toList ++ kvsC l := by simp [kvsC]
theorem kvsC_length : ∀ l : List LF, (kvsC l).length = l.length * 2
  | [] => rfl
  | o :: l => by rw [kvsC_cons, List.length_append, kvsC_length l, List.length_cons]; show 2 + _ = _; omega
theorem kvsC_one (l : List LF) : ∀ u ∈ kvsC l, u.oneCell' = true := fun u hu => by
  obtain ⟨o, _, ho⟩ := List.mem_flatMap.1 hu
  exact Array.all_eq_true_iff_forall_mem.1 (kvc_one o) u (by simpa using ho)
theorem kvsC_get : ∀ (l : List LF) (i : Nat) (h : i < l.length) (j : Nat) (v : Value), (kvc l[i]).toList[j]? = some v → (kvsC l)[i * 2 + j]? = some v
  | o :: l, 0, _, j, v, hv => by
    have hj : j < 2 := (List.getElem?_eq_some_iff.1 hv).1
    rw [kvsC_cons, List.getElem?_append_left (by show 0 * 2 + j < 2; omega), Nat.zero_mul, Nat.zero_add]
    exact hv
  | o :: l, i + 1, h, j, v, hv => by
    rw [kvsC_cons, List.getElem?_append_right (by show 2 ≤ _; omega), show (i + 1) * 2 + j - (kvc o).toList.length = i * 2 + j from by show _ - 2 = _; omega]
    exact kvsC_get l i (by simpa using h) j v hv
/-- Block g holds a slice's operations l, with room for cap. -/
structure KS (w : World) (t : TypeId) (g cap : Nat) (l : List LF) : Prop where
  out : ∃ cur : Array Value, w.heap[g]? = some (.cells cur t (0, 0)) ∧ l.length ≤ cap ∧ cap * 2 ≤ cur.size ∧ ∀ (j : Nat) (v : Value), (kvsC l)[j]? = some v → cur[j]? = some v
/-- The value sl is a slice of the operations l, from block lo on, or nil where there are none. -/
def KL (w : World) (t : TypeId) (lo : Nat) (sl : Value) (l : List LF) : Prop :=
  (l = [] ∧ sl = .slice none 0 0) ∨ ∃ g cap, lo ≤ g ∧ sl = .slice (some ⟨g, 0, none⟩) l.length cap ∧ KS w t g cap l
theorem KS.lt {w : World} {t : TypeId} {g cap : Nat} {l : List LF} (h : KS w t g cap l) : g < w.heap.size := by
  obtain ⟨cur, h1, _⟩ := h.out
  exact (Array.getElem?_eq_some_iff.1 h1).1
theorem KS.cell {w : World} {t : TypeId} {g cap : Nat} {l : List LF} (h : KS w t g cap l) (j : Nat) (v : Value) (hv : (kvsC l)[j]? = some v) : w.cell? ⟨g, j, none⟩ = some v := by
  obtain ⟨cur, h1, _, _, h4⟩ := h.out
  simp [World.cell?, h1, h4 j v hv]
theorem KS.below {w w' : World} {t : TypeId} {g cap : Nat} {l : List LF} (h : KS w t g cap l) (hb : Below w.heap.size w w') : KS w' t g cap l := by
  obtain ⟨cur, h1, hr⟩ := h.out
  exact ⟨cur, by rw [hb.block g h.lt]; exact h1, hr⟩
theorem KS.grown {w w' : World} {t : TypeId} {g cap : Nat} {l : List LF} {row : Option Nat} (h : KS w t g cap l) (hb : w.grownBy w' row) (hr : some g ≠ row) : KS w' t g cap l := by
  obtain ⟨cur, h1, hr'⟩ := h.out
  exact ⟨cur, by rw [hb.block g h.lt hr]; exact h1, hr'⟩
theorem KS.drew {w : World} {t : TypeId} {g cap : Nat} {l : List LF} (h : KS w t g cap l) : KS w.drew t g cap l := ⟨h.out⟩
theorem KS.ne {w : World} {t ty : TypeId} {g cap i : Nat} {l : List LF} {c : Array Value} (h : KS w t g cap l) (hb : Blk w i c ty) (ht : ty ≠ t) : i ≠ g := by
  intro e
  subst e
  obtain ⟨cur, h1, _⟩ := h.out
  have h2 := hb.out
  rw [h1] at h2
  simp only [Option.some.injEq, Obj.cells.injEq] at h2
  exact ht h2.2.1.symm
theorem KL.below {w w' : World} {t : TypeId} {lo : Nat} {sl : Value} {l : List LF} (h : KL w t lo sl l) (hb : Below w.heap.size w w') : KL w' t lo sl l := by
  rcases h with h | ⟨g, cap, h1, h2, h3⟩
  · exact .inl h
  · exact .inr ⟨g, cap, h1, h2, h3.below hb⟩
theorem KL.drew {w : World} {t : TypeId} {lo : Nat} {sl : Value} {l : List LF} (h : KL w t lo sl l) : KL w.drew t lo sl l := by
  rcases h with h | ⟨g, cap, h1, h2, h3⟩
  · exact .inl h
  · exact .inr ⟨g, cap, h1, h2, h3.drew⟩
/-- What is written into a block of another type leaves it. -/
theorem KL.grown {w w' : World} {t ty : TypeId} {lo b : Nat} {sl : Value} {l : List LF} {c : Array Value} (h : KL w t lo sl l) (hb : w.grownBy w' (some b)) (hk : Blk w b c ty) (ht : ty ≠ t) : KL w' t lo sl l := by
  rcases h with h | ⟨g, cap, h1, h2, h3⟩
  · exact .inl h
  · exact .inr ⟨g, cap, h1, h2, h3.grown hb (fun e => h3.ne hk ht (Option.some.inj e).symm)⟩
theorem KL.cells {w : World} {t : TypeId} {lo : Nat} {sl : Value} {l : List LF} (h : KL w t lo sl l) : sl.cells = #[sl] ∧ sl.oneCell' = true := by
  rcases h with ⟨_, rfl⟩ | ⟨g, cap, _, rfl, _⟩
  · exact ⟨rfl, rfl⟩
  · exact ⟨rfl, rfl⟩
theorem KL.sl {w : World} {t : TypeId} {lo : Nat} {sl : Value} {l : List LF} (h : KL w t lo sl l) : ∃ a cap, sl = .slice a l.length cap ∧ KA w a l := by
  rcases h with ⟨rfl, rfl⟩ | ⟨g, cap, _, rfl, h3⟩
  · exact ⟨none, 0, rfl, KA.nil _ _⟩
  · refine ⟨_, cap, rfl, fun i hi => ⟨g, 0, rfl, fun j v hv => ?_⟩⟩
    rw [Nat.zero_add]
    exact h3.cell _ _ (kvsC_get l i hi j v hv)
/-- Blocks of other types are as they were. -/
structure KeepsT (t : TypeId) (w w' : World) : Prop where
  out : ∀ (i : Nat) (c : Array Value) (ty : TypeId), Blk w i c ty → ty ≠ t → Blk w' i c ty
theorem KeepsT.of_below {t : TypeId} {w w' : World} (h : Below w.heap.size w w') : KeepsT t w w' := ⟨fun _ _ _ hb _ => hb.belowSize h⟩
theorem KeepsT.of_ops {w w' : World} {t : TypeId} {g cap : Nat} {l : List LF} (h : w.grownBy w' (some g)) (hs : KS w t g cap l) : KeepsT t w w' := ⟨fun _ _ _ hb ht => hb.grown h (fun e => hs.ne hb ht (Option.some.inj e))⟩
section
variable {P : Program} {ops : Array Oper} {rest : List Oper} {op : Oper} {a : Act} {w : World} {Q : Exit → Act → World → Prop}
theorem run_appendKL (st ty t : TypeId) (lo : Nat) (sl : Value) (l : List LF) (hlo : lo ≤ w.heap.size) (hsl : KL w t lo sl l) (g2 c : Nat) (o : LF) (t2 : TypeId) (hb2 : Blk w g2 (kvc o) t2) (i : TypeInfo) (z : LF)
    (hu : P.underlying st = some (.slice t)) (hi : P.info? t = some i) (hz : i.zero = some (.agg (kvc z))) (hs : i.size = 2) (hby : i.bytes ≤ 64) (hlen : l.length ≤ 1000000) :
    ∃ (w1 : World) (sl1 : Value), (Builtin.append_ #[st, st] ty #[sl, .slice (some ⟨g2, 0, none⟩) 1 c]).run P w = .ok sl1 w1 ∧ Below lo w w1 ∧ KeepsT t w w1 ∧ KL w1 t lo sl1 (l ++ [o]) := by
  have hsrc : Src P i.size st (.slice (some ⟨g2, 0, none⟩) 1 c) 1 (kvc o).toList w :=
    Src.ofSlice w hu ⟨g2, 0, none⟩ 1 c _ (by rw [hs]; rfl) (fun j u hj => by
      rw [Addr.add_mid, Nat.zero_add, hb2.cell]
      simpa using hj)
      (fun u hu => Array.all_eq_true_iff_forall_mem.1 (kvc_one o) u (by simpa using hu))
  have h3 : (kvc o).toList.length = 2 := rfl
  have hgrow : ∀ (base : Option Addr) (cap : Nat), cap < l.length + 1 → (Builtin.firstCells i.size l.length (.slice base l.length cap)).run P w.drew = .ok (kvsC l).toArray w.drew →
      ∃ (w1 : World) (sl1 : Value), (Builtin.append_ #[st, st] ty #[.slice base l.length cap, .slice (some ⟨g2, 0, none⟩) 1 c]).run P w = .ok sl1 w1 ∧ Below lo w w1 ∧ KeepsT t w w1 ∧ KL w1 t lo sl1 (l ++ [o]) := by
    intro base cap hcap hold
    have hr := run_append_grow_src (P := P) w st st ty t i _ hu hi hz base l.length cap _ hold _ 1 _ hsrc hcap (by omega) (growslice_fits hcap (Nat.le_trans (Nat.mul_le_mul (show l.length + 1 ≤ 1000001 by omega) hby) (by decide)))
    have hge : l.length + 1 ≤ grownCap w (l.length + 1) cap t := grownCap_ge w _ _ _
    refine ⟨_, _, hr, (Below.refl lo w).drew.alloc hlo _, KeepsT.of_below ((Below.refl w.heap.size w).drew.alloc (Nat.le_refl _) _), .inr ⟨w.heap.size, _, hlo, by rw [List.length_append]; rfl, ?_⟩⟩
    refine ⟨_, heap_alloc_last w.drew _, by rw [List.length_append]; exact hge, ?_, ?_⟩
    · simp only [Array.size_append, List.size_toArray, List.length_append, kvsC_length, h3, size_zeroCells, Value.cells, kvc_size]
      omega
    · intro j v hj
      rw [kvsC_snoc] at hj
      have hjl := (List.getElem?_eq_some_iff.1 hj).1
      rw [Array.getElem?_append_left (by simpa using hjl)]
      simpa using hj
  rcases hsl with ⟨rfl, rfl⟩ | ⟨g, cap, hg, rfl, hS⟩
  · exact hgrow none 0 (by simp) (run_firstCells_none (w := w.drew) i.size 0 0 0)
  · by_cases hroom : l.length + 1 ≤ cap
    · obtain ⟨cur, h1, h2, h4, h5⟩ := hS.out
      have hcell : ∀ j, j < 2 → (w.cell? ⟨g, l.length * 2 + j, none⟩).isSome = true := fun j hj => by
        simp only [World.cell?, h1]
        rw [Array.getElem?_eq_getElem (by omega)]; rfl
      have hfro : ∀ j, j < 2 → w.frozen? ⟨g, l.length * 2 + j, none⟩ = false := fun j hj => by
        simp [World.frozen?, h1]
      have hr := run_append_room_src (P := P) w st st ty t i hu hi g 0 l.length cap _ 1 _ hsrc hroom
        (fun j hj => by rw [hs, Nat.zero_add]; exact hcell j hj)
        (fun j hj => by rw [hs, Nat.zero_add]; exact hfro j hj)
      rw [hs, Nat.zero_add] at hr
      have hgr := grown_setCells g (kvc o).toList (l.length * 2) w
      refine ⟨_, _, hr, below_of_grown hgr hg hlo, KeepsT.of_ops hgr hS, .inr ⟨g, cap, hg, by rw [List.length_append]; rfl, ?_⟩⟩
      have hblk : Blk w g cur t := ⟨h1⟩
      refine ⟨_, (hblk.setCells (kvc o).toList (l.length * 2)).out, by rw [List.length_append]; exact hroom, by rw [spl_size]; exact h4, ?_⟩
      intro j v hj
      rw [spl_get _ _ _ _ (by rw [h3]; omega), h3]
      rw [kvsC_snoc] at hj
      by_cases hjl : j < l.length * 2
      · rw [if_neg (by omega)]
        rw [List.getElem?_append_left (by rw [kvsC_length]; exact hjl)] at hj
        exact h5 j v hj
      · have hj3 := (List.getElem?_eq_some_iff.1 hj).1
        rw [List.length_append, kvsC_length, h3] at hj3
        rw [if_pos (by omega)]
        rw [List.getElem?_append_right (by rw [kvsC_length]; omega), kvsC_length] at hj
        exact hj
    · exact hgrow (some ⟨g, 0, none⟩) cap (by omega) (run_firstCells_some w.drew i.size l.length ⟨g, 0, none⟩ l.length cap _ (by rw [kvsC_length, hs]) (fun j u hj => by
        rw [Addr.add_mid, Nat.zero_add]; exact hS.drew.cell j u hj))
theorem wpList_appendKL (hgd : op.guard = none) (x y : Operand) (st t : TypeId) (ho : op.op = .call { callee := .builtin .append, args := #[x, y], argTypes := #[st, st] })
    (lo : Nat) (sl : Value) (l : List LF) (hlo : lo ≤ w.heap.size) (hx : a.eval x = sl) (hsl : KL w t lo sl l) (g2 c : Nat) (hy : a.eval y = .slice (some ⟨g2, 0, none⟩) 1 c) (o : LF) (t2 : TypeId) (hb2 : Blk w g2 (kvc o) t2) (i : TypeInfo) (z : LF)
    (hu : P.underlying st = some (.slice t)) (hi : P.info? t = some i) (hz : i.zero = some (.agg (kvc z))) (hs : i.size = 2) (hby : i.bytes ≤ 64) (hlen : l.length ≤ 1000000)
    (h : ∀ (w1 : World) (sl1 : Value), Below lo w w1 → KeepsT t w w1 → KL w1 t lo sl1 (l ++ [o]) → wpList P ops Q rest (a.put op.dst sl1) w1) : wpList P ops Q (op :: rest) a w := by
  obtain ⟨w1, sl1, hr, hb, hkp, hl⟩ := run_appendKL (P := P) (w := w) st op.type t lo sl l hlo hsl g2 c o t2 hb2 i z hu hi hz hs hby hlen
  refine wpList_run hgd _ _ ?_ (h w1 sl1 hb hkp hl)
  unfold execOp
  simp only [ho]
  simp [resolve, invoke, builtin, hx, hy, hr, Result.andThen]
theorem wp_appendKL {K : Act → World → Prop} (x y : Operand) (st t : TypeId) (ho : op.op = .call { callee := .builtin .append, args := #[x, y], argTypes := #[st, st] })
    (lo : Nat) (sl : Value) (l : List LF) (hlo : lo ≤ w.heap.size) (hx : a.eval x = sl) (hsl : KL w t lo sl l) (g2 c : Nat) (hy : a.eval y = .slice (some ⟨g2, 0, none⟩) 1 c) (o : LF) (t2 : TypeId) (hb2 : Blk w g2 (kvc o) t2) (i : TypeInfo) (z : LF)
    (hu : P.underlying st = some (.slice t)) (hi : P.info? t = some i) (hz : i.zero = some (.agg (kvc z))) (hs : i.size = 2) (hby : i.bytes ≤ 64) (hlen : l.length ≤ 1000000)
    (h : ∀ (w1 : World) (sl1 : Value), Below lo w w1 → KeepsT t w w1 → KL w1 t lo sl1 (l ++ [o]) → K (a.put op.dst sl1) w1) : op.wp P a w K Q := by
  obtain ⟨w1, sl1, hr, hb, hkp, hl⟩ := run_appendKL (P := P) (w := w) st op.type t lo sl l hlo hsl g2 c o t2 hb2 i z hu hi hz hs hby hlen
  refine wp_runK _ _ ?_ (h w1 sl1 hb hkp hl)
  unfold execOp
  simp only [ho]
  simp [resolve, invoke, builtin, hx, hy, hr, Result.andThen]
end
theorem range2K : Array.range 2 = #[0, 1] := by decide
theorem zLf : (∀ w, (zeroValue 52).run Tryd.prog w = .ok (.agg (kvc ([], []))) w) ∧ (Tryd.prog.info? 52).map (·.size) = some 2 := zero_of_info (by kernel_rfl)
theorem infoLf : ∃ i, Tryd.prog.info? 52 = some i ∧ i.zero = some (.agg (kvc ([], []))) ∧ i.size = 2 ∧ i.bytes ≤ 64 := by
  have h : (Tryd.prog.info? 52).map (fun i => (i.zero, i.size, i.bytes)) = some (some (.agg (kvc ([], []))), 2, 32) := by kernel_rfl
  cases hq : Tryd.prog.info? 52 with
  | none => rw [hq] at h; cases h
  | some i => rw [hq] at h; simp at h; exact ⟨i, rfl, h.1, h.2.1, by omega⟩
theorem bslLf (o : LF) (w : World) : (Instr.buildSlice 32 1 #[(0, .agg (kvc o))]).run Tryd.prog w = .ok (.slice (some ⟨w.heap.size, 0, none⟩) 1 1) (w.alloc (.cells (kvc o) 52)) := by
  simp [Instr.buildSlice, run_underlying Tryd.underlying32, sizeOf_run zLf.2, Sem.run_bind, Instr.fill, newRow, zLf.1, Value.cells, kvc, range2K]
theorem bsl0Lf (w : World) : (Instr.buildSlice 32 0 #[]).run Tryd.prog w = .ok (.slice (some ⟨w.heap.size, 0, none⟩) 0 0) (w.alloc (.cells #[] 52)) := by
  simp [Instr.buildSlice, run_underlying Tryd.underlying32, sizeOf_run zLf.2, Sem.run_bind, Instr.fill, newRow, range0]
theorem run_bslLf {op : Oper} {a : Act} {w : World} (x : Operand) (ho : op.op = .buildSlice 32 1 #[(0, x)]) (o : LF) (hx : a.eval x = .agg (kvc o)) : (execOp a.eval op).run Tryd.prog w = .ok (.value (.slice (some ⟨w.heap.size, 0, none⟩) 1 1)) (w.alloc (.cells (kvc o) 52)) := by
  unfold execOp
  have e : (#[(0, x)] : Array (Nat × Operand)).map (fun (i, x) => (i, a.eval x)) = #[(0, .agg (kvc o))] := by simp [hx]
  have hr := bslLf o w
  rw [← e] at hr
  simp only [ho, Sem.run_bind, hr, Result.andThen_ok]
  rfl
theorem wpList_bslLf {ops : Array Oper} {rest : List Oper} {op : Oper} {a : Act} {w : World} {Q : Exit → Act → World → Prop} (hgd : op.guard = none) (x : Operand) (ho : op.op = .buildSlice 32 1 #[(0, x)]) (o : LF) (hx : a.eval x = .agg (kvc o))
    (h : ∀ w1 : World, Below w.heap.size w w1 → w1.heap.size = w.heap.size + 1 → Blk w1 w.heap.size (kvc o) 52 → wpList Tryd.prog ops Q rest (a.put op.dst (.slice (some ⟨w.heap.size, 0, none⟩) 1 1)) w1) : wpList Tryd.prog ops Q (op :: rest) a w :=
  wpList_run hgd _ _ (run_bslLf x ho o hx) (h _ ((Below.refl _ _).alloc (Nat.le_refl _) _) (by simp) (Blk.new _ _ _))
theorem wpList_bsl0Lf {ops : Array Oper} {rest : List Oper} {op : Oper} {a : Act} {w : World} {Q : Exit → Act → World → Prop} (hgd : op.guard = none) (ho : op.op = .buildSlice 32 0 #[])
    (h : ∀ w1 : World, Below w.heap.size w w1 → w1.heap.size = w.heap.size + 1 → KL w1 52 w.heap.size (.slice (some ⟨w.heap.size, 0, none⟩) 0 0) [] → wpList Tryd.prog ops Q rest (a.put op.dst (.slice (some ⟨w.heap.size, 0, none⟩) 0 0)) w1) : wpList Tryd.prog ops Q (op :: rest) a w := by
  refine wpList_run hgd _ _ ?_ (h _ ((Below.refl _ _).alloc (Nat.le_refl _) (.cells #[] 52)) (by simp) (.inr ⟨w.heap.size, 0, Nat.le_refl _, rfl, ⟨#[], (Blk.new w _ _).out, by simp, by simp, fun j v hv => by simp [kvsC] at hv⟩⟩))
  unfold execOp
  have hr := bsl0Lf w
  simp only [ho, Sem.run_bind, Array.map_empty, hr, Result.andThen_ok]
  rfl
theorem builtLf (x y : List UInt8) : Tryd.prog.built 52 [(0, .string ⟨x.toArray⟩), (1, .string ⟨y.toArray⟩)] = some (kvc (x, y)) := by kernel_rfl
theorem zKy : (∀ w, (zeroValue 38).run Tryd.prog w = .ok (.agg (kvc ([], []))) w) ∧ (Tryd.prog.info? 38).map (·.size) = some 2 := zero_of_info (by kernel_rfl)
theorem infoKy : ∃ i, Tryd.prog.info? 38 = some i ∧ i.zero = some (.agg (kvc ([], []))) ∧ i.size = 2 ∧ i.bytes ≤ 64 := by
  have h : (Tryd.prog.info? 38).map (fun i => (i.zero, i.size, i.bytes)) = some (some (.agg (kvc ([], []))), 2, 32) := by kernel_rfl
  cases hq : Tryd.prog.info? 38 with
  | none => rw [hq] at h; cases h
  | some i => rw [hq] at h; simp at h; exact ⟨i, rfl, h.1, h.2.1, by omega⟩
theorem bslKy (o : LF) (w : World) : (Instr.buildSlice 24 1 #[(0, .agg (kvc o))]).run Tryd.prog w = .ok (.slice (some ⟨w.heap.size, 0, none⟩) 1 1) (w.alloc (.cells (kvc o) 38)) := by
  simp [Instr.buildSlice, run_underlying Tryd.underlying24, sizeOf_run zKy.2, Sem.run_bind, Instr.fill, newRow, zKy.1, Value.cells, kvc, range2K]
theorem bsl0Ky (w : World) : (Instr.buildSlice 24 0 #[]).run Tryd.prog w = .ok (.slice (some ⟨w.heap.size, 0, none⟩) 0 0) (w.alloc (.cells #[] 38)) := by
  simp [Instr.buildSlice, run_underlying Tryd.underlying24, sizeOf_run zKy.2, Sem.run_bind, Instr.fill, newRow, range0]
theorem run_bslKy {op : Oper} {a : Act} {w : World} (x : Operand) (ho : op.op = .buildSlice 24 1 #[(0, x)]) (o : LF) (hx : a.eval x = .agg (kvc o)) : (execOp a.eval op).run Tryd.prog w = .ok (.value (.slice (some ⟨w.heap.size, 0, none⟩) 1 1)) (w.alloc (.cells (kvc o) 38)) := by
  unfold execOp
  have e : (#[(0, x)] : Array (Nat × Operand)).map (fun (i, x) => (i, a.eval x)) = #[(0, .agg (kvc o))] := by simp [hx]
  have hr := bslKy o w
  rw [← e] at hr
  simp only [ho, Sem.run_bind, hr, Result.andThen_ok]
  rfl
theorem wpList_bslKy {ops : Array Oper} {rest : List Oper} {op : Oper} {a : Act} {w : World} {Q : Exit → Act → World → Prop} (hgd : op.guard = none) (x : Operand) (ho : op.op = .buildSlice 24 1 #[(0, x)]) (o : LF) (hx : a.eval x = .agg (kvc o))
    (h : ∀ w1 : World, Below w.heap.size w w1 → w1.heap.size = w.heap.size + 1 → Blk w1 w.heap.size (kvc o) 38 → wpList Tryd.prog ops Q rest (a.put op.dst (.slice (some ⟨w.heap.size, 0, none⟩) 1 1)) w1) : wpList Tryd.prog ops Q (op :: rest) a w :=
  wpList_run hgd _ _ (run_bslKy x ho o hx) (h _ ((Below.refl _ _).alloc (Nat.le_refl _) _) (by simp) (Blk.new _ _ _))
theorem wpList_bsl0Ky {ops : Array Oper} {rest : List Oper} {op : Oper} {a : Act} {w : World} {Q : Exit → Act → World → Prop} (hgd : op.guard = none) (ho : op.op = .buildSlice 24 0 #[])
    (h : ∀ w1 : World, Below w.heap.size w w1 → w1.heap.size = w.heap.size + 1 → KL w1 38 w.heap.size (.slice (some ⟨w.heap.size, 0, none⟩) 0 0) [] → wpList Tryd.prog ops Q rest (a.put op.dst (.slice (some ⟨w.heap.size, 0, none⟩) 0 0)) w1) : wpList Tryd.prog ops Q (op :: rest) a w := by
  refine wpList_run hgd _ _ ?_ (h _ ((Below.refl _ _).alloc (Nat.le_refl _) (.cells #[] 38)) (by simp) (.inr ⟨w.heap.size, 0, Nat.le_refl _, rfl, ⟨#[], (Blk.new w _ _).out, by simp, by simp, fun j v hv => by simp [kvsC] at hv⟩⟩))
  unfold execOp
  have hr := bsl0Ky w
  simp only [ho, Sem.run_bind, Array.map_empty, hr, Result.andThen_ok]
  rfl
theorem builtKy (x y : List UInt8) : Tryd.prog.built 38 [(0, .string ⟨x.toArray⟩), (1, .string ⟨y.toArray⟩)] = some (kvc (x, y)) := by kernel_rfl
end Go.Proofs.YtmeolaeoaoldoaaDoor.Sh
