/- A slice of texts, and what they have, that grows (the plain model of a state). What the plain right and StateBytes do. What the plain StateBytes does. -/
import Derived.Test.YtdikilhobmkpkaaGreatDoorDcd
namespace Go.Proofs.YtdikilhobmkpkaaGreatDoor
open Go Go.RowKit Go.Maps
/-- The cells of a text and what it has. -/
def kvc (p : KV) : Array Value := #[.string ⟨p.1.toArray⟩, .string ⟨p.2.toArray⟩]
theorem kvc_size (p : KV) : (kvc p).size = 2 := rfl
theorem kvc_one (p : KV) : (kvc p).all (·.oneCell') = true := by simp [kvc, Value.oneCell']
theorem kvc_g0 (p : KV) : (kvc p)[0]? = some (.string ⟨p.1.toArray⟩) := rfl
theorem kvc_g1 (p : KV) : (kvc p)[1]? = some (.string ⟨p.2.toArray⟩) := rfl
theorem zKV : (∀ w, (zeroValue 87).run Tryz.prog w = .ok (.agg (kvc ([], []))) w) ∧ (Tryz.prog.info? 87).map (·.size) = some 2 := zero_of_info (by kernel_rfl)
/-- The texts l lie at a. -/
def KA (w : World) (a : Option Addr) (l : List KV) : Prop := ∀ i (h : i < l.length), ∃ g o, a = some ⟨g, o, none⟩ ∧ w.rangeAt g (o + i * 2) (kvc l[i]).toList
theorem KA.below {w w' : World} {a : Option Addr} {l : List KV} (h : KA w a l) (hb : Below w.heap.size w w') : KA w' a l := fun i hi => by
  obtain ⟨g, o, ha, hr⟩ := h i hi
  refine ⟨g, o, ha, fun j v hv => ?_⟩
  have h1 := hr j v hv
  rw [hb.cell (World.block_lt_of_cell? _ _ h1)]
  exact h1
theorem KA.nil (w : World) (a : Option Addr) : KA w a [] := fun i hi => by simp at hi
def kvsC (l : List KV) : List Value := l.flatMap fun o => (kvc o).toList
theorem kvsC_snoc (l : List KV) (o : KV) : kvsC (l ++ [o]) = kvsC l ++ (kvc o).toList := by simp [kvsC]
theorem kvsC_cons (l : List KV) (o : KV) : kvsC (o :: l) = (kvc o).toList ++ kvsC l := by simp [kvsC]
theorem kvsC_length : ∀ l : List KV, (kvsC l).length = l.length * 2
  | [] => rfl
  | o :: l => by rw [kvsC_cons, List.length_append, kvsC_length l, List.length_cons]; show 2 + _ = _; omega
theorem kvsC_one (l : List KV) : ∀ u ∈ kvsC l, u.oneCell' = true := fun u hu => by
  obtain ⟨o, _, ho⟩ := List.mem_flatMap.1 hu
  exact Array.all_eq_true_iff_forall_mem.1 (kvc_one o) u (by simpa using ho)
theorem kvsC_get : ∀ (l : List KV) (i : Nat) (h : i < l.length) (j : Nat) (v : Value), (kvc l[i]).toList[j]? = some v → (kvsC l)[i * 2 + j]? = some v
  | o :: l, 0, _, j, v, hv => by
    have hj : j < 2 := (List.getElem?_eq_some_iff.1 hv).1
    rw [kvsC_cons, List.getElem?_append_left (by show 0 * 2 + j < 2; omega), Nat.zero_mul, Nat.zero_add]
    exact hv
  | o :: l, i + 1, h, j, v, hv => by
    rw [kvsC_cons, List.getElem?_append_right (by show 2 ≤ _; omega), show (i + 1) * 2 + j - (kvc o).toList.length = i * 2 + j from by show _ - 2 = _; omega]
    exact kvsC_get l i (by simpa using h) j v hv
/-- Block g holds a slice's operations l, with room for cap. -/
structure KS (w : World) (t : TypeId) (g cap : Nat) (l : List KV) : Prop where
  out : ∃ cur : Array Value, w.heap[g]? = some (.cells cur t (0, 0)) ∧ l.length ≤ cap ∧ cap * 2 ≤ cur.size ∧ ∀ (j : Nat) (v : Value), (kvsC l)[j]? = some v → cur[j]? = some v
/-- The value sl is a slice of the operations l, from block lo on, or nil where there are none. -/
def KL (w : World) (t : TypeId) (lo : Nat) (sl : Value) (l : List KV) : Prop :=
  (l = [] ∧ sl = .slice none 0 0) ∨ ∃ g cap, lo ≤ g ∧ sl = .slice (some ⟨g, 0, none⟩) l.length cap ∧ KS w t g cap l
theorem KS.lt {w : World} {t : TypeId} {g cap : Nat} {l : List KV} (h : KS w t g cap l) : g < w.heap.size := by
  obtain ⟨cur, h1, _⟩ := h.out
  exact (Array.getElem?_eq_some_iff.1 h1).1
theorem KS.cell {w : World} {t : TypeId} {g cap : Nat} {l : List KV} (h : KS w t g cap l) (j : Nat) (v : Value) (hv : (kvsC l)[j]? = some v) : w.cell? ⟨g, j, none⟩ = some v := by
  obtain ⟨cur, h1, _, _, h4⟩ := h.out
  simp [World.cell?, h1, h4 j v hv]
theorem KS.below {w w' : World} {t : TypeId} {g cap : Nat} {l : List KV} (h : KS w t g cap l) (hb : Below w.heap.size w w') : KS w' t g cap l := by
  obtain ⟨cur, h1, hr⟩ := h.out
  exact ⟨cur, by rw [hb.block g h.lt]; exact h1, hr⟩
theorem KS.grown {w w' : World} {t : TypeId} {g cap : Nat} {l : List KV} {row : Option Nat} (h : KS w t g cap l) (hb : w.grownBy w' row) (hr : some g ≠ row) : KS w' t g cap l := by
  obtain ⟨cur, h1, hr'⟩ := h.out
  exact ⟨cur, by rw [hb.block g h.lt hr]; exact h1, hr'⟩
theorem KS.drew {w : World} {t : TypeId} {g cap : Nat} {l : List KV} (h : KS w t g cap l) : KS w.drew t g cap l := ⟨h.out⟩
theorem KS.ne {w : World} {t ty : TypeId} {g cap i : Nat} {l : List KV} {c : Array Value} (h : KS w t g cap l) (hb : Blk w i c ty) (ht : ty ≠ t) : i ≠ g := by
  intro e
  subst e
  obtain ⟨cur, h1, _⟩ := h.out
  have h2 := hb.out
  rw [h1] at h2
  simp only [Option.some.injEq, Obj.cells.injEq] at h2
  exact ht h2.2.1.symm
theorem KL.below {w w' : World} {t : TypeId} {lo : Nat} {sl : Value} {l : List KV} (h : KL w t lo sl l) (hb : Below w.heap.size w w') : KL w' t lo sl l := by
  rcases h with h | ⟨g, cap, h1, h2, h3⟩
  · exact .inl h
  · exact .inr ⟨g, cap, h1, h2, h3.below hb⟩
theorem KL.drew {w : World} {t : TypeId} {lo : Nat} {sl : Value} {l : List KV} (h : KL w t lo sl l) : KL w.drew t lo sl l := by
  rcases h with h | ⟨g, cap, h1, h2, h3⟩
  · exact .inl h
  · exact .inr ⟨g, cap, h1, h2, h3.drew⟩
/-- What is written into a block of another type leaves it. -/
theorem KL.grown {w w' : World} {t ty : TypeId} {lo b : Nat} {sl : Value} {l : List KV} {c : Array Value} (h : KL w t lo sl l) (hb : w.grownBy w' (some b)) (hk : Blk w b c ty) (ht : ty ≠ t) : KL w' t lo sl l := by
  rcases h with h | ⟨g, cap, h1, h2, h3⟩
  · exact .inl h
  · exact .inr ⟨g, cap, h1, h2, h3.grown hb (fun e => h3.ne hk ht (Option.some.inj e).symm)⟩
theorem KL.cells {w : World} {t : TypeId} {lo : Nat} {sl : Value} {l : List KV} (h : KL w t lo sl l) : sl.cells = #[sl] ∧ sl.oneCell' = true := by
  rcases h with ⟨_, rfl⟩ | ⟨g, cap, _, rfl, _⟩
  · exact ⟨rfl, rfl⟩
  · exact ⟨rfl, rfl⟩
theorem KL.sl {w : World} {t : TypeId} {lo : Nat} {sl : Value} {l : List KV} (h : KL w t lo sl l) : ∃ a cap, sl = .slice a l.length cap ∧ KA w a l := by
  rcases h with ⟨rfl, rfl⟩ | ⟨g, cap, _, rfl, h3⟩
  · exact ⟨none, 0, rfl, KA.nil _ _⟩
  · refine ⟨_, cap, rfl, fun i hi => ⟨g, 0, rfl, fun j v hv => ?_⟩⟩
    rw [Nat.zero_add]
    exact h3.cell _ _ (kvsC_get l i hi j v hv)
/-- Blocks of other types are as they were. -/
structure KeepsT (t : TypeId) (w w' : World) : Prop where
  out : ∀ (i : Nat) (c : Array Value) (ty : TypeId), Blk w i c ty → ty ≠ t → Blk w' i c ty
theorem KeepsT.of_below {t : TypeId} {w w' : World} (h : Below w.heap.size w w') : KeepsT t w w' := ⟨fun _ _ _ hb _ => hb.belowSize h⟩
theorem KeepsT.of_ops {w w' : World} {t : TypeId} {g cap : Nat} {l : List KV} (h : w.grownBy w' (some g)) (hs : KS w t g cap l) : KeepsT t w w' := ⟨fun _ _ _ hb ht => hb.grown h (fun e => hs.ne hb ht (Option.some.inj e))⟩
section
variable {P : Program} {ops : Array Oper} {rest : List Oper} {op : Oper} {a : Act} {w : World} {Q : Exit → Act → World → Prop}
theorem run_appendKL (st ty t : TypeId) (lo : Nat) (sl : Value) (l : List KV) (hlo : lo ≤ w.heap.size) (hsl : KL w t lo sl l) (g2 c : Nat) (o : KV) (t2 : TypeId) (hb2 : Blk w g2 (kvc o) t2) (i : TypeInfo) (z : KV)
    (hu : P.underlying st = some (.slice t)) (hi : P.info? t = some i) (hz : i.zero = some (.agg (kvc z))) (hs : i.size = 2) (hby : i.bytes ≤ 64) (hlen : l.length ≤ 1000000) :
    ∃ (w1 : World) (sl1 : Value), (Builtin.append_ #[st, st] ty #[sl, .slice (some ⟨g2, 0, none⟩) 1 c]).run P w = .ok sl1 w1 ∧ Below lo w w1 ∧ KeepsT t w w1 ∧ KL w1 t lo sl1 (l ++ [o]) := by
  have hsrc : Src P i.size st (.slice (some ⟨g2, 0, none⟩) 1 c) 1 (kvc o).toList w :=
    Src.ofSlice w hu ⟨g2, 0, none⟩ 1 c _ (by rw [hs]; rfl) (fun j u hj => by
      rw [Addr.add_mid, Nat.zero_add, hb2.cell]
      simpa using hj)
      (fun u hu => Array.all_eq_true_iff_forall_mem.1 (kvc_one o) u (by simpa using hu))
  have h3 : (kvc o).toList.length = 2 := rfl
  have hgrow : ∀ (base : Option Addr) (cap : Nat), cap < l.length + 1 → (Builtin.firstCells i.size l.length (.slice base l.length cap)).run P w.drew = .ok (kvsC l).toArray w.drew →
      ∃ (w1 : World) (sl1 : Value), (Builtin.append_ #[st, st] ty #[.slice base l.length cap, .slice (some ⟨g2, 0, none⟩) 1 c]).run P w = .ok sl1 w1 ∧ Below lo w w1 ∧ KeepsT t w w1 ∧ KL w1 t lo sl1 (l ++ [o]) := by
    intro base cap hcap hold
    have hr := run_append_grow_src (P := P) w st st ty t i _ hu hi hz base l.length cap _ hold _ 1 _ hsrc hcap (by omega) (growslice_fits hcap (Nat.le_trans (Nat.mul_le_mul (show l.length + 1 ≤ 1000001 by omega) hby) (by decide)))
    have hge : l.length + 1 ≤ grownCap w (l.length + 1) cap t := grownCap_ge w _ _ _
    refine ⟨_, _, hr, (Below.refl lo w).drew.alloc hlo _, KeepsT.of_below ((Below.refl w.heap.size w).drew.alloc (Nat.le_refl _) _), .inr ⟨w.heap.size, _, hlo, by rw [List.length_append]; rfl, ?_⟩⟩
    refine ⟨_, heap_alloc_last w.drew _, by rw [List.length_append]; exact hge, ?_, ?_⟩
    · simp only [Array.size_append, List.size_toArray, List.length_append, kvsC_length, h3, size_zeroCells, Value.cells, kvc_size]
      omega
    · intro j v hj
      rw [kvsC_snoc] at hj
      have hjl := (List.getElem?_eq_some_iff.1 hj).1
      rw [Array.getElem?_append_left (by simpa using hjl)]
      simpa using hj
  rcases hsl with ⟨rfl, rfl⟩ | ⟨g, cap, hg, rfl, hS⟩
  · exact hgrow none 0 (by simp) (run_firstCells_none (w := w.drew) i.size 0 0 0)
  · by_cases hroom : l.length + 1 ≤ cap
    · obtain ⟨cur, h1, h2, h4, h5⟩ := hS.out
      have hcell : ∀ j, j < 2 → (w.cell? ⟨g, l.length * 2 + j, none⟩).isSome = true := fun j hj => by
        simp only [World.cell?, h1]
        rw [Array.getElem?_eq_getElem (by omega)]; rfl
      have hfro : ∀ j, j < 2 → w.frozen? ⟨g, l.length * 2 + j, none⟩ = false := fun j hj => by
        simp [World.frozen?, h1]
      have hr := run_append_room_src (P := P) w st st ty t i hu hi g 0 l.length cap _ 1 _ hsrc hroom
        (fun j hj => by rw [hs, Nat.zero_add]; exact hcell j hj)
        (fun j hj => by rw [hs, Nat.zero_add]; exact hfro j hj)
      rw [hs, Nat.zero_add] at hr
      have hgr := grown_setCells g (kvc o).toList (l.length * 2) w
      refine ⟨_, _, hr, below_of_grown hgr hg hlo, KeepsT.of_ops hgr hS, .inr ⟨g, cap, hg, by rw [List.length_append]; rfl, ?_⟩⟩
      have hblk : Blk w g cur t := ⟨h1⟩
      refine ⟨_, (hblk.setCells (kvc o).toList (l.length * 2)).out, by rw [List.length_append]; exact hroom, by rw [spl_size]; exact h4, ?_⟩
      intro j v hj
      rw [spl_get _ _ _ _ (by rw [h3]; omega), h3]
      rw [kvsC_snoc] at hj
      by_cases hjl : j < l.length * 2
      · rw [if_neg (by omega)]
        rw [List.getElem?_append_left (by rw [kvsC_length]; exact hjl)] at hj
        exact h5 j v hj
      · have hj3 := (List.getElem?_eq_some_iff.1 hj).1
        rw [List.length_append, kvsC_length, h3] at hj3
        rw [if_pos (by omega)]
        rw [List.getElem?_append_right (by rw [kvsC_length]; omega), kvsC_length] at hj
        exact hj
    · exact hgrow (some ⟨g, 0, none⟩) cap (by omega) (run_firstCells_some w.drew i.size l.length ⟨g, 0, none⟩ l.length cap _ (by rw [kvsC_length, hs]) (fun j u hj => by
        rw [Addr.add_mid, Nat.zero_add]; exact hS.drew.cell j u hj))
theorem wpList_appendKL (hgd : op.guard = none) (x y : Operand) (st t : TypeId) (ho : op.op = .call { callee := .builtin .append, args := #[x, y], argTypes := #[st, st] })
    (lo : Nat) (sl : Value) (l : List KV) (hlo : lo ≤ w.heap.size) (hx : a.eval x = sl) (hsl : KL w t lo sl l) (g2 c : Nat) (hy : a.eval y = .slice (some ⟨g2, 0, none⟩) 1 c) (o : KV) (t2 : TypeId) (hb2 : Blk w g2 (kvc o) t2) (i : TypeInfo) (z : KV)
    (hu : P.underlying st = some (.slice t)) (hi : P.info? t = some i) (hz : i.zero = some (.agg (kvc z))) (hs : i.size = 2) (hby : i.bytes ≤ 64) (hlen : l.length ≤ 1000000)
    (h : ∀ (w1 : World) (sl1 : Value), Below lo w w1 → KeepsT t w w1 → KL w1 t lo sl1 (l ++ [o]) → wpList P ops Q rest (a.put op.dst sl1) w1) : wpList P ops Q (op :: rest) a w := by
  obtain ⟨w1, sl1, hr, hb, hkp, hl⟩ := run_appendKL (P := P) (w := w) st op.type t lo sl l hlo hsl g2 c o t2 hb2 i z hu hi hz hs hby hlen
  refine wpList_run hgd _ _ ?_ (h w1 sl1 hb hkp hl)
  unfold execOp
  simp only [ho]
  simp [resolve, invoke, builtin, hx, hy, hr, Result.andThen]
theorem wp_appendKL {K : Act → World → Prop} (x y : Operand) (st t : TypeId) (ho : op.op = .call { callee := .builtin .append, args := #[x, y], argTypes := #[st, st] })
    (lo : Nat) (sl : Value) (l : List KV) (hlo : lo ≤ w.heap.size) (hx : a.eval x = sl) (hsl : KL w t lo sl l) (g2 c : Nat) (hy : a.eval y = .slice (some ⟨g2, 0, none⟩) 1 c) (o : KV) (t2 : TypeId) (hb2 : Blk w g2 (kvc o) t2) (i : TypeInfo) (z : KV)
    (hu : P.underlying st = some (.slice t)) (hi : P.info? t = some i) (hz : i.zero = some (.agg (kvc z))) (hs : i.size = 2) (hby : i.bytes ≤ 64) (hlen : l.length ≤ 1000000)
    (h : ∀ (w1 : World) (sl1 : Value), Below lo w w1 → KeepsT t w w1 → KL w1 t lo sl1 (l ++ [o]) → K (a.put op.dst sl1) w1) : op.wp P a w K Q := by
  obtain ⟨w1, sl1, hr, hb, hkp, hl⟩ := run_appendKL (P := P) (w := w) st op.type t lo sl l hlo hsl g2 c o t2 hb2 i z hu hi hz hs hby hlen
  refine wp_run _ _ ?_ (h w1 sl1 hb hkp hl)
  unfold execOp
  simp only [ho]
  simp [resolve, invoke, builtin, hx, hy, hr, Result.andThen]
end
theorem infoKV : ∃ i, Tryz.prog.info? 87 = some i ∧ i.zero = some (.agg (kvc ([], []))) ∧ i.size = 2 ∧ i.bytes ≤ 64 := by
  have h : (Tryz.prog.info? 87).map (fun i => (i.zero, i.size, i.bytes)) = some (some (.agg (kvc ([], []))), 2, 32) := by kernel_rfl
  cases hq : Tryz.prog.info? 87 with
  | none => rw [hq] at h; cases h
  | some i => rw [hq] at h; simp at h; exact ⟨i, rfl, h.1, h.2.1, by omega⟩
theorem range2 : Array.range 2 = #[0, 1] := by decide
theorem bslKV (o : KV) (w : World) : (Instr.buildSlice 38 1 #[(0, .agg (kvc o))]).run Tryz.prog w = .ok (.slice (some ⟨w.heap.size, 0, none⟩) 1 1) (w.alloc (.cells (kvc o) 87)) := by
  simp [Instr.buildSlice, run_underlying Tryz.underlying38, sizeOf_run zKV.2, Sem.run_bind, Instr.fill, newRow, zKV.1, Value.cells, kvc, range2]
theorem run_bslKV {op : Oper} {a : Act} {w : World} (x : Operand) (ho : op.op = .buildSlice 38 1 #[(0, x)]) (o : KV) (hx : a.eval x = .agg (kvc o)) : (execOp a.eval op).run Tryz.prog w = .ok (.value (.slice (some ⟨w.heap.size, 0, none⟩) 1 1)) (w.alloc (.cells (kvc o) 87)) := by
  unfold execOp
  have e : (#[(0, x)] : Array (Nat × Operand)).map (fun (i, x) => (i, a.eval x)) = #[(0, .agg (kvc o))] := by simp [hx]
  have hr := bslKV o w
  rw [← e] at hr
  simp only [ho, Sem.run_bind, hr, Result.andThen_ok]
  rfl
theorem wp_bslKV {op : Oper} {a : Act} {w : World} {K : Act → World → Prop} {Q : Exit → Act → World → Prop} (x : Operand) (ho : op.op = .buildSlice 38 1 #[(0, x)]) (o : KV) (hx : a.eval x = .agg (kvc o))
    (h : ∀ w1 : World, Below w.heap.size w w1 → w1.heap.size = w.heap.size + 1 → Blk w1 w.heap.size (kvc o) 87 → K (a.put op.dst (.slice (some ⟨w.heap.size, 0, none⟩) 1 1)) w1) : op.wp Tryz.prog a w K Q :=
  wp_run _ _ (run_bslKV x ho o hx) (h _ ((Below.refl _ _).alloc (Nat.le_refl _) _) (by simp) (Blk.new _ _ _))
theorem wpList_bslKV {ops : Array Oper} {rest : List Oper} {op : Oper} {a : Act} {w : World} {Q : Exit → Act → World → Prop} (hgd : op.guard = none) (x : Operand) (ho : op.op = .buildSlice 38 1 #[(0, x)]) (o : KV) (hx : a.eval x = .agg (kvc o))
    (h : ∀ w1 : World, Below w.heap.size w w1 → w1.heap.size = w.heap.size + 1 → Blk w1 w.heap.size (kvc o) 87 → wpList Tryz.prog ops Q rest (a.put op.dst (.slice (some ⟨w.heap.size, 0, none⟩) 1 1)) w1) : wpList Tryz.prog ops Q (op :: rest) a w :=
  wpList_run hgd _ _ (run_bslKV x ho o hx) (h _ ((Below.refl _ _).alloc (Nat.le_refl _) _) (by simp) (Blk.new _ _ _))
theorem builtKV (x y : List UInt8) : Tryz.prog.built 87 [(0, .string ⟨x.toArray⟩), (1, .string ⟨y.toArray⟩)] = some (kvc (x, y)) := by kernel_rfl
end Go.Proofs.YtdikilhobmkpkaaGreatDoor
namespace Go.Proofs.YtdikilhobmkpkaaGreatDoor
open Go Go.RowKit Go.Maps
theorem ix0 (x : UInt8) (r : List UInt8) (h : 0 < (ByteArray.mk (x :: r).toArray).size) : (ByteArray.mk (x :: r).toArray)[0] = x := rfl
theorem ext8 (v : List UInt8) : ((ByteArray.mk v.toArray).extract 0 8).toList = v.take 8 := by
  rw [Lib.toList_data]
  simp
section
attribute [local go_sem] ix0 ext8
set_option maxRecDepth 100000 in
set_option maxHeartbeats 400000 in
theorem right_any (a v : List UInt8) (w : World) (ha : a.length ≤ 1000) (hv1 : v.length ≤ 1000) : Calls Tryz.prog 43 #[.agg (kvc (a, v))] w fun e w' => e = .returned (.bool (rightP a v)) ∧ Below w.heap.size w w' := by
  obtain ⟨R, hR⟩ : ∃ R, R = rightP a v := ⟨_, rfl⟩
  rw [← hR]
  replace hR : Hid (R = rightP a v) := hR
  cases a with
  | nil =>
    have hR : R = false := hR.out
    subst hR
    go_enter Tryz.func43, Tryz.ntmps43
    go_wp2_with (with_reducible refine at_list ?_; refine wpList_boxRow (op := ⟨some 1, _, _, _, _, _⟩) rfl _ _ rfl _ rfl ?_; intro w1 hw1 hs1 hb1; replace hs1 := hs1.symm; have c0 := (hb1.cell 0).trans (kvc_g0 _); have c1 := (hb1.cell 1).trans (kvc_g1 _))
    go_ret
    exact ⟨rfl, hw1⟩
  | cons x r =>
    simp only [List.length_cons] at ha
    cases r with
    | nil =>
      have hR : R = false := hR.out
      subst hR
      go_enter Tryz.func43, Tryz.ntmps43
      go_wp2_with (with_reducible refine at_list ?_; refine wpList_boxRow (op := ⟨some 1, _, _, _, _, _⟩) rfl _ _ rfl _ rfl ?_; intro w1 hw1 hs1 hb1; replace hs1 := hs1.symm; have c0 := (hb1.cell 0).trans (kvc_g0 _); have c1 := (hb1.cell 1).trans (kvc_g1 _))
      go_ret
      exact ⟨rfl, hw1⟩
    | cons y r =>
      by_cases h1 : x = 107
      · subst h1
        by_cases h33 : r.length ≤ 31
        · by_cases h64 : v.length ≤ 64
          · have hR : R = true := by rw [hR.out]; unfold rightP; simp [h64]; omega
            subst hR
            have hb : decide ((v.length : Int) ≤ 64) = true := decide_eq_true (by omega)
            go_enter Tryz.func43, Tryz.ntmps43
            go_wp2_with (with_reducible refine at_list ?_; refine wpList_boxRow (op := ⟨some 1, _, _, _, _, _⟩) rfl _ _ rfl _ rfl ?_; intro w1 hw1 hs1 hb1; replace hs1 := hs1.symm; have c0 := (hb1.cell 0).trans (kvc_g0 _); have c1 := (hb1.cell 1).trans (kvc_g1 _))
            go_ret
            exact ⟨rfl, hw1⟩
          · have hR : R = false := by rw [hR.out]; unfold rightP; simp [h64]
            subst hR
            have hb : decide ((v.length : Int) ≤ 64) = false := decide_eq_false (by omega)
            go_enter Tryz.func43, Tryz.ntmps43
            go_wp2_with (with_reducible refine at_list ?_; refine wpList_boxRow (op := ⟨some 1, _, _, _, _, _⟩) rfl _ _ rfl _ rfl ?_; intro w1 hw1 hs1 hb1; replace hs1 := hs1.symm; have c0 := (hb1.cell 0).trans (kvc_g0 _); have c1 := (hb1.cell 1).trans (kvc_g1 _))
            go_ret
            exact ⟨rfl, hw1⟩
        · have hR : R = false := by rw [hR.out]; unfold rightP; simp; omega
          subst hR
          have hb : decide ((r.length : Int) + 1 + 1 ≤ 33) = false := decide_eq_false (by omega)
          go_enter Tryz.func43, Tryz.ntmps43
          go_wp2_with (with_reducible refine at_list ?_; refine wpList_boxRow (op := ⟨some 1, _, _, _, _, _⟩) rfl _ _ rfl _ rfl ?_; intro w1 hw1 hs1 hb1; replace hs1 := hs1.symm; have c0 := (hb1.cell 0).trans (kvc_g0 _); have c1 := (hb1.cell 1).trans (kvc_g1 _))
          go_ret
          exact ⟨rfl, hw1⟩
      · have hx1 : ((x.toNat : Int) == 107) = false := by
          rw [beq_eq_false_iff_ne]
          intro e
          exact h1 (UInt8.toNat_inj.1 (by show x.toNat = 107; omega))
        by_cases h2 : x = 110
        · subst h2
          by_cases h9 : r.length = 7
          · have hb9 : (((r.length : Int) + 1 + 1) == 9) = true := by rw [beq_iff_eq]; omega
            by_cases h40 : v.length = 40
            · have hR : R = !(v.take 8 == zs8) := by rw [hR.out]; unfold rightP; simp [h9, h40]
              have hb40 : ((v.length : Int) == 40) = true := by rw [beq_iff_eq]; omega
              have hv8 : 8 ≤ v.length := by omega
              unfold zs8 at hR
              replace h9 : Hid (r.length = 7) := h9
              replace h40 : Hid (v.length = 40) := h40
              go_enter Tryz.func43, Tryz.ntmps43
              go_wp2_with (with_reducible refine at_list ?_; refine wpList_boxRow (op := ⟨some 1, _, _, _, _, _⟩) rfl _ _ rfl _ rfl ?_; intro w1 hw1 hs1 hb1; replace hs1 := hs1.symm; have c0 := (hb1.cell 0).trans (kvc_g0 _); have c1 := (hb1.cell 1).trans (kvc_g1 _))
              go_ret
              exact ⟨rfl, hw1⟩
            · have hR : R = false := by rw [hR.out]; unfold rightP; simp [h9, h40]
              subst hR
              have hb40 : ((v.length : Int) == 40) = false := by rw [beq_eq_false_iff_ne]; omega
              replace h9 : Hid (r.length = 7) := h9
              replace h40 : Hid (¬ v.length = 40) := h40
              go_enter Tryz.func43, Tryz.ntmps43
              go_wp2_with (with_reducible refine at_list ?_; refine wpList_boxRow (op := ⟨some 1, _, _, _, _, _⟩) rfl _ _ rfl _ rfl ?_; intro w1 hw1 hs1 hb1; replace hs1 := hs1.symm; have c0 := (hb1.cell 0).trans (kvc_g0 _); have c1 := (hb1.cell 1).trans (kvc_g1 _))
              go_ret
              exact ⟨rfl, hw1⟩
          · have hR : R = false := by rw [hR.out]; unfold rightP; simp [h9]
            subst hR
            have hb9 : (((r.length : Int) + 1 + 1) == 9) = false := by rw [beq_eq_false_iff_ne]; omega
            replace h9 : Hid (¬ r.length = 7) := h9
            go_enter Tryz.func43, Tryz.ntmps43
            go_wp2_with (with_reducible refine at_list ?_; refine wpList_boxRow (op := ⟨some 1, _, _, _, _, _⟩) rfl _ _ rfl _ rfl ?_; intro w1 hw1 hs1 hb1; replace hs1 := hs1.symm; have c0 := (hb1.cell 0).trans (kvc_g0 _); have c1 := (hb1.cell 1).trans (kvc_g1 _))
            go_ret
            exact ⟨rfl, hw1⟩
        · have hx2 : ((x.toNat : Int) == 110) = false := by
            rw [beq_eq_false_iff_ne]
            intro e
            exact h2 (UInt8.toNat_inj.1 (by show x.toNat = 110; omega))
          have hR : R = false := by rw [hR.out]; unfold rightP; simp [h1, h2]
          subst hR
          by_cases h9 : r.length = 7
          · have hb9 : (((r.length : Int) + 1 + 1) == 9) = true := by rw [beq_iff_eq]; omega
            replace h9 : Hid (r.length = 7) := h9
            go_enter Tryz.func43, Tryz.ntmps43
            go_wp2_with (with_reducible refine at_list ?_; refine wpList_boxRow (op := ⟨some 1, _, _, _, _, _⟩) rfl _ _ rfl _ rfl ?_; intro w1 hw1 hs1 hb1; replace hs1 := hs1.symm; have c0 := (hb1.cell 0).trans (kvc_g0 _); have c1 := (hb1.cell 1).trans (kvc_g1 _))
            go_ret
            exact ⟨rfl, hw1⟩
          · have hb9 : (((r.length : Int) + 1 + 1) == 9) = false := by rw [beq_eq_false_iff_ne]; omega
            replace h9 : Hid (¬ r.length = 7) := h9
            go_enter Tryz.func43, Tryz.ntmps43
            go_wp2_with (with_reducible refine at_list ?_; refine wpList_boxRow (op := ⟨some 1, _, _, _, _, _⟩) rfl _ _ rfl _ rfl ?_; intro w1 hw1 hs1 hb1; replace hs1 := hs1.symm; have c0 := (hb1.cell 0).trans (kvc_g0 _); have c1 := (hb1.cell 1).trans (kvc_g1 _))
            go_ret
            exact ⟨rfl, hw1⟩
end
end Go.Proofs.YtdikilhobmkpkaaGreatDoor
namespace Go.Proofs.YtdikilhobmkpkaaGreatDoor
open Go Go.RowKit Go.Maps
theorem kvsB_take {l : List KV} {i : Nat} (h : i < l.length) : kvsB (l.take (i + 1)) = kvsB (l.take i) ++ ((num l[i].1.length 4 ++ l[i].1) ++ (num l[i].2.length 4 ++ l[i].2)) := by
  rw [List.take_succ_eq_append_getElem h, kvsB_snoc]
  rfl
theorem kvsB_small : ∀ {l : List KV}, (∀ p ∈ l, p.1.length ≤ 33 ∧ p.2.length ≤ 64) → (kvsB l).length ≤ 105 * l.length
  | [], _ => by simp [kvsB]
  | p :: l, h => by
    have h1 := kvsB_small (l := l) (fun q hq => h q (List.mem_cons_of_mem _ hq))
    have h2 := h p List.mem_cons_self
    have h3 := kvB_length p
    have : kvsB (p :: l) = kvB p ++ kvsB l := by simp [kvsB]
    rw [this, List.length_append, List.length_cons]
    omega
section
attribute [local go_sem] mkApp2
set_option maxRecDepth 100000 in
set_option maxHeartbeats 400000 in
theorem rsb_any (l : List KV) (hl : l.length ≤ 1024) (hs : ∀ p ∈ l, p.1.length ≤ 33 ∧ p.2.length ≤ 64) (a : Option Addr) (cap : Nat) (w : World) (h : KA w a l) :
    Calls Tryz.prog 45 #[.slice a l.length cap] w fun e w' => e = .returned (.string ⟨(encM l).toArray⟩) ∧ Below w.heap.size w w' := by
  have H3 := fun w => rnum_any l.length 4 w (by omega)
  rw [show cut8 4 = 4 from rfl] at H3
  have h64 := wrap_u64_nat l.length (by omega)
  unfold encM
  have hn3 := num_length 4 l.length
  generalize num l.length 4 = hd at *
  have HZ : Hid (hd ++ kvsB (l.take 0) = hd) := by rw [List.take_zero, kvsB_nil, List.append_nil]; exact rfl
  go_enter Tryz.func45, Tryz.ntmps45
  go_wp2_with (go_at_call 53; refine (H3 _).mono ?_; rintro e w1 ⟨rfl, hw1⟩; clear H3)
  go_loopw [3, 4] (fun v3 v4 wl => ∃ i : Nat, i ≤ l.length ∧ v3 = .string ⟨(hd ++ kvsB (l.take i)).toArray⟩ ∧ v4 = .int .i64 i ∧ Below w.heap.size w wl) (fun _ v4 _ => l.length - (intOf v4).toNat)
  case atStart => exact ⟨0, by omega, by rw [HZ.out], rfl, hw1⟩
  case round =>
    obtain ⟨i, hi, rfl, rfl, hB⟩ := hrel
    clear hw1 HZ
    by_cases hlt : i < l.length
    · obtain ⟨g, o, rfl, hr⟩ := (h.below hB) i hlt
      have hO := hs _ (List.getElem_mem hlt)
      have hT : Hid (kvsB (l.take (i + 1)) = _) := kvsB_take hlt
      have hlen := kvsB_small (l := l.take i) (fun p hp => hs p (List.mem_of_mem_take hp))
      rw [List.length_take] at hlen
      generalize l[i] = y at *
      obtain ⟨key, vv⟩ := y
      obtain ⟨hy1, hv1⟩ := hO
      dsimp only at hy1 hv1 hT
      have d1 : wr.cell? ⟨g, o + i * 2, none⟩ = some (.string ⟨key.toArray⟩) := hr 0 _ rfl
      have d2 : wr.cell? ⟨g, o + i * 2 + 1, none⟩ = some (.string ⟨vv.toArray⟩) := hr 1 _ rfl
      have HL : Hid ((hd ++ kvsB (l.take i)).length ≤ 4 + 105 * 1024) := by rw [List.length_append, hn3]; show _ ≤ _; omega
      have HLL := HL.out
      obtain ⟨tb, htb⟩ : ∃ tb, tb = hd ++ kvsB (l.take i) := ⟨_, rfl⟩
      have HTB : Hid (hd ++ kvsB (l.take i) = tb) := htb.symm
      rw [← htb] at HLL ⊢
      clear htb
      have G2 := fun w => rtext_str key w (by omega)
      have G3 := fun w => rtext_str vv w (by omega)
      have hn2 : (num key.length 4 ++ key).length = 4 + key.length := by rw [List.length_append, num_length]
      have hn4 : (num vv.length 4 ++ vv).length = 4 + vv.length := by rw [List.length_append, num_length]
      generalize num key.length 4 ++ key = tk at *
      generalize num vv.length 4 ++ vv = tv at *
      have hz1 : (0 : Int) ≤ (i : Int) := by omega
      have hz2 : (i : Int) < (l.length : Int) := by omega
      have f2 : ¬ 9223372036854775807 < tk.length + tv.length := by omega
      have f3 : ¬ 9223372036854775807 < tb.length + (tk.length + tv.length) := by omega
      clear hn2 hn4 HLL HL hlen hr
      go_wp2_with fail
      go_region_held3 (fun w' => w'.cell? ⟨g, o + i * 2, none⟩ = some (.string ⟨key.toArray⟩) ∧ w'.cell? ⟨g, o + i * 2 + 1, none⟩ = some (.string ⟨vv.toArray⟩)) ((go_split_ands; first | exact ⟨d1, d2⟩ | exact ⟨cell_keep (by assumption) (by assumption), cell_keep (by assumption) (by assumption)⟩)) (first
        | (go_at_call 74; refine (G2 _).mono ?_; rintro e w6 ⟨rfl, hw6⟩; clear G2)
        | (go_at_call 74; refine (G3 _).mono ?_; rintro e w7 ⟨rfl, hw7⟩; clear G3))
      have hB7 : Below w.heap.size w w7 := (hB.trans ((Below.refl _ _).drew.trans (hw6.mono (Nat.le_refl _)) |>.mono hB.size)).trans (hw7.mono (Nat.le_trans hB.size hw6.size))
      clear hB d1 d2 hw6 hw7
      go_wp2_with fail
      go_roundw
      case rel => exact ⟨i + 1, by omega, by rw [hT.out, ← HTB.out]; simp only [List.append_assoc], by go_num, hB7⟩
      case measure => simp [intOf]; omega
    · have hT : Hid (l.take i = l) := List.take_of_length_le (by omega)
      rw [hT.out]
      clear hT
      go_wp2_with fail
      go_ret
      exact ⟨rfl, hB⟩
end
end Go.Proofs.YtdikilhobmkpkaaGreatDoor
