/- A slice of texts that grows: what it holds, and appending to it. -/
import Derived.Test.YtmeolaeoaoldoaaDoorSWh
namespace Go.Proofs.YtmeolaeoaoldoaaDoor.Sh
open Go Go.RowKit
def sv (t : List UInt8) : Value := .string ⟨t.toArray⟩
/-- Block g holds a slice's texts l, with room for cap. -/
structure SS (w : World) (g cap : Nat) (l : List (List UInt8)) : Prop where
  out : ∃ (cur : Array Value) (fr : Nat × Nat), w.heap[g]? = some (.cells cur 9 fr) ∧ l.length ≤ cap ∧ cap ≤ cur.size ∧ (fr = (0, 0) ∨ cur.size ≤ fr.1) ∧ ∀ j, j < l.length → cur[j]? = some (sv (l.getD j []))
theorem SS.lt {w : World} {g cap : Nat} {l : List (List UInt8)} (h : SS w g cap l) : g < w.heap.size := by
  obtain ⟨cur, fr, h1, _⟩ := h.out
  exact (Array.getElem?_eq_some_iff.1 h1).1
theorem SS.cell {w : World} {g cap : Nat} {l : List (List UInt8)} (h : SS w g cap l) (j : Nat) (hj : j < l.length) : w.cell? ⟨g, j, none⟩ = some (.string ⟨(l.getD j []).toArray⟩) := by
  obtain ⟨cur, fr, h1, _, _, _, h5⟩ := h.out
  simp only [World.cell?, h1]
  rw [h5 j hj]; rfl
theorem SS.below {w w' : World} {g cap B : Nat} {l : List (List UInt8)} (h : SS w g cap l) (hb : Below B w w') (hl : g < B) : SS w' g cap l := by
  obtain ⟨cur, fr, h1, hr⟩ := h.out
  exact ⟨cur, fr, by rw [hb.block g hl]; exact h1, hr⟩
theorem SS.belowSize {w w' : World} {g cap : Nat} {l : List (List UInt8)} (h : SS w g cap l) (hb : Below w.heap.size w w') : SS w' g cap l := h.below hb h.lt
theorem SS.grown {w w' : World} {g cap : Nat} {row : Option Nat} {l : List (List UInt8)} (h : SS w g cap l) (hb : w.grownBy w' row) (hr : some g ≠ row) : SS w' g cap l := by
  obtain ⟨cur, fr, h1, hr'⟩ := h.out
  exact ⟨cur, fr, by rw [hb.block g h.lt hr]; exact h1, hr'⟩
theorem SS.drew {w : World} {g cap : Nat} {l : List (List UInt8)} (h : SS w g cap l) : SS w.drew g cap l := ⟨h.out⟩
theorem svCells_get (l : List (List UInt8)) (j : Nat) (hj : j < l.length) : (l.map sv)[j]? = some (sv (l.getD j [])) := by
  rw [List.getElem?_map, List.getElem?_eq_getElem hj, List.getD_eq_getElem?_getD, List.getElem?_eq_getElem hj]
  rfl
section
variable {P : Program} {ops : Array Oper} {rest : List Oper} {op : Oper} {a : Act} {w : World} {Q : Exit → Act → World → Prop}
/-- append's run of one text, whether there is room or not. -/
theorem run_appendSS (t ty : TypeId) (g cap : Nat) (l : List (List UInt8)) (hbs : SS w g cap l) (g2 c : Nat) (x : List UInt8) (ty2 : TypeId) (hb2 : Blk w g2 #[sv x] ty2) (i : TypeInfo)
    (hu : P.underlying t = some (.slice 9)) (hi : P.info? 9 = some i) (hz : i.zero = some (.string ⟨#[]⟩)) (hs : i.size = 1) (hby : i.bytes = 16) (hlen : l.length + 1 ≤ 1099511627776) :
    ∃ (w1 : World) (g1 cap1 : Nat), (Builtin.append_ #[t, t] ty #[.slice (some ⟨g, 0, none⟩) l.length cap, .slice (some ⟨g2, 0, none⟩) 1 c]).run P w = .ok (.slice (some ⟨g1, 0, none⟩) (l.length + 1) cap1) w1 ∧
      (g1 = g ∨ w.heap.size ≤ g1) ∧ w.grownBy w1 (some g) ∧ SS w1 g1 cap1 (l ++ [x]) := by
  obtain ⟨cur, fr, h1, h2, h3, h4, h5⟩ := hbs.out
  have hlt := hbs.lt
  have hsrc : Src P i.size t (.slice (some ⟨g2, 0, none⟩) 1 c) 1 [sv x] w :=
    Src.ofSlice w hu ⟨g2, 0, none⟩ 1 c _ (by rw [hs]; rfl) (fun j u hj => by
      have hjn : j = 0 := by have := (List.getElem?_eq_some_iff.1 hj).1; simp at this; exact this
      subst hjn
      rw [Addr.add_mid, Nat.zero_add, hb2.cell]
      simpa using hj)
      (fun u hu => by
        rw [List.mem_singleton.1 hu]
        rfl)
  by_cases hroom : l.length + 1 ≤ cap
  · have hr := run_append_room_src (P := P) w t t ty 9 i hu hi g 0 l.length cap _ 1 _ hsrc hroom
      (fun j hj => by
        rw [hs, Nat.mul_one, Nat.zero_add]
        simp only [World.cell?, h1]
        rw [Array.getElem?_eq_getElem (by simp at hj; omega)]; rfl)
      (fun j hj => by
        rw [hs, Nat.mul_one, Nat.zero_add]
        simp only [World.frozen?, h1]
        simp at hj
        rcases h4 with h4 | h4
        · rw [h4]; simp
        · simp; intro h; omega)
    rw [hs, Nat.mul_one, Nat.zero_add] at hr
    refine ⟨_, g, cap, hr, .inl rfl, grown_setCells _ _ _ _, ?_⟩
    have hset : (w.setCells g l.length [sv x]).heap[g]? = some (.cells (spl cur l.length [sv x]) 9 fr) := by
      simp [World.setCells, World.setCell, Array.getElem?_modify, h1, spl]
    refine ⟨_, fr, hset, by simp; omega, by rw [spl_size]; exact h3, by rw [spl_size]; exact h4, ?_⟩
    intro j hj
    have hj' : j < l.length + 1 := by simpa using hj
    rw [spl_get _ _ _ _ (by simp; omega)]
    by_cases hjl : j < l.length
    · rw [if_neg (by simp; omega), h5 j hjl, List.getD_eq_getElem?_getD, List.getD_eq_getElem?_getD, List.getElem?_append_left hjl]
    · obtain rfl : j = l.length := by omega
      rw [if_pos (by simp), List.getD_eq_getElem?_getD, List.getElem?_append_right (by omega)]
      simp
  · have hold : (Builtin.firstCells i.size l.length (.slice (some ⟨g, 0, none⟩) l.length cap)).run P w.drew = .ok (l.map sv).toArray w.drew :=
      run_firstCells_some w.drew i.size l.length ⟨g, 0, none⟩ l.length cap _ (by simp [hs]) (fun j u hj => by
        have hjn : j < l.length := by have := (List.getElem?_eq_some_iff.1 hj).1; simpa using this
        rw [svCells_get _ _ hjn] at hj
        rw [Addr.add_mid, Nat.zero_add, hbs.drew.cell j hjn]; exact hj)
    have hr := run_append_grow_src (P := P) w t t ty 9 i _ hu hi hz (some ⟨g, 0, none⟩) l.length cap _ hold _ 1 _ hsrc (by omega) (by omega) (growslice_fits (by omega) (by rw [hby]; omega))
    have hge : l.length + 1 ≤ grownCap w (l.length + 1) cap 9 := grownCap_ge w _ _ _
    refine ⟨_, w.heap.size, _, hr, .inr (Nat.le_refl _), ?_, ?_⟩
    · exact grown_of_below ((Below.refl w.heap.size w).drew.alloc (Nat.le_refl _) _)
    · refine ⟨_, (0, 0), heap_alloc_last w.drew _, by simp; exact hge, ?_, .inl rfl, ?_⟩
      · simp [size_zeroCells, Value.cells]; omega
      · intro j hj
        have hj' : j < l.length + 1 := by simpa using hj
        rw [Array.getElem?_append_left (by simp; omega)]
        simp only [List.getElem?_toArray]
        rw [show (l.map sv ++ [sv x]) = (l ++ [x]).map sv from by simp, svCells_get _ _ hj]
theorem wpList_appendSS (hgd : op.guard = none) (x y : Operand) (t : TypeId) (ho : op.op = .call { callee := .builtin .append, args := #[x, y], argTypes := #[t, t] })
    (g cap : Nat) (l : List (List UInt8)) (len : Nat) (hl : len = l.length) (hx : a.eval x = .slice (some ⟨g, 0, none⟩) len cap) (hbs : SS w g cap l) (g2 c : Nat) (hy : a.eval y = .slice (some ⟨g2, 0, none⟩) 1 c) (s : List UInt8) (ty2 : TypeId) (hb2 : Blk w g2 #[sv s] ty2) (i : TypeInfo)
    (hu : P.underlying t = some (.slice 9)) (hi : P.info? 9 = some i) (hz : i.zero = some (.string ⟨#[]⟩)) (hs : i.size = 1) (hby : i.bytes = 16) (hlen : l.length + 1 ≤ 1099511627776)
    (h : ∀ (w1 : World) (g1 cap1 : Nat), (g1 = g ∨ w.heap.size ≤ g1) → w.grownBy w1 (some g) → SS w1 g1 cap1 (l ++ [s]) → wpList P ops Q rest (a.put op.dst (.slice (some ⟨g1, 0, none⟩) (len + 1) cap1)) w1) :
    wpList P ops Q (op :: rest) a w := by
  subst hl
  obtain ⟨w1, g1, cap1, hr, hg1, hg, hb⟩ := run_appendSS (P := P) t op.type g cap l hbs g2 c s ty2 hb2 i hu hi hz hs hby hlen
  refine wpList_run hgd _ _ ?_ (h w1 g1 cap1 hg1 hg hb)
  unfold execOp
  simp only [ho]
  simp [resolve, invoke, builtin, hx, hy, hr, Result.andThen]
theorem wpList_buildTx (hgd : op.guard = none) (t : TypeId) (n : Nat) (parts : Array (Nat × Operand)) (ho : op.op = .buildSlice t n parts) (c : Array Value)
    (hr : ∀ w, (Instr.buildSlice t n (parts.map fun (i, x) => (i, a.eval x))).run P w = .ok (.slice (some ⟨w.heap.size, 0, none⟩) n n) (w.alloc (.cells c 9)))
    (h : ∀ w1 : World, Below w.heap.size w w1 → w1.heap.size = w.heap.size + 1 → Blk w1 w.heap.size c 9 → wpList P ops Q rest (a.put op.dst (.slice (some ⟨w.heap.size, 0, none⟩) n n)) w1) : wpList P ops Q (op :: rest) a w := by
  refine wpList_run hgd _ _ ?_ (h _ ((Below.refl _ _).alloc (Nat.le_refl _) _) (by simp) (Blk.new _ _ _))
  unfold execOp
  simp only [ho, Sem.run_bind, hr, Result.andThen_ok]
  rfl
end
theorem info9 : ∃ i, Tryd.prog.info? 9 = some i ∧ i.zero = some (.string ⟨#[]⟩) ∧ i.size = 1 ∧ i.bytes = 16 := by
  have h : (Tryd.prog.info? 9).map (fun i => (i.zero, i.size, i.bytes)) = some (some (.string ⟨#[]⟩), 1, 16) := by kernel_rfl
  cases hq : Tryd.prog.info? 9 with
  | none => rw [hq] at h; cases h
  | some i => rw [hq] at h; simp at h; exact ⟨i, rfl, h.1, h.2.1, h.2.2⟩
theorem i9 : (Tryd.prog.info? 9).map (·.size) = some 1 := by kernel_rfl
theorem tsl0 (w : World) : (Instr.buildSlice 48 0 #[]).run Tryd.prog w = .ok (.slice (some ⟨w.heap.size, 0, none⟩) 0 0) (w.alloc (.cells #[] 9)) := by
  simp [Instr.buildSlice, run_underlying Tryd.underlying48, sizeOf_run i9, Sem.run_bind, Instr.fill, newRow, range0]
theorem tsl1 (x : List UInt8) (w : World) : (Instr.buildSlice 48 1 #[(0, sv x)]).run Tryd.prog w = .ok (.slice (some ⟨w.heap.size, 0, none⟩) 1 1) (w.alloc (.cells #[sv x] 9)) := by
  simp [Instr.buildSlice, run_underlying Tryd.underlying48, sizeOf_run i9, Sem.run_bind, Instr.fill, newRow, Tryd.zeroValue9, Value.cells, range1, sv]
section
variable {ops : Array Oper} {rest : List Oper} {op : Oper} {a : Act} {w : World} {Q : Exit → Act → World → Prop}
theorem wpList_tsl0 (hgd : op.guard = none) (ho : op.op = .buildSlice 48 0 #[])
    (h : ∀ w1 : World, Below w.heap.size w w1 → w1.heap.size = w.heap.size + 1 → SS w1 w.heap.size 0 [] → wpList Tryd.prog ops Q rest (a.put op.dst (.slice (some ⟨w.heap.size, 0, none⟩) 0 0)) w1) : wpList Tryd.prog ops Q (op :: rest) a w :=
  wpList_buildTx hgd 48 0 #[] ho #[] (fun w => by rw [Array.map_empty]; exact tsl0 w) (fun w1 hw hs hb => h w1 hw hs ⟨#[], (0, 0), hb.out, by simp, by simp, .inl rfl, fun j hj => by simp at hj⟩)
theorem wpList_tsl1 (hgd : op.guard = none) (x : Operand) (ho : op.op = .buildSlice 48 1 #[(0, x)]) (v : List UInt8) (hx : a.eval x = .string ⟨v.toArray⟩)
    (h : ∀ w1 : World, Below w.heap.size w w1 → w1.heap.size = w.heap.size + 1 → Blk w1 w.heap.size #[sv v] 9 → wpList Tryd.prog ops Q rest (a.put op.dst (.slice (some ⟨w.heap.size, 0, none⟩) 1 1)) w1) : wpList Tryd.prog ops Q (op :: rest) a w :=
  wpList_buildTx hgd 48 1 #[(0, x)] ho #[sv v] (fun w => by
    have e : (#[(0, x)] : Array (Nat × Operand)).map (fun (i, x) => (i, a.eval x)) = #[(0, sv v)] := by simp [hx, sv]
    rw [e]; exact tsl1 v w) h
end
/-- The texts l lie at a. -/
def XA (w : World) (a : Option Addr) (l : List (List UInt8)) : Prop := ∀ i (h : i < l.length), ∃ g o, a = some ⟨g, o, none⟩ ∧ w.cell? ⟨g, o + i, none⟩ = some (.string ⟨(l[i]).toArray⟩)
theorem XA.below {w w' : World} {a : Option Addr} {l : List (List UInt8)} (h : XA w a l) (hb : Below w.heap.size w w') : XA w' a l := fun i hi => by
  obtain ⟨g, o, ha, hr⟩ := h i hi
  exact ⟨g, o, ha, by rw [hb.cell (World.block_lt_of_cell? _ _ hr)]; exact hr⟩
theorem XA.nil (w : World) (a : Option Addr) : XA w a [] := fun i hi => by simp at hi
theorem XA.ex {w : World} {a : Option Addr} {l : List (List UInt8)} (h : XA w a l) (h0 : 0 < l.length) : ∃ g o, a = some ⟨g, o, none⟩ := by
  obtain ⟨g, o, ha, _⟩ := h 0 h0
  exact ⟨g, o, ha⟩
theorem XA.at {w : World} {g o : Nat} {l : List (List UInt8)} (h : XA w (some ⟨g, o, none⟩) l) (i : Nat) (hi : i < l.length) : w.cell? ⟨g, o + i, none⟩ = some (.string ⟨(l[i]).toArray⟩) := by
  obtain ⟨g', o', ha, hr⟩ := h i hi
  simp only [Option.some.injEq, Addr.mk.injEq, and_true] at ha
  rw [ha.1, ha.2]
  exact hr
theorem XA.take {w : World} {a : Option Addr} {l : List (List UInt8)} (h : XA w a l) (k : Nat) : XA w a (l.take k) := fun i hi => by
  rw [List.length_take] at hi
  obtain ⟨g, o, ha, hr⟩ := h i (by omega)
  exact ⟨g, o, ha, by rw [List.getElem_take]; exact hr⟩
theorem XA.drop {w : World} {g o : Nat} {l : List (List UInt8)} (h : XA w (some ⟨g, o, none⟩) l) (k : Nat) : XA w (some ⟨g, o + k, none⟩) (l.drop k) := fun i hi => by
  rw [List.length_drop] at hi
  have hr := h.at (k + i) (by omega)
  exact ⟨g, o + k, rfl, by rw [List.getElem_drop, Nat.add_assoc]; exact hr⟩
theorem SS.xa {w : World} {g cap : Nat} {l : List (List UInt8)} (h : SS w g cap l) : XA w (some ⟨g, 0, none⟩) l := fun i hi => ⟨g, 0, rfl, by
  rw [Nat.zero_add, h.cell i hi, List.getD_eq_getElem?_getD, List.getElem?_eq_getElem hi]
  rfl⟩
end Go.Proofs.YtmeolaeoaoldoaaDoor.Sh
