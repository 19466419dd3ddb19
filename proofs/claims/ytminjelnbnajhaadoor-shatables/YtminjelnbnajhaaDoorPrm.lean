/- What primes does: a slice of numbers that grows. -/
import Derived.Test.YtminjelnbnajhaaDoorRoo
namespace Go.Proofs.YtminjelnbnajhaaDoor
open Go Go.RowKit
def uv (n : Nat) : Value := .int .u64 (q n)
/-- Block g holds a slice's numbers l, with room for cap. -/
structure US (w : World) (g cap : Nat) (l : List Nat) : Prop where
  out : ∃ (cur : Array Value) (fr : Nat × Nat), w.heap[g]? = some (.cells cur 55 fr) ∧ l.length ≤ cap ∧ cap ≤ cur.size ∧ (fr = (0, 0) ∨ cur.size ≤ fr.1) ∧ ∀ j, j < l.length → cur[j]? = some (uv (l.getD j 0))
theorem US.lt {w : World} {g cap : Nat} {l : List Nat} (h : US w g cap l) : g < w.heap.size := by
  obtain ⟨cur, fr, h1, _⟩ := h.out
  exact (Array.getElem?_eq_some_iff.1 h1).1
theorem US.cell {w : World} {g cap : Nat} {l : List Nat} (h : US w g cap l) (j : Nat) (hj : j < l.length) : w.cell? ⟨g, j, none⟩ = some (.int .u64 (q (l.getD j 0))) := by
  obtain ⟨cur, fr, h1, _, _, _, h5⟩ := h.out
  simp only [World.cell?, h1]
  rw [h5 j hj]; rfl
theorem US.below {w w' : World} {g cap B : Nat} {l : List Nat} (h : US w g cap l) (hb : Below B w w') (hl : g < B) : US w' g cap l := by
  obtain ⟨cur, fr, h1, hr⟩ := h.out
  exact ⟨cur, fr, by rw [hb.block g hl]; exact h1, hr⟩
theorem US.belowSize {w w' : World} {g cap : Nat} {l : List Nat} (h : US w g cap l) (hb : Below w.heap.size w w') : US w' g cap l := h.below hb h.lt
theorem US.drew {w : World} {g cap : Nat} {l : List Nat} (h : US w g cap l) : US w.drew g cap l := ⟨h.out⟩
theorem uvCells_get (l : List Nat) (j : Nat) (hj : j < l.length) : (l.map uv)[j]? = some (uv (l.getD j 0)) := by
  rw [List.getElem?_map, List.getElem?_eq_getElem hj, List.getD_eq_getElem?_getD, List.getElem?_eq_getElem hj]
  rfl
section
variable {P : Program} {ops : Array Oper} {rest : List Oper} {op : Oper} {a : Act} {w : World} {Q : Exit → Act → World → Prop}
/-- append's run of one number, whether there is room or not. -/
theorem run_appendUS (t ty : TypeId) (g cap : Nat) (l : List Nat) (hbs : US w g cap l) (g2 c : Nat) (x : Nat) (ty2 : TypeId) (hb2 : Blk w g2 #[uv x] ty2) (i : TypeInfo)
    (hu : P.underlying t = some (.slice 55)) (hi : P.info? 55 = some i) (hz : i.zero = some (.int .u64 0)) (hs : i.size = 1) (hby : i.bytes = 8) (hlen : l.length + 1 ≤ 1099511627776) :
    ∃ (w1 : World) (g1 cap1 : Nat), (Builtin.append_ #[t, t] ty #[.slice (some ⟨g, 0, none⟩) l.length cap, .slice (some ⟨g2, 0, none⟩) 1 c]).run P w = .ok (.slice (some ⟨g1, 0, none⟩) (l.length + 1) cap1) w1 ∧
      (g1 = g ∨ w.heap.size ≤ g1) ∧ w.grownBy w1 (some g) ∧ US w1 g1 cap1 (l ++ [x]) := by
  obtain ⟨cur, fr, h1, h2, h3, h4, h5⟩ := hbs.out
  have hlt := hbs.lt
  have hsrc : Src P i.size t (.slice (some ⟨g2, 0, none⟩) 1 c) 1 [uv x] w :=
    Src.ofSlice w hu ⟨g2, 0, none⟩ 1 c _ (by rw [hs]; rfl) (fun j u hj => by
      have hjn : j = 0 := by have := (List.getElem?_eq_some_iff.1 hj).1; simp at this; exact this
      subst hjn
      rw [Addr.add_mid, Nat.zero_add, hb2.cell]
      simpa using hj)
      (fun u hu => by
        rw [List.mem_singleton.1 hu]
        rfl)
  by_cases hroom : l.length + 1 ≤ cap
  · have hr := run_append_room_src (P := P) w t t ty 55 i hu hi g 0 l.length cap _ 1 _ hsrc hroom
      (fun j hj => by
        rw [hs, Nat.mul_one, Nat.zero_add]
        simp only [World.cell?, h1]
        rw [Array.getElem?_eq_getElem (by simp at hj; omega)]; rfl)
      (fun j hj => by
        rw [hs, Nat.mul_one, Nat.zero_add]
        simp only [World.frozen?, h1]
        simp at hj
        rcases h4 with h4 | h4
        · rw [h4]; simp
        · simp; intro h; omega)
    rw [hs, Nat.mul_one, Nat.zero_add] at hr
    refine ⟨_, g, cap, hr, .inl rfl, grown_setCells _ _ _ _, ?_⟩
    have hset : (w.setCells g l.length [uv x]).heap[g]? = some (.cells (spl cur l.length [uv x]) 55 fr) := by
      simp [World.setCells, World.setCell, Array.getElem?_modify, h1, spl]
    refine ⟨_, fr, hset, by simp; omega, by rw [spl_size]; exact h3, by rw [spl_size]; exact h4, ?_⟩
    intro j hj
    have hj' : j < l.length + 1 := by simpa using hj
    rw [spl_get _ _ _ _ (by simp; omega)]
    by_cases hjl : j < l.length
    · rw [if_neg (by simp; omega), h5 j hjl, List.getD_eq_getElem?_getD, List.getD_eq_getElem?_getD, List.getElem?_append_left hjl]
    · obtain rfl : j = l.length := by omega
      rw [if_pos (by simp), List.getD_eq_getElem?_getD, List.getElem?_append_right (by omega)]
      simp
  · have hold : (Builtin.firstCells i.size l.length (.slice (some ⟨g, 0, none⟩) l.length cap)).run P w.drew = .ok (l.map uv).toArray w.drew :=
      run_firstCells_some w.drew i.size l.length ⟨g, 0, none⟩ l.length cap _ (by simp [hs]) (fun j u hj => by
        have hjn : j < l.length := by have := (List.getElem?_eq_some_iff.1 hj).1; simpa using this
        rw [uvCells_get _ _ hjn] at hj
        rw [Addr.add_mid, Nat.zero_add, hbs.drew.cell j hjn]; exact hj)
    have hr := run_append_grow_src (P := P) w t t ty 55 i _ hu hi hz (some ⟨g, 0, none⟩) l.length cap _ hold _ 1 _ hsrc (by omega) (by omega) (growslice_fits (by omega) (by rw [hby]; omega))
    have hge : l.length + 1 ≤ grownCap w (l.length + 1) cap 55 := grownCap_ge w _ _ _
    refine ⟨_, w.heap.size, _, hr, .inr (Nat.le_refl _), ?_, ?_⟩
    · exact grown_of_below ((Below.refl w.heap.size w).drew.alloc (Nat.le_refl _) _)
    · refine ⟨_, (0, 0), heap_alloc_last w.drew _, by simp; exact hge, ?_, .inl rfl, ?_⟩
      · simp [size_zeroCells, Value.cells]; omega
      · intro j hj
        have hj' : j < l.length + 1 := by simpa using hj
        rw [Array.getElem?_append_left (by simp; omega)]
        simp only [List.getElem?_toArray]
        rw [show (l.map uv ++ [uv x]) = (l ++ [x]).map uv from by simp, uvCells_get _ _ hj]
theorem wpList_appendUS (hgd : op.guard = none) (x y : Operand) (t : TypeId) (ho : op.op = .call { callee := .builtin .append, args := #[x, y], argTypes := #[t, t] })
    (g cap : Nat) (l : List Nat) (len : Nat) (hl : len = l.length) (hx : a.eval x = .slice (some ⟨g, 0, none⟩) len cap) (hbs : US w g cap l) (g2 c : Nat) (hy : a.eval y = .slice (some ⟨g2, 0, none⟩) 1 c) (s : Nat) (ty2 : TypeId) (hb2 : Blk w g2 #[uv s] ty2) (i : TypeInfo)
    (hu : P.underlying t = some (.slice 55)) (hi : P.info? 55 = some i) (hz : i.zero = some (.int .u64 0)) (hs : i.size = 1) (hby : i.bytes = 8) (hlen : l.length + 1 ≤ 1099511627776)
    (h : ∀ (w1 : World) (g1 cap1 : Nat), (g1 = g ∨ w.heap.size ≤ g1) → w.grownBy w1 (some g) → US w1 g1 cap1 (l ++ [s]) → wpList P ops Q rest (a.put op.dst (.slice (some ⟨g1, 0, none⟩) (len + 1) cap1)) w1) :
    wpList P ops Q (op :: rest) a w := by
  subst hl
  obtain ⟨w1, g1, cap1, hr, hg1, hg, hb⟩ := run_appendUS (P := P) t op.type g cap l hbs g2 c s ty2 hb2 i hu hi hz hs hby hlen
  refine wpList_run hgd _ _ ?_ (h w1 g1 cap1 hg1 hg hb)
  unfold execOp
  simp only [ho]
  simp [resolve, invoke, builtin, hx, hy, hr, Result.andThen]
theorem wpList_buildU (hgd : op.guard = none) (t : TypeId) (n : Nat) (parts : Array (Nat × Operand)) (ho : op.op = .buildSlice t n parts) (c : Array Value)
    (hr : ∀ w, (Instr.buildSlice t n (parts.map fun (i, x) => (i, a.eval x))).run P w = .ok (.slice (some ⟨w.heap.size, 0, none⟩) n n) (w.alloc (.cells c 55)))
    (h : ∀ w1 : World, Below w.heap.size w w1 → w1.heap.size = w.heap.size + 1 → Blk w1 w.heap.size c 55 → wpList P ops Q rest (a.put op.dst (.slice (some ⟨w.heap.size, 0, none⟩) n n)) w1) : wpList P ops Q (op :: rest) a w := by
  refine wpList_run hgd _ _ ?_ (h _ ((Below.refl _ _).alloc (Nat.le_refl _) _) (by simp) (Blk.new _ _ _))
  unfold execOp
  simp only [ho, Sem.run_bind, hr, Result.andThen_ok]
  rfl
end
theorem info55 : ∃ i, Tryd.prog.info? 55 = some i ∧ i.zero = some (.int .u64 0) ∧ i.size = 1 ∧ i.bytes = 8 := by
  have h : (Tryd.prog.info? 55).map (fun i => (i.zero, i.size, i.bytes)) = some (some (.int .u64 0), 1, 8) := by kernel_rfl
  cases hq : Tryd.prog.info? 55 with
  | none => rw [hq] at h; cases h
  | some i => rw [hq] at h; simp at h; exact ⟨i, rfl, h.1, h.2.1, h.2.2⟩
theorem usl0 (w : World) : (Instr.buildSlice 64 0 #[]).run Tryd.prog w = .ok (.slice (some ⟨w.heap.size, 0, none⟩) 0 0) (w.alloc (.cells #[] 55)) := by
  simp [Instr.buildSlice, run_underlying Tryd.underlying64, sizeOf_run i44, Sem.run_bind, Instr.fill, newRow, range0]
theorem usl1 (x : Nat) (w : World) : (Instr.buildSlice 64 1 #[(0, uv x)]).run Tryd.prog w = .ok (.slice (some ⟨w.heap.size, 0, none⟩) 1 1) (w.alloc (.cells #[uv x] 55)) := by
  simp [Instr.buildSlice, run_underlying Tryd.underlying64, sizeOf_run i44, Sem.run_bind, Instr.fill, newRow, Tryd.zeroValue55, Value.cells, range1, uv]
section
variable {ops : Array Oper} {rest : List Oper} {op : Oper} {a : Act} {w : World} {Q : Exit → Act → World → Prop}
theorem wpList_usl0 (hgd : op.guard = none) (ho : op.op = .buildSlice 64 0 #[])
    (h : ∀ w1 : World, Below w.heap.size w w1 → w1.heap.size = w.heap.size + 1 → US w1 w.heap.size 0 [] → wpList Tryd.prog ops Q rest (a.put op.dst (.slice (some ⟨w.heap.size, 0, none⟩) 0 0)) w1) : wpList Tryd.prog ops Q (op :: rest) a w :=
  wpList_buildU hgd 64 0 #[] ho #[] (fun w => by rw [Array.map_empty]; exact usl0 w) (fun w1 hw hs hb => h w1 hw hs ⟨#[], (0, 0), hb.out, by simp, by simp, .inl rfl, fun j hj => by simp at hj⟩)
theorem wpList_usl1 (hgd : op.guard = none) (x : Operand) (ho : op.op = .buildSlice 64 1 #[(0, x)]) (v : Nat) (hx : a.eval x = .int .u64 (q v))
    (h : ∀ w1 : World, Below w.heap.size w w1 → w1.heap.size = w.heap.size + 1 → Blk w1 w.heap.size #[uv v] 55 → wpList Tryd.prog ops Q rest (a.put op.dst (.slice (some ⟨w.heap.size, 0, none⟩) 1 1)) w1) : wpList Tryd.prog ops Q (op :: rest) a w :=
  wpList_buildU hgd 64 1 #[(0, x)] ho #[uv v] (fun w => by
    have e : (#[(0, x)] : Array (Nat × Operand)).map (fun (i, x) => (i, a.eval x)) = #[(0, uv v)] := by simp [hx, uv]
    rw [e]; exact usl1 v w) h
end
end Go.Proofs.YtminjelnbnajhaaDoor
