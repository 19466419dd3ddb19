/- A slice of bytes that grows: what it holds, and appending to it. What the plain digest does: its tables, and small slices made out of their parts. A slice of texts that grows: what it holds, and appending to it. -/
import Derived.Test.YtmbdhngoldganaaGreatDoorSWg
namespace Go.Proofs.YtmbdhngoldganaaGreatDoor.Sh
open Go Go.RowKit

structure BS (w : World) (g cap : Nat) (l : List UInt8) : Prop where
  out : ∃ (cur : Array Value) (fr : Nat × Nat), w.heap[g]? = some (.cells cur 5 fr) ∧ l.length ≤ cap ∧ cap ≤ cur.size ∧ (fr = (0, 0) ∨ cur.size ≤ fr.1) ∧ ∀ j, j < l.length → cur[j]? = some (.int .u8 (n8 (l.getD j 0)))
theorem BS.lt {w : World} {g cap : Nat} {l : List UInt8} (h : BS w g cap l) : g < w.heap.size := by
  obtain ⟨cur, fr, h1, _⟩ := h.out
  exact (Array.getElem?_eq_some_iff.1 h1).1
theorem BS.cell {w : World} {g cap : Nat} {l : List UInt8} (h : BS w g cap l) (j : Nat) (hj : j < l.length) : w.cell? ⟨g, j, none⟩ = some (.int .u8 (n8 (l.getD j 0))) := by
  obtain ⟨cur, fr, h1, _, _, _, h5⟩ := h.out
  simp [World.cell?, h1, h5 j hj]
theorem BS.below {w w' : World} {g cap B : Nat} {l : List UInt8} (h : BS w g cap l) (hb : Below B w w') (hl : g < B) : BS w' g cap l := by
  obtain ⟨cur, fr, h1, hr⟩ := h.out
  exact ⟨cur, fr, by rw [hb.block g hl]; exact h1, hr⟩
theorem BS.belowSize {w w' : World} {g cap : Nat} {l : List UInt8} (h : BS w g cap l) (hb : Below w.heap.size w w') : BS w' g cap l := h.below hb h.lt
theorem BS.grown {w w' : World} {g cap : Nat} {row : Option Nat} {l : List UInt8} (h : BS w g cap l) (hb : w.grownBy w' row) (hr : some g ≠ row) : BS w' g cap l := by
  obtain ⟨cur, fr, h1, hr'⟩ := h.out
  exact ⟨cur, fr, by rw [hb.block g h.lt hr]; exact h1, hr'⟩
theorem BS.len {w : World} {g cap : Nat} {l : List UInt8} (h : BS w g cap l) : l.length ≤ cap := by
  obtain ⟨cur, fr, h1, h2, _⟩ := h.out
  exact h2
theorem BS.drewN {w : World} {g cap : Nat} {l : List UInt8} (h : BS w g cap l) (n : Nat) : BS (w.drewN n) g cap l := ⟨h.out⟩
theorem BS.drew {w : World} {g cap : Nat} {l : List UInt8} (h : BS w g cap l) : BS w.drew g cap l := ⟨h.out⟩

theorem byteCells_get (l : List UInt8) (j : Nat) (hj : j < l.length) : (l.map fun b => Value.int .u8 (b.toNat : Int))[j]? = some (.int .u8 (n8 (l.getD j 0))) := by
  rw [List.getElem?_map, List.getElem?_eq_getElem hj, List.getD_eq_getElem?_getD, List.getElem?_eq_getElem hj]
  rfl

section
variable {P : Program} {ops : Array Oper} {rest : List Oper} {op : Oper} {a : Act} {w : World} {Q : Exit → Act → World → Prop}

theorem run_appendBS (t ty : TypeId) (g cap : Nat) (l : List UInt8) (hbs : BS w g cap l) (g2 n c : Nat) (f : Nat → UInt8) (ty2 : TypeId) (hb2 : Blk w g2 (row8 f n) ty2) (i : TypeInfo)
    (hu : P.underlying t = some (.slice 5)) (hi : P.info? 5 = some i) (hz : i.zero = some (.int .u8 0)) (hs : i.size = 1) (hby : i.bytes = 1) (hlen : l.length + n ≤ 1099511627776) :
    ∃ (w1 : World) (g1 cap1 : Nat), (Builtin.append_ #[t, t] ty #[.slice (some ⟨g, 0, none⟩) l.length cap, .slice (some ⟨g2, 0, none⟩) n c]).run P w = .ok (.slice (some ⟨g1, 0, none⟩) (l.length + n) cap1) w1 ∧
      (g1 = g ∨ w.heap.size ≤ g1) ∧ w.grownBy w1 (some g) ∧ BS w1 g1 cap1 (l ++ (List.range n).map f) := by
  obtain ⟨cur, fr, h1, h2, h3, h4, h5⟩ := hbs.out
  have hlt := hbs.lt
  have hnl : (((List.range n).map f).map fun b => Value.int .u8 (b.toNat : Int)).length = n := by simp
  have hsrc : Src P i.size t (.slice (some ⟨g2, 0, none⟩) n c) n (((List.range n).map f).map fun b => Value.int .u8 (b.toNat : Int)) w :=
    Src.ofSlice w hu ⟨g2, 0, none⟩ n c _ (by rw [hs, hnl, Nat.mul_one]) (fun j u hj => by
      have hjn : j < n := by have := (List.getElem?_eq_some_iff.1 hj).1; rw [hnl] at this; exact this
      rw [Addr.add_mid, Nat.zero_add, hb2.cell, row8_get _ _ _ hjn]
      rw [byteCells_get _ _ (by simpa using hjn)] at hj
      rw [← hj]; simp [hjn])
      (fun u hu => by
        obtain ⟨_, _, rfl⟩ := List.mem_map.1 hu
        rfl)
  by_cases hroom : l.length + n ≤ cap
  · have hcell : ∀ j, j < n → (w.cell? ⟨g, l.length + j, none⟩).isSome = true := fun j hj => by
      simp only [World.cell?, h1]
      rw [Array.getElem?_eq_getElem (by omega)]; rfl
    have hfro : ∀ j, j < n → w.frozen? ⟨g, l.length + j, none⟩ = false := fun j hj => by
      simp only [World.frozen?, h1]
      rcases h4 with h4 | h4
      · rw [h4]; simp
      · simp; intro h; omega
    have hr := run_append_room_src (P := P) w t t ty 5 i hu hi g 0 l.length cap _ n _ hsrc hroom
      (fun j hj => by rw [hs, Nat.mul_one, Nat.zero_add]; exact hcell j (by rw [hnl] at hj; exact hj))
      (fun j hj => by rw [hs, Nat.mul_one, Nat.zero_add]; exact hfro j (by rw [hnl] at hj; exact hj))
    rw [hs, Nat.mul_one, Nat.zero_add] at hr
    refine ⟨_, g, cap, hr, .inl rfl, grown_setCells _ _ _ _, ?_⟩
    have hset : ∀ (vs : List Value) (o : Nat) (w : World) (c : Array Value), w.heap[g]? = some (.cells c 5 fr) → (w.setCells g o vs).heap[g]? = some (.cells (spl c o vs) 5 fr) := by
      intro vs
      induction vs with
      | nil => intro o w c h; exact h
      | cons v r ih =>
        intro o w c h
        rw [World.setCells]
        exact ih (o + 1) _ _ (by simp [World.setCell, Array.getElem?_modify, h])
    refine ⟨_, fr, hset _ _ _ _ h1, by simp; omega, by rw [spl_size]; exact h3, by rw [spl_size]; exact h4, ?_⟩
    intro j hj
    have hj' : j < l.length + n := by simpa using hj
    rw [spl_get _ _ _ _ (by rw [hnl]; omega), hnl]
    by_cases hjl : j < l.length
    · rw [if_neg (by omega), h5 j hjl, List.getD_eq_getElem?_getD, List.getD_eq_getElem?_getD, List.getElem?_append_left hjl]
    · rw [if_pos (by omega), byteCells_get _ _ (by simp; omega), List.getD_eq_getElem?_getD, List.getD_eq_getElem?_getD, List.getElem?_append_right (by omega)]
  · have hold : (Builtin.firstCells i.size l.length (.slice (some ⟨g, 0, none⟩) l.length cap)).run P w.drew = .ok (l.map fun b => Value.int .u8 (b.toNat : Int)).toArray w.drew :=
      run_firstCells_some w.drew i.size l.length ⟨g, 0, none⟩ l.length cap _ (by simp [hs]) (fun j u hj => by
        have hjn : j < l.length := by have := (List.getElem?_eq_some_iff.1 hj).1; simpa using this
        rw [byteCells_get _ _ hjn] at hj
        rw [Addr.add_mid, Nat.zero_add, hbs.drew.cell j hjn]; exact hj)
    have hr := run_append_grow_src (P := P) w t t ty 5 i _ hu hi hz (some ⟨g, 0, none⟩) l.length cap _ hold _ n _ hsrc (by omega) (by omega) (growslice_fits (by omega) (by rw [hby]; omega))
    have hge : l.length + n ≤ grownCap w (l.length + n) cap 5 := grownCap_ge w _ _ _
    refine ⟨_, w.heap.size, _, hr, .inr (Nat.le_refl _), ?_, ?_⟩
    · exact grown_of_below ((Below.refl w.heap.size w).drew.alloc (Nat.le_refl _) _)
    · refine ⟨_, (0, 0), heap_alloc_last w.drew _, by simp; exact hge, ?_, .inl rfl, ?_⟩
      · simp [size_zeroCells, Value.cells]; omega
      · intro j hj
        have hj' : j < l.length + n := by simpa using hj
        rw [Array.getElem?_append_left (by simp; omega)]
        simp only [List.getElem?_toArray]
        rw [← List.map_append, byteCells_get _ _ hj]

theorem wpList_appendBS (hgd : op.guard = none) (x y : Operand) (t : TypeId) (ho : op.op = .call { callee := .builtin .append, args := #[x, y], argTypes := #[t, t] })
    (g cap : Nat) (l : List UInt8) (len : Nat) (hl : len = l.length) (hx : a.eval x = .slice (some ⟨g, 0, none⟩) len cap) (hbs : BS w g cap l) (g2 n c : Nat) (hy : a.eval y = .slice (some ⟨g2, 0, none⟩) n c) (f : Nat → UInt8) (ty2 : TypeId) (hb2 : Blk w g2 (row8 f n) ty2) (i : TypeInfo)
    (hu : P.underlying t = some (.slice 5)) (hi : P.info? 5 = some i) (hz : i.zero = some (.int .u8 0)) (hs : i.size = 1) (hby : i.bytes = 1) (hlen : l.length + n ≤ 1099511627776)
    (h : ∀ (w1 : World) (g1 cap1 : Nat), (g1 = g ∨ w.heap.size ≤ g1) → w.grownBy w1 (some g) → BS w1 g1 cap1 (l ++ (List.range n).map f) → wpList P ops Q rest (a.put op.dst (.slice (some ⟨g1, 0, none⟩) (len + n) cap1)) w1) :
    wpList P ops Q (op :: rest) a w := by
  subst hl
  obtain ⟨w1, g1, cap1, hr, hg1, hg, hb⟩ := run_appendBS (P := P) t op.type g cap l hbs g2 n c f ty2 hb2 i hu hi hz hs hby hlen
  refine wpList_run hgd _ _ ?_ (h w1 g1 cap1 hg1 hg hb)
  unfold execOp
  simp only [ho]
  simp [resolve, invoke, builtin, hx, hy, hr, Result.andThen]

theorem wpList_strBytes (hgd : op.guard = none) (src dst : TypeId) (x : Operand) (ho : op.op = .convert src dst x) (s : List UInt8) (hx : a.eval x = .string ⟨s.toArray⟩)
    (u : TypeDesc) (hs : P.underlying src = some u) (hd : P.underlying dst = some (.slice 5)) (he : P.underlying 5 = some (.int .u8))
    (h : ∀ (w1 : World) (cap : Nat), Below w.heap.size w w1 → w1.heap.size = w.heap.size + 1 → BS w1 w.heap.size cap s → wpList P ops Q rest (a.put op.dst (.slice (some ⟨w.heap.size, 0, none⟩) s.length cap)) w1) :
    wpList P ops Q (op :: rest) a w := by
  have hr := Lib.run_convert_string_bytes (P := P) w src dst 5 (ByteArray.mk s.toArray) hs hd he
  rw [mk_size] at hr
  have hge : s.length ≤ grownCap w s.length 0 5 := grownCap_ge w _ _ _
  have hsz : (Lib.bytesCells w 5 (ByteArray.mk s.toArray)).size = grownCap w s.length 0 5 := by
    simp [Lib.bytesCells, mk_size]; omega
  refine wpList_run hgd _ _ ?_ (h (Lib.bytesWorld w 5 (ByteArray.mk s.toArray)) (grownCap w s.length 0 5) ?_ (Lib.bytesWorld_size _ _ _) ?_)
  · unfold execOp
    simp only [ho, hx, Sem.run_bind, hr, Result.andThen_ok]
    rfl
  · exact ⟨by simp [Lib.bytesWorld, World.freeze]; rfl, by simp [Lib.bytesWorld, World.freeze], by simp [Lib.bytesWorld, World.freeze]; rfl, by rw [Lib.bytesWorld_size]; omega, fun k hk => Lib.bytesWorld_at_old w 5 _ k hk⟩
  · refine ⟨_, _, Lib.bytesWorld_at_new w 5 _, hge, by rw [hsz]; exact Nat.le_refl _, .inr (Nat.le_refl _), ?_⟩
    intro j hj
    rw [Lib.bytesCells, Array.getElem?_append_left (by simp; exact hj)]
    simp [hj, n8, List.getD_eq_getElem?_getD]

theorem wpList_buildSl (hgd : op.guard = none) (t : TypeId) (n : Nat) (parts : Array (Nat × Operand)) (ho : op.op = .buildSlice t n parts) (c : Array Value)
    (hr : ∀ w, (Instr.buildSlice t n (parts.map fun (i, x) => (i, a.eval x))).run P w = .ok (.slice (some ⟨w.heap.size, 0, none⟩) n n) (w.alloc (.cells c 5)))
    (h : ∀ w1 : World, Below w.heap.size w w1 → w1.heap.size = w.heap.size + 1 → Blk w1 w.heap.size c 5 → wpList P ops Q rest (a.put op.dst (.slice (some ⟨w.heap.size, 0, none⟩) n n)) w1) : wpList P ops Q (op :: rest) a w := by
  refine wpList_run hgd _ _ ?_ (h _ ((Below.refl _ _).alloc (Nat.le_refl _) _) (by simp) (Blk.new _ _ _))
  unfold execOp
  simp only [ho, Sem.run_bind, hr, Result.andThen_ok]
  rfl

theorem wpList_sliceSl (hgd : op.guard = none) (ty : TypeId) (x lo hi : Operand) (ho : op.op = .slice ty x (some lo) (some hi) none) (b len cap : Nat) (hx : a.eval x = .slice (some ⟨b, 0, none⟩) len cap)
    (zl zh : Int) (hlo : a.eval lo = .int .i64 zl) (hhi : a.eval hi = .int .i64 zh) (l n : Nat) (hl : zl = (l : Int)) (hh : zh = ((l + n : Nat) : Int)) (h1 : 0 < n) (h2 : l + n ≤ cap)
    (e : TypeId) (hu : P.underlying ty = some (.slice e)) (hse : (P.info? e).map (·.size) = some 1)
    (h : wpList P ops Q rest (a.put op.dst (.slice (some ⟨b, l, none⟩) n (cap - l))) w) : wpList P ops Q (op :: rest) a w := by
  subst hl hh
  refine wpList_run hgd _ w ?_ h
  have g2 : ¬ cap = l := by omega
  unfold execOp
  simp only [ho, Option.map_some, Option.map_none, hx, hlo, hhi]
  simp [Instr.sliceAt, Instr.slice, run_underlying hu, Instr.sliceBounds, Instr.sliceBound, asIntOf, sizeOf_run hse, Addr.add_mid, Sem.run_bind]
  rw [if_pos (by omega)]
  simp [g2]
  rw [show ((l : Int) + (n : Int)).toNat = l + n from by omega, if_pos (by omega), Nat.add_sub_cancel_left]
end
end Go.Proofs.YtmbdhngoldganaaGreatDoor.Sh
namespace Go.Proofs.YtmbdhngoldganaaGreatDoor.Sh
open Go.RowKit
theorem results_cell2 {P : Program} {fn : Func} {p q : Tmp} {ty ty2 : TypeId} (h : fn.results = #[.cell p ty, .cell q ty2]) (tmps : Array Value) (w : World) (b b2 : Nat) (c c2 : Array Value)
    (hp : tmps.getD p undef = .pointer (some ⟨b, 0, none⟩)) (hq : tmps.getD q undef = .pointer (some ⟨b2, 0, none⟩)) (h1 : (loadVar ty ⟨b, 0, none⟩).run P w = .ok (.agg c) w) (h2 : (loadVar ty2 ⟨b2, 0, none⟩).run P w = .ok (.agg c2) w) :
    (results fn tmps).run P w = .ok (.tuple #[.agg c, .agg c2]) w := by
  have hp' : tmps[p]?.getD undef = .pointer (some ⟨b, 0, none⟩) := by simpa using hp
  have hq' : tmps[q]?.getD undef = .pointer (some ⟨b2, 0, none⟩) := by simpa using hq
  simp [results, h, hp', hq', asAddr, h1, h2]
set_option maxRecDepth 100000 in
set_option maxHeartbeats 400000 in
theorem table_any (w : World) : Calls Tryz.prog 162 #[] w fun e w' => e = .returned (.tuple #[.agg (row32 Kt 64), .agg (row32 H0.at 8)]) ∧ Below w.heap.size w w' := by
  go_enter Tryz.func162, Tryz.ntmps162
  go_wp2_with (with_reducible refine at_list ?_; first
    | (refine wpList_allocRow (op := ⟨some 0, _, _, _, _, _⟩) rfl _ rfl _ z39.1 ?_; intro w1 hw1 hs1 hb1)
    | (refine wpList_allocRow (op := ⟨some 1, _, _, _, _, _⟩) rfl _ rfl _ z40.1 ?_; intro w2 hw2 hs2 hb2)
    | (refine wpList_build (o := ⟨some 2, _, _, _, _, _⟩) rfl _ _ rfl (by kernel_rfl) ?_)
    | (refine wpList_build (o := ⟨some 3, _, _, _, _, _⟩) rfl _ _ rfl (by kernel_rfl) ?_)
    | (refine wpList_storeRow (op := ⟨none, .store 236 (.tmp 0) (.tmp 2), _, _, _, _⟩) rfl _ _ _ rfl w.heap.size (row32 Kt 64) rfl (by kernel_rfl) _ _ (hb1.belowSize hw2) (by rw [row32_size, row32_size]) (by rw [row32_size]; exact z39.2) (row32_one _ _) ?_; intro w3 hg3 hs3 hb3)
    | (refine wpList_storeRow (op := ⟨none, .store 237 (.tmp 1) (.tmp 3), _, _, _, _⟩) rfl _ _ _ rfl w1.heap.size (row32 H0.at 8) rfl (by kernel_rfl) _ _ (hb2.grown hg3 (by simp; omega)) (by rw [row32_size, row32_size]) (by rw [row32_size]; exact z40.2) (row32_one _ _) ?_; intro w4 hg4 hs4 hb4))
  have hB2 : Below w.heap.size w w2 := hw1.trans (hw2.mono (by omega))
  have hB3 : Below w.heap.size w w3 := hB2.trans (below_of_grown hg3 (Nat.le_refl _) (by omega))
  have hB4 : Below w.heap.size w w4 := hB3.trans (below_of_grown hg4 (by omega) (by omega))
  refine bodyPost_ret (v := .tuple #[.agg (row32 Kt 64), .agg (row32 H0.at 8)]) ?_ rfl ⟨rfl, hB4⟩
  exact results_cell2 rfl _ _ w.heap.size w1.heap.size _ _ rfl rfl ((hb3.grown hg4 (by simp; omega)).loadVar _ Tryz.underlying236 rfl (by rw [row32_size]; exact z39.2)) (hb4.loadVar _ Tryz.underlying237 rfl (by rw [row32_size]; exact z40.2))

theorem range0 : Array.range 0 = #[] := by decide
theorem range1 : Array.range 1 = #[0] := by decide
theorem range4 : Array.range 4 = #[0, 1, 2, 3] := by decide
theorem bsl0 (w : World) : (Instr.buildSlice 171 0 #[]).run Tryz.prog w = .ok (.slice (some ⟨w.heap.size, 0, none⟩) 0 0) (w.alloc (.cells #[] 5)) := by
  simp [Instr.buildSlice, run_underlying Tryz.underlying171, sizeOf_run i5, Sem.run_bind, Instr.fill, newRow, range0]
theorem bsl1 (z : Int) (w : World) : (Instr.buildSlice 171 1 #[(0, .int .u8 z)]).run Tryz.prog w = .ok (.slice (some ⟨w.heap.size, 0, none⟩) 1 1) (w.alloc (.cells #[.int .u8 z] 5)) := by
  simp [Instr.buildSlice, run_underlying Tryz.underlying171, sizeOf_run i5, Sem.run_bind, Instr.fill, newRow, Tryz.zeroValue5, Value.cells, range1]
theorem bsl4 (z0 z1 z2 z3 : Int) (w : World) : (Instr.buildSlice 171 4 #[(0, .int .u8 z0), (1, .int .u8 z1), (2, .int .u8 z2), (3, .int .u8 z3)]).run Tryz.prog w = .ok (.slice (some ⟨w.heap.size, 0, none⟩) 4 4) (w.alloc (.cells #[.int .u8 z0, .int .u8 z1, .int .u8 z2, .int .u8 z3] 5)) := by
  simp [Instr.buildSlice, run_underlying Tryz.underlying171, sizeOf_run i5, Sem.run_bind, Instr.fill, newRow, Tryz.zeroValue5, Value.cells, range4]
section
variable {ops : Array Oper} {rest : List Oper} {op : Oper} {a : Act} {w : World} {Q : Exit → Act → World → Prop}
theorem wpList_bsl0 (hgd : op.guard = none) (ho : op.op = .buildSlice 171 0 #[])
    (h : ∀ w1 : World, Below w.heap.size w w1 → w1.heap.size = w.heap.size + 1 → BS w1 w.heap.size 0 [] → wpList Tryz.prog ops Q rest (a.put op.dst (.slice (some ⟨w.heap.size, 0, none⟩) 0 0)) w1) : wpList Tryz.prog ops Q (op :: rest) a w :=
  wpList_buildSl hgd 171 0 #[] ho #[] (fun w => by rw [Array.map_empty]; exact bsl0 w) (fun w1 hw hs hb => h w1 hw hs ⟨#[], (0, 0), hb.out, by simp, by simp, .inl rfl, fun j hj => by simp at hj⟩)
theorem wpList_bsl1 (hgd : op.guard = none) (x : Operand) (ho : op.op = .buildSlice 171 1 #[(0, x)]) (v : UInt8) (hx : a.eval x = .int .u8 (n8 v))
    (h : ∀ w1 : World, Below w.heap.size w w1 → w1.heap.size = w.heap.size + 1 → Blk w1 w.heap.size (row8 (fun _ => v) 1) 5 → wpList Tryz.prog ops Q rest (a.put op.dst (.slice (some ⟨w.heap.size, 0, none⟩) 1 1)) w1) : wpList Tryz.prog ops Q (op :: rest) a w :=
  wpList_buildSl hgd 171 1 #[(0, x)] ho (row8 (fun _ => v) 1) (fun w => by
    have e : (#[(0, x)] : Array (Nat × Operand)).map (fun (i, x) => (i, a.eval x)) = #[(0, .int .u8 (n8 v))] := by simp [hx]
    rw [e]; exact bsl1 (n8 v) w) h
end
end Go.Proofs.YtmbdhngoldganaaGreatDoor.Sh
namespace Go.Proofs.YtmbdhngoldganaaGreatDoor.Sh
open Go Go.RowKit
def sv (t : List UInt8) : Value := .string ⟨t.toArray⟩
section
variable {P : Program} {ops : Array Oper} {rest : List Oper} {op : Oper} {a : Act} {w : World} {Q : Exit → Act → World → Prop}
theorem wpList_buildTx (hgd : op.guard = none) (t : TypeId) (n : Nat) (parts : Array (Nat × Operand)) (ho : op.op = .buildSlice t n parts) (c : Array Value)
    (hr : ∀ w, (Instr.buildSlice t n (parts.map fun (i, x) => (i, a.eval x))).run P w = .ok (.slice (some ⟨w.heap.size, 0, none⟩) n n) (w.alloc (.cells c 9)))
    (h : ∀ w1 : World, Below w.heap.size w w1 → w1.heap.size = w.heap.size + 1 → Blk w1 w.heap.size c 9 → wpList P ops Q rest (a.put op.dst (.slice (some ⟨w.heap.size, 0, none⟩) n n)) w1) : wpList P ops Q (op :: rest) a w := by
  refine wpList_run hgd _ _ ?_ (h _ ((Below.refl _ _).alloc (Nat.le_refl _) _) (by simp) (Blk.new _ _ _))
  unfold execOp
  simp only [ho, Sem.run_bind, hr, Result.andThen_ok]
  rfl
end
theorem info9 : ∃ i, Tryz.prog.info? 9 = some i ∧ i.zero = some (.string ⟨#[]⟩) ∧ i.size = 1 ∧ i.bytes = 16 := by
  have h : (Tryz.prog.info? 9).map (fun i => (i.zero, i.size, i.bytes)) = some (some (.string ⟨#[]⟩), 1, 16) := by kernel_rfl
  cases hq : Tryz.prog.info? 9 with
  | none => rw [hq] at h; cases h
  | some i => rw [hq] at h; simp at h; exact ⟨i, rfl, h.1, h.2.1, h.2.2⟩
theorem i9 : (Tryz.prog.info? 9).map (·.size) = some 1 := by kernel_rfl
theorem tsl1 (x : List UInt8) (w : World) : (Instr.buildSlice 28 1 #[(0, sv x)]).run Tryz.prog w = .ok (.slice (some ⟨w.heap.size, 0, none⟩) 1 1) (w.alloc (.cells #[sv x] 9)) := by
  simp [Instr.buildSlice, run_underlying Tryz.underlying28, sizeOf_run i9, Sem.run_bind, Instr.fill, newRow, Tryz.zeroValue9, Value.cells, range1, sv]
section
variable {ops : Array Oper} {rest : List Oper} {op : Oper} {a : Act} {w : World} {Q : Exit → Act → World → Prop}
theorem wpList_tsl1 (hgd : op.guard = none) (x : Operand) (ho : op.op = .buildSlice 28 1 #[(0, x)]) (v : List UInt8) (hx : a.eval x = .string ⟨v.toArray⟩)
    (h : ∀ w1 : World, Below w.heap.size w w1 → w1.heap.size = w.heap.size + 1 → Blk w1 w.heap.size #[sv v] 9 → wpList Tryz.prog ops Q rest (a.put op.dst (.slice (some ⟨w.heap.size, 0, none⟩) 1 1)) w1) : wpList Tryz.prog ops Q (op :: rest) a w :=
  wpList_buildTx hgd 28 1 #[(0, x)] ho #[sv v] (fun w => by
    have e : (#[(0, x)] : Array (Nat × Operand)).map (fun (i, x) => (i, a.eval x)) = #[(0, sv v)] := by simp [hx, sv]
    rw [e]; exact tsl1 v w) h
end
def XA (w : World) (a : Option Addr) (l : List (List UInt8)) : Prop := ∀ i (h : i < l.length), ∃ g o, a = some ⟨g, o, none⟩ ∧ w.cell? ⟨g, o + i, none⟩ = some (.string ⟨(l[i]).toArray⟩)
theorem XA.below {w w' : World} {a : Option Addr} {l : List (List UInt8)} (h : XA w a l) (hb : Below w.heap.size w w') : XA w' a l := fun i hi => by
  obtain ⟨g, o, ha, hr⟩ := h i hi
  exact ⟨g, o, ha, by rw [hb.cell (World.block_lt_of_cell? _ _ hr)]; exact hr⟩
theorem XA.ex {w : World} {a : Option Addr} {l : List (List UInt8)} (h : XA w a l) (h0 : 0 < l.length) : ∃ g o, a = some ⟨g, o, none⟩ := by
  obtain ⟨g, o, ha, _⟩ := h 0 h0
  exact ⟨g, o, ha⟩
theorem XA.at {w : World} {g o : Nat} {l : List (List UInt8)} (h : XA w (some ⟨g, o, none⟩) l) (i : Nat) (hi : i < l.length) : w.cell? ⟨g, o + i, none⟩ = some (.string ⟨(l[i]).toArray⟩) := by
  obtain ⟨g', o', ha, hr⟩ := h i hi
  simp only [Option.some.injEq, Addr.mk.injEq, and_true] at ha
  rw [ha.1, ha.2]
  exact hr
theorem XA.take {w : World} {a : Option Addr} {l : List (List UInt8)} (h : XA w a l) (k : Nat) : XA w a (l.take k) := fun i hi => by
  rw [List.length_take] at hi
  obtain ⟨g, o, ha, hr⟩ := h i (by omega)
  exact ⟨g, o, ha, by rw [List.getElem_take]; exact hr⟩
theorem XA.drop {w : World} {g o : Nat} {l : List (List UInt8)} (h : XA w (some ⟨g, o, none⟩) l) (k : Nat) : XA w (some ⟨g, o + k, none⟩) (l.drop k) := fun i hi => by
  rw [List.length_drop] at hi
  have hr := h.at (k + i) (by omega)
  exact ⟨g, o + k, rfl, by rw [List.getElem_drop, Nat.add_assoc]; exact hr⟩
end Go.Proofs.YtmbdhngoldganaaGreatDoor.Sh
