/- A writer's memory; appending a text to its bytes. What a writer's functions do. -/
import Derived.Test.YtnhlejdilldfaaaGreatWf
import Derived.Test.YtnhlejdilldfaaaGreatRc
namespace Go.Proofs.YtnhlejdilldfaaaGreat
open Go Go.RowKit
/-- The value sl is a slice of the bytes l, beyond block lo, or nil where there are none. -/
def BLof (w : World) (lo : Nat) (sl : Value) (l : List UInt8) : Prop :=
  (l = [] ∧ sl = .slice none 0 0) ∨ ∃ g cap, lo < g ∧ sl = .slice (some ⟨g, 0, none⟩) l.length cap ∧ BS w g cap l
theorem BLof.below {w w' : World} {lo : Nat} {sl : Value} {l : List UInt8} (h : BLof w lo sl l) (hb : Below w.heap.size w w') : BLof w' lo sl l := by
  rcases h with h | ⟨g, cap, h1, h2, h3⟩
  · exact .inl h
  · exact .inr ⟨g, cap, h1, h2, h3.belowSize hb⟩
theorem BLof.grown {w w' : World} {lo : Nat} {sl : Value} {l : List UInt8} (h : BLof w lo sl l) (hb : w.grownBy w' (some lo)) : BLof w' lo sl l := by
  rcases h with h | ⟨g, cap, h1, h2, h3⟩
  · exact .inl h
  · exact .inr ⟨g, cap, h1, h2, h3.grown hb (by simp; omega)⟩
theorem BLof.cells {w : World} {lo : Nat} {sl : Value} {l : List UInt8} (h : BLof w lo sl l) : sl.cells = #[sl] ∧ sl.oneCell' = true := by
  rcases h with ⟨_, rfl⟩ | ⟨g, cap, _, rfl, _⟩
  · exact ⟨rfl, rfl⟩
  · exact ⟨rfl, rfl⟩
/-- Blocks that are neither a writer nor bytes are as they were. -/
structure Keeps (w w' : World) : Prop where
  all : ∀ (i : Nat) (o : Obj), w.heap[i]? = some o → (∀ c fr, o ≠ .cells c 99 fr ∧ o ≠ .cells c 5 fr) → w'.heap[i]? = some o
theorem Keeps.out {w w' : World} (h : Keeps w w') (i : Nat) (c : Array Value) (t : TypeId) (hb : Blk w i c t) (h1 : t ≠ 99) (h2 : t ≠ 5) : Blk w' i c t :=
  ⟨h.all i _ hb.out fun c' fr => ⟨fun e => h1 (by simp only [Obj.cells.injEq] at e; exact e.2.1), fun e => h2 (by simp only [Obj.cells.injEq] at e; exact e.2.1)⟩⟩
theorem Keeps.refl (w : World) : Keeps w w := ⟨fun _ _ h _ => h⟩
theorem Keeps.trans {a b c : World} (h : Keeps a b) (k : Keeps b c) : Keeps a c := ⟨fun i o hb h1 => k.all i o (h.all i o hb h1) h1⟩
theorem Keeps.of_below {w w' : World} (h : Below w.heap.size w w') : Keeps w w' := ⟨fun i _ hb _ => (h.block i (Array.getElem?_eq_some_iff.1 hb).1).trans hb⟩
theorem Keeps.of_bytes {w w' : World} {g cap : Nat} {l : List UInt8} (h : w.grownBy w' (some g)) (hbs : BS w g cap l) : Keeps w w' := ⟨fun i o hb hn => (h.block i (Array.getElem?_eq_some_iff.1 hb).1 (by
  intro e
  obtain ⟨cur, fr, h1, _⟩ := hbs.out
  have e := Option.some.inj e
  subst e
  rw [h1] at hb
  exact (hn cur fr).2 (Option.some.inj hb).symm)).trans hb⟩
theorem Keeps.of_writer {w w' : World} {b : Nat} {c0 : Array Value} (h : w.grownBy w' (some b)) (hbs : Blk w b c0 99) : Keeps w w' := ⟨fun i o hb hn => (h.block i (Array.getElem?_eq_some_iff.1 hb).1 (by
  intro e
  have e := Option.some.inj e
  subst e
  rw [hbs.out] at hb
  exact (hn c0 (0, 0)).1 (Option.some.inj hb).symm)).trans hb⟩
section
variable {P : Program} {ops : Array Oper} {rest : List Oper} {op : Oper} {a : Act} {w : World} {Q : Exit → Act → World → Prop}
/-- append's run of a text onto an own slice. -/
theorem run_appendSt (t tx ty : TypeId) (g cap : Nat) (l : List UInt8) (hbs : BS w g cap l) (s : List UInt8) (i : TypeInfo)
    (hu : P.underlying t = some (.slice 5)) (hux : P.underlying tx = some .string) (hi : P.info? 5 = some i) (hz : i.zero = some (.int .u8 0)) (hs : i.size = 1) (hby : i.bytes = 1) (hlen : l.length + s.length ≤ 1099511627776) :
    ∃ (w1 : World) (g1 cap1 : Nat), (Builtin.append_ #[t, tx] ty #[.slice (some ⟨g, 0, none⟩) l.length cap, .string ⟨s.toArray⟩]).run P w = .ok (.slice (some ⟨g1, 0, none⟩) (l.length + s.length) cap1) w1 ∧
      (g1 = g ∨ w.heap.size ≤ g1) ∧ w.grownBy w1 (some g) ∧ BS w1 g1 cap1 (l ++ s) := by
  obtain ⟨cur, fr, h1, h2, h3, h4, h5⟩ := hbs.out
  have hlt := hbs.lt
  have hnl : (s.map fun b => Value.int .u8 (b.toNat : Int)).length = s.length := by simp
  have hsrc : Src P i.size tx (.string ⟨s.toArray⟩) s.length (s.map fun b => Value.int .u8 (b.toNat : Int)) w := by
    have := Src.ofString (P := P) w hux (ByteArray.mk s.toArray)
    rw [mk_size] at this
    rw [hs]
    exact this
  by_cases hroom : l.length + s.length ≤ cap
  · have hcell : ∀ j, j < s.length → (w.cell? ⟨g, l.length + j, none⟩).isSome = true := fun j hj => by
      simp only [World.cell?, h1]
      rw [Array.getElem?_eq_getElem (by omega)]; rfl
    have hfro : ∀ j, j < s.length → w.frozen? ⟨g, l.length + j, none⟩ = false := fun j hj => by
      simp only [World.frozen?, h1]
      rcases h4 with h4 | h4
      · rw [h4]; simp
      · simp; intro h; omega
    have hr := run_append_room_src (P := P) w t tx ty 5 i hu hi g 0 l.length cap _ s.length _ hsrc hroom
      (fun j hj => by rw [hs, Nat.mul_one, Nat.zero_add]; exact hcell j (by rw [hnl] at hj; exact hj))
      (fun j hj => by rw [hs, Nat.mul_one, Nat.zero_add]; exact hfro j (by rw [hnl] at hj; exact hj))
    rw [hs, Nat.mul_one, Nat.zero_add] at hr
    refine ⟨_, g, cap, hr, .inl rfl, grown_setCells _ _ _ _, ?_⟩
    have hset : ∀ (vs : List Value) (o : Nat) (w : World) (c : Array Value), w.heap[g]? = some (.cells c 5 fr) → (w.setCells g o vs).heap[g]? = some (.cells (spl c o vs) 5 fr) := by
      intro vs
      induction vs with
      | nil => intro o w c h; exact h
      | cons v r ih =>
        intro o w c h
        rw [World.setCells]
        exact ih (o + 1) _ _ (by simp [World.setCell, Array.getElem?_modify, h])
    refine ⟨_, fr, hset _ _ _ _ h1, by simp; omega, by rw [spl_size]; exact h3, by rw [spl_size]; exact h4, ?_⟩
    intro j hj
    have hj' : j < l.length + s.length := by simpa using hj
    rw [spl_get _ _ _ _ (by rw [hnl]; omega), hnl]
    by_cases hjl : j < l.length
    · rw [if_neg (by omega), h5 j hjl, List.getD_eq_getElem?_getD, List.getD_eq_getElem?_getD, List.getElem?_append_left hjl]
    · rw [if_pos (by omega), byteCells_get _ _ (by omega), List.getD_eq_getElem?_getD, List.getD_eq_getElem?_getD, List.getElem?_append_right (by omega)]
  · have hold : (Builtin.firstCells i.size l.length (.slice (some ⟨g, 0, none⟩) l.length cap)).run P w.drew = .ok (l.map fun b => Value.int .u8 (b.toNat : Int)).toArray w.drew :=
      run_firstCells_some w.drew i.size l.length ⟨g, 0, none⟩ l.length cap _ (by simp [hs]) (fun j u hj => by
        have hjn : j < l.length := by have := (List.getElem?_eq_some_iff.1 hj).1; simpa using this
        rw [byteCells_get _ _ hjn] at hj
        rw [Addr.add_mid, Nat.zero_add, hbs.drew.cell j hjn]; exact hj)
    have hr := run_append_grow_src (P := P) w t tx ty 5 i _ hu hi hz (some ⟨g, 0, none⟩) l.length cap _ hold _ s.length _ hsrc (by omega) (by omega) (growslice_fits (by omega) (by rw [hby]; omega))
    have hge : l.length + s.length ≤ grownCap w (l.length + s.length) cap 5 := grownCap_ge w _ _ _
    refine ⟨_, w.heap.size, _, hr, .inr (Nat.le_refl _), ?_, ?_⟩
    · exact grown_of_below ((Below.refl w.heap.size w).drew.alloc (Nat.le_refl _) _)
    · refine ⟨_, (0, 0), heap_alloc_last w.drew _, by simp; exact hge, ?_, .inl rfl, ?_⟩
      · simp [size_zeroCells, Value.cells]; omega
      · intro j hj
        have hj' : j < l.length + s.length := by simpa using hj
        rw [Array.getElem?_append_left (by simp; omega)]
        simp only [List.getElem?_toArray]
        rw [← List.map_append, byteCells_get _ _ hj]
theorem run_appendBL (t tx ty : TypeId) (lo : Nat) (sl : Value) (l : List UInt8) (hlo : lo < w.heap.size) (hsl : BLof w lo sl l) (s : List UInt8) (i : TypeInfo)
    (hu : P.underlying t = some (.slice 5)) (hux : P.underlying tx = some .string) (hi : P.info? 5 = some i) (hz : i.zero = some (.int .u8 0)) (hs : i.size = 1) (hby : i.bytes = 1) (hlen : l.length + s.length ≤ 1099511627776) :
    ∃ (w1 : World) (sl1 : Value), (Builtin.append_ #[t, tx] ty #[sl, .string ⟨s.toArray⟩]).run P w = .ok sl1 w1 ∧ Below (lo + 1) w w1 ∧ Keeps w w1 ∧ BLof w1 lo sl1 (l ++ s) := by
  rcases hsl with ⟨rfl, rfl⟩ | ⟨g, cap, h1, rfl, h3⟩
  · have hsrc : Src P i.size tx (.string ⟨s.toArray⟩) s.length (s.map fun b => Value.int .u8 (b.toNat : Int)) w := by
      have := Src.ofString (P := P) w hux (ByteArray.mk s.toArray)
      rw [mk_size] at this
      rw [hs]
      exact this
    by_cases h0 : s.length = 0
    · have hs0 : s = [] := List.length_eq_zero_iff.1 h0
      subst hs0
      refine ⟨w, .slice none 0 0, ?_, Below.refl _ _, Keeps.refl _, .inl ⟨rfl, rfl⟩⟩
      have h5 := hsrc.len
      have h6 := hsrc.cells
      simp at h5 h6
      simp [Builtin.append_, run_underlying hu, run_underlying hux, sizeOf, typeInfo, hi, h5, h6]
    · have hr := run_append_grow_src (P := P) w t tx ty 5 i _ hu hi hz none 0 0 [] (run_firstCells_none (w := w.drew) i.size 0 0 0) _ s.length _ hsrc (by omega) (by simp at hlen; omega) (growslice_fits (by simp at hlen; omega) (by rw [hby]; simp at hlen; omega))
      have hge : 0 + s.length ≤ grownCap w (0 + s.length) 0 5 := grownCap_ge w _ _ _
      refine ⟨_, _, hr, (Below.refl _ w).drew.alloc (by show lo + 1 ≤ w.heap.size; omega) _, Keeps.of_below ((Below.refl w.heap.size w).drew.alloc (Nat.le_refl _) _), .inr ⟨w.heap.size, _, hlo, by rw [List.nil_append, Nat.zero_add], ?_⟩⟩
      refine ⟨_, (0, 0), heap_alloc_last w.drew _, by simpa using hge, ?_, .inl rfl, ?_⟩
      · simp [size_zeroCells, Value.cells]; omega
      · intro j hj
        have hj' : j < s.length := by simpa using hj
        rw [Array.getElem?_append_left (by simpa using hj')]
        simp only [List.nil_append, List.getElem?_toArray]
        rw [byteCells_get _ _ hj']
  · obtain ⟨w1, g1, cap1, hr, hg1, hg, hb⟩ := run_appendSt (P := P) (w := w) t tx ty g cap l h3 s i hu hux hi hz hs hby hlen
    refine ⟨w1, _, hr, below_of_grown hg (by omega) (by omega), Keeps.of_bytes hg h3, .inr ⟨g1, cap1, by omega, ?_, hb⟩⟩
    rw [List.length_append]
theorem wpList_appendBL (hgd : op.guard = none) (x y : Operand) (t tx : TypeId) (ho : op.op = .call { callee := .builtin .append, args := #[x, y], argTypes := #[t, tx] })
    (lo : Nat) (sl : Value) (l : List UInt8) (hlo : lo < w.heap.size) (hx : a.eval x = sl) (hsl : BLof w lo sl l) (s : List UInt8) (hy : a.eval y = .string ⟨s.toArray⟩) (i : TypeInfo)
    (hu : P.underlying t = some (.slice 5)) (hux : P.underlying tx = some .string) (hi : P.info? 5 = some i) (hz : i.zero = some (.int .u8 0)) (hs : i.size = 1) (hby : i.bytes = 1) (hlen : l.length + s.length ≤ 1099511627776)
    (h : ∀ (w1 : World) (sl1 : Value), Below (lo + 1) w w1 → Keeps w w1 → BLof w1 lo sl1 (l ++ s) → wpList P ops Q rest (a.put op.dst sl1) w1) : wpList P ops Q (op :: rest) a w := by
  obtain ⟨w1, sl1, hr, hb, hkp, hl⟩ := run_appendBL (P := P) (w := w) t tx op.type lo sl l hlo hsl s i hu hux hi hz hs hby hlen
  refine wpList_run hgd _ _ ?_ (h w1 sl1 hb hkp hl)
  unfold execOp
  simp only [ho]
  simp [resolve, invoke, builtin, hx, hy, hr, Result.andThen]
/-- A string of an own slice's bytes. -/
theorem wpList_bslString (hgd : op.guard = none) (src dst : TypeId) (x : Operand) (ho : op.op = .convert src dst x) (g n cap : Nat) (l : List UInt8) (hbs : BS w g cap l) (hn : n = l.length) (hx : a.eval x = .slice (some ⟨g, 0, none⟩) n cap)
    (e : TypeId) (hs : P.underlying src = some (.slice e)) (he : P.underlying e = some (.int .u8)) (hd : P.underlying dst = some .string)
    (h : wpList P ops Q rest (a.put op.dst (.string ⟨l.toArray⟩)) w) : wpList P ops Q (op :: rest) a w := by
  subst hn
  refine wpList_run hgd _ w ?_ h
  have hld : (loadCells ⟨g, 0, none⟩ l.length).run P w = .ok ((l.map n8).map (Value.int .u8)).toArray w := by
    have := run_loadCells_list (P := P) w ⟨g, 0, none⟩ ((l.map n8).map (Value.int .u8)) (fun j v hv => by
      have hj : j < l.length := by have := (List.getElem?_eq_some_iff.1 hv).1; simpa using this
      rw [Addr.add_mid, Nat.zero_add, hbs.cell j hj, ← hv, List.getD_eq_getElem?_getD, List.getElem?_eq_getElem hj]
      simp [hj])
    simpa using this
  have hr := run_bytesToString (P := P) w ⟨g, 0, none⟩ l.length cap (l.map n8) hld
  rw [foldl_push] at hr
  have e2 : (((l.map n8).map fun k => UInt8.ofNat k.toNat)) = l := by
    rw [List.map_map]
    conv => rhs; rw [← List.map_id l]
    apply List.map_congr_left
    intro b _
    exact ofNat_n8 b
  rw [e2] at hr
  unfold execOp
  simp only [ho, hx, Sem.run_bind, run_convert_bytes_string w src dst e _ _ _ hs he hd, hr, Result.andThen_ok]
  show Result.ok (Next.value (.string ⟨ByteArray.empty.data ++ _⟩)) w = _
  rw [show ByteArray.empty.data = #[] from rfl, Array.empty_append]
end
theorem info5 : ∃ i, Tryz.prog.info? 5 = some i ∧ i.zero = some (.int .u8 0) ∧ i.size = 1 ∧ i.bytes = 1 := by
  have h : (Tryz.prog.info? 5).map (fun i => (i.zero, i.size, i.bytes)) = some (some (.int .u8 0), 1, 1) := by kernel_rfl
  cases hq : Tryz.prog.info? 5 with
  | none => rw [hq] at h; cases h
  | some i => rw [hq] at h; simp at h; exact ⟨i, rfl, h.1, h.2.1, h.2.2⟩
/-- The writer in block b has the bytes l. -/
structure WR (w : World) (b : Nat) (l : List UInt8) : Prop where
  out : ∃ sl, Blk w b #[sl] 99 ∧ BLof w b sl l
theorem WR.below {w w' : World} {b : Nat} {l : List UInt8} (h : WR w b l) (hb : Below w.heap.size w w') : WR w' b l := by
  obtain ⟨sl, h1, h2⟩ := h.out
  exact ⟨sl, h1.belowSize hb, h2.below hb⟩
theorem WR.lt {w : World} {b : Nat} {l : List UInt8} (h : WR w b l) : b < w.heap.size := by
  obtain ⟨sl, h1, h2⟩ := h.out
  exact h1.lt
end Go.Proofs.YtnhlejdilldfaaaGreat
namespace Go.Proofs.YtnhlejdilldfaaaGreat
open Go Go.RowKit
section
variable {P : Program} {ops : Array Oper} {rest : List Oper} {op : Oper} {a : Act} {w : World} {Q : Exit → Act → World → Prop}
/-- A string of a nil slice. -/
theorem wpList_nilString (hgd : op.guard = none) (src dst : TypeId) (x : Operand) (ho : op.op = .convert src dst x) (hx : a.eval x = .slice none 0 0)
    (e : TypeId) (hs : P.underlying src = some (.slice e)) (he : P.underlying e = some (.int .u8)) (hd : P.underlying dst = some .string)
    (h : wpList P ops Q rest (a.put op.dst (.string ⟨#[]⟩)) w) : wpList P ops Q (op :: rest) a w := by
  refine wpList_run hgd _ w ?_ h
  unfold execOp
  simp only [ho, hx, Sem.run_bind, run_convert_bytes_string w src dst e _ _ _ hs he hd]
  rfl
end
theorem wall_any (b : Nat) (l : List UInt8) (w : World) (h : WR w b l) : Calls Tryz.prog 18 #[.pointer (some ⟨b, 0, none⟩)] w fun e w' => e = .returned (.string ⟨l.toArray⟩) ∧ w' = w := by
  obtain ⟨sl, hb, hsl⟩ := h.out
  rcases hsl with ⟨rfl, rfl⟩ | ⟨g, cap, h1, rfl, h3⟩
  · go_enter Tryz.func18, Tryz.ntmps18
    go_wp2_with (with_reducible refine at_list ?_; first
      | (refine wpList_loadCell (op := ⟨some 8, _, _, _, _, _⟩) rfl _ _ rfl b 0 rfl _ _ hb _ Tryz.underlying76 rfl _ rfl ?_)
      | (refine wpList_nilString (op := ⟨some 9, _, _, _, _, _⟩) rfl _ _ _ rfl rfl _ Tryz.underlying76 Tryz.underlying5 Tryz.underlying9 ?_))
    go_ret
    exact ⟨rfl, rfl⟩
  · go_enter Tryz.func18, Tryz.ntmps18
    go_wp2_with (with_reducible refine at_list ?_; first
      | (refine wpList_loadCell (op := ⟨some 8, _, _, _, _, _⟩) rfl _ _ rfl b 0 rfl _ _ hb _ Tryz.underlying76 rfl _ rfl ?_)
      | (refine wpList_bslString (op := ⟨some 9, _, _, _, _, _⟩) rfl _ _ _ rfl g _ cap l h3 rfl rfl _ Tryz.underlying76 Tryz.underlying5 Tryz.underlying9 ?_))
    go_ret
    exact ⟨rfl, rfl⟩
/-- What a call that puts t leaves. -/
structure Puts (w w' : World) (b : Nat) (l t : List UInt8) : Prop where
  below : Below b w w'
  keeps : Keeps w w'
  wr : WR w' b (l ++ t)
set_option maxRecDepth 100000 in
set_option maxHeartbeats 400000 in
theorem wbytes_any (b : Nat) (l s : List UInt8) (w : World) (h : WR w b l) (hlen : l.length + s.length ≤ 1099511627776) : Calls Tryz.prog 84 #[.pointer (some ⟨b, 0, none⟩), .string ⟨s.toArray⟩] w fun e w' => e = .returned (.tuple #[]) ∧ Puts w w' b l s := by
  obtain ⟨sl, hb, hsl⟩ := h.out
  obtain ⟨i5', hi5, hz5, hs5, hb5⟩ := info5
  have i57 : (Tryz.prog.info? 76).map (·.size) = some 1 := by kernel_rfl
  go_enter Tryz.func84, Tryz.ntmps84
  go_wp2_with (with_reducible refine at_list ?_; first
    | (refine wpList_loadCell (op := ⟨some 10, _, _, _, _, _⟩) rfl _ _ rfl b 0 rfl _ _ hb _ Tryz.underlying76 rfl sl rfl ?_)
    | (refine wpList_appendBL (op := ⟨some 12, _, _, _, _, _⟩) rfl _ _ _ _ rfl b sl l hb.lt rfl hsl s rfl _ Tryz.underlying76 Tryz.underlying9 hi5 hz5 hs5 hb5 hlen ?_; intro w1 sl1 hw1 hkp hsl1)
    | (refine wpList_storeCell (op := ⟨none, _, _, _, _, _⟩) rfl _ _ _ rfl b 0 rfl sl1 rfl _ _ (hb.below hw1 (by omega)) i57 hsl1.cells.1 hsl1.cells.2 (by simp) ?_; intro w2 hg2 hs2 hb2))
  refine bodyPost_end (results_none rfl _ _ _) rfl ⟨rfl, ?_, hkp.trans (Keeps.of_writer hg2 (hb.below hw1 (by omega))), ⟨sl1, hb2, hsl1.grown hg2⟩⟩
  have hB1 : Below b w w1 := hw1.mono (by omega)
  exact hB1.trans (below_of_grown hg2 (Nat.le_refl _) (Nat.le_trans (Nat.le_of_lt hb.lt) hB1.size))
set_option maxRecDepth 100000 in
theorem neww_any (w : World) : Calls Tryz.prog 16 #[] w fun e w' => e = .returned (.pointer (some ⟨w.heap.size, 0, none⟩)) ∧ Below w.heap.size w w' ∧ WR w' w.heap.size [] := by
  go_enter Tryz.func16, Tryz.ntmps16
  go_wp2_with (with_reducible refine at_list ?_; first
    | (refine wpList_boxRow (op := ⟨some 2, _, _, _, _, _⟩) rfl _ _ rfl #[.slice none 0 0] rfl ?_; intro w1 hw1 hs1 hb1; replace hs1 := hs1.symm))
  go_ret
  exact ⟨rfl, hw1, ⟨_, hb1, .inl ⟨rfl, rfl⟩⟩⟩
set_option maxHeartbeats 400000 in
theorem wnumber_any (b : Nat) (l : List UInt8) (n : Nat) (k : Int) (w : World) (h : WR w b l) (hlen : l.length ≤ 549755813888) : Calls Tryz.prog 83 #[.pointer (some ⟨b, 0, none⟩), .int .u64 n, .int .i64 k] w fun e w' => e = .returned (.tuple #[]) ∧ Puts w w' b l (num n (cut8 k)) := by
  have HN := number_any n k w
  have hc := cut8_le k
  have hl := num_length (cut8 k) n
  generalize num n (cut8 k) = t at *
  have HB := fun w (h : WR w b l) => wbytes_any b l t w h (by omega)
  have hbl := h.lt
  go_enter Tryz.func83, Tryz.ntmps83
  go_wp2_with (first
    | (go_at_call 105; refine HN.mono ?_; rintro e w1 ⟨rfl, hw1⟩)
    | (go_at_call 84; refine (HB _ (h.below hw1)).mono ?_; rintro e w2 ⟨rfl, hW2⟩))
  refine bodyPost_end (results_none rfl _ _ _) rfl ⟨rfl, (hw1.mono (by omega)).trans hW2.below, (Keeps.of_below hw1).trans hW2.keeps, hW2.wr⟩
theorem wcount_any (b : Nat) (l : List UInt8) (n : Int) (w : World) (h : WR w b l) (hlen : l.length ≤ 549755813888) (hn : n ≤ 9223372036854775807) : Calls Tryz.prog 56 #[.pointer (some ⟨b, 0, none⟩), .int .i64 n] w fun e w' => e = .returned (.tuple #[]) ∧ Puts w w' b l (num n.toNat 4) := by
  have HN := fun w (h : WR w b l) => wnumber_any b l n.toNat 4 w h hlen
  rw [cut8_4] at HN
  generalize num n.toNat 4 = t at *
  by_cases h0 : n < 0
  · rw [show n.toNat = 0 from by omega] at HN
    go_enter Tryz.func56, Tryz.ntmps56
    go_wp2_with (go_at_call 83; refine (HN _ h).mono ?_; rintro e w1 ⟨rfl, hP⟩)
    refine bodyPost_end (results_none rfl _ _ _) rfl ⟨rfl, hP⟩
  · obtain ⟨m, rfl⟩ : ∃ m : Nat, n = m := ⟨n.toNat, by omega⟩
    rw [Int.toNat_natCast] at HN
    have hd : decide ((m : Int) < 0) = false := by simp
    have hm := wrap_u64_nat m (by omega)
    go_enter Tryz.func56, Tryz.ntmps56
    go_wp2_with (go_at_call 83; refine (HN _ h).mono ?_; rintro e w1 ⟨rfl, hP⟩)
    refine bodyPost_end (results_none rfl _ _ _) rfl ⟨rfl, hP⟩
theorem wtext_any (b : Nat) (l s : List UInt8) (w : World) (h : WR w b l) (hlen : l.length + s.length ≤ 274877906944) : Calls Tryz.prog 58 #[.pointer (some ⟨b, 0, none⟩), .string ⟨s.toArray⟩] w fun e w' => e = .returned (.tuple #[]) ∧ Puts w w' b l (num s.length 4 ++ s) := by
  have HC := wcount_any b l s.length w h (by omega) (by omega)
  rw [Int.toNat_natCast] at HC
  have hl := num_length 4 s.length
  generalize num s.length 4 = t at *
  have HB := fun w (h : WR w b (l ++ t)) => wbytes_any b (l ++ t) s w h (by rw [List.length_append]; omega)
  go_enter Tryz.func58, Tryz.ntmps58
  go_wp2_with (first
    | (go_at_call 56; refine HC.mono ?_; rintro e w1 ⟨rfl, hP⟩)
    | (go_at_call 84; refine (HB _ hP.wr).mono ?_; rintro e w2 ⟨rfl, hW2⟩))
  refine bodyPost_end (results_none rfl _ _ _) rfl ⟨rfl, hP.below.trans hW2.below, hP.keeps.trans hW2.keeps, ?_⟩
  rw [← List.append_assoc]
  exact hW2.wr
section
attribute [local go_sem] mkApp2
theorem rtext_str (s : List UInt8) (w : World) (hl : s.length ≤ 549755813888) : Calls Tryz.prog 49 #[.string ⟨s.toArray⟩] w fun e w' => e = .returned (.string ⟨(num s.length 4 ++ s).toArray⟩) ∧ Below w.heap.size w w' := by
  have HN := rnum_any s.length 4 w (by omega)
  rw [cut8_4] at HN
  have hnl := num_length 4 s.length
  generalize num s.length 4 = t at *
  go_enter Tryz.func49, Tryz.ntmps49
  go_wp2_with (go_at_call 44; refine HN.mono ?_; rintro e w1 ⟨rfl, hw1⟩)
  go_ret
  exact ⟨rfl, hw1⟩
end
section
attribute [local go_sem] mkApp2 extract_take
theorem mkApp0 (x : List UInt8) : (ByteArray.mk x.toArray ++ ByteArray.mk #[0]) = ByteArray.mk (x ++ [0]).toArray := mkApp2 x [0]
attribute [local go_sem] mkApp0
end
end Go.Proofs.YtnhlejdilldfaaaGreat
