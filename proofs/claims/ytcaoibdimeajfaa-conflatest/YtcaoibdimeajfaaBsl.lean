/- Laws on slices of bytes and strings, over blocks that are known whole. A slice of bytes that grows: what it holds, and appending to it. -/
import Derived.Test.YtcaoibdimeajfaaRow
import Derived.Laws.MakeOwn
import Derived.Laws.BytesString
import Derived.Deep.AppendSrc
import Derived.Lib.ConvBytes
namespace Go.Proofs.Ytcaoibdimeajfaa
open Go Go.RowKit

theorem row8_set (f : Nat → UInt8) (n i : Nat) (v : UInt8) : (row8 f n).setIfInBounds i (.int .u8 (n8 v)) = row8 (upd f i v) n := by
  apply Array.ext_getElem?
  intro j
  rw [Array.getElem?_setIfInBounds]
  by_cases hj : j < n
  · rw [row8_get _ _ _ hj, row8_get _ _ _ hj, row8_size]
    by_cases h : i = j
    · subst h; simp [upd, hj]
    · rw [if_neg h, upd, if_neg (fun e => h e.symm)]
  · rw [row8_none _ _ _ (by omega), row8_none _ _ _ (by omega), row8_size]
    by_cases h : i = j
    · subst h; rw [if_pos rfl, if_neg hj]
    · rw [if_neg h]

/-- The first n of a row of bytes, as a string. -/
def strF (f : Nat → UInt8) (n : Nat) : ByteArray := ⟨((List.range n).map f).toArray⟩
theorem strF_size (f : Nat → UInt8) (n : Nat) : (strF f n).size = n := by
  show ((List.range n).map f).toArray.size = n
  simp
theorem madeCells_row8 (n : Nat) : madeCells #[Value.int .u8 0] n = row8 (fun _ => 0) n := by
  apply Array.ext_getElem?
  intro j
  by_cases hj : j < n
  · rw [row8_get _ _ _ hj]; simp [madeCells, hj, n8, Nat.mod_one]
  · rw [row8_none _ _ _ (by omega)]; simp [madeCells]; omega
theorem foldl_push (ns : List Int) : ∀ s : ByteArray, ns.foldl (fun r n => r.push (UInt8.ofNat n.toNat)) s = ⟨s.data ++ (ns.map fun n => UInt8.ofNat n.toNat).toArray⟩ := by
  induction ns with
  | nil => intro s; simp
  | cons n ns ih => intro s; rw [List.foldl_cons, ih]; simp [ByteArray.push]
theorem ofNat_n8 (x : UInt8) : UInt8.ofNat (n8 x).toNat = x := by
  unfold n8; simp

section
variable {P : Program} {ops : Array Oper} {rest : List Oper} {op : Oper} {a : Act} {w : World} {Q : Exit → Act → World → Prop}

/-- A slice of bytes is made. -/
theorem wpList_makeB (hgd : op.guard = none) (ty : TypeId) (x y : Operand) (ho : op.op = .makeSlice ty x y) (n m : Nat) (hx : a.eval x = .int .i64 (n : Int)) (hy : a.eval y = .int .i64 (m : Int)) (hnm : n ≤ m) (hm : m ≤ 1099511627776)
    (e : TypeId) (i : TypeInfo) (hu : P.underlying ty = some (.slice e)) (hi : P.info? e = some i) (hz : i.zero = some (.int .u8 0)) (hs : i.size = 1) (hb : i.bytes = 1)
    (h : ∀ w1 : World, Below w.heap.size w w1 → w1.heap.size = w.heap.size + 1 → Blk w1 w.heap.size (row8 (fun _ => 0) m) e → wpList P ops Q rest (a.put op.dst (.slice (some ⟨w.heap.size, 0, none⟩) n m)) w1) :
    wpList P ops Q (op :: rest) a w := by
  have hr := run_make (P := P) w ty e i _ hu hi hz .i64 .i64 (n : Int) (m : Int) (by omega) (by omega) (by rw [hb]; omega) (by omega)
  rw [Int.toNat_natCast, Int.toNat_natCast, hs, Nat.mul_one, show (Value.int .u8 0).cells = #[Value.int .u8 0] from rfl, madeCells_row8] at hr
  refine wpList_run hgd _ _ ?_ (h _ ((Below.refl _ _).alloc (Nat.le_refl _) _) (by simp) (Blk.new _ _ _))
  unfold execOp
  simp only [ho, hx, hy, Sem.run_bind, hr, Result.andThen_ok]
  rfl

/-- The address of an element of a slice. -/
theorem wpList_addrS (hgd : op.guard = none) (ty : TypeId) (x i : Operand) (ho : op.op = .indexAddr ty x i) (b o len cap : Nat) (hx : a.eval x = .slice (some ⟨b, o, none⟩) len cap) (k : IntKind) (n : Int) (hi : a.eval i = .int k n) (m : Nat)
    (e : TypeId) (hu : P.underlying ty = some (.slice e)) (hse : (P.info? e).map (·.size) = some 1)
    (h0 : n = (m : Int)) (h1 : m < len) (h : wpList P ops Q rest (a.put op.dst (.pointer (some ⟨b, o + m, none⟩))) w) : wpList P ops Q (op :: rest) a w := by
  subst h0
  refine wpList_run hgd (.pointer (some ⟨b, o + m, none⟩)) w ?_ h
  have hc : (0 : Int) ≤ (m : Int) ∧ (m : Int) < (len : Int) := by omega
  unfold execOp
  simp only [ho, hx, hi, Instr.indexAt, asIntOf, Sem.run_bind, Sem.run_pure, Result.andThen_ok, run_underlying hu w, if_pos hc, sizeOf_run hse, Nat.mul_one, Addr.add_mid, Int.toNat_natCast]

theorem wpList_storeB (hgd : op.guard = none) (ty : TypeId) (x y : Operand) (ho : op.op = .store ty x y) (b o : Nat) (hx : a.eval x = .pointer (some ⟨b, o, none⟩)) (v : UInt8) (hy : a.eval y = .int .u8 (n8 v))
    (f : Nat → UInt8) (n : Nat) (t : TypeId) (hb : Blk w b (row8 f n) t) (hi : (P.info? ty).map (·.size) = some 1) (hn : o < n)
    (h : ∀ w1 : World, w.grownBy w1 (some b) → w1.heap.size = w.heap.size → Blk w1 b (row8 (upd f o v) n) t → wpList P ops Q rest (a.put op.dst undef) w1) : wpList P ops Q (op :: rest) a w :=
  wpList_storeCell hgd ty x y ho b o hx _ hy _ t hb hi rfl rfl (by rw [row8_size]; exact hn) (fun w1 g s hb1 => h w1 g s (by rw [row8_set] at hb1; exact hb1))

theorem cells_int (f : Nat → UInt8) (n : Nat) : ((List.range n).map fun j => n8 (f j)).map (Value.int .u8) = ((List.range n).map fun j => Value.int .u8 (n8 (f j))) := by
  rw [List.map_map]; rfl
theorem Blk.loadBytes {b : Nat} {f : Nat → UInt8} {m n : Nat} {t : TypeId} (hb : Blk w b (row8 f m) t) (hn : n ≤ m) :
    (loadCells ⟨b, 0, none⟩ n).run P w = .ok (((List.range n).map fun j => n8 (f j)).map (Value.int .u8)).toArray w := by
  have := run_loadCells_list (P := P) w ⟨b, 0, none⟩ (((List.range n).map fun j => n8 (f j)).map (Value.int .u8)) (fun j v hv => by
    have hj : j < n := by have := (List.getElem?_eq_some_iff.1 hv).1; simpa using this
    rw [Addr.add_mid, Nat.zero_add, hb.cell, row8_get _ _ _ (by omega), ← hv]
    simp [hj])
  simpa using this

/-- A string of the first bytes of a slice. -/
theorem wpList_bytesString (hgd : op.guard = none) (src dst : TypeId) (x : Operand) (ho : op.op = .convert src dst x) (b n cap : Nat) (hx : a.eval x = .slice (some ⟨b, 0, none⟩) n cap)
    (e : TypeId) (hs : P.underlying src = some (.slice e)) (he : P.underlying e = some (.int .u8)) (hd : P.underlying dst = some .string)
    (f : Nat → UInt8) (m : Nat) (t : TypeId) (hb : Blk w b (row8 f m) t) (hn : n ≤ m)
    (h : wpList P ops Q rest (a.put op.dst (.string (strF f n))) w) : wpList P ops Q (op :: rest) a w := by
  refine wpList_run hgd _ w ?_ h
  have hr := run_bytesToString (P := P) w ⟨b, 0, none⟩ n cap ((List.range n).map fun j => n8 (f j)) (hb.loadBytes hn)
  rw [foldl_push] at hr
  have e2 : ((((List.range n).map fun j => n8 (f j)).map fun k => UInt8.ofNat k.toNat)) = (List.range n).map f := by
    rw [List.map_map]; congr 1; funext j; exact ofNat_n8 (f j)
  rw [e2] at hr
  unfold execOp
  simp only [ho, hx, Sem.run_bind, run_convert_bytes_string w src dst e _ _ _ hs he hd, hr, Result.andThen_ok]
  show Result.ok (Next.value (.string ⟨ByteArray.empty.data ++ _⟩)) w = _
  rw [show ByteArray.empty.data = #[] from rfl, Array.empty_append]
  rfl
end

end Go.Proofs.Ytcaoibdimeajfaa
namespace Go.Proofs.Ytcaoibdimeajfaa
open Go Go.RowKit

theorem mk_size (l : List UInt8) : (ByteArray.mk l.toArray).size = l.length := by show l.toArray.size = _; simp
/-- Block g holds a slice's bytes l, with room for cap. -/
structure BS (w : World) (g cap : Nat) (l : List UInt8) : Prop where
  out : ∃ (cur : Array Value) (fr : Nat × Nat), w.heap[g]? = some (.cells cur 5 fr) ∧ l.length ≤ cap ∧ cap ≤ cur.size ∧ (fr = (0, 0) ∨ cur.size ≤ fr.1) ∧ ∀ j, j < l.length → cur[j]? = some (.int .u8 (n8 (l.getD j 0)))
theorem BS.lt {w : World} {g cap : Nat} {l : List UInt8} (h : BS w g cap l) : g < w.heap.size := by
  obtain ⟨cur, fr, h1, _⟩ := h.out
  exact (Array.getElem?_eq_some_iff.1 h1).1
theorem BS.cell {w : World} {g cap : Nat} {l : List UInt8} (h : BS w g cap l) (j : Nat) (hj : j < l.length) : w.cell? ⟨g, j, none⟩ = some (.int .u8 (n8 (l.getD j 0))) := by
  obtain ⟨cur, fr, h1, _, _, _, h5⟩ := h.out
  simp [World.cell?, h1, h5 j hj]
theorem BS.below {w w' : World} {g cap B : Nat} {l : List UInt8} (h : BS w g cap l) (hb : Below B w w') (hl : g < B) : BS w' g cap l := by
  obtain ⟨cur, fr, h1, hr⟩ := h.out
  exact ⟨cur, fr, by rw [hb.block g hl]; exact h1, hr⟩
theorem BS.belowSize {w w' : World} {g cap : Nat} {l : List UInt8} (h : BS w g cap l) (hb : Below w.heap.size w w') : BS w' g cap l := h.below hb h.lt
theorem BS.grown {w w' : World} {g cap : Nat} {row : Option Nat} {l : List UInt8} (h : BS w g cap l) (hb : w.grownBy w' row) (hr : some g ≠ row) : BS w' g cap l := by
  obtain ⟨cur, fr, h1, hr'⟩ := h.out
  exact ⟨cur, fr, by rw [hb.block g h.lt hr]; exact h1, hr'⟩
theorem BS.len {w : World} {g cap : Nat} {l : List UInt8} (h : BS w g cap l) : l.length ≤ cap := by
  obtain ⟨cur, fr, h1, h2, _⟩ := h.out
  exact h2
theorem BS.drewN {w : World} {g cap : Nat} {l : List UInt8} (h : BS w g cap l) (n : Nat) : BS (w.drewN n) g cap l := ⟨h.out⟩
theorem BS.drew {w : World} {g cap : Nat} {l : List UInt8} (h : BS w g cap l) : BS w.drew g cap l := ⟨h.out⟩

theorem byteCells_get (l : List UInt8) (j : Nat) (hj : j < l.length) : (l.map fun b => Value.int .u8 (b.toNat : Int))[j]? = some (.int .u8 (n8 (l.getD j 0))) := by
  rw [List.getElem?_map, List.getElem?_eq_getElem hj, List.getD_eq_getElem?_getD, List.getElem?_eq_getElem hj]
  rfl

section
variable {P : Program} {ops : Array Oper} {rest : List Oper} {op : Oper} {a : Act} {w : World} {Q : Exit → Act → World → Prop}

/-- append's run, whether there is room or not. -/
theorem run_appendBS (t ty : TypeId) (g cap : Nat) (l : List UInt8) (hbs : BS w g cap l) (g2 n c : Nat) (f : Nat → UInt8) (ty2 : TypeId) (hb2 : Blk w g2 (row8 f n) ty2) (i : TypeInfo)
    (hu : P.underlying t = some (.slice 5)) (hi : P.info? 5 = some i) (hz : i.zero = some (.int .u8 0)) (hs : i.size = 1) (hby : i.bytes = 1) (hlen : l.length + n ≤ 1099511627776) :
    ∃ (w1 : World) (g1 cap1 : Nat), (Builtin.append_ #[t, t] ty #[.slice (some ⟨g, 0, none⟩) l.length cap, .slice (some ⟨g2, 0, none⟩) n c]).run P w = .ok (.slice (some ⟨g1, 0, none⟩) (l.length + n) cap1) w1 ∧
      (g1 = g ∨ w.heap.size ≤ g1) ∧ w.grownBy w1 (some g) ∧ BS w1 g1 cap1 (l ++ (List.range n).map f) := by
  obtain ⟨cur, fr, h1, h2, h3, h4, h5⟩ := hbs.out
  have hlt := hbs.lt
  have hnl : (((List.range n).map f).map fun b => Value.int .u8 (b.toNat : Int)).length = n := by simp
  have hsrc : Src P i.size t (.slice (some ⟨g2, 0, none⟩) n c) n (((List.range n).map f).map fun b => Value.int .u8 (b.toNat : Int)) w :=
    Src.ofSlice w hu ⟨g2, 0, none⟩ n c _ (by rw [hs, hnl, Nat.mul_one]) (fun j u hj => by
      have hjn : j < n := by have := (List.getElem?_eq_some_iff.1 hj).1; rw [hnl] at this; exact this
      rw [Addr.add_mid, Nat.zero_add, hb2.cell, row8_get _ _ _ hjn]
      rw [byteCells_get _ _ (by simpa using hjn)] at hj
      rw [← hj]; simp [hjn])
      (fun u hu => by
        obtain ⟨_, _, rfl⟩ := List.mem_map.1 hu
        rfl)
  by_cases hroom : l.length + n ≤ cap
  · have hcell : ∀ j, j < n → (w.cell? ⟨g, l.length + j, none⟩).isSome = true := fun j hj => by
      simp only [World.cell?, h1]
      rw [Array.getElem?_eq_getElem (by omega)]; rfl
    have hfro : ∀ j, j < n → w.frozen? ⟨g, l.length + j, none⟩ = false := fun j hj => by
      simp only [World.frozen?, h1]
      rcases h4 with h4 | h4
      · rw [h4]; simp
      · simp; intro h; omega
    have hr := run_append_room_src (P := P) w t t ty 5 i hu hi g 0 l.length cap _ n _ hsrc hroom
      (fun j hj => by rw [hs, Nat.mul_one, Nat.zero_add]; exact hcell j (by rw [hnl] at hj; exact hj))
      (fun j hj => by rw [hs, Nat.mul_one, Nat.zero_add]; exact hfro j (by rw [hnl] at hj; exact hj))
    rw [hs, Nat.mul_one, Nat.zero_add] at hr
    refine ⟨_, g, cap, hr, .inl rfl, grown_setCells _ _ _ _, ?_⟩
    have hset : ∀ (vs : List Value) (o : Nat) (w : World) (c : Array Value), w.heap[g]? = some (.cells c 5 fr) → (w.setCells g o vs).heap[g]? = some (.cells (spl c o vs) 5 fr) := by
      intro vs
      induction vs with
      | nil => intro o w c h; exact h
      | cons v r ih =>
        intro o w c h
        rw [World.setCells]
        exact ih (o + 1) _ _ (by simp [World.setCell, Array.getElem?_modify, h])
    refine ⟨_, fr, hset _ _ _ _ h1, by simp; omega, by rw [spl_size]; exact h3, by rw [spl_size]; exact h4, ?_⟩
    intro j hj
    have hj' : j < l.length + n := by simpa using hj
    rw [spl_get _ _ _ _ (by rw [hnl]; omega), hnl]
    by_cases hjl : j < l.length
    · rw [if_neg (by omega), h5 j hjl, List.getD_eq_getElem?_getD, List.getD_eq_getElem?_getD, List.getElem?_append_left hjl]
    · rw [if_pos (by omega), byteCells_get _ _ (by simp; omega), List.getD_eq_getElem?_getD, List.getD_eq_getElem?_getD, List.getElem?_append_right (by omega)]
  · have hold : (Builtin.firstCells i.size l.length (.slice (some ⟨g, 0, none⟩) l.length cap)).run P w.drew = .ok (l.map fun b => Value.int .u8 (b.toNat : Int)).toArray w.drew :=
      run_firstCells_some w.drew i.size l.length ⟨g, 0, none⟩ l.length cap _ (by simp [hs]) (fun j u hj => by
        have hjn : j < l.length := by have := (List.getElem?_eq_some_iff.1 hj).1; simpa using this
        rw [byteCells_get _ _ hjn] at hj
        rw [Addr.add_mid, Nat.zero_add, hbs.drew.cell j hjn]; exact hj)
    have hr := run_append_grow_src (P := P) w t t ty 5 i _ hu hi hz (some ⟨g, 0, none⟩) l.length cap _ hold _ n _ hsrc (by omega) (by omega) (growslice_fits (by omega) (by rw [hby]; omega))
    have hge : l.length + n ≤ grownCap w (l.length + n) cap 5 := grownCap_ge w _ _ _
    refine ⟨_, w.heap.size, _, hr, .inr (Nat.le_refl _), ?_, ?_⟩
    · exact grown_of_below ((Below.refl w.heap.size w).drew.alloc (Nat.le_refl _) _)
    · refine ⟨_, (0, 0), heap_alloc_last w.drew _, by simp; exact hge, ?_, .inl rfl, ?_⟩
      · simp [size_zeroCells, Value.cells]; omega
      · intro j hj
        have hj' : j < l.length + n := by simpa using hj
        rw [Array.getElem?_append_left (by simp; omega)]
        simp only [List.getElem?_toArray]
        rw [← List.map_append, byteCells_get _ _ hj]

theorem wpList_appendBS (hgd : op.guard = none) (x y : Operand) (t : TypeId) (ho : op.op = .call { callee := .builtin .append, args := #[x, y], argTypes := #[t, t] })
    (g cap : Nat) (l : List UInt8) (len : Nat) (hl : len = l.length) (hx : a.eval x = .slice (some ⟨g, 0, none⟩) len cap) (hbs : BS w g cap l) (g2 n c : Nat) (hy : a.eval y = .slice (some ⟨g2, 0, none⟩) n c) (f : Nat → UInt8) (ty2 : TypeId) (hb2 : Blk w g2 (row8 f n) ty2) (i : TypeInfo)
    (hu : P.underlying t = some (.slice 5)) (hi : P.info? 5 = some i) (hz : i.zero = some (.int .u8 0)) (hs : i.size = 1) (hby : i.bytes = 1) (hlen : l.length + n ≤ 1099511627776)
    (h : ∀ (w1 : World) (g1 cap1 : Nat), (g1 = g ∨ w.heap.size ≤ g1) → w.grownBy w1 (some g) → BS w1 g1 cap1 (l ++ (List.range n).map f) → wpList P ops Q rest (a.put op.dst (.slice (some ⟨g1, 0, none⟩) (len + n) cap1)) w1) :
    wpList P ops Q (op :: rest) a w := by
  subst hl
  obtain ⟨w1, g1, cap1, hr, hg1, hg, hb⟩ := run_appendBS (P := P) t op.type g cap l hbs g2 n c f ty2 hb2 i hu hi hz hs hby hlen
  refine wpList_run hgd _ _ ?_ (h w1 g1 cap1 hg1 hg hb)
  unfold execOp
  simp only [ho]
  simp [resolve, invoke, builtin, hx, hy, hr, Result.andThen]

/-- '[]byte(s)'. -/
theorem wpList_strBytes (hgd : op.guard = none) (src dst : TypeId) (x : Operand) (ho : op.op = .convert src dst x) (s : List UInt8) (hx : a.eval x = .string ⟨s.toArray⟩)
    (u : TypeDesc) (hs : P.underlying src = some u) (hd : P.underlying dst = some (.slice 5)) (he : P.underlying 5 = some (.int .u8))
    (h : ∀ (w1 : World) (cap : Nat), Below w.heap.size w w1 → w1.heap.size = w.heap.size + 1 → BS w1 w.heap.size cap s → wpList P ops Q rest (a.put op.dst (.slice (some ⟨w.heap.size, 0, none⟩) s.length cap)) w1) :
    wpList P ops Q (op :: rest) a w := by
  have hr := Lib.run_convert_string_bytes (P := P) w src dst 5 (ByteArray.mk s.toArray) hs hd he
  rw [mk_size] at hr
  have hge : s.length ≤ grownCap w s.length 0 5 := grownCap_ge w _ _ _
  have hsz : (Lib.bytesCells w 5 (ByteArray.mk s.toArray)).size = grownCap w s.length 0 5 := by
    simp [Lib.bytesCells, mk_size]; omega
  refine wpList_run hgd _ _ ?_ (h (Lib.bytesWorld w 5 (ByteArray.mk s.toArray)) (grownCap w s.length 0 5) ?_ (Lib.bytesWorld_size _ _ _) ?_)
  · unfold execOp
    simp only [ho, hx, Sem.run_bind, hr, Result.andThen_ok]
    rfl
  · exact ⟨by simp [Lib.bytesWorld, World.freeze]; rfl, by simp [Lib.bytesWorld, World.freeze], by simp [Lib.bytesWorld, World.freeze]; rfl, by rw [Lib.bytesWorld_size]; omega, fun k hk => Lib.bytesWorld_at_old w 5 _ k hk⟩
  · refine ⟨_, _, Lib.bytesWorld_at_new w 5 _, hge, by rw [hsz]; exact Nat.le_refl _, .inr (Nat.le_refl _), ?_⟩
    intro j hj
    rw [Lib.bytesCells, Array.getElem?_append_left (by simp; exact hj)]
    simp [hj, n8, List.getD_eq_getElem?_getD]

/-- A slice is made out of its parts: a new block. -/
theorem wpList_buildSl (hgd : op.guard = none) (t : TypeId) (n : Nat) (parts : Array (Nat × Operand)) (ho : op.op = .buildSlice t n parts) (c : Array Value)
    (hr : ∀ w, (Instr.buildSlice t n (parts.map fun (i, x) => (i, a.eval x))).run P w = .ok (.slice (some ⟨w.heap.size, 0, none⟩) n n) (w.alloc (.cells c 5)))
    (h : ∀ w1 : World, Below w.heap.size w w1 → w1.heap.size = w.heap.size + 1 → Blk w1 w.heap.size c 5 → wpList P ops Q rest (a.put op.dst (.slice (some ⟨w.heap.size, 0, none⟩) n n)) w1) : wpList P ops Q (op :: rest) a w := by
  refine wpList_run hgd _ _ ?_ (h _ ((Below.refl _ _).alloc (Nat.le_refl _) _) (by simp) (Blk.new _ _ _))
  unfold execOp
  simp only [ho, Sem.run_bind, hr, Result.andThen_ok]
  rfl

/-- A slice of a slice: n elements from l on. -/
theorem wpList_sliceSl (hgd : op.guard = none) (ty : TypeId) (x lo hi : Operand) (ho : op.op = .slice ty x (some lo) (some hi) none) (b len cap : Nat) (hx : a.eval x = .slice (some ⟨b, 0, none⟩) len cap)
    (zl zh : Int) (hlo : a.eval lo = .int .i64 zl) (hhi : a.eval hi = .int .i64 zh) (l n : Nat) (hl : zl = (l : Int)) (hh : zh = ((l + n : Nat) : Int)) (h1 : 0 < n) (h2 : l + n ≤ cap)
    (e : TypeId) (hu : P.underlying ty = some (.slice e)) (hse : (P.info? e).map (·.size) = some 1)
    (h : wpList P ops Q rest (a.put op.dst (.slice (some ⟨b, l, none⟩) n (cap - l))) w) : wpList P ops Q (op :: rest) a w := by
  subst hl hh
  refine wpList_run hgd _ w ?_ h
  have g2 : ¬ cap = l := by omega
  unfold execOp
  simp only [ho, Option.map_some, Option.map_none, hx, hlo, hhi]
  simp [Instr.sliceAt, Instr.slice, run_underlying hu, Instr.sliceBounds, Instr.sliceBound, asIntOf, sizeOf_run hse, Addr.add_mid, Sem.run_bind]
  rw [if_pos (by omega)]
  simp [g2]
  rw [show ((l : Int) + (n : Int)).toNat = l + n from by omega, if_pos (by omega), Nat.add_sub_cancel_left]
end
theorem row8_one8 (x : UInt8) : #[Value.int .u8 (n8 x)] = row8 (fun _ => x) 1 := rfl
end Go.Proofs.Ytcaoibdimeajfaa
