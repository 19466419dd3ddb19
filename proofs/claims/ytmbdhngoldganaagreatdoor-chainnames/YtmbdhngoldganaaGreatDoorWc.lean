/- Laws on slices of bytes and strings, over blocks that are known whole. A slice of bytes that grows: what it holds, and appending to it. What checkOn and Crc do. What Number, value and the plain Crc do. What value, the plain Crc, few and awake do. -/
import Derived.Test.YtmbdhngoldganaaGreatDoorRow
import Derived.Laws.MakeOwn
import Derived.Laws.BytesString
import Derived.Deep.AppendSrc
import Derived.Lib.ConvBytes
import Derived.Test.YtmbdhngoldganaaGreatDoorProg
import Derived.WalkKit
import Derived.WalkSpells
import Derived.WalkLawsBesides
namespace Go.Proofs.YtmbdhngoldganaaGreatDoor
open Go Go.RowKit

theorem row8_set (f : Nat → UInt8) (n i : Nat) (v : UInt8) : (row8 f n).setIfInBounds i (.int .u8 (n8 v)) = row8 (upd f i v) n := by
  apply Array.ext_getElem?
  intro j
  rw [Array.getElem?_setIfInBounds]
  by_cases hj : j < n
  · rw [row8_get _ _ _ hj, row8_get _ _ _ hj, row8_size]
    by_cases h : i = j
    · subst h; simp [upd, hj]
    · rw [if_neg h, upd, if_neg (fun e => h e.symm)]
  · rw [row8_none _ _ _ (by omega), row8_none _ _ _ (by omega), row8_size]
    by_cases h : i = j
    · subst h; rw [if_pos rfl, if_neg hj]
    · rw [if_neg h]

def strF (f : Nat → UInt8) (n : Nat) : ByteArray := ⟨((List.range n).map f).toArray⟩
theorem madeCells_row8 (n : Nat) : madeCells #[Value.int .u8 0] n = row8 (fun _ => 0) n := by
  apply Array.ext_getElem?
  intro j
  by_cases hj : j < n
  · rw [row8_get _ _ _ hj]; simp [madeCells, hj, n8, Nat.mod_one]
  · rw [row8_none _ _ _ (by omega)]; simp [madeCells]; omega
theorem foldl_push (ns : List Int) : ∀ s : ByteArray, ns.foldl (fun r n => r.push (UInt8.ofNat n.toNat)) s = ⟨s.data ++ (ns.map fun n => UInt8.ofNat n.toNat).toArray⟩ := by
  induction ns with
  | nil => intro s; simp
  | cons n ns ih => intro s; rw [List.foldl_cons, ih]; simp [ByteArray.push]
theorem ofNat_n8 (x : UInt8) : UInt8.ofNat (n8 x).toNat = x := by
  unfold n8; simp

section
variable {P : Program} {ops : Array Oper} {rest : List Oper} {op : Oper} {a : Act} {w : World} {Q : Exit → Act → World → Prop}

theorem wpList_makeB (hgd : op.guard = none) (ty : TypeId) (x y : Operand) (ho : op.op = .makeSlice ty x y) (n m : Nat) (hx : a.eval x = .int .i64 (n : Int)) (hy : a.eval y = .int .i64 (m : Int)) (hnm : n ≤ m) (hm : m ≤ 1099511627776)
    (e : TypeId) (i : TypeInfo) (hu : P.underlying ty = some (.slice e)) (hi : P.info? e = some i) (hz : i.zero = some (.int .u8 0)) (hs : i.size = 1) (hb : i.bytes = 1)
    (h : ∀ w1 : World, Below w.heap.size w w1 → w1.heap.size = w.heap.size + 1 → Blk w1 w.heap.size (row8 (fun _ => 0) m) e → wpList P ops Q rest (a.put op.dst (.slice (some ⟨w.heap.size, 0, none⟩) n m)) w1) :
    wpList P ops Q (op :: rest) a w := by
  have hr := run_make (P := P) w ty e i _ hu hi hz .i64 .i64 (n : Int) (m : Int) (by omega) (by omega) (by rw [hb]; omega) (by omega)
  rw [Int.toNat_natCast, Int.toNat_natCast, hs, Nat.mul_one, show (Value.int .u8 0).cells = #[Value.int .u8 0] from rfl, madeCells_row8] at hr
  refine wpList_run hgd _ _ ?_ (h _ ((Below.refl _ _).alloc (Nat.le_refl _) _) (by simp) (Blk.new _ _ _))
  unfold execOp
  simp only [ho, hx, hy, Sem.run_bind, hr, Result.andThen_ok]
  rfl

theorem wpList_addrS (hgd : op.guard = none) (ty : TypeId) (x i : Operand) (ho : op.op = .indexAddr ty x i) (b o len cap : Nat) (hx : a.eval x = .slice (some ⟨b, o, none⟩) len cap) (k : IntKind) (n : Int) (hi : a.eval i = .int k n) (m : Nat)
    (e : TypeId) (hu : P.underlying ty = some (.slice e)) (hse : (P.info? e).map (·.size) = some 1)
    (h0 : n = (m : Int)) (h1 : m < len) (h : wpList P ops Q rest (a.put op.dst (.pointer (some ⟨b, o + m, none⟩))) w) : wpList P ops Q (op :: rest) a w := by
  subst h0
  refine wpList_run hgd (.pointer (some ⟨b, o + m, none⟩)) w ?_ h
  have hc : (0 : Int) ≤ (m : Int) ∧ (m : Int) < (len : Int) := by omega
  unfold execOp
  simp only [ho, hx, hi, Instr.indexAt, asIntOf, Sem.run_bind, Sem.run_pure, Result.andThen_ok, run_underlying hu w, if_pos hc, sizeOf_run hse, Nat.mul_one, Addr.add_mid, Int.toNat_natCast]

theorem wpList_storeB (hgd : op.guard = none) (ty : TypeId) (x y : Operand) (ho : op.op = .store ty x y) (b o : Nat) (hx : a.eval x = .pointer (some ⟨b, o, none⟩)) (v : UInt8) (hy : a.eval y = .int .u8 (n8 v))
    (f : Nat → UInt8) (n : Nat) (t : TypeId) (hb : Blk w b (row8 f n) t) (hi : (P.info? ty).map (·.size) = some 1) (hn : o < n)
    (h : ∀ w1 : World, w.grownBy w1 (some b) → w1.heap.size = w.heap.size → Blk w1 b (row8 (upd f o v) n) t → wpList P ops Q rest (a.put op.dst undef) w1) : wpList P ops Q (op :: rest) a w :=
  wpList_storeCell hgd ty x y ho b o hx _ hy _ t hb hi rfl rfl (by rw [row8_size]; exact hn) (fun w1 g s hb1 => h w1 g s (by rw [row8_set] at hb1; exact hb1))

theorem Blk.loadBytes {b : Nat} {f : Nat → UInt8} {m n : Nat} {t : TypeId} (hb : Blk w b (row8 f m) t) (hn : n ≤ m) :
    (loadCells ⟨b, 0, none⟩ n).run P w = .ok (((List.range n).map fun j => n8 (f j)).map (Value.int .u8)).toArray w := by
  have := run_loadCells_list (P := P) w ⟨b, 0, none⟩ (((List.range n).map fun j => n8 (f j)).map (Value.int .u8)) (fun j v hv => by
    have hj : j < n := by have := (List.getElem?_eq_some_iff.1 hv).1; simpa using this
    rw [Addr.add_mid, Nat.zero_add, hb.cell, row8_get _ _ _ (by omega), ← hv]
    simp [hj])
  simpa using this

theorem wpList_bytesString (hgd : op.guard = none) (src dst : TypeId) (x : Operand) (ho : op.op = .convert src dst x) (b n cap : Nat) (hx : a.eval x = .slice (some ⟨b, 0, none⟩) n cap)
    (e : TypeId) (hs : P.underlying src = some (.slice e)) (he : P.underlying e = some (.int .u8)) (hd : P.underlying dst = some .string)
    (f : Nat → UInt8) (m : Nat) (t : TypeId) (hb : Blk w b (row8 f m) t) (hn : n ≤ m)
    (h : wpList P ops Q rest (a.put op.dst (.string (strF f n))) w) : wpList P ops Q (op :: rest) a w := by
  refine wpList_run hgd _ w ?_ h
  have hr := run_bytesToString (P := P) w ⟨b, 0, none⟩ n cap ((List.range n).map fun j => n8 (f j)) (hb.loadBytes hn)
  rw [foldl_push] at hr
  have e2 : ((((List.range n).map fun j => n8 (f j)).map fun k => UInt8.ofNat k.toNat)) = (List.range n).map f := by
    rw [List.map_map]; congr 1; funext j; exact ofNat_n8 (f j)
  rw [e2] at hr
  unfold execOp
  simp only [ho, hx, Sem.run_bind, run_convert_bytes_string w src dst e _ _ _ hs he hd, hr, Result.andThen_ok]
  show Result.ok (Next.value (.string ⟨ByteArray.empty.data ++ _⟩)) w = _
  rw [show ByteArray.empty.data = #[] from rfl, Array.empty_append]
  rfl
end

end Go.Proofs.YtmbdhngoldganaaGreatDoor
namespace Go.Proofs.YtmbdhngoldganaaGreatDoor
open Go Go.RowKit

theorem mk_size (l : List UInt8) : (ByteArray.mk l.toArray).size = l.length := by show l.toArray.size = _; simp
structure BS (w : World) (g cap : Nat) (l : List UInt8) : Prop where
  out : ∃ (cur : Array Value) (fr : Nat × Nat), w.heap[g]? = some (.cells cur 5 fr) ∧ l.length ≤ cap ∧ cap ≤ cur.size ∧ (fr = (0, 0) ∨ cur.size ≤ fr.1) ∧ ∀ j, j < l.length → cur[j]? = some (.int .u8 (n8 (l.getD j 0)))
theorem BS.lt {w : World} {g cap : Nat} {l : List UInt8} (h : BS w g cap l) : g < w.heap.size := by
  obtain ⟨cur, fr, h1, _⟩ := h.out
  exact (Array.getElem?_eq_some_iff.1 h1).1
theorem BS.cell {w : World} {g cap : Nat} {l : List UInt8} (h : BS w g cap l) (j : Nat) (hj : j < l.length) : w.cell? ⟨g, j, none⟩ = some (.int .u8 (n8 (l.getD j 0))) := by
  obtain ⟨cur, fr, h1, _, _, _, h5⟩ := h.out
  simp [World.cell?, h1, h5 j hj]
theorem BS.below {w w' : World} {g cap B : Nat} {l : List UInt8} (h : BS w g cap l) (hb : Below B w w') (hl : g < B) : BS w' g cap l := by
  obtain ⟨cur, fr, h1, hr⟩ := h.out
  exact ⟨cur, fr, by rw [hb.block g hl]; exact h1, hr⟩
theorem BS.belowSize {w w' : World} {g cap : Nat} {l : List UInt8} (h : BS w g cap l) (hb : Below w.heap.size w w') : BS w' g cap l := h.below hb h.lt
theorem BS.grown {w w' : World} {g cap : Nat} {row : Option Nat} {l : List UInt8} (h : BS w g cap l) (hb : w.grownBy w' row) (hr : some g ≠ row) : BS w' g cap l := by
  obtain ⟨cur, fr, h1, hr'⟩ := h.out
  exact ⟨cur, fr, by rw [hb.block g h.lt hr]; exact h1, hr'⟩
theorem BS.len {w : World} {g cap : Nat} {l : List UInt8} (h : BS w g cap l) : l.length ≤ cap := by
  obtain ⟨cur, fr, h1, h2, _⟩ := h.out
  exact h2
theorem BS.drewN {w : World} {g cap : Nat} {l : List UInt8} (h : BS w g cap l) (n : Nat) : BS (w.drewN n) g cap l := ⟨h.out⟩
theorem BS.drew {w : World} {g cap : Nat} {l : List UInt8} (h : BS w g cap l) : BS w.drew g cap l := ⟨h.out⟩

theorem byteCells_get (l : List UInt8) (j : Nat) (hj : j < l.length) : (l.map fun b => Value.int .u8 (b.toNat : Int))[j]? = some (.int .u8 (n8 (l.getD j 0))) := by
  rw [List.getElem?_map, List.getElem?_eq_getElem hj, List.getD_eq_getElem?_getD, List.getElem?_eq_getElem hj]
  rfl

section
variable {P : Program} {ops : Array Oper} {rest : List Oper} {op : Oper} {a : Act} {w : World} {Q : Exit → Act → World → Prop}

theorem run_appendBS (t ty : TypeId) (g cap : Nat) (l : List UInt8) (hbs : BS w g cap l) (g2 n c : Nat) (f : Nat → UInt8) (ty2 : TypeId) (hb2 : Blk w g2 (row8 f n) ty2) (i : TypeInfo)
    (hu : P.underlying t = some (.slice 5)) (hi : P.info? 5 = some i) (hz : i.zero = some (.int .u8 0)) (hs : i.size = 1) (hby : i.bytes = 1) (hlen : l.length + n ≤ 1099511627776) :
    ∃ (w1 : World) (g1 cap1 : Nat), (Builtin.append_ #[t, t] ty #[.slice (some ⟨g, 0, none⟩) l.length cap, .slice (some ⟨g2, 0, none⟩) n c]).run P w = .ok (.slice (some ⟨g1, 0, none⟩) (l.length + n) cap1) w1 ∧
      (g1 = g ∨ w.heap.size ≤ g1) ∧ w.grownBy w1 (some g) ∧ BS w1 g1 cap1 (l ++ (List.range n).map f) := by
  obtain ⟨cur, fr, h1, h2, h3, h4, h5⟩ := hbs.out
  have hlt := hbs.lt
  have hnl : (((List.range n).map f).map fun b => Value.int .u8 (b.toNat : Int)).length = n := by simp
  have hsrc : Src P i.size t (.slice (some ⟨g2, 0, none⟩) n c) n (((List.range n).map f).map fun b => Value.int .u8 (b.toNat : Int)) w :=
    Src.ofSlice w hu ⟨g2, 0, none⟩ n c _ (by rw [hs, hnl, Nat.mul_one]) (fun j u hj => by
      have hjn : j < n := by have := (List.getElem?_eq_some_iff.1 hj).1; rw [hnl] at this; exact this
      rw [Addr.add_mid, Nat.zero_add, hb2.cell, row8_get _ _ _ hjn]
      rw [byteCells_get _ _ (by simpa using hjn)] at hj
      rw [← hj]; simp [hjn])
      (fun u hu => by
        obtain ⟨_, _, rfl⟩ := List.mem_map.1 hu
        rfl)
  by_cases hroom : l.length + n ≤ cap
  · have hcell : ∀ j, j < n → (w.cell? ⟨g, l.length + j, none⟩).isSome = true := fun j hj => by
      simp only [World.cell?, h1]
      rw [Array.getElem?_eq_getElem (by omega)]; rfl
    have hfro : ∀ j, j < n → w.frozen? ⟨g, l.length + j, none⟩ = false := fun j hj => by
      simp only [World.frozen?, h1]
      rcases h4 with h4 | h4
      · rw [h4]; simp
      · simp; intro h; omega
    have hr := run_append_room_src (P := P) w t t ty 5 i hu hi g 0 l.length cap _ n _ hsrc hroom
      (fun j hj => by rw [hs, Nat.mul_one, Nat.zero_add]; exact hcell j (by rw [hnl] at hj; exact hj))
      (fun j hj => by rw [hs, Nat.mul_one, Nat.zero_add]; exact hfro j (by rw [hnl] at hj; exact hj))
    rw [hs, Nat.mul_one, Nat.zero_add] at hr
    refine ⟨_, g, cap, hr, .inl rfl, grown_setCells _ _ _ _, ?_⟩
    have hset : ∀ (vs : List Value) (o : Nat) (w : World) (c : Array Value), w.heap[g]? = some (.cells c 5 fr) → (w.setCells g o vs).heap[g]? = some (.cells (spl c o vs) 5 fr) := by
      intro vs
      induction vs with
      | nil => intro o w c h; exact h
      | cons v r ih =>
        intro o w c h
        rw [World.setCells]
        exact ih (o + 1) _ _ (by simp [World.setCell, Array.getElem?_modify, h])
    refine ⟨_, fr, hset _ _ _ _ h1, by simp; omega, by rw [spl_size]; exact h3, by rw [spl_size]; exact h4, ?_⟩
    intro j hj
    have hj' : j < l.length + n := by simpa using hj
    rw [spl_get _ _ _ _ (by rw [hnl]; omega), hnl]
    by_cases hjl : j < l.length
    · rw [if_neg (by omega), h5 j hjl, List.getD_eq_getElem?_getD, List.getD_eq_getElem?_getD, List.getElem?_append_left hjl]
    · rw [if_pos (by omega), byteCells_get _ _ (by simp; omega), List.getD_eq_getElem?_getD, List.getD_eq_getElem?_getD, List.getElem?_append_right (by omega)]
  · have hold : (Builtin.firstCells i.size l.length (.slice (some ⟨g, 0, none⟩) l.length cap)).run P w.drew = .ok (l.map fun b => Value.int .u8 (b.toNat : Int)).toArray w.drew :=
      run_firstCells_some w.drew i.size l.length ⟨g, 0, none⟩ l.length cap _ (by simp [hs]) (fun j u hj => by
        have hjn : j < l.length := by have := (List.getElem?_eq_some_iff.1 hj).1; simpa using this
        rw [byteCells_get _ _ hjn] at hj
        rw [Addr.add_mid, Nat.zero_add, hbs.drew.cell j hjn]; exact hj)
    have hr := run_append_grow_src (P := P) w t t ty 5 i _ hu hi hz (some ⟨g, 0, none⟩) l.length cap _ hold _ n _ hsrc (by omega) (by omega) (growslice_fits (by omega) (by rw [hby]; omega))
    have hge : l.length + n ≤ grownCap w (l.length + n) cap 5 := grownCap_ge w _ _ _
    refine ⟨_, w.heap.size, _, hr, .inr (Nat.le_refl _), ?_, ?_⟩
    · exact grown_of_below ((Below.refl w.heap.size w).drew.alloc (Nat.le_refl _) _)
    · refine ⟨_, (0, 0), heap_alloc_last w.drew _, by simp; exact hge, ?_, .inl rfl, ?_⟩
      · simp [size_zeroCells, Value.cells]; omega
      · intro j hj
        have hj' : j < l.length + n := by simpa using hj
        rw [Array.getElem?_append_left (by simp; omega)]
        simp only [List.getElem?_toArray]
        rw [← List.map_append, byteCells_get _ _ hj]

theorem wpList_appendBS (hgd : op.guard = none) (x y : Operand) (t : TypeId) (ho : op.op = .call { callee := .builtin .append, args := #[x, y], argTypes := #[t, t] })
    (g cap : Nat) (l : List UInt8) (len : Nat) (hl : len = l.length) (hx : a.eval x = .slice (some ⟨g, 0, none⟩) len cap) (hbs : BS w g cap l) (g2 n c : Nat) (hy : a.eval y = .slice (some ⟨g2, 0, none⟩) n c) (f : Nat → UInt8) (ty2 : TypeId) (hb2 : Blk w g2 (row8 f n) ty2) (i : TypeInfo)
    (hu : P.underlying t = some (.slice 5)) (hi : P.info? 5 = some i) (hz : i.zero = some (.int .u8 0)) (hs : i.size = 1) (hby : i.bytes = 1) (hlen : l.length + n ≤ 1099511627776)
    (h : ∀ (w1 : World) (g1 cap1 : Nat), (g1 = g ∨ w.heap.size ≤ g1) → w.grownBy w1 (some g) → BS w1 g1 cap1 (l ++ (List.range n).map f) → wpList P ops Q rest (a.put op.dst (.slice (some ⟨g1, 0, none⟩) (len + n) cap1)) w1) :
    wpList P ops Q (op :: rest) a w := by
  subst hl
  obtain ⟨w1, g1, cap1, hr, hg1, hg, hb⟩ := run_appendBS (P := P) t op.type g cap l hbs g2 n c f ty2 hb2 i hu hi hz hs hby hlen
  refine wpList_run hgd _ _ ?_ (h w1 g1 cap1 hg1 hg hb)
  unfold execOp
  simp only [ho]
  simp [resolve, invoke, builtin, hx, hy, hr, Result.andThen]

theorem wpList_strBytes (hgd : op.guard = none) (src dst : TypeId) (x : Operand) (ho : op.op = .convert src dst x) (s : List UInt8) (hx : a.eval x = .string ⟨s.toArray⟩)
    (u : TypeDesc) (hs : P.underlying src = some u) (hd : P.underlying dst = some (.slice 5)) (he : P.underlying 5 = some (.int .u8))
    (h : ∀ (w1 : World) (cap : Nat), Below w.heap.size w w1 → w1.heap.size = w.heap.size + 1 → BS w1 w.heap.size cap s → wpList P ops Q rest (a.put op.dst (.slice (some ⟨w.heap.size, 0, none⟩) s.length cap)) w1) :
    wpList P ops Q (op :: rest) a w := by
  have hr := Lib.run_convert_string_bytes (P := P) w src dst 5 (ByteArray.mk s.toArray) hs hd he
  rw [mk_size] at hr
  have hge : s.length ≤ grownCap w s.length 0 5 := grownCap_ge w _ _ _
  have hsz : (Lib.bytesCells w 5 (ByteArray.mk s.toArray)).size = grownCap w s.length 0 5 := by
    simp [Lib.bytesCells, mk_size]; omega
  refine wpList_run hgd _ _ ?_ (h (Lib.bytesWorld w 5 (ByteArray.mk s.toArray)) (grownCap w s.length 0 5) ?_ (Lib.bytesWorld_size _ _ _) ?_)
  · unfold execOp
    simp only [ho, hx, Sem.run_bind, hr, Result.andThen_ok]
    rfl
  · exact ⟨by simp [Lib.bytesWorld, World.freeze]; rfl, by simp [Lib.bytesWorld, World.freeze], by simp [Lib.bytesWorld, World.freeze]; rfl, by rw [Lib.bytesWorld_size]; omega, fun k hk => Lib.bytesWorld_at_old w 5 _ k hk⟩
  · refine ⟨_, _, Lib.bytesWorld_at_new w 5 _, hge, by rw [hsz]; exact Nat.le_refl _, .inr (Nat.le_refl _), ?_⟩
    intro j hj
    rw [Lib.bytesCells, Array.getElem?_append_left (by simp; exact hj)]
    simp [hj, n8, List.getD_eq_getElem?_getD]

theorem wpList_buildSl (hgd : op.guard = none) (t : TypeId) (n : Nat) (parts : Array (Nat × Operand)) (ho : op.op = .buildSlice t n parts) (c : Array Value)
    (hr : ∀ w, (Instr.buildSlice t n (parts.map fun (i, x) => (i, a.eval x))).run P w = .ok (.slice (some ⟨w.heap.size, 0, none⟩) n n) (w.alloc (.cells c 5)))
    (h : ∀ w1 : World, Below w.heap.size w w1 → w1.heap.size = w.heap.size + 1 → Blk w1 w.heap.size c 5 → wpList P ops Q rest (a.put op.dst (.slice (some ⟨w.heap.size, 0, none⟩) n n)) w1) : wpList P ops Q (op :: rest) a w := by
  refine wpList_run hgd _ _ ?_ (h _ ((Below.refl _ _).alloc (Nat.le_refl _) _) (by simp) (Blk.new _ _ _))
  unfold execOp
  simp only [ho, Sem.run_bind, hr, Result.andThen_ok]
  rfl

theorem wpList_sliceSl (hgd : op.guard = none) (ty : TypeId) (x lo hi : Operand) (ho : op.op = .slice ty x (some lo) (some hi) none) (b len cap : Nat) (hx : a.eval x = .slice (some ⟨b, 0, none⟩) len cap)
    (zl zh : Int) (hlo : a.eval lo = .int .i64 zl) (hhi : a.eval hi = .int .i64 zh) (l n : Nat) (hl : zl = (l : Int)) (hh : zh = ((l + n : Nat) : Int)) (h1 : 0 < n) (h2 : l + n ≤ cap)
    (e : TypeId) (hu : P.underlying ty = some (.slice e)) (hse : (P.info? e).map (·.size) = some 1)
    (h : wpList P ops Q rest (a.put op.dst (.slice (some ⟨b, l, none⟩) n (cap - l))) w) : wpList P ops Q (op :: rest) a w := by
  subst hl hh
  refine wpList_run hgd _ w ?_ h
  have g2 : ¬ cap = l := by omega
  unfold execOp
  simp only [ho, Option.map_some, Option.map_none, hx, hlo, hhi]
  simp [Instr.sliceAt, Instr.slice, run_underlying hu, Instr.sliceBounds, Instr.sliceBound, asIntOf, sizeOf_run hse, Addr.add_mid, Sem.run_bind]
  rw [if_pos (by omega)]
  simp [g2]
  rw [show ((l : Int) + (n : Int)).toNat = l + n from by omega, if_pos (by omega), Nat.add_sub_cancel_left]
end
end Go.Proofs.YtmbdhngoldganaaGreatDoor
namespace Go.Proofs.YtmbdhngoldganaaGreatDoor
open Go.RowKit
theorem and15 (x : BitVec 32) : bits .and .u32 (n32 x) 15 = ((low4 x).toNat : Int) := bits_and32 x (BitVec.ofNat 32 15)
theorem n32_shr4 (x : BitVec 32) : n32 x / 16 = n32 (shr32 x 4) := n32_shr x 4
theorem idx8 (l : List UInt8) (k : Nat) (h : k < (ByteArray.mk l.toArray).size) : (((ByteArray.mk l.toArray)[k]'h).toNat : Int) = n8 (byteOf l k) := by
  have hk : k < l.length := h
  have e : (ByteArray.mk l.toArray)[k]'h = byteOf l k := by
    show l.toArray[k] = _
    rw [byteOf, List.getD_eq_getElem?_getD, List.getElem?_eq_getElem hk]
    simp
  rw [e]; rfl
theorem n8_mod (x : UInt8) : n8 x % 4294967296 = n32 (w8 x) := by rw [← n8_wrap, IntKind.wrap_u32]
attribute [local go_sem] idx8 n8_mod and15 nib n32_add n32_wadd bits_xor32 bits_or32 bits_not32 bits_notmax sub_not32 n32_shr n32_shl n8_wrap n32_shr4
end Go.Proofs.YtmbdhngoldganaaGreatDoor
namespace Go.Proofs.YtmbdhngoldganaaGreatDoor
open Go.RowKit
theorem i5 : (Tryz.prog.info? 5).map (·.size) = some 1 := by kernel_rfl
theorem z60 : (∀ w, (zeroValue 218).run Tryz.prog w = .ok (.agg (row8 (fun _ => 0) 8)) w) ∧ (Tryz.prog.info? 218).map (·.size) = some 8 := zero_of_info (by kernel_rfl)
def byteAt (n j : Nat) : UInt8 := UInt8.ofNat (n / 256 ^ (7 - j) % 256)
def numTo (n i : Nat) : Nat → UInt8 := fun j => if 8 ≤ j + i then byteAt n j else 0
theorem numTo_zero (n : Nat) : row8 (numTo n 0) 8 = row8 (fun _ => 0) 8 := row8_congr fun j hj => by unfold numTo; rw [if_neg (by omega)]
theorem numTo_succ (n i : Nat) (h : i < 8) : row8 (upd (numTo n i) (7 - i) (UInt8.ofNat (n / 256 ^ i % 256))) 8 = row8 (numTo n (i + 1)) 8 := row8_congr fun j hj => by
  unfold upd numTo byteAt
  by_cases h1 : j = 7 - i
  · rw [if_pos h1, if_pos (by omega), show 7 - j = i from by omega]
  · rw [if_neg h1]
    by_cases h2 : 8 ≤ j + i
    · rw [if_pos h2, if_pos (by omega)]
    · rw [if_neg h2, if_neg (by omega)]
theorem numTo_all (n : Nat) : row8 (numTo n 8) 8 = row8 (byteAt n) 8 := row8_congr fun j _ => by unfold numTo; rw [if_pos (by omega)]
theorem byte_mod (n : Nat) : ((n : Int) % 256) = n8 (UInt8.ofNat (n % 256)) := by
  unfold n8
  rw [UInt8.toNat_ofNat', Nat.mod_eq_of_lt (by omega : n % 256 < 2 ^ 8)]
  omega
section
variable {P : Program} {ops : Array Oper} {rest : List Oper} {op : Oper} {a : Act} {w : World} {Q : Exit → Act → World → Prop}
theorem wpList_sliceArr0 (hgd : op.guard = none) (ty : TypeId) (x lo : Operand) (ho : op.op = .slice ty x (some lo) none none) (b : Nat) (hx : a.eval x = .pointer (some ⟨b, 0, none⟩)) (k : IntKind) (z : Int) (hlo : a.eval lo = .int k z) (l : Nat) (hz : z = (l : Int))
    (n : Nat) (e : TypeId) (hu : P.underlying ty = some (.array n e)) (hse : (P.info? e).map (·.size) = some 1) (hl : l ≤ n) (o m : Nat) (hoo : o = if n = l then 0 else l) (hm : m = n - l)
    (h : wpList P ops Q rest (a.put op.dst (.slice (some ⟨b, o, none⟩) m m)) w) : wpList P ops Q (op :: rest) a w := by
  subst hz hoo hm
  refine wpList_run hgd _ w ?_ h
  unfold execOp
  simp only [ho, Option.map_some, Option.map_none, hx, hlo]
  by_cases h2 : n = l
  · simp [Instr.sliceAt, run_underlying hu, Instr.sureAddr, Instr.sliceBounds, Instr.sliceBound, asIntOf, h2, sizeOf_run hse, Addr.add_mid, Sem.run_bind]
  · simp [Instr.sliceAt, run_underlying hu, Instr.sureAddr, Instr.sliceBounds, Instr.sliceBound, asIntOf, h2, sizeOf_run hse, Addr.add_mid, Sem.run_bind]
    intro h3
    omega
theorem wpList_partString (hgd : op.guard = none) (src dst : TypeId) (x : Operand) (ho : op.op = .convert src dst x) (b o n cap : Nat) (hx : a.eval x = .slice (some ⟨b, o, none⟩) n cap)
    (e : TypeId) (hs : P.underlying src = some (.slice e)) (he : P.underlying e = some (.int .u8)) (hd : P.underlying dst = some .string)
    (f : Nat → UInt8) (m : Nat) (t : TypeId) (hb : Blk w b (row8 f m) t) (hn : o + n ≤ m)
    (h : wpList P ops Q rest (a.put op.dst (.string ⟨((List.range n).map fun j => f (o + j)).toArray⟩)) w) : wpList P ops Q (op :: rest) a w := by
  refine wpList_run hgd _ w ?_ h
  have hld : (loadCells ⟨b, o, none⟩ n).run P w = .ok (((List.range n).map fun j => n8 (f (o + j))).map (Value.int .u8)).toArray w := by
    have := run_loadCells_list (P := P) w ⟨b, o, none⟩ (((List.range n).map fun j => n8 (f (o + j))).map (Value.int .u8)) (fun j v hv => by
      have hj : j < n := by have := (List.getElem?_eq_some_iff.1 hv).1; simpa using this
      rw [Addr.add_mid, hb.cell, row8_get _ _ _ (by omega), ← hv]
      simp [hj])
    simpa using this
  have hr := run_bytesToString (P := P) w ⟨b, o, none⟩ n cap ((List.range n).map fun j => n8 (f (o + j))) hld
  rw [foldl_push] at hr
  have e2 : ((((List.range n).map fun j => n8 (f (o + j))).map fun k => UInt8.ofNat k.toNat)) = (List.range n).map fun j => f (o + j) := by
    rw [List.map_map]; congr 1; funext j; exact ofNat_n8 (f (o + j))
  rw [e2] at hr
  unfold execOp
  simp only [ho, hx, Sem.run_bind, run_convert_bytes_string w src dst e _ _ _ hs he hd, hr, Result.andThen_ok]
  show Result.ok (Next.value (.string ⟨ByteArray.empty.data ++ _⟩)) w = _
  rw [show ByteArray.empty.data = #[] from rfl, Array.empty_append]
end
def cut8 (k : Int) : Nat := (min (max k 0) 8).toNat
theorem cut8_le (k : Int) : cut8 k ≤ 8 := by unfold cut8; omega
theorem part_num (n k : Nat) (h : k ≤ 8) : ((List.range k).map fun j => byteAt n ((if 8 = 8 - k then 0 else 8 - k) + j)) = num n k := by
  rw [num_range]
  apply List.map_congr_left
  intro j hj
  have hj := List.mem_range.1 hj
  unfold byteAt
  rw [if_neg (by omega), show 7 - (8 - k + j) = k - 1 - j from by omega]
def shiftN (n i : Nat) : Nat := n / 256 ^ i
theorem shiftN_succ (n i : Nat) : ((shiftN n i : Nat) : Int) / 256 = (shiftN n (i + 1) : Nat) := by
  unfold shiftN
  rw [Nat.pow_succ, ← Nat.div_div_eq_div_mul]
  omega
attribute [local go_sem] byte_mod shiftN_succ
set_option maxRecDepth 100000 in
set_option maxHeartbeats 400000 in
theorem number_any (n : Nat) (k : Int) (w : World) :
    Calls Tryz.prog 102 #[.int .u64 n, .int .i64 k] w fun e w' => e = .returned (.string ⟨(num n (cut8 k)).toArray⟩) ∧ Below w.heap.size w w' := by
  go_enter Tryz.func102, Tryz.ntmps102
  go_wp2_with (with_reducible refine at_list ?_; first
    | (refine wpList_allocRow rfl _ rfl _ z60.1 ?_; intro w1 hw1 hs1 hb1))
  go_loopw [0, 7] (fun v0 v7 wl => ∃ i : Nat, i ≤ 8 ∧ v0 = .int .u64 (shiftN n i : Nat) ∧ v7 = .int .i64 i ∧ Below w.heap.size w wl ∧ wl.heap.size = w.heap.size + 1 ∧ Blk wl w.heap.size (row8 (numTo n i) 8) 218) (fun _ v7 _ => 8 - (intOf v7).toNat)
  case atStart => exact ⟨0, by omega, by simp [shiftN], rfl, hw1, hs1, by rw [numTo_zero]; exact hb1⟩
  case round =>
    obtain ⟨i, hi, rfl, rfl, hB, hz, hb⟩ := hrel
    clear hw1 hs1 hb1
    by_cases hlt : i < 8
    · have HS : Hid (shiftN n i = n / 256 ^ i) := by exact rfl
      go_wp2_with (with_reducible refine at_list ?_; first
        | (refine wpList_addrW rfl _ _ _ rfl w.heap.size rfl .i64 _ rfl (7 - i) _ _ Tryz.underlying218 i5 (by omega) (by omega) ?_)
        | (go_simp; refine wpList_storeB rfl _ _ _ rfl w.heap.size (7 - i) rfl (UInt8.ofNat (shiftN n i % 256)) rfl _ _ _ hb i5 (by omega) ?_; intro w2 hg2 hs2 hb2; rw [HS.out, numTo_succ n i hlt] at hb2))
      go_roundw
      case rel => exact ⟨i + 1, by omega, by first | rfl | simp [shiftN_succ], by go_num, hB.trans (below_of_grown hg2 (by omega) (by omega)), by omega, hb2⟩
      case measure => simp [intOf]; omega
    · have hb3 : Blk wr w.heap.size (row8 (byteAt n) 8) 218 := by
        rw [show i = 8 from by omega, numTo_all] at hb
        exact hb
      clear hb
      by_cases h1 : k < 0
      · have HK : Hid (num n (cut8 k) = []) := by rw [show cut8 k = 0 from by unfold cut8; omega]; exact rfl
        go_wp2_with (with_reducible refine at_list ?_; first
          | (refine wpList_partString rfl _ _ _ rfl w.heap.size 0 0 0 rfl _ Tryz.underlying171 Tryz.underlying5 Tryz.underlying9 _ _ _ hb3 (by omega) ?_))
        go_ret
        exact ⟨by rw [HK.out]; rfl, hB⟩
      · by_cases h2 : 8 < k
        · have HK : Hid (((List.range 8).map fun j => byteAt n (0 + j)) = num n (cut8 k)) := by
            rw [show cut8 k = 8 from by unfold cut8; omega]
            exact part_num n 8 (Nat.le_refl _)
          go_wp2_with (with_reducible refine at_list ?_; first
            | (refine wpList_partString rfl _ _ _ rfl w.heap.size 0 8 8 rfl _ Tryz.underlying171 Tryz.underlying5 Tryz.underlying9 _ _ _ hb3 (by omega) ?_; rw [HK.out]))
          go_ret
          exact ⟨rfl, hB⟩
        · obtain ⟨m, rfl⟩ : ∃ m : Nat, k = m := ⟨k.toNat, by omega⟩
          have hk : cut8 (m : Int) = m := by unfold cut8; omega
          have HK : Hid (cut8 (m : Int) = m) := hk
          have hm : m ≤ 8 := by omega
          obtain ⟨o, ho⟩ : ∃ o, o = if 8 = 8 - m then 0 else 8 - m := ⟨_, rfl⟩
          have HO : Hid (o = if 8 = 8 - m then 0 else 8 - m) := ho
          have HP : Hid (((List.range m).map fun j => byteAt n (o + j)) = num n m) := by rw [ho]; exact part_num n m hm
          have ho8 : o + m ≤ 8 := by rw [ho]; split <;> omega
          clear hk ho
          clear h1
          have h1 : decide ((m : Int) < 0) = false := by simp
          go_wp2_with (with_reducible refine at_list ?_; first
            | (refine wpList_sliceArr0 rfl _ _ _ rfl w.heap.size rfl .i64 _ rfl (8 - m) (by omega) 8 _ Tryz.underlying218 i5 (by omega) o m HO.out (by omega) ?_)
            | (refine wpList_partString rfl _ _ _ rfl w.heap.size o m m rfl _ Tryz.underlying171 Tryz.underlying5 Tryz.underlying9 _ _ _ hb3 ho8 ?_; rw [HP.out]))
          go_ret
          exact ⟨by rw [HK.out]; rfl, hB⟩
end Go.Proofs.YtmbdhngoldganaaGreatDoor
namespace Go.Proofs.YtmbdhngoldganaaGreatDoor
open Go.RowKit
theorem or_low (a b : Nat) (hb : b < 256) : a * 256 ||| b = a * 256 + b := by
  have := Nat.shiftLeft_add_eq_or_of_lt (b := b) (i := 8) (by omega) a
  simp only [Nat.shiftLeft_eq] at this
  exact this.symm
theorem bits_or64 (a b : Nat) (ha : a * 256 < 18446744073709551616) (hb : b < 256) : bits .or .u64 ((a : Int) * 256) (b : Int) = ((a * 256 + b : Nat) : Int) := by
  show IntKind.u64.wrap ((BitVec.ofInt 64 ((a : Int) * 256) ||| BitVec.ofInt 64 (b : Int)).toNat : Int) = _
  have e1 : BitVec.ofInt 64 ((a : Int) * 256) = BitVec.ofNat 64 (a * 256) := by
    rw [show ((a : Int) * 256) = ((a * 256 : Nat) : Int) from by omega]; exact BitVec.ofInt_natCast 64 (a * 256)
  have e2 : BitVec.ofInt 64 (b : Int) = BitVec.ofNat 64 b := BitVec.ofInt_natCast 64 b
  rw [e1, e2, BitVec.toNat_or, BitVec.toNat_ofNat, BitVec.toNat_ofNat, Nat.mod_eq_of_lt (by simpa using ha), Nat.mod_eq_of_lt (by omega : b < 2 ^ 64), or_low a b hb, IntKind.wrap_u64]
  omega
attribute [local go_sem] idx8
set_option maxRecDepth 100000 in
set_option maxHeartbeats 400000 in
theorem value_any (l : List UInt8) (w : World) (hl : l.length ≤ 8) :
    Calls Tryz.prog 94 #[.string ⟨l.toArray⟩] w fun e w' => e = .returned (.int .u64 (val l)) ∧ w' = w := by
  go_enter Tryz.func94, Tryz.ntmps94
  go_wp2_with fail
  go_loopw [3, 7] (fun v3 v7 wl => ∃ n : Nat, n ≤ l.length ∧ v3 = .int .u64 (val (l.take n)) ∧ v7 = .int .i64 n ∧ wl = w) (fun _ v7 _ => l.length - (intOf v7).toNat)
  case atStart => exact ⟨0, by omega, rfl, rfl, rfl⟩
  case round =>
    obtain ⟨n, hn, rfl, rfl, hw⟩ := hrel
    have hw2 := hw.symm
    subst hw2
    clear hw
    by_cases hlt : n < l.length
    · have hv := val_lt n (l.take n) (by rw [List.length_take]; omega)
      have h7 : 256 ^ n ≤ 256 ^ 7 := Nat.pow_le_pow_right (by decide) (by omega)
      have h77 : 256 ^ 7 = 72057594037927936 := by decide
      have hv2 : val (l.take n) * 256 < 18446744073709551616 := by omega
      have hb : (byteOf l n).toNat < 256 := (byteOf l n).toNat_lt
      have hb2 : IntKind.u64.wrap (n8 (byteOf l n)) = ((byteOf l n).toNat : Int) := by rw [IntKind.wrap_u64]; unfold n8; omega
      have HN : Hid (val (l.take (n + 1)) = val (l.take n) * 256 + (byteOf l n).toNat) := val_take l n hlt
      have hor := bits_or64 _ _ hv2 hb
      clear h7 h77 hv
      generalize val (l.take n) = v at *
      generalize (byteOf l n).toNat = b at *
      go_wp2_with fail
      go_roundw
      case rel => exact ⟨n + 1, by omega, by rw [HN.out]; simp, by go_num, trivial⟩
      case measure => simp [intOf]; omega
    · have e1 : l.take n = l := List.take_of_length_le (by omega)
      rw [e1]
      go_wp2_with fail
      go_ret
      exact ⟨rfl, rfl⟩
theorem extract_take (l : List UInt8) (n : Nat) : (ByteArray.mk l.toArray).extract 0 n = ⟨(l.take n).toArray⟩ := by
  have : ((ByteArray.mk l.toArray).extract 0 n).data = (l.take n).toArray := by
    apply Array.ext'
    simp [ByteArray.extract, ByteArray.copySlice]
  rw [show (ByteArray.mk l.toArray).extract 0 n = ⟨((ByteArray.mk l.toArray).extract 0 n).data⟩ from rfl, this]
theorem n32_mod (x : BitVec 32) : n32 x % 4294967296 = n32 x := by have := n32_nonneg x; have := n32_lt x; omega
theorem n32_shr1 (x : BitVec 32) : n32 x / 2 = n32 (shr32 x 1) := n32_shr x 1
theorem bits_poly (x : BitVec 32) : bits .xor .u32 (n32 x) 2197175160 = n32 (xor32 x (BitVec.ofNat 32 2197175160)) := bits_xor32 x (BitVec.ofNat 32 2197175160)
def lowI (x : BitVec 32) : Int := n32 x % 2
theorem n32_tdiv2 (x : BitVec 32) : (n32 x).tdiv 2 = n32 (shr32 x 1) := by
  have := n32_nonneg x
  rw [Int.tdiv_eq_ediv_of_nonneg this, n32_shr1]
theorem n32_tmod2 (x : BitVec 32) : (n32 x).tmod 2 = lowI x := by
  have := n32_nonneg x
  rw [Int.tmod_eq_emod_of_nonneg this]; rfl
end Go.Proofs.YtmbdhngoldganaaGreatDoor
