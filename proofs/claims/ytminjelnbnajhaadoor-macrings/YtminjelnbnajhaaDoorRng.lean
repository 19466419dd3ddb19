/- A ring's keys: what its memory holds; laws at single operations. -/
import Derived.Test.YtminjelnbnajhaaDoorSsl
import Derived.Test.YtminjelnbnajhaaDoorMa
namespace Go.Proofs.YtminjelnbnajhaaDoor
open Go Go.RowKit
/-- The value sl is a slice of the texts l, beyond block lo, or nil where there are none. -/
def SLof (w : World) (lo : Nat) (sl : Value) (l : List (List UInt8)) : Prop :=
  (l = [] ∧ sl = .slice none 0 0) ∨ ∃ g cap, lo < g ∧ sl = .slice (some ⟨g, 0, none⟩) l.length cap ∧ SS w g cap l
theorem SLof.below {w w' : World} {lo : Nat} {sl : Value} {l : List (List UInt8)} (h : SLof w lo sl l) (hb : Below w.heap.size w w') : SLof w' lo sl l := by
  rcases h with h | ⟨g, cap, h1, h2, h3⟩
  · exact .inl h
  · exact .inr ⟨g, cap, h1, h2, h3.belowSize hb⟩
theorem SLof.setCell {w : World} {lo : Nat} {sl : Value} {l : List (List UInt8)} (h : SLof w lo sl l) (v : Value) : SLof (w.setCell ⟨lo, 0, none⟩ v) lo sl l := by
  rcases h with h | ⟨g, cap, h1, h2, h3⟩
  · exact .inl h
  · exact .inr ⟨g, cap, h1, h2, h3.grown (grown_setCell lo v 0 w) (by simp; omega)⟩

section
variable {P : Program} {op : Oper} {a : Act} {w : World} {K : Act → World → Prop} {Q : Exit → Act → World → Prop}
/-- append's run of one text onto a slice that may be nil. -/
theorem run_appendSL (t ty : TypeId) (lo : Nat) (sl : Value) (l : List (List UInt8)) (hlo : lo < w.heap.size) (hsl : SLof w lo sl l) (g2 c : Nat) (x : List UInt8) (ty2 : TypeId) (hb2 : Blk w g2 #[sv x] ty2) (i : TypeInfo)
    (hu : P.underlying t = some (.slice 9)) (hi : P.info? 9 = some i) (hz : i.zero = some (.string ⟨#[]⟩)) (hs : i.size = 1) (hby : i.bytes = 16) (hlen : l.length + 1 ≤ 1099511627776) :
    ∃ (w1 : World) (sl1 : Value), (Builtin.append_ #[t, t] ty #[sl, .slice (some ⟨g2, 0, none⟩) 1 c]).run P w = .ok sl1 w1 ∧ Below (lo + 1) w w1 ∧ SLof w1 lo sl1 (l ++ [x]) := by
  rcases hsl with ⟨rfl, rfl⟩ | ⟨g, cap, h1, rfl, h3⟩
  · have hsrc : Src P i.size t (.slice (some ⟨g2, 0, none⟩) 1 c) 1 [sv x] w :=
      Src.ofSlice w hu ⟨g2, 0, none⟩ 1 c _ (by rw [hs]; rfl) (fun j u hj => by
        have hjn : j = 0 := by have := (List.getElem?_eq_some_iff.1 hj).1; simp at this; exact this
        subst hjn
        rw [Addr.add_mid, Nat.zero_add, hb2.cell]
        simpa using hj)
        (fun u hu => by
          rw [List.mem_singleton.1 hu]
          rfl)
    have hr := run_append_grow_src (P := P) w t t ty 9 i _ hu hi hz none 0 0 [] (run_firstCells_none (w := w.drew) i.size 0 0 0) _ 1 _ hsrc (by omega) (by omega) (growslice_fits (by omega) (by rw [hby]; omega))
    have hge : 0 + 1 ≤ grownCap w (0 + 1) 0 9 := grownCap_ge w _ _ _
    refine ⟨_, _, hr, (Below.refl _ w).drew.alloc (by show lo + 1 ≤ w.heap.size; omega) _, .inr ⟨w.heap.size, _, hlo, rfl, ?_⟩⟩
    refine ⟨_, (0, 0), heap_alloc_last w.drew _, by simpa using hge, ?_, .inl rfl, ?_⟩
    · simp [size_zeroCells, Value.cells]; omega
    · intro j hj
      have hj' : j = 0 := by simp at hj; exact hj
      subst hj'
      rw [Array.getElem?_append_left (by simp)]
      simp
  · obtain ⟨w1, g1, cap1, hr, hg1, hg, hb⟩ := run_appendSS (P := P) (w := w) t ty g cap l h3 g2 c x ty2 hb2 i hu hi hz hs hby hlen
    refine ⟨w1, _, hr, below_of_grown hg (by omega) (by omega), .inr ⟨g1, cap1, by omega, ?_, hb⟩⟩
    rw [List.length_append]; rfl
theorem run_loadCell (ty : TypeId) (x : Operand) (ho : op.op = .load ty x) (b o : Nat) (hx : a.eval x = .pointer (some ⟨b, o, none⟩))
    (c : Array Value) (t : TypeId) (hb : Blk w b c t) (d : TypeDesc) (hu : P.underlying ty = some d) (hd : d.isRow = false) (v : Value) (hv : c[o]? = some v) :
    (execOp a.eval op).run P w = .ok (.value v) w := by
  have hc : w.cell? ⟨b, o, none⟩ = some v := (hb.cell o).trans hv
  unfold execOp
  simp only [ho, hx]
  simp [Instr.loadAt, Instr.sureAddr, Sem.run_bind, loadVar, isAgg_run hu hd, hc, go_sem]
theorem wp_storeCell (ty : TypeId) (x y : Operand) (ho : op.op = .store ty x y) (b o : Nat) (hx : a.eval x = .pointer (some ⟨b, o, none⟩)) (v : Value) (hy : a.eval y = v)
    (c : Array Value) (t : TypeId) (hb : Blk w b c t) (hi : (P.info? ty).map (·.size) = some 1) (hv : v.cells = #[v]) (h1 : v.oneCell' = true) (hn : o < c.size)
    (h : K (a.put op.dst undef) (w.setCell ⟨b, o, none⟩ v)) : op.wp P a w K Q := by
  unfold Oper.wp execOp
  have hs : (storeVar ty ⟨b, o, none⟩ v).run P w = .ok () (w.setCells b o [v]) := by
    have := run_storeCells_cells (P := P) b o [v] 0 w (fun j hj => (hb.there o 1 (by omega) j (by simpa using hj)).1) (fun j hj => (hb.there o 1 (by omega) j (by simpa using hj)).2) (fun u hu => by simp at hu; subst hu; exact h1)
    simp only [Nat.add_zero] at this
    simp [storeVar, Sem.run_bind, sizeOf_run hi, hv, this]
  simp only [ho, hx, hy, Instr.storeAt, Instr.sureAddr, Sem.run_bind, Sem.run_pure, Result.andThen_ok, hs]
  exact h
theorem wp_appendSL (x y : Operand) (t : TypeId) (ho : op.op = .call { callee := .builtin .append, args := #[x, y], argTypes := #[t, t] })
    (lo : Nat) (sl : Value) (l : List (List UInt8)) (hlo : lo < w.heap.size) (hx : a.eval x = sl) (hsl : SLof w lo sl l) (g2 c : Nat) (hy : a.eval y = .slice (some ⟨g2, 0, none⟩) 1 c) (s : List UInt8) (ty2 : TypeId) (hb2 : Blk w g2 #[sv s] ty2) (i : TypeInfo)
    (hu : P.underlying t = some (.slice 9)) (hi : P.info? 9 = some i) (hz : i.zero = some (.string ⟨#[]⟩)) (hs : i.size = 1) (hby : i.bytes = 16) (hlen : l.length + 1 ≤ 1099511627776)
    (h : ∀ (w1 : World) (sl1 : Value), Below (lo + 1) w w1 → SLof w1 lo sl1 (l ++ [s]) → K (a.put op.dst sl1) w1) : op.wp P a w K Q := by
  obtain ⟨w1, sl1, hr, hb, hl⟩ := run_appendSL (P := P) (w := w) t op.type lo sl l hlo hsl g2 c s ty2 hb2 i hu hi hz hs hby hlen
  refine wp_run _ _ ?_ (h w1 sl1 hb hl)
  unfold execOp
  simp only [ho]
  simp [resolve, invoke, builtin, hx, hy, hr, Result.andThen]
end
theorem range2 : Array.range 2 = #[0, 1] := by decide
theorem tsl2 (x y : List UInt8) (w : World) : (Instr.buildSlice 41 2 #[(0, sv x), (1, sv y)]).run Tryd.prog w = .ok (.slice (some ⟨w.heap.size, 0, none⟩) 2 2) (w.alloc (.cells #[sv x, sv y] 9)) := by
  simp [Instr.buildSlice, run_underlying Tryd.underlying41, sizeOf_run i9, Sem.run_bind, Instr.fill, newRow, Tryd.zeroValue9, Value.cells, range2, sv]
section
variable {op : Oper} {a : Act} {w : World} {K : Act → World → Prop} {Q : Exit → Act → World → Prop}
theorem wp_tsl1 (x : Operand) (ho : op.op = .buildSlice 41 1 #[(0, x)]) (v : List UInt8) (hx : a.eval x = .string ⟨v.toArray⟩)
    (h : ∀ w1 : World, Below w.heap.size w w1 → w1.heap.size = w.heap.size + 1 → Blk w1 w.heap.size #[sv v] 9 → K (a.put op.dst (.slice (some ⟨w.heap.size, 0, none⟩) 1 1)) w1) : op.wp Tryd.prog a w K Q := by
  refine wp_run _ _ ?_ (h _ ((Below.refl _ _).alloc (Nat.le_refl _) _) (by simp) (Blk.new _ _ _))
  unfold execOp
  have e : (#[(0, x)] : Array (Nat × Operand)).map (fun (i, x) => (i, a.eval x)) = #[(0, sv v)] := by simp [hx, sv]
  have hr := tsl1 v w
  rw [← e] at hr
  simp only [ho, Sem.run_bind, hr, Result.andThen_ok]
  rfl
theorem wp_tsl2 (x y : Operand) (ho : op.op = .buildSlice 41 2 #[(0, x), (1, y)]) (v u : List UInt8) (hx : a.eval x = .string ⟨v.toArray⟩) (hy : a.eval y = .string ⟨u.toArray⟩)
    (h : ∀ w1 : World, Below w.heap.size w w1 → w1.heap.size = w.heap.size + 1 → Blk w1 w.heap.size #[sv v, sv u] 9 → K (a.put op.dst (.slice (some ⟨w.heap.size, 0, none⟩) 2 2)) w1) : op.wp Tryd.prog a w K Q := by
  refine wp_run _ _ ?_ (h _ ((Below.refl _ _).alloc (Nat.le_refl _) _) (by simp) (Blk.new _ _ _))
  unfold execOp
  have e : (#[(0, x), (1, y)] : Array (Nat × Operand)).map (fun (i, x) => (i, a.eval x)) = #[(0, sv v), (1, sv u)] := by simp [hx, hy, sv]
  have hr := tsl2 v u w
  rw [← e] at hr
  simp only [ho, Sem.run_bind, hr, Result.andThen_ok]
  rfl
theorem wp_bsl1 (x : Operand) (ho : op.op = .buildSlice 40 1 #[(0, x)]) (v : UInt8) (hx : a.eval x = .int .u8 (n8 v))
    (h : ∀ w1 : World, Below w.heap.size w w1 → w1.heap.size = w.heap.size + 1 → Blk w1 w.heap.size (row8 (fun _ => v) 1) 5 → K (a.put op.dst (.slice (some ⟨w.heap.size, 0, none⟩) 1 1)) w1) : op.wp Tryd.prog a w K Q := by
  refine wp_run _ _ ?_ (h _ ((Below.refl _ _).alloc (Nat.le_refl _) _) (by simp) (Blk.new _ _ _))
  unfold execOp
  have e : (#[(0, x)] : Array (Nat × Operand)).map (fun (i, x) => (i, a.eval x)) = #[(0, .int .u8 (n8 v))] := by simp [hx]
  have hr := bsl1 (n8 v) w
  rw [← e] at hr
  simp only [ho, Sem.run_bind, hr, Result.andThen_ok]
  rfl
end
/-- The key with a number, and the first n keys. -/
def keyOf (s : List UInt8) (i : Nat) : List UInt8 := digest (tagTo 75 [s, [UInt8.ofNat i]] 2)
def keysTo (s : List UInt8) (n : Nat) : List (List UInt8) := (List.range n).map (keyOf s)
theorem keysTo_length (s : List UInt8) (n : Nat) : (keysTo s n).length = n := by simp [keysTo]
theorem keysTo_succ (s : List UInt8) (n : Nat) : keysTo s n ++ [keyOf s n] = keysTo s (n + 1) := by
  unfold keysTo
  rw [List.range_succ, List.map_append]
  rfl
theorem keysTo_get (s : List UInt8) (n i : Nat) (h : i < n) : (keysTo s n).getD i [] = keyOf s i := by
  unfold keysTo
  rw [List.getD_eq_getElem?_getD, List.getElem?_map, List.getElem?_range h]
  rfl
theorem keyOf_length (s : List UInt8) (i : Nat) : (keyOf s i).length = 32 := digest_length _
theorem tag2_length (s : List UInt8) (i : Nat) : (tagTo 75 [s, [UInt8.ofNat i]] 2).length = 10 + s.length := by
  simp [tagTo, be_length]; omega
theorem n8_ofNat (i : Nat) (h : i < 256) : ((i : Nat) : Int) = n8 (UInt8.ofNat i) := by
  unfold n8
  rw [UInt8.toNat_ofNat', Nat.mod_eq_of_lt (by omega)]
/-- The ring in block r has the keys l. -/
structure Ring (w : World) (r : Nat) (l : List (List UInt8)) : Prop where
  out : ∃ sl, Blk w r #[sl] 62 ∧ SLof w r sl l
theorem Ring.below {w w' : World} {r : Nat} {l : List (List UInt8)} (h : Ring w r l) (hb : Below w.heap.size w w') : Ring w' r l := by
  obtain ⟨sl, h1, h2⟩ := h.out
  exact ⟨sl, h1.belowSize hb, h2.below hb⟩
end Go.Proofs.YtminjelnbnajhaaDoor
