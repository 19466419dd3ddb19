/- A slice of things of so many cells each that grows, or nil: what it holds, and appending to it; all but its own block is as it was. -/
import Derived.Test.YtnhlejdilldfaaaGreatCmm
namespace Go.Proofs.YtnhlejdilldfaaaGreat
open Go Go.RowKit
theorem flat_len {k : Nat} : ∀ {l : List (List Value)}, (∀ x ∈ l, x.length = k) → l.flatten.length = l.length * k
  | [], _ => by simp
  | x :: r, h => by
    rw [List.flatten_cons, List.length_append, flat_len (fun y hy => h y (List.mem_cons_of_mem _ hy)), h x (List.mem_cons_self ..), List.length_cons, Nat.succ_mul]
    omega
theorem flat_get {k : Nat} : ∀ {l : List (List Value)} (_ : ∀ x ∈ l, x.length = k) (i : Nat) (hi : i < l.length) (j : Nat) (v : Value), (l[i])[j]? = some v → l.flatten[i * k + j]? = some v
  | x :: r, h, 0, _, j, v, hv => by
    have hj : j < x.length := (List.getElem?_eq_some_iff.1 hv).1
    rw [List.flatten_cons, Nat.zero_mul, Nat.zero_add, List.getElem?_append_left hj]
    exact hv
  | x :: r, h, i + 1, hi, j, v, hv => by
    have hx := h x (List.mem_cons_self ..)
    rw [List.flatten_cons, List.getElem?_append_right (by rw [hx, Nat.succ_mul]; omega), hx, show (i + 1) * k + j - k = i * k + j by rw [Nat.succ_mul]; omega]
    exact flat_get (fun y hy => h y (List.mem_cons_of_mem _ hy)) i (by simpa using hi) j v hv
/-- Block g holds a slice's things l, of k cells each, with room for cap. -/
structure GS (w : World) (t : TypeId) (k g cap : Nat) (l : List (List Value)) : Prop where
  out : ∃ cur : Array Value, w.heap[g]? = some (.cells cur t (0, 0)) ∧ l.length ≤ cap ∧ cap * k ≤ cur.size ∧ ∀ (j : Nat) (v : Value), l.flatten[j]? = some v → cur[j]? = some v
/-- The value sl is a slice of the things l, from block lo on, or nil where there are none. -/
def GL (w : World) (t : TypeId) (k lo : Nat) (sl : Value) (l : List (List Value)) : Prop :=
  (∀ x ∈ l, x.length = k) ∧ ((l = [] ∧ sl = .slice none 0 0) ∨ ∃ g cap, lo ≤ g ∧ sl = .slice (some ⟨g, 0, none⟩) l.length cap ∧ GS w t k g cap l)
/-- The block that a slice lies in. -/
def slBlk : Value → Option Nat
  | .slice (some a) _ _ => some a.block
  | _ => none
theorem GS.lt {w : World} {t : TypeId} {k g cap : Nat} {l : List (List Value)} (h : GS w t k g cap l) : g < w.heap.size := by
  obtain ⟨cur, h1, _⟩ := h.out
  exact (Array.getElem?_eq_some_iff.1 h1).1
theorem GS.cell {w : World} {t : TypeId} {k g cap : Nat} {l : List (List Value)} (h : GS w t k g cap l) (j : Nat) (v : Value) (hv : l.flatten[j]? = some v) : w.cell? ⟨g, j, none⟩ = some v := by
  obtain ⟨cur, h1, _, _, h4⟩ := h.out
  simp [World.cell?, h1, h4 j v hv]
theorem GS.grown {w w' : World} {t : TypeId} {k g cap : Nat} {l : List (List Value)} {row : Option Nat} (h : GS w t k g cap l) (hb : w.grownBy w' row) (hr : some g ≠ row) : GS w' t k g cap l := by
  obtain ⟨cur, h1, hr'⟩ := h.out
  exact ⟨cur, by rw [hb.block g h.lt hr]; exact h1, hr'⟩
theorem GL.nil (w : World) (t : TypeId) (k lo : Nat) : GL w t k lo (.slice none 0 0) [] := ⟨(fun _ hx => nomatch hx), .inl ⟨rfl, rfl⟩⟩
theorem GL.lt {w : World} {t : TypeId} {k lo : Nat} {sl : Value} {l : List (List Value)} (h : GL w t k lo sl l) : ∀ r, slBlk sl = some r → lo ≤ r ∧ r < w.heap.size := fun r e => by
  rcases h.2 with ⟨_, rfl⟩ | ⟨g, cap, h1, rfl, h3⟩
  · cases e
  · cases e
    exact ⟨h1, h3.lt⟩
theorem GL.grown {w w' : World} {t : TypeId} {k lo : Nat} {sl : Value} {l : List (List Value)} {row : Option Nat} (h : GL w t k lo sl l) (hb : w.grownBy w' row) (hr : ∀ r, slBlk sl = some r → some r ≠ row) : GL w' t k lo sl l := by
  refine ⟨h.1, ?_⟩
  rcases h.2 with h | ⟨g, cap, h1, rfl, h3⟩
  · exact .inl h
  · exact .inr ⟨g, cap, h1, rfl, h3.grown hb (hr g rfl)⟩
theorem GL.below {w w' : World} {t : TypeId} {k lo : Nat} {sl : Value} {l : List (List Value)} (h : GL w t k lo sl l) (hb : Below w.heap.size w w') : GL w' t k lo sl l := h.grown (row := none) (grown_of_below hb) (fun _ _ e => nomatch e)
theorem GL.cells {w : World} {t : TypeId} {k lo : Nat} {sl : Value} {l : List (List Value)} (h : GL w t k lo sl l) : sl.cells = #[sl] ∧ sl.oneCell' = true := by
  rcases h.2 with ⟨_, rfl⟩ | ⟨g, cap, _, rfl, _⟩
  · exact ⟨rfl, rfl⟩
  · exact ⟨rfl, rfl⟩
theorem GL.sl {w : World} {t : TypeId} {k lo : Nat} {sl : Value} {l : List (List Value)} (h : GL w t k lo sl l) : ∃ a cap, sl = .slice a l.length cap ∧ ∀ i (hi : i < l.length), ∃ g, a = some ⟨g, 0, none⟩ ∧ ∀ j v, (l[i])[j]? = some v → w.cell? ⟨g, i * k + j, none⟩ = some v := by
  rcases h.2 with ⟨rfl, rfl⟩ | ⟨g, cap, _, rfl, h3⟩
  · exact ⟨none, 0, rfl, fun i hi => by simp at hi⟩
  · exact ⟨_, cap, rfl, fun i hi => ⟨g, rfl, fun j v hv => h3.cell _ _ (flat_get h.1 i hi j v hv)⟩⟩
section
variable {P : Program} {ops : Array Oper} {rest : List Oper} {op : Oper} {a : Act} {w : World} {Q : Exit → Act → World → Prop} {K : Act → World → Prop} {E : Prop}
theorem run_appendGL (st ty t : TypeId) (k lo : Nat) (sl : Value) (l : List (List Value)) (hlo : lo ≤ w.heap.size) (hsl : GL w t k lo sl l) (g2 c : Nat) (o : List Value) (hok : o.length = k) (ho1 : ∀ u ∈ o, u.oneCell' = true) (t2 : TypeId) (hb2 : Blk w g2 o.toArray t2) (i : TypeInfo) (z : Value) (hz1 : z.cells.size = k)
    (hu : P.underlying st = some (.slice t)) (hi : P.info? t = some i) (hz : i.zero = some z) (hs : i.size = k) (hby : i.bytes ≤ 256) (hlen : l.length ≤ 274877906944) :
    ∃ (w1 : World) (sl1 : Value), (Builtin.append_ #[st, st] ty #[sl, .slice (some ⟨g2, 0, none⟩) 1 c]).run P w = .ok sl1 w1 ∧ w.grownBy w1 (slBlk sl) ∧ GL w1 t k lo sl1 (l ++ [o]) ∧ (∀ r, slBlk sl1 = some r → slBlk sl = some r ∨ w.heap.size ≤ r) := by
  have hsrc : Src P i.size st (.slice (some ⟨g2, 0, none⟩) 1 c) 1 o w :=
    Src.ofSlice w hu ⟨g2, 0, none⟩ 1 c _ (by rw [hs, Nat.one_mul]; exact hok) (fun j u hj => by
      rw [Addr.add_mid, Nat.zero_add, hb2.cell]
      simpa using hj)
      ho1
  have hall : ∀ x ∈ l ++ [o], x.length = k := fun x hx => by
    rcases List.mem_append.1 hx with hx | hx
    · exact hsl.1 x hx
    · rw [List.mem_singleton.1 hx]; exact hok
  have hfl := flat_len hsl.1
  have hfs : (l ++ [o]).flatten = l.flatten ++ o := by simp
  have hgrow : ∀ (base : Option Addr) (cap : Nat), cap < l.length + 1 → (Builtin.firstCells i.size l.length (.slice base l.length cap)).run P w.drew = .ok l.flatten.toArray w.drew →
      ∃ (w1 : World) (sl1 : Value), (Builtin.append_ #[st, st] ty #[.slice base l.length cap, .slice (some ⟨g2, 0, none⟩) 1 c]).run P w = .ok sl1 w1 ∧ w.grownBy w1 (slBlk (.slice base l.length cap)) ∧ GL w1 t k lo sl1 (l ++ [o]) ∧ (∀ r, slBlk sl1 = some r → slBlk (.slice base l.length cap) = some r ∨ w.heap.size ≤ r) := by
    intro base cap hcap hold
    have hr := run_append_grow_src (P := P) w st st ty t i _ hu hi hz base l.length cap _ hold _ 1 _ hsrc hcap (by omega) (growslice_fits hcap (Nat.le_trans (Nat.mul_le_mul (show l.length + 1 ≤ 274877906945 by omega) hby) (by decide)))
    have hge : l.length + 1 ≤ grownCap w (l.length + 1) cap t := grownCap_ge w _ _ _
    refine ⟨_, _, hr, grown_of_below ((Below.refl w.heap.size w).drew.alloc (Nat.le_refl _) _), ⟨hall, .inr ⟨w.heap.size, _, hlo, by rw [List.length_append]; rfl, ?_⟩⟩, fun r hr2 => .inr (Nat.le_of_eq (Option.some.inj hr2))⟩
    refine ⟨_, heap_alloc_last w.drew _, by rw [List.length_append]; exact hge, ?_, ?_⟩
    · simp only [Array.size_append, List.size_toArray, List.length_append, hfl, hok, size_zeroCells, hz1]
      have h9 : grownCap w (l.length + 1) cap t * k = l.length * k + k + (grownCap w (l.length + 1) cap t - (l.length + 1)) * k := by
        rw [Nat.sub_mul, Nat.succ_mul]
        have := Nat.mul_le_mul_right k hge
        rw [Nat.succ_mul] at this
        omega
      omega
    · intro j v hj
      rw [hfs] at hj
      have hjl := (List.getElem?_eq_some_iff.1 hj).1
      rw [Array.getElem?_append_left (by simpa using hjl)]
      simpa using hj
  rcases hsl.2 with ⟨rfl, rfl⟩ | ⟨g, cap, hg, rfl, hS⟩
  · exact hgrow none 0 (by simp) (run_firstCells_none (w := w.drew) i.size 0 0 0)
  · by_cases hroom : l.length + 1 ≤ cap
    · obtain ⟨cur, h1, h2, h4, h5⟩ := hS.out
      have hmul : l.length * k + k ≤ cur.size := by
        have := Nat.mul_le_mul_right k hroom
        rw [Nat.succ_mul] at this
        omega
      have hcell : ∀ j, j < o.length → (w.cell? ⟨g, l.length * k + j, none⟩).isSome = true := fun j hj => by
        simp only [World.cell?, h1]
        rw [Array.getElem?_eq_getElem (by omega)]; rfl
      have hfro : ∀ j, j < o.length → w.frozen? ⟨g, l.length * k + j, none⟩ = false := fun j hj => by
        simp [World.frozen?, h1]
      have hr := run_append_room_src (P := P) w st st ty t i hu hi g 0 l.length cap _ 1 _ hsrc hroom
        (fun j hj => by rw [hs, Nat.zero_add]; exact hcell j hj)
        (fun j hj => by rw [hs, Nat.zero_add]; exact hfro j hj)
      rw [hs, Nat.zero_add] at hr
      have hgr := grown_setCells g o (l.length * k) w
      refine ⟨_, _, hr, hgr, ⟨hall, .inr ⟨g, cap, hg, by rw [List.length_append]; rfl, ?_⟩⟩, fun r hr2 => .inl hr2⟩
      have hblk : Blk w g cur t := ⟨h1⟩
      refine ⟨_, (hblk.setCells o (l.length * k)).out, by rw [List.length_append]; exact hroom, by rw [spl_size]; exact h4, ?_⟩
      intro j v hj
      rw [spl_get _ _ _ _ (by rw [hok]; exact hmul), hok]
      rw [hfs] at hj
      by_cases hjl : j < l.length * k
      · rw [if_neg (by omega)]
        rw [List.getElem?_append_left (by rw [hfl]; exact hjl)] at hj
        exact h5 j v hj
      · have hj3 := (List.getElem?_eq_some_iff.1 hj).1
        rw [List.length_append, hfl, hok] at hj3
        rw [if_pos (by omega)]
        rw [List.getElem?_append_right (by rw [hfl]; omega), hfl] at hj
        exact hj
    · exact hgrow (some ⟨g, 0, none⟩) cap (by omega) (run_firstCells_some w.drew i.size l.length ⟨g, 0, none⟩ l.length cap _ (by rw [hfl, hs]) (fun j u hj => by
        rw [Addr.add_mid, Nat.zero_add]
        exact (GS.grown hS (row := none) (grown_of_below ((Below.refl w.heap.size w).drew)) (fun e => nomatch e)).cell j u hj))
theorem wpList_appendGLR (hgd : op.guard = none) (x y : Operand) (st t : TypeId) (ho : op.op = .call { callee := .builtin .append, args := #[x, y], argTypes := #[st, st] })
    (k lo : Nat) (sl : Value) (l : List (List Value)) (hlo : lo ≤ w.heap.size) (hx : a.eval x = sl) (hsl : GL w t k lo sl l) (g2 c : Nat) (hy : a.eval y = .slice (some ⟨g2, 0, none⟩) 1 c) (o : List Value) (hok : o.length = k) (ho1 : ∀ u ∈ o, u.oneCell' = true) (t2 : TypeId) (hb2 : Blk w g2 o.toArray t2) (i : TypeInfo) (z : Value) (hz1 : z.cells.size = k)
    (hu : P.underlying st = some (.slice t)) (hi : P.info? t = some i) (hz : i.zero = some z) (hs : i.size = k) (hby : i.bytes ≤ 256) (hlen : l.length ≤ 274877906944)
    (h : ∀ (w1 : World) (sl1 : Value), w.grownBy w1 (slBlk sl) → GL w1 t k lo sl1 (l ++ [o]) → (∀ r, slBlk sl1 = some r → slBlk sl = some r ∨ w.heap.size ≤ r) → wpList P ops Q rest (a.put op.dst sl1) w1) : wpList P ops Q (op :: rest) a w := by
  obtain ⟨w1, sl1, hr, hb, hl, hz2⟩ := run_appendGL (P := P) (w := w) st op.type t k lo sl l hlo hsl g2 c o hok ho1 t2 hb2 i z hz1 hu hi hz hs hby hlen
  refine wpList_run hgd _ _ ?_ (h w1 sl1 hb hl hz2)
  unfold execOp
  simp only [ho]
  simp [resolve, invoke, builtin, hx, hy, hr, Result.andThen]
end
end Go.Proofs.YtnhlejdilldfaaaGreat
