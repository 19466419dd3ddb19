/- Appending the things of one slice to another one. -/
import Derived.Test.YtnhlejdilldfaaaGreatRgl
namespace Go.Proofs.YtnhlejdilldfaaaGreat
open Go Go.RowKit
/-- Things of k cells each, one behind the other. -/
theorem flat_range {w : World} {g o k : Nat} : ∀ {os : List (List Value)} (_ : ∀ x ∈ os, x.length = k) (_ : ∀ i (hi : i < os.length), w.rangeAt g (o + i * k) os[i]) (j : Nat) (v : Value), os.flatten[j]? = some v → w.cell? ⟨g, o + j, none⟩ = some v
  | [], _, _, j, v, hv => by simp at hv
  | x :: r, h, hr, j, v, hv => by
    have hx := h x (List.mem_cons_self ..)
    rw [List.flatten_cons] at hv
    by_cases hj : j < x.length
    · rw [List.getElem?_append_left hj] at hv
      have := hr 0 (Nat.zero_lt_succ _) j v hv
      simpa using this
    · rw [List.getElem?_append_right (by omega)] at hv
      have := flat_range (w := w) (g := g) (o := o + k) (os := r) (fun y hy => h y (List.mem_cons_of_mem _ hy)) (fun i hi => by
        have := hr (i + 1) (Nat.succ_lt_succ hi)
        rw [Nat.succ_mul] at this
        rw [Nat.add_assoc, Nat.add_comm k]
        exact this) (j - x.length) v hv
      rw [show o + k + (j - x.length) = o + j by omega] at this
      exact this
section
variable {P : Program} {ops : Array Oper} {rest : List Oper} {op : Oper} {a : Act} {w : World} {Q : Exit → Act → World → Prop}
theorem Src.things {size : Nat} {tx e' : TypeId} (hk : P.underlying tx = some (.slice e')) (k : Nat) (hs : size = k) (b : Option Addr) (c : Nat) (os : List (List Value)) (hos : ∀ x ∈ os, x.length = k) (ho1 : ∀ x ∈ os, ∀ u ∈ x, u.oneCell' = true)
    (hr : ∀ i (hi : i < os.length), ∃ g o, b = some ⟨g, o, none⟩ ∧ w.rangeAt g (o + i * k) os[i]) : Src P size tx (.slice b os.length c) os.length os.flatten w := by
  have h1 : ∀ u ∈ os.flatten, u.oneCell' = true := fun u hu => by
    obtain ⟨x, hx, hux⟩ := List.mem_flatten.1 hu
    exact ho1 x hx u hux
  cases b with
  | none =>
    cases os with
    | nil => exact Src.ofNil w hk c
    | cons x r =>
      obtain ⟨g, o, e, _⟩ := hr 0 (Nat.zero_lt_succ _)
      cases e
  | some b =>
    refine Src.ofSlice w hk b os.length c _ (by rw [flat_len hos, hs]) (fun j u hj => ?_) h1
    have hj0 : 0 < os.length := by
      cases os with
      | nil => simp at hj
      | cons x r => exact Nat.zero_lt_succ _
    obtain ⟨g, o, e, _⟩ := hr 0 hj0
    cases e
    rw [Addr.add_mid]
    refine flat_range hos (fun i hi => ?_) j u hj
    obtain ⟨g', o', e, h⟩ := hr i hi
    simp only [Option.some.injEq, Addr.mk.injEq, and_true] at e
    obtain ⟨rfl, rfl⟩ := e
    exact h
theorem run_appendS (st ty t : TypeId) (k lo : Nat) (sl : Value) (l : List (List Value)) (hlo : lo ≤ w.heap.size) (hsl : GL w t k lo sl l) (src : Value) (os : List (List Value)) (hos : ∀ x ∈ os, x.length = k) (i : TypeInfo) (hsrc : Src P i.size st src os.length os.flatten w) (z : Value) (hz1 : z.cells.size = k)
    (hu : P.underlying st = some (.slice t)) (hi : P.info? t = some i) (hz : i.zero = some z) (hs : i.size = k) (hby : i.bytes ≤ 256) (hlen : l.length + os.length ≤ 274877906944) :
    ∃ (w1 : World) (sl1 : Value), (Builtin.append_ #[st, st] ty #[sl, src]).run P w = .ok sl1 w1 ∧ w.grownBy w1 (slBlk sl) ∧ GL w1 t k lo sl1 (l ++ os) ∧ (∀ r, slBlk sl1 = some r → slBlk sl = some r ∨ w.heap.size ≤ r) := by
  have hok : os.flatten.length = os.length * k := flat_len hos
  have hall : ∀ x ∈ l ++ os, x.length = k := fun x hx => by
    rcases List.mem_append.1 hx with hx | hx
    · exact hsl.1 x hx
    · exact hos x hx
  have hfl := flat_len hsl.1
  have hfs : (l ++ os).flatten = l.flatten ++ os.flatten := List.flatten_append
  have hgrow : ∀ (base : Option Addr) (cap : Nat), cap < l.length + os.length → (Builtin.firstCells i.size l.length (.slice base l.length cap)).run P w.drew = .ok l.flatten.toArray w.drew →
      ∃ (w1 : World) (sl1 : Value), (Builtin.append_ #[st, st] ty #[.slice base l.length cap, src]).run P w = .ok sl1 w1 ∧ w.grownBy w1 (slBlk (.slice base l.length cap)) ∧ GL w1 t k lo sl1 (l ++ os) ∧ (∀ r, slBlk sl1 = some r → slBlk (.slice base l.length cap) = some r ∨ w.heap.size ≤ r) := by
    intro base cap hcap hold
    have hr := run_append_grow_src (P := P) w st st ty t i _ hu hi hz base l.length cap _ hold _ os.length _ hsrc hcap (by omega) (growslice_fits hcap (Nat.le_trans (Nat.mul_le_mul hlen hby) (by decide)))
    have hge : l.length + os.length ≤ grownCap w (l.length + os.length) cap t := grownCap_ge w _ _ _
    refine ⟨_, _, hr, grown_of_below ((Below.refl w.heap.size w).drew.alloc (Nat.le_refl _) _), ⟨hall, .inr ⟨w.heap.size, _, hlo, by rw [List.length_append], ?_⟩⟩, fun r hr2 => .inr (Nat.le_of_eq (Option.some.inj hr2))⟩
    refine ⟨_, heap_alloc_last w.drew _, by rw [List.length_append]; exact hge, ?_, ?_⟩
    · simp only [Array.size_append, List.size_toArray, List.length_append, hfl, hok, size_zeroCells, hz1]
      have h9 : grownCap w (l.length + os.length) cap t * k = l.length * k + os.length * k + (grownCap w (l.length + os.length) cap t - (l.length + os.length)) * k := by
        rw [Nat.sub_mul, Nat.add_mul]
        have := Nat.mul_le_mul_right k hge
        rw [Nat.add_mul] at this
        omega
      omega
    · intro j v hj
      rw [hfs] at hj
      have hjl := (List.getElem?_eq_some_iff.1 hj).1
      rw [Array.getElem?_append_left (by simpa using hjl)]
      simpa using hj
  rcases hsl.2 with ⟨rfl, rfl⟩ | ⟨g, cap, hg, rfl, hS⟩
  · by_cases h0 : 0 < os.length
    · exact hgrow none 0 (by simpa using h0) (run_firstCells_none (w := w.drew) i.size 0 0 0)
    · obtain rfl : os = [] := List.length_eq_zero_iff.1 (by omega)
      refine ⟨w, .slice none 0 0, ?_, grown_refl _ _, ⟨fun x hx => (by cases hx), .inl ⟨rfl, rfl⟩⟩, fun r e => (by cases e)⟩
      have h1 := hsrc.len w
      have h2 := hsrc.cells
      simp only [List.length_nil, List.flatten_nil] at h1 h2
      rcases hsrc.kind with ⟨e', hk⟩ | hk <;> simp [Builtin.append_, run_underlying hu, sizeOf, typeInfo, hi, h1, h2]
  · by_cases hroom : l.length + os.length ≤ cap
    · obtain ⟨cur, h1, h2, h4, h5⟩ := hS.out
      have hmul : l.length * k + os.length * k ≤ cur.size := by
        have := Nat.mul_le_mul_right k hroom
        rw [Nat.add_mul] at this
        omega
      have hcell : ∀ j, j < os.flatten.length → (w.cell? ⟨g, l.length * k + j, none⟩).isSome = true := fun j hj => by
        simp only [World.cell?, h1]
        rw [Array.getElem?_eq_getElem (by omega)]; rfl
      have hfro : ∀ j, j < os.flatten.length → w.frozen? ⟨g, l.length * k + j, none⟩ = false := fun j hj => by
        simp [World.frozen?, h1]
      have hr := run_append_room_src (P := P) w st st ty t i hu hi g 0 l.length cap _ os.length _ hsrc hroom
        (fun j hj => by rw [hs, Nat.zero_add]; exact hcell j hj)
        (fun j hj => by rw [hs, Nat.zero_add]; exact hfro j hj)
      rw [hs, Nat.zero_add] at hr
      have hgr := grown_setCells g os.flatten (l.length * k) w
      refine ⟨_, _, hr, hgr, ⟨hall, .inr ⟨g, cap, hg, by rw [List.length_append], ?_⟩⟩, fun r hr2 => .inl hr2⟩
      have hblk : Blk w g cur t := ⟨h1⟩
      refine ⟨_, (hblk.setCells os.flatten (l.length * k)).out, by rw [List.length_append]; exact hroom, by rw [spl_size]; exact h4, ?_⟩
      intro j v hj
      rw [spl_get _ _ _ _ (by rw [hok]; exact hmul), hok]
      rw [hfs] at hj
      by_cases hjl : j < l.length * k
      · rw [if_neg (by omega)]
        rw [List.getElem?_append_left (by rw [hfl]; exact hjl)] at hj
        exact h5 j v hj
      · have hj3 := (List.getElem?_eq_some_iff.1 hj).1
        rw [List.length_append, hfl, hok] at hj3
        rw [if_pos (by omega)]
        rw [List.getElem?_append_right (by rw [hfl]; omega), hfl] at hj
        exact hj
    · exact hgrow (some ⟨g, 0, none⟩) cap (by omega) (run_firstCells_some w.drew i.size l.length ⟨g, 0, none⟩ l.length cap _ (by rw [hfl, hs]) (fun j u hj => by
        rw [Addr.add_mid, Nat.zero_add]
        exact (GS.grown hS (row := none) (grown_of_below ((Below.refl w.heap.size w).drew)) (fun e => nomatch e)).cell j u hj))
theorem wpList_appendS (hgd : op.guard = none) (x y : Operand) (st t : TypeId) (ho : op.op = .call { callee := .builtin .append, args := #[x, y], argTypes := #[st, st] })
    (k lo : Nat) (sl : Value) (l : List (List Value)) (hlo : lo ≤ w.heap.size) (hx : a.eval x = sl) (hsl : GL w t k lo sl l) (src : Value) (hy : a.eval y = src) (os : List (List Value)) (hos : ∀ x ∈ os, x.length = k) (i : TypeInfo) (hsrc : Src P i.size st src os.length os.flatten w) (z : Value) (hz1 : z.cells.size = k)
    (hu : P.underlying st = some (.slice t)) (hi : P.info? t = some i) (hz : i.zero = some z) (hs : i.size = k) (hby : i.bytes ≤ 256) (hlen : l.length + os.length ≤ 274877906944)
    (h : ∀ (w1 : World) (sl1 : Value), w.grownBy w1 (slBlk sl) → GL w1 t k lo sl1 (l ++ os) → (∀ r, slBlk sl1 = some r → slBlk sl = some r ∨ w.heap.size ≤ r) → wpList P ops Q rest (a.put op.dst sl1) w1) : wpList P ops Q (op :: rest) a w := by
  obtain ⟨w1, sl1, hr, hb, hl, hn⟩ := run_appendS (P := P) (w := w) st op.type t k lo sl l hlo hsl src os hos i hsrc z hz1 hu hi hz hs hby hlen
  refine wpList_run hgd _ _ ?_ (h w1 sl1 hb hl hn)
  unfold execOp
  simp only [ho]
  simp [resolve, invoke, builtin, hx, hy, hr, Result.andThen]
end
end Go.Proofs.YtnhlejdilldfaaaGreat
