/- Messages in memory. Appending the things of one slice to another one. Entries that are made one's own. -/
import Derived.Test.YtnhlejdilldfaaaGreatRsm
import Derived.Test.YtnhlejdilldfaaaGreatRgl
import Derived.Test.YtnhlejdilldfaaaGreatCmq
namespace Go.Proofs.YtnhlejdilldfaaaGreat
open Go Go.RowKit Go.Maps
theorem Blk.of_eq {w w' : World} {b : Nat} {c : Array Value} {t : TypeId} (h : Blk w b c t) (e : w'.heap[b]? = w.heap[b]?) : Blk w' b c t := ⟨e.trans h.out⟩
theorem bl_al {a w : World} (h : Below a.heap.size a w) (o : Obj) : Below a.heap.size a (w.alloc o) := h.alloc h.size o
theorem bl_dr {a w : World} (h : Below a.heap.size a w) : Below a.heap.size a w.drew := h.drew
theorem bl_drn {a w : World} (h : Below a.heap.size a w) (n : Nat) : Below a.heap.size a (w.drewN n) := below_draws h n
theorem bl_ca {a w w' : World} (h : Below a.heap.size a w) (k : Below w.heap.size w w') : Below a.heap.size a w' := h.trans (k.mono h.size)
theorem bl_gr {a w w' : World} {b : Nat} (h : Below a.heap.size a w) (hg : w.grownBy w' (some b)) (hb : a.heap.size ≤ b) : Below a.heap.size a w' := h.trans (below_of_grown hg hb h.size)
theorem bl_st {a w : World} {b : Nat} (h : Below a.heap.size a w) (hb : a.heap.size ≤ b) (o : Nat) (v : Value) : Below a.heap.size a (w.setCell ⟨b, o, none⟩ v) := bl_gr h (grown_setCell b v o w) hb
/-- A message's cells. -/
def mcells (m : MSG) (ev mv : Value) : Array Value := #[.int .i64 m.kind, .int .i64 m.frm, .int .i64 m.dst, .int .i64 m.term, .int .i64 m.index, .int .i64 m.logTerm, .int .i64 m.commit, .bool m.yes, ev, .int .i64 m.off, .string ⟨m.piece.toArray⟩, .bool m.done, mv]
/-- What a message points at lies in blocks of F. -/
structure MF (F : Nat → Prop) (w : World) (m : MSG) (ev mv : Value) : Prop where
  ents : ∃ a c, ev = .slice a m.ents.length c ∧ m.ents.length ≤ c ∧ EF F w a m.ents
  mems : ∃ a c, mv = .slice a m.mems.length c ∧ m.mems.length ≤ 17592186044416 ∧ IF F w a m.mems
theorem MF.kept {F F' : Nat → Prop} {w w' : World} {m : MSG} {ev mv : Value} (h : MF F w m ev mv) (hk : ∀ k, F k → w'.heap[k]? = w.heap[k]?) (hF : ∀ k, F k → F' k) : MF F' w' m ev mv := by
  obtain ⟨⟨a, c, h1, h2, h3⟩, b, d, h4, h5, h6⟩ := h
  exact ⟨⟨a, c, h1, h2, h3.kept hk hF⟩, b, d, h4, h5, h6.kept hk hF⟩
/-- The messages l lie in the slice v. -/
def MS (F : Nat → Prop) (w : World) (v : Value) (l : List MSG) : Prop := ∃ a c, v = .slice a l.length c ∧ l.length ≤ c ∧ ∀ i (h : i < l.length), ∃ g o ev mv, a = some ⟨g, o, none⟩ ∧ F g ∧ w.rangeAt g (o + i * 13) (mcells l[i] ev mv).toList ∧ MF F w l[i] ev mv
theorem MS.kept {F F' : Nat → Prop} {w w' : World} {v : Value} {l : List MSG} (h : MS F w v l) (hk : ∀ k, F k → w'.heap[k]? = w.heap[k]?) (hF : ∀ k, F k → F' k) : MS F' w' v l := by
  obtain ⟨a, c, h1, h2, h3⟩ := h
  refine ⟨a, c, h1, h2, fun i hi => ?_⟩
  obtain ⟨g, o, ev, mv, k1, k2, k3, k4⟩ := h3 i hi
  exact ⟨g, o, ev, mv, k1, hF g k2, range_of_block (hk g k2) k3, k4.kept hk hF⟩
theorem MS.nil (F : Nat → Prop) (w : World) : MS F w (.slice none 0 0) [] := ⟨none, 0, rfl, Nat.le_refl _, fun i hi => by simp at hi⟩
section
variable (F : Nat → Prop) (nb : Nat) (M : NM) (lb : Option Nat) (w : World) (N : RN)
set_option maxRecDepth 100000 in
theorem role_any (h : ND F nb M lb w N) : Calls Tryz.prog 28 #[.pointer (some ⟨nb, 0, none⟩)] w fun e w' => e = .returned (.int .i64 N.role) ∧ w' = w := by
  have c := h.c8
  have HN := none_any F nb M lb w N h
  go_enter Tryz.func28, Tryz.ntmps28
  go_wp2_with (go_at_call 63; refine HN.mono ?_; rintro e w1 ⟨rfl, hw1⟩; replace hw1 := hw1.symm; subst hw1; clear HN)
  go_ret
  exact ⟨rfl, rfl⟩
set_option maxRecDepth 100000 in
theorem lacksAhead_any (h : ND F nb M lb w N) (hb : Bnd N) (x : Int) (hx : (Lit.int .i64 x).wf = true) : Calls Tryz.prog 114 #[.pointer (some ⟨nb, 0, none⟩), .int .i64 x] w fun e w' => e = .returned (.bool (N.lacksAhead x)) ∧ Below w.heap.size w w' := by
  have c3 := h.drew.c3
  have c16 := h.drew.c16
  have hg := h.drew.next.get x hx
  have h1 := hb.next x
  have h2 := hb.bi
  have hw1 : IntKind.i64.wrap (N.next x - 1) = N.next x - 1 := by rw [IntKind.wrap_i64]; omega
  have he : N.lacksAhead x = decide (N.next x - 1 < N.k.bi) := rfl
  rw [he]
  clear he
  generalize N.next x = z at *
  go_enter Tryz.func114, Tryz.ntmps114
  go_wp2_with fail
  go_region
  go_wp2_with fail
  go_ret
  exact ⟨rfl, (Below.refl _ _).drew⟩
set_option maxRecDepth 100000 in
theorem hadBy_any (h : ND F nb M lb w N) (hb : Bnd N) (x : Int) (hx : (Lit.int .i64 x).wf = true) : Calls Tryz.prog 125 #[.pointer (some ⟨nb, 0, none⟩), .int .i64 x] w fun e w' => e = .returned (.int .i64 (N.hadBy x)) ∧ Below w.heap.size w w' := by
  have c0 := h.c0
  have c17 := h.c17
  have hg := h.had.get x hx
  have HL := last_any F nb M lb w N h hb
  by_cases hm : x = N.me
  · have he : N.hadBy x = N.last := if_pos hm
    rw [he]
    have hd : (x == N.me) = true := beq_iff_eq.2 hm
    clear hm he hg
    generalize N.me = y at *
    generalize N.last = z at *
    go_enter Tryz.func125, Tryz.ntmps125
    go_wp2_with (go_at_call 99; refine HL.mono ?_; rintro e w1 ⟨rfl, hw1⟩; clear HL)
    go_ret
    exact ⟨rfl, hw1⟩
  · have he : N.hadBy x = N.had x := if_neg hm
    rw [he]
    have hd : (x == N.me) = false := beq_eq_false_iff_ne.2 hm
    go_enter Tryz.func125, Tryz.ntmps125
    go_wp2_with fail
    go_ret
    exact ⟨rfl, Below.refl _ _⟩
theorem isReplica_any (x : Int) : Calls Tryz.prog 43 #[.int .i64 x] w fun e w' => e = .returned (.bool (decide (0 ≤ x ∧ x < 16))) ∧ w' = w := by
  by_cases h1 : 0 ≤ x
  · have d1 := decide_eq_true h1
    have e : decide (0 ≤ x ∧ x < 16) = decide (x < 16) := by simp [h1]
    rw [e]
    go_enter Tryz.func43, Tryz.ntmps43
    go_wp2_with fail
    go_ret
    exact ⟨rfl, rfl⟩
  · have d1 := decide_eq_false h1
    have e : decide (0 ≤ x ∧ x < 16) = false := decide_eq_false (by omega)
    rw [e]
    go_enter Tryz.func43, Tryz.ntmps43
    go_wp2_with fail
    go_ret
    exact ⟨rfl, rfl⟩
theorem isCount_any (x : Int) : Calls Tryz.prog 42 #[.int .i64 x] w fun e w' => e = .returned (.bool (MSG.cnt x)) ∧ w' = w := by
  unfold MSG.cnt
  by_cases h1 : 0 ≤ x
  · have d1 := decide_eq_true h1
    have e : decide (0 ≤ x ∧ x ≤ 2147483647) = decide (x ≤ 2147483647) := by simp [h1]
    rw [e]
    go_enter Tryz.func42, Tryz.ntmps42
    go_wp2_with fail
    go_ret
    exact ⟨rfl, rfl⟩
  · have d1 := decide_eq_false h1
    have e : decide (0 ≤ x ∧ x ≤ 2147483647) = false := decide_eq_false (by omega)
    rw [e]
    go_enter Tryz.func42, Tryz.ntmps42
    go_wp2_with fail
    go_ret
    exact ⟨rfl, rfl⟩
end
end Go.Proofs.YtnhlejdilldfaaaGreat
namespace Go.Proofs.YtnhlejdilldfaaaGreat
open Go Go.RowKit
/-- Things of k cells each, one behind the other. -/
theorem flat_range {w : World} {g o k : Nat} : ∀ {os : List (List Value)} (_ : ∀ x ∈ os, x.length = k) (_ : ∀ i (hi : i < os.length), w.rangeAt g (o + i * k) os[i]) (j : Nat) (v : Value), os.flatten[j]? = some v → w.cell? ⟨g, o + j, none⟩ = some v
  | [], _, _, j, v, hv => by simp at hv
  | x :: r, h, hr, j, v, hv => by
    have hx := h x (List.mem_cons_self ..)
    rw [List.flatten_cons] at hv
    by_cases hj : j < x.length
    · rw [List.getElem?_append_left hj] at hv
      have := hr 0 (Nat.zero_lt_succ _) j v hv
      simpa using this
    · rw [List.getElem?_append_right (by omega)] at hv
      have := flat_range (w := w) (g := g) (o := o + k) (os := r) (fun y hy => h y (List.mem_cons_of_mem _ hy)) (fun i hi => by
        have := hr (i + 1) (Nat.succ_lt_succ hi)
        rw [Nat.succ_mul] at this
        rw [Nat.add_assoc, Nat.add_comm k]
        exact this) (j - x.length) v hv
      rw [show o + k + (j - x.length) = o + j by omega] at this
      exact this
section
variable {P : Program} {ops : Array Oper} {rest : List Oper} {op : Oper} {a : Act} {w : World} {Q : Exit → Act → World → Prop}
theorem Src.things {size : Nat} {tx e' : TypeId} (hk : P.underlying tx = some (.slice e')) (k : Nat) (hs : size = k) (b : Option Addr) (c : Nat) (os : List (List Value)) (hos : ∀ x ∈ os, x.length = k) (ho1 : ∀ x ∈ os, ∀ u ∈ x, u.oneCell' = true)
    (hr : ∀ i (hi : i < os.length), ∃ g o, b = some ⟨g, o, none⟩ ∧ w.rangeAt g (o + i * k) os[i]) : Src P size tx (.slice b os.length c) os.length os.flatten w := by
  have h1 : ∀ u ∈ os.flatten, u.oneCell' = true := fun u hu => by
    obtain ⟨x, hx, hux⟩ := List.mem_flatten.1 hu
    exact ho1 x hx u hux
  cases b with
  | none =>
    cases os with
    | nil => exact Src.ofNil w hk c
    | cons x r =>
      obtain ⟨g, o, e, _⟩ := hr 0 (Nat.zero_lt_succ _)
      cases e
  | some b =>
    refine Src.ofSlice w hk b os.length c _ (by rw [flat_len hos, hs]) (fun j u hj => ?_) h1
    have hj0 : 0 < os.length := by
      cases os with
      | nil => simp at hj
      | cons x r => exact Nat.zero_lt_succ _
    obtain ⟨g, o, e, _⟩ := hr 0 hj0
    cases e
    rw [Addr.add_mid]
    refine flat_range hos (fun i hi => ?_) j u hj
    obtain ⟨g', o', e, h⟩ := hr i hi
    simp only [Option.some.injEq, Addr.mk.injEq, and_true] at e
    obtain ⟨rfl, rfl⟩ := e
    exact h
theorem run_appendS (st ty t : TypeId) (k lo : Nat) (sl : Value) (l : List (List Value)) (hlo : lo ≤ w.heap.size) (hsl : GL w t k lo sl l) (src : Value) (os : List (List Value)) (hos : ∀ x ∈ os, x.length = k) (i : TypeInfo) (hsrc : Src P i.size st src os.length os.flatten w) (z : Value) (hz1 : z.cells.size = k)
    (hu : P.underlying st = some (.slice t)) (hi : P.info? t = some i) (hz : i.zero = some z) (hs : i.size = k) (hby : i.bytes ≤ 256) (hlen : l.length + os.length ≤ 274877906944) :
    ∃ (w1 : World) (sl1 : Value), (Builtin.append_ #[st, st] ty #[sl, src]).run P w = .ok sl1 w1 ∧ w.grownBy w1 (slBlk sl) ∧ GL w1 t k lo sl1 (l ++ os) ∧ (∀ r, slBlk sl1 = some r → slBlk sl = some r ∨ w.heap.size ≤ r) := by
  have hok : os.flatten.length = os.length * k := flat_len hos
  have hall : ∀ x ∈ l ++ os, x.length = k := fun x hx => by
    rcases List.mem_append.1 hx with hx | hx
    · exact hsl.1 x hx
    · exact hos x hx
  have hfl := flat_len hsl.1
  have hfs : (l ++ os).flatten = l.flatten ++ os.flatten := List.flatten_append
  have hgrow : ∀ (base : Option Addr) (cap : Nat), cap < l.length + os.length → (Builtin.firstCells i.size l.length (.slice base l.length cap)).run P w.drew = .ok l.flatten.toArray w.drew →
      ∃ (w1 : World) (sl1 : Value), (Builtin.append_ #[st, st] ty #[.slice base l.length cap, src]).run P w = .ok sl1 w1 ∧ w.grownBy w1 (slBlk (.slice base l.length cap)) ∧ GL w1 t k lo sl1 (l ++ os) ∧ (∀ r, slBlk sl1 = some r → slBlk (.slice base l.length cap) = some r ∨ w.heap.size ≤ r) := by
    intro base cap hcap hold
    have hr := run_append_grow_src (P := P) w st st ty t i _ hu hi hz base l.length cap _ hold _ os.length _ hsrc hcap (by omega) (growslice_fits hcap (Nat.le_trans (Nat.mul_le_mul hlen hby) (by decide)))
    have hge : l.length + os.length ≤ grownCap w (l.length + os.length) cap t := grownCap_ge w _ _ _
    refine ⟨_, _, hr, grown_of_below ((Below.refl w.heap.size w).drew.alloc (Nat.le_refl _) _), ⟨hall, .inr ⟨w.heap.size, _, hlo, by rw [List.length_append], ?_⟩⟩, fun r hr2 => .inr (Nat.le_of_eq (Option.some.inj hr2))⟩
    refine ⟨_, heap_alloc_last w.drew _, by rw [List.length_append]; exact hge, ?_, ?_⟩
    · simp only [Array.size_append, List.size_toArray, List.length_append, hfl, hok, size_zeroCells, hz1]
      have h9 : grownCap w (l.length + os.length) cap t * k = l.length * k + os.length * k + (grownCap w (l.length + os.length) cap t - (l.length + os.length)) * k := by
        rw [Nat.sub_mul, Nat.add_mul]
        have := Nat.mul_le_mul_right k hge
        rw [Nat.add_mul] at this
        omega
      omega
    · intro j v hj
      rw [hfs] at hj
      have hjl := (List.getElem?_eq_some_iff.1 hj).1
      rw [Array.getElem?_append_left (by simpa using hjl)]
      simpa using hj
  rcases hsl.2 with ⟨rfl, rfl⟩ | ⟨g, cap, hg, rfl, hS⟩
  · by_cases h0 : 0 < os.length
    · exact hgrow none 0 (by simpa using h0) (run_firstCells_none (w := w.drew) i.size 0 0 0)
    · obtain rfl : os = [] := List.length_eq_zero_iff.1 (by omega)
      refine ⟨w, .slice none 0 0, ?_, grown_refl _ _, ⟨fun x hx => (by cases hx), .inl ⟨rfl, rfl⟩⟩, fun r e => (by cases e)⟩
      have h1 := hsrc.len w
      have h2 := hsrc.cells
      simp only [List.length_nil, List.flatten_nil] at h1 h2
      rcases hsrc.kind with ⟨e', hk⟩ | hk <;> simp [Builtin.append_, run_underlying hu, sizeOf, typeInfo, hi, h1, h2]
  · by_cases hroom : l.length + os.length ≤ cap
    · obtain ⟨cur, h1, h2, h4, h5⟩ := hS.out
      have hmul : l.length * k + os.length * k ≤ cur.size := by
        have := Nat.mul_le_mul_right k hroom
        rw [Nat.add_mul] at this
        omega
      have hcell : ∀ j, j < os.flatten.length → (w.cell? ⟨g, l.length * k + j, none⟩).isSome = true := fun j hj => by
        simp only [World.cell?, h1]
        rw [Array.getElem?_eq_getElem (by omega)]; rfl
      have hfro : ∀ j, j < os.flatten.length → w.frozen? ⟨g, l.length * k + j, none⟩ = false := fun j hj => by
        simp [World.frozen?, h1]
      have hr := run_append_room_src (P := P) w st st ty t i hu hi g 0 l.length cap _ os.length _ hsrc hroom
        (fun j hj => by rw [hs, Nat.zero_add]; exact hcell j hj)
        (fun j hj => by rw [hs, Nat.zero_add]; exact hfro j hj)
      rw [hs, Nat.zero_add] at hr
      have hgr := grown_setCells g os.flatten (l.length * k) w
      refine ⟨_, _, hr, hgr, ⟨hall, .inr ⟨g, cap, hg, by rw [List.length_append], ?_⟩⟩, fun r hr2 => .inl hr2⟩
      have hblk : Blk w g cur t := ⟨h1⟩
      refine ⟨_, (hblk.setCells os.flatten (l.length * k)).out, by rw [List.length_append]; exact hroom, by rw [spl_size]; exact h4, ?_⟩
      intro j v hj
      rw [spl_get _ _ _ _ (by rw [hok]; exact hmul), hok]
      rw [hfs] at hj
      by_cases hjl : j < l.length * k
      · rw [if_neg (by omega)]
        rw [List.getElem?_append_left (by rw [hfl]; exact hjl)] at hj
        exact h5 j v hj
      · have hj3 := (List.getElem?_eq_some_iff.1 hj).1
        rw [List.length_append, hfl, hok] at hj3
        rw [if_pos (by omega)]
        rw [List.getElem?_append_right (by rw [hfl]; omega), hfl] at hj
        exact hj
    · exact hgrow (some ⟨g, 0, none⟩) cap (by omega) (run_firstCells_some w.drew i.size l.length ⟨g, 0, none⟩ l.length cap _ (by rw [hfl, hs]) (fun j u hj => by
        rw [Addr.add_mid, Nat.zero_add]
        exact (GS.grown hS (row := none) (grown_of_below ((Below.refl w.heap.size w).drew)) (fun e => nomatch e)).cell j u hj))
theorem wpList_appendS (hgd : op.guard = none) (x y : Operand) (st t : TypeId) (ho : op.op = .call { callee := .builtin .append, args := #[x, y], argTypes := #[st, st] })
    (k lo : Nat) (sl : Value) (l : List (List Value)) (hlo : lo ≤ w.heap.size) (hx : a.eval x = sl) (hsl : GL w t k lo sl l) (src : Value) (hy : a.eval y = src) (os : List (List Value)) (hos : ∀ x ∈ os, x.length = k) (i : TypeInfo) (hsrc : Src P i.size st src os.length os.flatten w) (z : Value) (hz1 : z.cells.size = k)
    (hu : P.underlying st = some (.slice t)) (hi : P.info? t = some i) (hz : i.zero = some z) (hs : i.size = k) (hby : i.bytes ≤ 256) (hlen : l.length + os.length ≤ 274877906944)
    (h : ∀ (w1 : World) (sl1 : Value), w.grownBy w1 (slBlk sl) → GL w1 t k lo sl1 (l ++ os) → (∀ r, slBlk sl1 = some r → slBlk sl = some r ∨ w.heap.size ≤ r) → wpList P ops Q rest (a.put op.dst sl1) w1) : wpList P ops Q (op :: rest) a w := by
  obtain ⟨w1, sl1, hr, hb, hl, hn⟩ := run_appendS (P := P) (w := w) st op.type t k lo sl l hlo hsl src os hos i hsrc z hz1 hu hi hz hs hby hlen
  refine wpList_run hgd _ _ ?_ (h w1 sl1 hb hl hn)
  unfold execOp
  simp only [ho]
  simp [resolve, invoke, builtin, hx, hy, hr, Result.andThen]
end
end Go.Proofs.YtnhlejdilldfaaaGreat
namespace Go.Proofs.YtnhlejdilldfaaaGreat
open Go Go.RowKit Go.Maps
theorem lec_one (e : LE) (a : Option Addr) (n c : Nat) : ∀ u ∈ (lec e (.slice a n c)).toList, u.oneCell' = true := fun u hu => by
  simp only [lec, List.mem_cons, List.not_mem_nil, or_false] at hu
  rcases hu with rfl | rfl | rfl | rfl <;> rfl
/-- The cells of entries that lie somewhere. -/
theorem EA.things {w : World} {a : Option Addr} {l : List LE} (h : EA w a l) : ∃ os : List (List Value), os.length = l.length ∧ (∀ x ∈ os, x.length = 4) ∧ (∀ x ∈ os, ∀ u ∈ x, u.oneCell' = true) ∧ (∀ i (hi : i < os.length), ∃ g o, a = some ⟨g, o, none⟩ ∧ w.rangeAt g (o + i * 4) os[i]) ∧
    ∀ i (hi : i < l.length), ∃ ma mc, os[i]? = some (lec l[i] (.slice ma l[i].mem.length mc)).toList ∧ IA w ma l[i].mem ∧ l[i].mem.length ≤ 17592186044416 := by
  have hc : ∀ i : Fin l.length, ∃ p : Option Addr × Nat, (∃ g o, a = some ⟨g, o, none⟩ ∧ w.rangeAt g (o + i * 4) (lec l[i] (.slice p.1 l[i].mem.length p.2)).toList) ∧ IA w p.1 l[i].mem ∧ l[i].mem.length ≤ 17592186044416 := fun i => by
    obtain ⟨g, o, ma, cap, h1, h2, h3, h4⟩ := h i i.2
    exact ⟨(ma, cap), ⟨g, o, h1, h2⟩, h3, h4⟩
  obtain ⟨f, hf⟩ := Classical.axiomOfChoice hc
  refine ⟨List.ofFn fun i : Fin l.length => (lec l[i] (.slice (f i).1 l[i].mem.length (f i).2)).toList, by simp, fun x hx => ?_, fun x hx => ?_, fun i hi => ?_, fun i hi => ?_⟩
  · obtain ⟨i, rfl⟩ := List.mem_ofFn.1 hx
    rfl
  · obtain ⟨i, rfl⟩ := List.mem_ofFn.1 hx
    exact lec_one _ _ _ _
  · rw [List.getElem_ofFn]
    have hi2 : i < l.length := by simpa using hi
    exact (hf ⟨i, hi2⟩).1
  · refine ⟨(f ⟨i, hi⟩).1, (f ⟨i, hi⟩).2, ?_, (hf ⟨i, hi⟩).2⟩
    rw [List.getElem?_ofFn, dif_pos hi]
    rfl
theorem infoE : ∃ i, Tryz.prog.info? 29 = some i ∧ i.zero = some (.agg #[.int .i64 0, .string ⟨#[]⟩, .bool false, .slice none 0 0]) ∧ i.size = 4 ∧ i.bytes ≤ 256 := by
  have h : (Tryz.prog.info? 29).map (fun i => (i.zero, i.size, i.bytes)) = some (some (.agg #[.int .i64 0, .string ⟨#[]⟩, .bool false, .slice none 0 0]), 4, 56) := by kernel_rfl
  cases hq : Tryz.prog.info? 29 with
  | none => rw [hq] at h; cases h
  | some i => rw [hq] at h; simp at h; exact ⟨i, rfl, h.1, h.2.1, by omega⟩
theorem zE4 : (Value.agg #[.int .i64 0, .string ⟨#[]⟩, .bool false, .slice none 0 0]).cells.size = 4 := rfl
theorem iE4 : (Tryz.prog.info? 29).map (·.size) = some 4 := by kernel_rfl
theorem bsl0E (w : World) : (Instr.buildSlice 22 0 #[]).run Tryz.prog w = .ok (.slice (some ⟨w.heap.size, 0, none⟩) 0 0) (w.alloc (.cells #[] 29)) := by
  simp [Instr.buildSlice, run_underlying Tryz.underlying22, sizeOf_run iE4, Sem.run_bind, Instr.fill, newRow, range0]
section
variable {ops : Array Oper} {rest : List Oper} {op : Oper} {a : Act} {w : World} {Q : Exit → Act → World → Prop}
theorem wpList_bsl0E (hgd : op.guard = none) (ho : op.op = .buildSlice 22 0 #[])
    (h : ∀ w1 : World, Below w.heap.size w w1 → w1.heap.size = w.heap.size + 1 → GL w1 29 4 w.heap.size (.slice (some ⟨w.heap.size, 0, none⟩) 0 0) [] → wpList Tryz.prog ops Q rest (a.put op.dst (.slice (some ⟨w.heap.size, 0, none⟩) 0 0)) w1) : wpList Tryz.prog ops Q (op :: rest) a w := by
  refine wpList_run hgd _ _ ?_ (h _ ((Below.refl _ _).alloc (Nat.le_refl _) (.cells #[] 29)) (by simp) ⟨fun x hx => (by cases hx), .inr ⟨w.heap.size, 0, Nat.le_refl _, rfl, ⟨#[], (Blk.new w _ _).out, by simp, by simp, fun j v hv => by simp at hv⟩⟩⟩)
  unfold execOp
  have hr := bsl0E w
  simp only [ho, Sem.run_bind, Array.map_empty, hr, Result.andThen_ok]
  rfl
end
theorem eqlNilE (w : World) (b : Addr) (n c : Nat) : (binOp .eql 22 (.slice (some b) n c) (.slice none 0 0)).run Tryz.prog w = .ok (.bool false) w := Lib.run_eql_slice_nil w 22 29 (some b) n c 0 0 Tryz.underlying22
theorem eqlNilE0 (w : World) (n c : Nat) : (binOp .eql 22 (.slice none n c) (.slice none 0 0)).run Tryz.prog w = .ok (.bool true) w := Lib.run_eql_slice_nil w 22 29 none n c 0 0 Tryz.underlying22
section
attribute [local go_sem] eqlNilE eqlNilE0
set_option maxRecDepth 100000 in
/-- A slice of entries is cloned: the same entries, in a slice of its own. -/
theorem scloneE (b : Addr) (l : List LE) (cap : Nat) (w : World) (h : EA w (some b) l) (hl : l.length ≤ 137438953472) :
    Calls Tryz.prog 102 #[.slice (some b) l.length cap] w fun e w' => ∃ v ls, e = .returned v ∧ Below w.heap.size w w' ∧ GL w' 29 4 w.heap.size v ls ∧ ls.length = l.length ∧ ∀ i (hi : i < l.length), ∃ ma mc, ls[i]? = some (lec l[i] (.slice ma l[i].mem.length mc)).toList ∧ IA w ma l[i].mem ∧ l[i].mem.length ≤ 17592186044416 := by
  obtain ⟨os, h1, h2, h3, h4, h5⟩ := h.things
  obtain ⟨ii, hi, hz, hs, hby⟩ := infoE
  have hlen : ([] : List (List Value)).length + os.length ≤ 274877906944 := by rw [h1, List.length_nil]; omega
  have hsrc : ∀ w1, Below w.heap.size w w1 → Src Tryz.prog ii.size 22 (.slice (some b) l.length cap) os.length os.flatten w1 := fun w1 hw1 => by
    rw [← h1]
    refine Src.things Tryz.underlying22 4 hs (some b) cap os h2 h3 (fun i hi => ?_)
    obtain ⟨g, o, k1, k2⟩ := h4 i hi
    exact ⟨g, o, k1, fun j v hv => by
      have := k2 j v hv
      rw [hw1.cell (World.block_lt_of_cell? _ _ this)]
      exact this⟩
  go_enter Tryz.func102, Tryz.ntmps102
  go_wp2_with (with_reducible refine at_list ?_; first
    | (refine wpList_bsl0E (op := ⟨some 5, _, _, _, _, _⟩) rfl rfl ?_; intro w1 hw1 hs1 hG1; replace hs1 := hs1.symm)
    | (refine wpList_appendS (op := ⟨some 7, _, _, _, _, _⟩) rfl _ _ _ 29 rfl 4 w.heap.size (.slice (some ⟨w.heap.size, 0, none⟩) 0 0) [] hw1.size rfl hG1 (.slice (some b) l.length cap) rfl os h2 ii (hsrc w1 hw1) _ zE4 Tryz.underlying22 hi hz hs hby hlen ?_; intro w2 sl2 hw2 hG2 hn2))
  go_ret
  refine ⟨sl2, _, rfl, hw1.trans (below_of_grown hw2 (Nat.le_refl _) hw1.size), hG2, by rw [List.nil_append]; exact h1, h5⟩
set_option maxRecDepth 100000 in
theorem scloneE_nil (cap : Nat) (w : World) : Calls Tryz.prog 102 #[.slice none 0 cap] w fun e w' => e = .returned (.slice none 0 0) ∧ w' = w := by
  go_enter Tryz.func102, Tryz.ntmps102
  go_wp2_with fail
  go_ret
  exact ⟨rfl, rfl⟩
end
/-- New blocks. -/
def NewB (w w' : World) (k : Nat) : Prop := w.heap.size ≤ k ∧ k < w'.heap.size
theorem sclF (a : Option Addr) (l : List Int) (cap : Nat) (w : World) (h : IA w a l) (hl : l.length ≤ 17592186044416) :
    Calls Tryz.prog 61 #[.slice a l.length cap] w fun e w' => ∃ x c, e = .returned (.slice x l.length c) ∧ IF (NewB w w') w' x l ∧ Below w.heap.size w w' := by
  by_cases h0 : 0 < l.length
  · refine (scloneI_any a l cap w h h0 hl).mono ?_
    rintro e w' ⟨g, c, rfl, h1, h2, h3⟩
    exact ⟨_, c, rfl, IF.of h3.ia (fun g' o' e _ => by cases e; exact ⟨h1, h3.lt⟩), h2⟩
  · refine (scloneI_all a l cap w h hl).mono ?_
    rintro e w' ⟨x, c, rfl, h1, h2⟩
    refine ⟨x, c, rfl, ?_, h2⟩
    obtain rfl : l = [] := List.length_eq_zero_iff.1 (by omega)
    exact IF.nil _ _ _
/-- The cells of an entry that was made. -/
theorem lecI (e : LE) (v : Value) : (Tryz.prog.info? 29).map (·.size) = some (#[Value.int .i64 e.term, .string ⟨e.s.toArray⟩, .bool e.conf, v] : Array Value).size := by kernel_rfl
theorem lecS (t : Int) (s : ByteArray) (c : Bool) (v : Value) (t2 : Int) (s2 : ByteArray) (c2 : Bool) (v2 : Value) : (#[Value.int .i64 t, .string s, .bool c, v] : Array Value).size = (#[Value.int .i64 t2, .string s2, .bool c2, v2] : Array Value).size := rfl
theorem lecO (t : Int) (s : ByteArray) (c : Bool) (a : Option Addr) (n m : Nat) : (#[Value.int .i64 t, .string s, .bool c, .slice a n m] : Array Value).all (·.oneCell') = true := by simp [Value.oneCell']
set_option maxRecDepth 100000 in
theorem cloneEntry_any (x : LE) (ma : Option Addr) (mc : Nat) (w : World) (h : IA w ma x.mem) (hl : x.mem.length ≤ 17592186044416) :
    Calls Tryz.prog 64 #[.agg #[.int .i64 x.term, .string ⟨x.s.toArray⟩, .bool x.conf, .slice ma x.mem.length mc]] w fun e w' => ∃ a c, e = .returned (.agg #[.int .i64 x.term, .string ⟨x.s.toArray⟩, .bool x.conf, .slice a x.mem.length c]) ∧ IF (NewB w w') w' a x.mem ∧ Below w.heap.size w w' := by
  have HC := fun w1 (hB : Below w.heap.size w w1) => sclF ma x.mem mc w1 (h.below hB) hl
  have hB0 := fun o1 o2 => ((Below.refl w.heap.size w).alloc (Nat.le_refl _) o1).alloc (by simp) o2
  go_enter Tryz.func64, Tryz.ntmps64
  go_wp2_with (first
    | (go_at_call 61; refine (HC _ (hB0 _ _)).mono ?_; rintro e w1 ⟨y, c, rfl, hI, hw1⟩
       have hbx := ((Blk.new w _ _).alloc _).belowSize hw1
       have hbr := (Blk.new (w.alloc (.cells #[.int .i64 x.term, .string ⟨x.s.toArray⟩, .bool x.conf, .slice ma x.mem.length mc] 29)) #[.int .i64 0, .string ⟨#[]⟩, .bool false, .slice none 0 0] 29).belowSize hw1
       rw [World.size_alloc] at hbr
       have hbr2 := hbr.setCell_other ⟨w.heap.size, 3, none⟩ (Nat.succ_ne_self _) (.slice y x.mem.length c)
       have d0 := hbx.cell 0
       have d1 := hbx.cell 1
       have d2 := hbx.cell 2
       have d3 := hbx.cell 3
       have f3 := hbx.frozen 3)
    | (with_reducible refine at_list ?_; refine wpList_storeRow (op := ⟨none, .store 29 (.tmp 2) (.tmp 7), _, _, _, _⟩) rfl _ _ _ rfl (w.heap.size + 1) #[.int .i64 x.term, .string ⟨x.s.toArray⟩, .bool x.conf, .slice y x.mem.length c] rfl rfl _ _ hbr2 (lecS ..) (lecI x _) (lecO ..) ?_; intro w3 hg3 hs3 h4b))
  have hb1 := bl_ca (hB0 _ _) hw1
  have hb2 := bl_st hb1 (Nat.le_refl _) 3 (.slice y x.mem.length c)
  have hw3 := bl_gr hb2 hg3 (Nat.le_succ _)
  refine bodyPost_ret (v := .agg _) ?_ rfl ⟨y, c, rfl, ?_, hw3⟩
  · exact results_cell_row rfl _ _ (w.heap.size + 1) _ _ _ _ rfl h4b.out Tryz.underlying29 rfl (lecI x _)
  · refine hI.kept (fun k hk => ?_) (fun k hk => ?_)
    · have h1 := hk.1
      simp only [World.size_alloc] at h1
      rw [hg3.block k (by simpa using hk.2) (fun e => by have := Option.some.inj e; omega)]
      exact Below.heap_setCell _ _ _ _ (by show k ≠ w.heap.size; omega)
    · have h1 := hk.1
      have h2 := hk.2
      simp only [World.size_alloc] at h1
      exact ⟨by omega, Nat.lt_of_lt_of_le h2 (by rw [hs3]; simp)⟩
end Go.Proofs.YtnhlejdilldfaaaGreat
