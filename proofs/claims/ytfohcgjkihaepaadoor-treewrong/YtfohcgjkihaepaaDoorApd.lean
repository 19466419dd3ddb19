/- Appending many texts to a slice of texts. -/
import Derived.Test.YtfohcgjkihaepaaDoorRtr
namespace Go.Proofs.YtfohcgjkihaepaaDoor.Sh
open Go Go.RowKit
theorem heap_setCells {b : Nat} {t : TypeId} {fr : Nat × Nat} : ∀ (vs : List Value) (o : Nat) {w : World} {c : Array Value}, w.heap[b]? = some (.cells c t fr) → (w.setCells b o vs).heap[b]? = some (.cells (spl c o vs) t fr)
  | [], _, _, _, h => h
  | v :: vs, o, w, c, h => by
    have h1 : (w.setCell ⟨b, o, none⟩ v).heap[b]? = some (.cells (c.setIfInBounds o v) t fr) := by
      simp [World.setCell, Array.getElem?_modify, h]
    exact heap_setCells vs (o + 1) h1
section
variable {P : Program} {ops : Array Oper} {rest : List Oper} {op : Oper} {a : Act} {w : World} {K : Act → World → Prop} {Q : Exit → Act → World → Prop} {E : Prop}
theorem src_xa {t e : TypeId} (hu : P.underlying t = some (.slice e)) (x : Option Addr) (m : List (List UInt8)) (c : Nat) (h : XA w x m) : Src P 1 t (.slice x m.length c) m.length (m.map sv) w := by
  have hone : ∀ u ∈ m.map sv, u.oneCell' = true := fun u hu => by
    obtain ⟨y, _, rfl⟩ := List.mem_map.1 hu
    rfl
  cases x with
  | none =>
    cases m with
    | nil => exact Src.ofNil w hu c
    | cons y ys =>
      obtain ⟨g, o, ha⟩ := h.ex (by simp)
      cases ha
  | some ad =>
    refine Src.ofSlice w hu ad m.length c (m.map sv) (by simp) (fun j u hj => ?_) hone
    have hjm : j < m.length := by have := (List.getElem?_eq_some_iff.1 hj).1; simpa using this
    obtain ⟨g, o, ha, hc⟩ := h j hjm
    have ha := Option.some.inj ha
    subst ha
    rw [Addr.add_mid, hc]
    rw [List.getElem?_map, List.getElem?_eq_getElem hjm] at hj
    exact hj
/-- append's run of many texts, whether there is room or not. -/
theorem run_appendSM (t ty : TypeId) (g cap : Nat) (l : List (List UInt8)) (hbs : SS w g cap l) (x : Value) (m : List (List UInt8)) (i : TypeInfo) (hsrc : Src P i.size t x m.length (m.map sv) w)
    (hu : P.underlying t = some (.slice 9)) (hi : P.info? 9 = some i) (hz : i.zero = some (.string ⟨#[]⟩)) (hs : i.size = 1) (hby : i.bytes = 16) (hlen : l.length + m.length ≤ 1000000) :
    ∃ (w1 : World) (g1 cap1 : Nat), (Builtin.append_ #[t, t] ty #[.slice (some ⟨g, 0, none⟩) l.length cap, x]).run P w = .ok (.slice (some ⟨g1, 0, none⟩) (l.length + m.length) cap1) w1 ∧
      (g1 = g ∨ w.heap.size ≤ g1) ∧ w.grownBy w1 (some g) ∧ SS w1 g1 cap1 (l ++ m) := by
  obtain ⟨cur, fr, h1, h2, h3, h4, h5⟩ := hbs.out
  have hlt := hbs.lt
  by_cases hroom : l.length + m.length ≤ cap
  · have hr := run_append_room_src (P := P) w t t ty 9 i hu hi g 0 l.length cap _ m.length _ hsrc hroom
      (fun j hj => by
        rw [hs, Nat.mul_one, Nat.zero_add]
        simp only [World.cell?, h1]
        rw [Array.getElem?_eq_getElem (by simp at hj; omega)]; rfl)
      (fun j hj => by
        rw [hs, Nat.mul_one, Nat.zero_add]
        simp only [World.frozen?, h1]
        simp at hj
        rcases h4 with h4 | h4
        · rw [h4]; simp
        · simp; intro h; omega)
    rw [hs, Nat.mul_one, Nat.zero_add] at hr
    refine ⟨_, g, cap, hr, .inl rfl, grown_setCells _ _ _ _, ?_⟩
    have hset : (w.setCells g l.length (m.map sv)).heap[g]? = some (.cells (spl cur l.length (m.map sv)) 9 fr) := heap_setCells (m.map sv) l.length h1
    refine ⟨_, fr, hset, by simp; omega, by rw [spl_size]; exact h3, by rw [spl_size]; exact h4, ?_⟩
    intro j hj
    have hj' : j < l.length + m.length := by simpa using hj
    rw [spl_get _ _ _ _ (by simp; omega)]
    by_cases hjl : j < l.length
    · rw [if_neg (by simp; omega), h5 j hjl, List.getD_eq_getElem?_getD, List.getD_eq_getElem?_getD, List.getElem?_append_left hjl]
    · rw [if_pos (by simp; omega), svCells_get _ _ (by omega), List.getD_eq_getElem?_getD, List.getD_eq_getElem?_getD, List.getElem?_append_right (by omega)]
  · have hold : (Builtin.firstCells i.size l.length (.slice (some ⟨g, 0, none⟩) l.length cap)).run P w.drew = .ok (l.map sv).toArray w.drew :=
      run_firstCells_some w.drew i.size l.length ⟨g, 0, none⟩ l.length cap _ (by simp [hs]) (fun j u hj => by
        have hjn : j < l.length := by have := (List.getElem?_eq_some_iff.1 hj).1; simpa using this
        rw [svCells_get _ _ hjn] at hj
        rw [Addr.add_mid, Nat.zero_add, hbs.drew.cell j hjn]; exact hj)
    have hr := run_append_grow_src (P := P) w t t ty 9 i _ hu hi hz (some ⟨g, 0, none⟩) l.length cap _ hold _ m.length _ hsrc (by omega) (by omega) (growslice_fits (by omega) (by rw [hby]; omega))
    have hge : l.length + m.length ≤ grownCap w (l.length + m.length) cap 9 := grownCap_ge w _ _ _
    refine ⟨_, w.heap.size, _, hr, .inr (Nat.le_refl _), ?_, ?_⟩
    · exact grown_of_below ((Below.refl w.heap.size w).drew.alloc (Nat.le_refl _) _)
    · refine ⟨_, (0, 0), heap_alloc_last w.drew _, by simp; exact hge, ?_, .inl rfl, ?_⟩
      · simp [size_zeroCells, Value.cells]; omega
      · intro j hj
        have hj' : j < l.length + m.length := by simpa using hj
        rw [Array.getElem?_append_left (by simp; omega)]
        simp only [List.getElem?_toArray]
        rw [show (l.map sv ++ m.map sv) = (l ++ m).map sv from by simp, svCells_get _ _ hj]
theorem wpList_appendSM (hgd : op.guard = none) (x y : Operand) (t : TypeId) (ho : op.op = .call { callee := .builtin .append, args := #[x, y], argTypes := #[t, t] })
    (g cap : Nat) (l : List (List UInt8)) (len : Nat) (hl : len = l.length) (hx : a.eval x = .slice (some ⟨g, 0, none⟩) len cap) (hbs : SS w g cap l) (a2 : Option Addr) (c : Nat) (m : List (List UInt8)) (hy : a.eval y = .slice a2 m.length c) (hm : XA w a2 m) (i : TypeInfo)
    (hu : P.underlying t = some (.slice 9)) (hi : P.info? 9 = some i) (hz : i.zero = some (.string ⟨#[]⟩)) (hs : i.size = 1) (hby : i.bytes = 16) (hlen : l.length + m.length ≤ 1000000)
    (h : ∀ (w1 : World) (g1 cap1 : Nat), (g1 = g ∨ w.heap.size ≤ g1) → w.grownBy w1 (some g) → SS w1 g1 cap1 (l ++ m) → wpList P ops Q rest (a.put op.dst (.slice (some ⟨g1, 0, none⟩) (len + m.length) cap1)) w1) :
    wpList P ops Q (op :: rest) a w := by
  subst hl
  obtain ⟨w1, g1, cap1, hr, hg1, hg, hb⟩ := run_appendSM (P := P) t op.type g cap l hbs _ m i (by rw [hs]; exact src_xa hu a2 m c hm) hu hi hz hs hby hlen
  refine wpList_run hgd _ _ ?_ (h w1 g1 cap1 hg1 hg hb)
  unfold execOp
  simp only [ho]
  simp [resolve, invoke, builtin, hx, hy, hr, Result.andThen]
theorem step_appSM (hgd : op.guard = none) (x y : Operand) (t : TypeId) (hop : op.op = .call { callee := .builtin .append, args := #[x, y], argTypes := #[t, t] })
    (g cap : Nat) (l : List (List UInt8)) (len : Nat) (hl : len = l.length) (hx : a.eval x = .slice (some ⟨g, 0, none⟩) len cap) (hbs : SS w g cap l) (a2 : Option Addr) (c : Nat) (m : List (List UInt8)) (lm : Nat) (hlm : lm = m.length) (hy : a.eval y = .slice a2 lm c) (hm : XA w a2 m) (i : TypeInfo)
    (hu : P.underlying t = some (.slice 9)) (hi : P.info? 9 = some i) (hz : i.zero = some (.string ⟨#[]⟩)) (hs : i.size = 1) (hby : i.bytes = 16) (hlen : l.length + m.length ≤ 1000000)
    (h : ∀ (w1 : World) (g1 cap1 : Nat), (g1 = g ∨ w.heap.size ≤ g1) → w.grownBy w1 (some g) → SS w1 g1 cap1 (l ++ m) → K (a.put op.dst (.slice (some ⟨g1, 0, none⟩) (len + lm) cap1)) w1) :
    if Region.wanted op (yielded ops a.tmps) = true then Oper.wp P op a w K Q else E := by
  subst hl
  subst hlm
  have hw : Region.wanted op (yielded ops a.tmps) = true := by simp [Region.wanted, hgd]
  rw [if_pos hw]
  obtain ⟨w1, g1, cap1, hr, hg1, hg, hb⟩ := run_appendSM (P := P) t op.type g cap l hbs _ m i (by rw [hs]; exact src_xa hu a2 m c hm) hu hi hz hs hby hlen
  unfold Oper.wp
  simp [execOp, hop, resolve, invoke, builtin, hx, hy, hr, Result.andThen]
  exact h w1 g1 cap1 hg1 hg hb
end
end Go.Proofs.YtfohcgjkihaepaaDoor.Sh
