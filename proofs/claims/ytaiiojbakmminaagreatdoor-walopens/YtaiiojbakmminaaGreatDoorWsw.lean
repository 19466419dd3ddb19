/- Variables of one cell that are boxed, and slices of functions. What sweep of a log does. -/
import Derived.Test.YtaiiojbakmminaaGreatDoorWpm
namespace Go.Proofs.YtaiiojbakmminaaGreatDoor
open Go Go.RowKit
section
variable {P : Program} {ops : Array Oper} {rest : List Oper} {op : Oper} {a : Act} {w : World} {Q : Exit → Act → World → Prop}
theorem wpList_box1 (hgd : op.guard = none) (ty : TypeId) (x : Operand) (ho : op.op = .box ty x) (v : Value) (hx : a.eval x = v) (hv : v.cells = #[v])
    (h : ∀ w1 : World, Below w.heap.size w w1 → Blk w1 w.heap.size #[v] ty → wpList P ops Q rest (a.put op.dst (.pointer (some ⟨w.heap.size, 0, none⟩))) w1) :
    wpList P ops Q (op :: rest) a w := by
  refine wpList_run hgd (.pointer (some ⟨w.heap.size, 0, none⟩)) (w.alloc (.cells #[v] ty)) ?_ (h _ ((Below.refl _ _).alloc (Nat.le_refl _) _) (Blk.new _ _ _))
  unfold execOp
  simp only [ho, hx, Instr.box, newVar, hv]
  rfl
theorem wpList_alloc1 (hgd : op.guard = none) (ty : TypeId) (ho : op.op = .alloc ty) (v : Value) (hz : ∀ w, (zeroValue ty).run P w = .ok v w) (hv : v.cells = #[v])
    (h : ∀ w1 : World, Below w.heap.size w w1 → Blk w1 w.heap.size #[v] ty → wpList P ops Q rest (a.put op.dst (.pointer (some ⟨w.heap.size, 0, none⟩))) w1) :
    wpList P ops Q (op :: rest) a w := by
  refine wpList_run hgd (.pointer (some ⟨w.heap.size, 0, none⟩)) (w.alloc (.cells #[v] ty)) ?_ (h _ ((Below.refl _ _).alloc (Nat.le_refl _) _) (Blk.new _ _ _))
  unfold execOp
  simp only [ho, Instr.alloc, Sem.run_bind, hz, Result.andThen_ok, newVar, hv]
  rfl
end
abbrev TF : TypeId := 53
abbrev TFS : TypeId := 97
theorem infoFn : ∃ i, Tryz.prog.info? TF = some i ∧ i.zero = some .nilFunc ∧ i.size = 1 ∧ i.bytes ≤ 256 := by
  have h : (Tryz.prog.info? TF).map (fun i => (i.zero, i.size, decide (i.bytes ≤ 256))) = some (some .nilFunc, 1, true) := by kernel_rfl
  cases hq : Tryz.prog.info? TF with
  | none => rw [hq] at h; cases h
  | some i => rw [hq] at h; simp at h; exact ⟨i, rfl, h.1, h.2.1, h.2.2⟩
theorem iFn : (Tryz.prog.info? TF).map (·.size) = some 1 := by kernel_rfl
/-- A slice of functions that the call has made. -/
def FNL (w : World) (lo : Nat) (sl : Value) (l : List Value) : Prop := GL w TF 1 lo sl (l.map fun f => [f])
theorem FNL.below {w w' : World} {lo : Nat} {sl : Value} {l : List Value} (h : FNL w lo sl l) (hb : Below w.heap.size w w') : FNL w' lo sl l := GL.below h hb
theorem FNL.grow {w w' : World} {lo : Nat} {sl : Value} {l : List Value} (h : FNL w lo sl l) (hg : w.grownBy w' (slBlk sl)) (hlo : lo ≤ w.heap.size) : Below lo w w' := ⟨hg.os, hg.tape, hg.output, hg.size, fun k hk => hg.block k (by omega) (fun e => by have := (GL.lt h k e.symm).1; omega)⟩
theorem FNL.other {w w' : World} {lo i : Nat} {sl : Value} {l : List Value} {c : Array Value} {t : TypeId} (h : FNL w lo sl l) (hg : w.grownBy w' (some i)) (hb : Blk w i c t) (ht : t ≠ TF) : FNL w' lo sl l := GL.grown h hg (GL.ne h hb (.inl ht))
theorem FNL.at {w : World} {lo : Nat} {a : Option Addr} {n cap : Nat} {l : List Value} (h : FNL w lo (.slice a n cap) l) (i : Nat) (x : Value) (hx : l[i]? = some x) : ∃ g, a = some ⟨g, 0, none⟩ ∧ g < w.heap.size ∧ lo ≤ g ∧ w.cell? ⟨g, i, none⟩ = some x := by
  obtain ⟨a', cap', e, h1⟩ := GL.sl h
  simp only [Value.slice.injEq] at e
  obtain ⟨rfl, _, rfl⟩ := e
  obtain ⟨hi, rfl⟩ := List.getElem?_eq_some_iff.1 hx
  obtain ⟨g, ha, h2⟩ := h1 i (by simpa using hi)
  have h3 := GL.lt h g (by rw [ha]; rfl)
  refine ⟨g, ha, h3.2, h3.1, ?_⟩
  have := h2 0 l[i] (by simp)
  simpa using this
theorem FNL.sl {w : World} {lo : Nat} {sl : Value} {l : List Value} (h : FNL w lo sl l) : ∃ a cap, sl = .slice a l.length cap := by
  obtain ⟨a, cap, e, _⟩ := GL.sl h
  exact ⟨a, cap, by rw [e, List.length_map]⟩
theorem fsl1 (f : Fn) (x y : Array Value) (w : World) : (Instr.buildSlice TFS 1 #[(0, .func f x y)]).run Tryz.prog w = .ok (.slice (some ⟨w.heap.size, 0, none⟩) 1 1) (w.alloc (.cells #[.func f x y] TF)) := by
  simp [Instr.buildSlice, run_underlying Tryz.underlying97, sizeOf_run iFn, Sem.run_bind, Instr.fill, newRow, Value.cells, krange1]
section
variable {ops : Array Oper} {rest : List Oper} {op : Oper} {a : Act} {w : World} {Q : Exit → Act → World → Prop}
theorem wpList_fsl1 (hgd : op.guard = none) (x : Operand) (ho : op.op = .buildSlice TFS 1 #[(0, x)]) (f : Fn) (x1 y1 : Array Value) (hx : a.eval x = .func f x1 y1)
    (h : ∀ w1 : World, Below w.heap.size w w1 → Blk w1 w.heap.size #[.func f x1 y1] TF → wpList Tryz.prog ops Q rest (a.put op.dst (.slice (some ⟨w.heap.size, 0, none⟩) 1 1)) w1) : wpList Tryz.prog ops Q (op :: rest) a w := by
  have e : (#[(0, x)] : Array (Nat × Operand)).map (fun (i, x) => (i, a.eval x)) = #[(0, .func f x1 y1)] := by simp [hx]
  refine wpList_run hgd _ _ ?_ (h _ ((Below.refl _ _).alloc (Nat.le_refl _) _) (Blk.new _ _ _))
  unfold execOp
  simp only [ho, Sem.run_bind, e, fsl1 f x1 y1, Result.andThen_ok]
  rfl
theorem wpList_appF (hgd : op.guard = none) (x y : Operand) (ho : op.op = .call { callee := .builtin .append, args := #[x, y], argTypes := #[TFS, TFS] })
    (lo : Nat) (sl : Value) (l : List Value) (hlo : lo ≤ w.heap.size) (hx : a.eval x = sl) (hsl : FNL w lo sl l) (g2 : Nat) (hy : a.eval y = .slice (some ⟨g2, 0, none⟩) 1 1) (v : Value) (hv : v.oneCell' = true) (hb2 : Blk w g2 #[v] TF) (hlen : l.length ≤ 1000000)
    (h : ∀ (w1 : World) (sl1 : Value), w.grownBy w1 (slBlk sl) → FNL w1 lo sl1 (l ++ [v]) → wpList Tryz.prog ops Q rest (a.put op.dst sl1) w1) : wpList Tryz.prog ops Q (op :: rest) a w := by
  obtain ⟨i, hi, hz, hs, hby⟩ := infoFn
  refine wpList_appendGL hgd x y TFS TF ho 1 lo sl _ hlo hx hsl g2 1 hy [v] rfl (fun u hu => by rw [List.mem_singleton.1 hu]; exact hv) TF hb2 i _ rfl Tryz.underlying97 hi hz hs hby (by simpa using hlen) (fun w1 sl1 h1 h2 => h w1 sl1 h1 ?_)
  unfold FNL
  rw [List.map_append]
  exact h2
end
/-- The step of sweep that takes a file away; the step that syncs. -/
def swF (bl bn : Nat) : Value := .func (.func 77) #[] #[.pointer (some ⟨bl, 0, none⟩), .pointer (some ⟨bn, 0, none⟩)]
def syF (p : Nat) : Value := .func (.func 27) #[.pointer (some ⟨p, 0, none⟩)] #[]
theorem sw_stp (bl bn : Nat) : Stp Tryz.prog (swF bl bn) 77 #[.pointer (some ⟨bl, 0, none⟩), .pointer (some ⟨bn, 0, none⟩)] := ⟨fn1_of Tryz.func77 (by kernel_rfl) (by kernel_rfl), #[], _, rfl, by simp⟩
theorem sy_stp (p : Nat) : Stp Tryz.prog (syF p) 27 #[.pointer (some ⟨p, 0, none⟩)] := ⟨fn1_of Tryz.func27 (by kernel_rfl) (by kernel_rfl), _, #[], rfl, by simp⟩
/-- Sync as a step. -/
theorem syncS (q p : Nat) (b rb : Option Nat) (L : LG) (m : DN) (w : World) (hK : WK w q p b rb L m) (hG : Gw w) (hm : Okn m) : Calls Tryz.prog 27 #[.pointer (some ⟨p, 0, none⟩)] w (StP w q p b rb L (synN m)) := by
  obtain ⟨rv, _, _, hD⟩ := hK.out
  refine (syncN p b m w hD hm).mono ?_
  rintro e w' ⟨h1, b', h2, h3⟩
  exact ⟨h1, b', Wch.chg h2, hK.disk hG.two h2 h3⟩
end Go.Proofs.YtaiiojbakmminaaGreatDoor
namespace Go.Proofs.YtaiiojbakmminaaGreatDoor
open Go Go.RowKit
/-- The boxes of the names that go. -/
structure Bxs (w : World) (lo : Nat) (bns : List Nat) (xs : List B) : Prop where
  len : bns.length = xs.length
  box : ∀ (j : Nat) (x : B), xs[j]? = some x → ∃ bn, bns[j]? = some bn ∧ lo ≤ bn ∧ Blk w bn #[.string ⟨x.toArray⟩] 9
theorem Bxs.below {w w' : World} {lo : Nat} {bns : List Nat} {xs : List B} (h : Bxs w lo bns xs) (hb : Below w.heap.size w w') : Bxs w' lo bns xs := ⟨h.len, fun j x hx => by
  obtain ⟨bn, h1, h2, h3⟩ := h.box j x hx
  exact ⟨bn, h1, h2, h3.belowSize hb⟩⟩
theorem FNL.weak {w : World} {lo lo' : Nat} {sl : Value} {l : List Value} (h : FNL w lo sl l) (hl : lo' ≤ lo) : FNL w lo' sl l := ⟨h.1, by
  rcases h.2 with h2 | ⟨g, cap, h1, h3⟩
  · exact .inl h2
  · exact .inr ⟨g, cap, Nat.le_trans hl h1, h3⟩⟩
theorem Bxs.grown {w w' : World} {lo lo' : Nat} {bns : List Nat} {xs : List B} {sl : Value} {l : List Value} (h : Bxs w lo bns xs) (hg : w.grownBy w' (slBlk sl)) (hF : FNL w lo' sl l) : Bxs w' lo bns xs := ⟨h.len, fun j x hx => by
  obtain ⟨bn, h1, h2, h3⟩ := h.box j x hx
  exact ⟨bn, h1, h2, h3.grown hg (fun e => GL.ne hF h3 (.inl (by decide)) bn e.symm rfl)⟩⟩
theorem Bxs.snoc {w : World} {lo bn : Nat} {bns : List Nat} {xs : List B} {x : B} (h : Bxs w lo bns xs) (hb : Blk w bn #[.string ⟨x.toArray⟩] 9) (hl : lo ≤ bn) : Bxs w lo (bns ++ [bn]) (xs ++ [x]) := ⟨by simp [h.len], fun j y hy => by
  by_cases hj : j < xs.length
  · rw [List.getElem?_append_left hj] at hy
    rw [List.getElem?_append_left (by rw [h.len]; exact hj)]
    exact h.box j y hy
  · rw [List.getElem?_append_right (by omega)] at hy
    have hj2 : j - xs.length = 0 := by
      have := (List.getElem?_eq_some_iff.1 hy).1
      simpa using this
    rw [hj2] at hy
    simp at hy
    subst hy
    refine ⟨bn, ?_, hl, hb⟩
    rw [List.getElem?_append_right (by rw [h.len]; omega), h.len, hj2]
    rfl⟩
/-- The steps of a sweep, in turn. -/
theorem sweep_turn (q p bl lo : Nat) (b rb : Option Nat) (L : LG) (m : DN) (xs : List B) (bns : List Nat) (a : Option Addr) (n cap : Nat) (w : World) (hK : WK w q p b rb L m) (hG : Gw w) (hm : Okn m)
    (hx : ∀ x ∈ xs, okN x = true ∧ x.length ≤ 32 ∧ (atL x m.l).isSome = true) (hnd : xs.Pairwise (· < ·)) (hch : m.ch + xs.length ≤ 990000) (hln : m.l.length + xs.length ≤ 990000) (hbl : Blk w bl #[.pointer (some ⟨q, 0, none⟩)] 25) (hB : Bxs w lo bns xs) (hlo : ∀ k, rb = some k → k < lo)
    (hF : FNL w lo (.slice a n cap) (bns.map (swF bl) ++ [syF p])) (hn : n = xs.length + 1) :
    Calls Tryz.prog 37 #[.slice a n cap] w (StP w q p b rb L (if (swpN m xs).2 = 0 then synN (swpN m xs).1 else swpN m xs)) := by
  have hno : ∀ k, rb = some k → k < w.heap.size := hK.rlt
  have hbox : ∀ (i : Nat) (x : B) (bn : Nat), xs[i]? = some x → bns[i]? = some bn → Blk w bn #[.string ⟨x.toArray⟩] 9 ∧ some bn ≠ rb := fun i x bn h1 h2 => by
    obtain ⟨bn', h3, h4, h5⟩ := hB.box i x h1
    rw [h2] at h3
    cases h3
    exact ⟨h5, fun e => by have := hlo bn e.symm; omega⟩
  have hfl : ∀ i v, (bns.map (swF bl) ++ [syF p])[i]? = some v → ∃ g, a = some ⟨g, 0, none⟩ ∧ ∃ cur fr, w.heap[g]? = some (.cells cur TF fr) ∧ cur[i]? = some v := fun i v hv => by
    obtain ⟨g, h1, h2, h3, h4⟩ := hF.at i v hv
    refine ⟨g, h1, ?_⟩
    rcases hF.2 with ⟨h5, _⟩ | ⟨g', cap', h5, h6, h7⟩
    · simp at h5
    · rw [h1] at h6
      simp only [Value.slice.injEq, Option.some.injEq, Addr.mk.injEq] at h6
      obtain ⟨⟨rfl, _⟩, _⟩ := h6
      obtain ⟨cur, h8, _⟩ := h7.out
      refine ⟨cur, _, h8, ?_⟩
      simpa [World.cell?, h8] using h4
  refine (inTurn_rule a n cap (fun i => ((bns.map (swF bl) ++ [syF p])[i]?).getD .nilFunc)
    (fun i w' => (i ≤ xs.length → (swpN m (xs.take i)).2 = 0 ∧ ∃ b', Wch w w' q p b rb b' rb ∧ WK w' q p b' rb L (swpN m (xs.take i)).1) ∧ (i = xs.length + 1 → (swpN m xs).2 = 0 ∧ (synN (swpN m xs).1).2 = 0 ∧ ∃ b', Wch w w' q p b rb b' rb ∧ WK w' q p b' rb L (synN (swpN m xs).1).1) ∧ ∃ b', Wch w w' q p b rb b' rb)
    (fun c w' => c = (if (swpN m xs).2 = 0 then synN (swpN m xs).1 else swpN m xs).2 ∧ ∃ b', Wch w w' q p b rb b' rb ∧ WK w' q p b' rb L (if (swpN m xs).2 = 0 then synN (swpN m xs).1 else swpN m xs).1) w (by omega) ?_ ?_ ?_ ?_).mono ?_
  · rintro i w' ⟨_, _, b', hW⟩ hi
    have hlen : (bns.map (swF bl) ++ [syF p]).length = n := by simp [hB.len, hn]
    obtain ⟨v, hv⟩ : ∃ v, (bns.map (swF bl) ++ [syF p])[i]? = some v := ⟨_, List.getElem?_eq_getElem (by omega)⟩
    obtain ⟨g, h1, cur, fr, h2, h3⟩ := hfl i v hv
    refine ⟨g, 0, h1, ?_⟩
    have h4 := hW.raw hK h2 (by decide) (by decide) (by decide) (.inl (by decide))
    rw [hv, Nat.zero_add]
    simpa [World.cell?, h4] using h3
  · rintro i w' ⟨h1, _, _⟩ hi
    obtain ⟨h0, b', hW, hK'⟩ := h1 (by omega)
    by_cases hix : i < xs.length
    · obtain ⟨x, hxi⟩ : ∃ x, xs[i]? = some x := ⟨_, List.getElem?_eq_getElem hix⟩
      obtain ⟨bn, hbn⟩ : ∃ bn, bns[i]? = some bn := ⟨_, List.getElem?_eq_getElem (by rw [hB.len]; exact hix)⟩
      obtain ⟨hbx, hbr⟩ := hbox i x bn hxi hbn
      have hxm := List.mem_of_getElem? hxi
      obtain ⟨k1, k2, k3, k4⟩ := swp_take hm (fun y hy => (hx y hy).1) hch hln i (by omega) h0
      have hni : x ∉ xs.take i := fun e => by
        have h5 : xs = xs.take i ++ x :: xs.drop (i + 1) := by
          obtain ⟨hi2, rfl⟩ := List.getElem?_eq_some_iff.1 hxi
          rw [List.getElem_cons_drop, List.take_append_drop]
        rw [h5] at hnd
        have := (List.pairwise_append.1 hnd).2.2 x e x (List.mem_cons_self ..)
        exact lt_irr x this
      refine ⟨77, #[.pointer (some ⟨bl, 0, none⟩), .pointer (some ⟨bn, 0, none⟩)], ?_, ?_⟩
      · have e : (bns.map (swF bl) ++ [syF p])[i]? = some (swF bl bn) := by
          rw [List.getElem?_append_left (by rw [List.length_map, hB.len]; exact hix), List.getElem?_map, hbn]
          rfl
        rw [e]
        exact sw_stp bl bn
      · refine (sweep1_any q p bl bn b' rb L (swpN m (xs.take i)).1 x w' hK' (hW.gw hK hG) k1 (hx x hxm).1 (by have := (hx x hxm).2.1; omega) (by rw [k4 x, if_neg hni]; exact (hx x hxm).2.2) (hW.blk hK hbl (by decide) (by decide) (by decide) (.inl (by decide))) (hW.blk hK hbx (by decide) (by decide) (by decide) (.inr hbr)) hbr).mono ?_
        rintro e w2 ⟨rfl, b2, hW2, hK2⟩
        have e1 : xs.take (i + 1) = xs.take i ++ [x] := by
          obtain ⟨hi2, rfl⟩ := List.getElem?_eq_some_iff.1 hxi
          exact List.take_succ_eq_append_getElem hi2
        have e2 : swpN m (xs.take (i + 1)) = remN (swpN m (xs.take i)).1 x := by rw [e1, swp_app, if_pos h0, swp_one]
        refine ⟨_, rfl, fun hc => ⟨fun _ => ⟨by rw [e2]; exact hc, b2, hW.trans hW2, by rw [e2]; exact hK2⟩, fun e => by omega, b2, hW.trans hW2⟩, fun hc => ?_⟩
        have e3 : swpN m xs = remN (swpN m (xs.take i)).1 x := by
          rw [← List.take_append_drop (i + 1) xs, swp_app, List.take_append_drop, e2, if_neg hc]
        rw [e3, if_neg hc]
        exact ⟨rfl, b2, hW.trans hW2, hK2⟩
    · have hie : i = xs.length := by omega
      subst hie
      rw [List.take_length] at h0 hK'
      have hk := swp_take hm (fun y hy => (hx y hy).1) hch hln xs.length (Nat.le_refl _) (by rw [List.take_length]; exact h0)
      rw [List.take_length] at hk
      refine ⟨27, #[.pointer (some ⟨p, 0, none⟩)], ?_, ?_⟩
      · have e : (bns.map (swF bl) ++ [syF p])[xs.length]? = some (syF p) := by
          rw [List.getElem?_append_right (by rw [List.length_map, hB.len]; exact Nat.le_refl _), List.length_map, hB.len, Nat.sub_self]
          rfl
        rw [e]
        exact sy_stp p
      · refine (syncS q p b' rb L (swpN m xs).1 w' hK' (hW.gw hK hG) hk.1).mono ?_
        rintro e w2 ⟨rfl, b2, hW2, hK2⟩
        refine ⟨_, rfl, fun hc => ⟨fun e => by omega, fun _ => ⟨h0, hc, b2, hW.trans hW2, hK2⟩, b2, hW.trans hW2⟩, fun hc => ?_⟩
        rw [if_pos h0]
        exact ⟨rfl, b2, hW.trans hW2, hK2⟩
  · rintro w' ⟨_, h2, _⟩
    obtain ⟨h3, h4, b', h5, h6⟩ := h2 hn
    rw [if_pos h3]
    exact ⟨h4.symm, b', h5, h6⟩
  · exact ⟨fun _ => ⟨by simp [swpN], b, Wch.refl _ _ _ _ _, by simpa [swpN] using hK⟩, fun e => by omega, b, Wch.refl _ _ _ _ _⟩
  · rintro e w' ⟨c, rfl, rfl, h⟩
    exact ⟨rfl, h⟩
theorem sw_blk {w : World} {i bl bn : Nat} (h : Blk w i #[.func (.func 77) #[] #[.pointer (some ⟨bl, 0, none⟩), .pointer (some ⟨bn, 0, none⟩)]] TF) : Blk w i #[swF bl bn] TF := h
theorem sy_blk {w : World} {i p : Nat} (h : Blk w i #[.func (.func 27) #[.pointer (some ⟨p, 0, none⟩)] #[]] TF) : Blk w i #[syF p] TF := h
theorem sw_one (bl bn : Nat) : (swF bl bn).oneCell' = true := rfl
theorem sy_one (p : Nat) : (syF p).oneCell' = true := rfl
theorem app_sl {w : World} {lo n : Nat} {v z : Value} {l : List Value} (hl : l.length = n) (h : FNL w lo v (l ++ [z])) : ∃ a c, v = .slice a (n + 1) c := by
  obtain ⟨a, c, e⟩ := h.sl
  exact ⟨a, c, by rw [e, List.length_append, hl]; rfl⟩
theorem fne {w : World} {lo i : Nat} {sl v : Value} {l : List Value} (hF : FNL w lo sl l) (hb : Blk w i #[v] 25) : some i ≠ slBlk sl := fun e => GL.ne hF hb (.inl (by decide)) i e.symm rfl
theorem zStr1 : ∀ w, (zeroValue 9).run Tryz.prog w = .ok (.string ⟨#[]⟩) w := Tryz.zeroValue9
theorem filt_take {ns : List B} {i : Nat} {x : B} {f : B → Bool} (h : ns[i]? = some x) : (ns.take (i + 1)).filter f = (ns.take i).filter f ++ (if f x = true then [x] else []) := by
  obtain ⟨hi, rfl⟩ := List.getElem?_eq_some_iff.1 h
  rw [List.take_succ_eq_append_getElem hi, List.filter_append, List.filter_cons]
  rfl
/-- What is asked of a log and its disk. -/
structure Okw (L : LG) (m : DN) : Prop where
  g : L.g < 100
  n : m.l.length ≤ 1000
  c : m.ch ≤ 900000
  m : Okn m
set_option maxRecDepth 100000 in
set_option maxHeartbeats 2000000 in
theorem sweep_any (q p : Nat) (b rb : Option Nat) (L : LG) (m : DN) (w : World) (hK : WK w q p b rb L m) (hG : Gw w) (ho : Okw L m) :
    Calls Tryz.prog 44 #[.pointer (some ⟨q, 0, none⟩)] w (StP w q p b rb L (sweepN L.g m)) := by
  obtain ⟨rv, hL, hTR, hD⟩ := hK.out
  obtain ⟨v, hDK, _⟩ := hD.out
  have hml := ho.n
  have hmc := ho.c
  have hnl := names_len m.l
  have HNm := fun w1 (hB : Below w.heap.size w w1) => names_any p b (m.lo v) w1 (hDK.below hB) (by show m.l.length ≤ _; omega)
  change ∀ w1, Below w.heap.size w w1 → Calls Tryz.prog 29 #[.pointer (some ⟨p, 0, none⟩)] w1 (fun e w' => ∃ sl, e = .returned sl ∧ Below w1.heap.size w1 w' ∧ XL w' w1.heap.size sl (namesL m.l)) at HNm
  have HO := fun w1 x (hB : Below w.heap.size w w1) => isOther_any q p L rv x ho.g w1 (hL.belowSize hB)
  have hok : ∀ x ∈ namesL m.l, okN x = true ∧ x.length ≤ 32 ∧ (atL x m.l).isSome = true := fun x hx => by
    have h1 := (names_at ho.m.l.ris).1 hx
    have h2 : okN x = true := by
      obtain ⟨y, hy, rfl⟩ := List.mem_map.1 hx
      obtain ⟨f, hf, e, _⟩ := view_mem hy
      rw [← e]
      exact ho.m.l.ok f hf
    refine ⟨h2, ?_, h1⟩
    unfold okN at h2
    simp at h2
    exact h2.2
  have hris := names_ris ho.m.l.ris
  have hrlt := hK.rlt
  have HT0 : ∀ w3 a cap, Below w.heap.size w w3 → othL L.g m = [] → Calls Tryz.prog 37 #[.slice a 0 cap] w3 (StP w q p b rb L (sweepN L.g m)) := fun w3 a cap hB he => by
    refine (inTurn_rule a 0 cap (fun _ => .nilFunc) (fun _ w' => w' = w3) (fun c w' => c = 0 ∧ w' = w3) w3 (by omega) (fun i w' _ hi => by omega) (fun i w' _ hi => by omega) (fun w' h => ⟨rfl, h⟩) rfl).mono ?_
    rintro e w' ⟨c, rfl, rfl, rfl⟩
    unfold sweepN
    rw [if_pos he]
    exact ⟨rfl, b, Wch.below hB, hK.below hB⟩
  have HT1 : ∀ w3 a cap bns, Below w.heap.size w w3 → othL L.g m ≠ [] → Blk w3 w.heap.size #[.pointer (some ⟨q, 0, none⟩)] 25 → Bxs w3 w.heap.size bns (othL L.g m) → FNL w3 w.heap.size (.slice a ((othL L.g m).length + 1) cap) (bns.map (swF w.heap.size) ++ [syF p]) → Calls Tryz.prog 37 #[.slice a ((othL L.g m).length + 1) cap] w3 (StP w q p b rb L (sweepN L.g m)) := fun w3 a cap bns hB he hbl hbx hF => by
    have hsub : ∀ x ∈ othL L.g m, x ∈ namesL m.l := fun x hx => (List.mem_filter.1 hx).1
    have hol : (othL L.g m).length ≤ (namesL m.l).length := List.length_filter_le ..
    refine (sweep_turn q p w.heap.size w.heap.size b rb L m (othL L.g m) bns a _ cap w3 (hK.below hB) (hG.below hB) ho.m (fun x hx => hok x (hsub x hx)) (hris.filter _) (by omega) (by omega) hbl hbx hrlt hF rfl).mono ?_
    rintro e w' ⟨h1, b', h2, h3⟩
    unfold sweepN
    rw [if_neg he]
    exact ⟨h1, b', (Wch.below hB).trans h2, h3⟩
  have eoth : Hid (othL L.g m = (namesL m.l).filter (othK L.g)) := rfl
  generalize sweepN L.g m = rr at *
  generalize othL L.g m = oo at *
  have hnl2 : (namesL m.l).length ≤ 1000 := by omega
  generalize namesL m.l = ns at *
  clear hok hris hnl hTR hrlt
  go_enter Tryz.func44, Tryz.ntmps44
  go_wp2_with (first
    | (go_at_call 29; refine (HNm _ hw1).mono ?_; rintro e w2 ⟨sl2, rfl, hw2, hX2⟩; obtain ⟨a2, cp2, rfl⟩ := hX2.sl; have hTA2 := hX2.ta; have hbl2 := hbl1.belowSize hw2; have hB2 := hw1.trans (hw2.mono hw1.size))
    | (with_reducible refine at_list ?_; first
      | (refine wpList_box1 (op := ⟨some 1, _, _, _, _, _⟩) rfl _ _ rfl (.pointer (some ⟨q, 0, none⟩)) rfl rfl ?_; intro w1 hw1 hbl1; have hL1 := hL.belowSize hw1)
      | (refine wpList_loadCell (op := ⟨some 6, _, _, _, _, _⟩) rfl _ _ rfl w.heap.size 0 rfl _ _ hbl1 _ Tryz.underlying25 rfl _ rfl ?_)
      | (refine wpList_loadCell (op := ⟨some 9, _, _, _, _, _⟩) rfl _ _ rfl q 0 rfl _ _ hL1 _ Tryz.underlying23 rfl _ (lC_g0 _ _ _) ?_)))
  go_loopw [3, 5, 12] (fun v3 _ v12 wl => ∃ (i : Nat) (bns : List Nat), i ≤ ns.length ∧ v12 = .int .i64 i ∧ Below w2.heap.size w2 wl ∧ Bxs wl w.heap.size bns ((ns.take i).filter (othK L.g)) ∧ FNL wl w2.heap.size v3 (bns.map (swF w.heap.size))) (fun _ _ v12 _ => ns.length - (intOf v12).toNat)
  case atStart => exact ⟨0, [], by omega, rfl, Below.refl _ _, ⟨rfl, fun j x hx => by simp at hx⟩, GL.nil _ _ _ _⟩
  case round =>
    obtain ⟨i, bns, hil, rfl, hB, hBx, hF⟩ := hrel
    have hsz := hB.size
    have hBw := hB2.trans (hB.mono hB2.size)
    have hblr := hbl2.belowSize hB
    have hszw := hBw.size
    have hbl4 : bns.length ≤ 1000 := by
      rw [hBx.len]
      refine Nat.le_trans (List.length_filter_le ..) ?_
      rw [List.length_take]
      omega
    have hbl5 : (bns.map (swF w.heap.size)).length ≤ 1000000 := by rw [List.length_map]; omega
    by_cases hlt : i < ns.length
    · have hz2 : (i : Int) < (ns.length : Int) := by omega
      obtain ⟨x, hx⟩ : ∃ x, ns[i]? = some x := ⟨_, List.getElem?_eq_getElem hlt⟩
      obtain ⟨g, o, rfl, hgl, hc⟩ := hTA2.at i x hx
      have hc2 : wr.cell? ⟨g, o + i, none⟩ = some (.string ⟨x.toArray⟩) := (hB.cell (p := ⟨g, o + i, none⟩) hgl).trans hc
      have e3 : Hid _ := filt_take (f := othK L.g) hx
      clear hx hc
      generalize (ns.take i).filter (othK L.g) = U at *
      have HO2 := fun w1 (hB : Below w.heap.size w w1) => HO w1 x hB
      cases hoth : othK L.g x with
      | false =>
        rw [hoth] at HO2
        go_wp2_with (first
          | (go_at_call 76; refine (HO2 _ hB4).mono ?_; rintro e w' ⟨rfl, hw'⟩; have hw5 := hw'.symm; subst hw5; clear hw')
          | (with_reducible refine at_list ?_; first
            | (refine wpList_alloc1 (op := ⟨some 5, _, _, _, _, _⟩) rfl _ rfl _ zStr1 rfl ?_; intro w3 hw3 hb3; have hB3 := hBw.trans (hw3.mono hszw); have hbl3 := hblr.belowSize hw3)
            | (refine wpList_storeCell (op := ⟨none, .store 9 (.tmp 5) (.tmp 15), _, _, _, _⟩) rfl _ _ _ rfl wr.heap.size 0 rfl (.string ⟨x.toArray⟩) rfl _ _ hb3 iStrS rfl rfl (by decide) ?_; intro w4 hg4 hs4 hb4; clear hs4; have hB4 := hB3.trans (below_of_grown hg4 (by omega) hB3.size); have hbl4' := hbl3.grown hg4 (fun e => by have := Option.some.inj e; have := hblr.lt; omega))
            | (refine wpList_loadCell (op := ⟨some 16, _, _, _, _, _⟩) rfl _ _ rfl w.heap.size 0 rfl _ _ hbl4' _ Tryz.underlying25 rfl _ rfl ?_)
            | (refine wpList_loadCell (op := ⟨some 17, _, _, _, _, _⟩) rfl _ _ rfl wr.heap.size 0 rfl _ _ hb4 _ Tryz.underlying9 rfl _ rfl ?_)))
        have hBd : Below wr.heap.size wr w4 := hw3.trans (below_of_grown hg4 (Nat.le_refl _) hw3.size)
        go_roundw
        case rel => exact ⟨i + 1, bns, by omega, by go_num, hB.trans (hBd.mono hsz), by rw [e3.out, hoth]; simpa using hBx.below hBd, hF.below hBd⟩
        case measure => simp [intOf]; omega
      | true =>
        rw [hoth] at HO2
        go_wp2_with (first
          | (go_at_call 76; refine (HO2 _ hB4).mono ?_; rintro e w' ⟨rfl, hw'⟩; have hw5 := hw'.symm; subst hw5; clear hw')
          | (with_reducible refine at_list ?_; first
            | (refine wpList_alloc1 (op := ⟨some 5, _, _, _, _, _⟩) rfl _ rfl _ zStr1 rfl ?_; intro w3 hw3 hb3; have hB3 := hBw.trans (hw3.mono hszw); have hbl3 := hblr.belowSize hw3)
            | (refine wpList_storeCell (op := ⟨none, .store 9 (.tmp 5) (.tmp 15), _, _, _, _⟩) rfl _ _ _ rfl wr.heap.size 0 rfl (.string ⟨x.toArray⟩) rfl _ _ hb3 iStrS rfl rfl (by decide) ?_; intro w4 hg4 hs4 hb4; clear hs4; have hB4 := hB3.trans (below_of_grown hg4 (by omega) hB3.size); have hbl4' := hbl3.grown hg4 (fun e => by have := Option.some.inj e; have := hblr.lt; omega))
            | (refine wpList_loadCell (op := ⟨some 16, _, _, _, _, _⟩) rfl _ _ rfl w.heap.size 0 rfl _ _ hbl4' _ Tryz.underlying25 rfl _ rfl ?_)
            | (refine wpList_loadCell (op := ⟨some 17, _, _, _, _, _⟩) rfl _ _ rfl wr.heap.size 0 rfl _ _ hb4 _ Tryz.underlying9 rfl _ rfl ?_)
            | (refine wpList_fsl1 (op := ⟨some 21, _, _, _, _, _⟩) rfl _ rfl (.func 77) #[] #[.pointer (some ⟨w.heap.size, 0, none⟩), .pointer (some ⟨wr.heap.size, 0, none⟩)] rfl ?_; intro w6 hw6 hb6; have hb6' := sw_blk hb6; have hszd := Nat.le_trans hw3.size (Nat.le_trans hg4.size hw6.size); have hF6 := ((hF.below hw3).other hg4 hb3 (by decide)).below hw6; have hB6 := hB4.trans (hw6.mono hB4.size))
            | (refine wpList_appF (op := ⟨some 22, _, _, _, _, _⟩) rfl _ _ rfl w2.heap.size u3 (bns.map (swF w.heap.size)) (Nat.le_trans hsz hszd) (by with_unfolding_all exact rfl) hF6 w4.heap.size (by with_unfolding_all exact rfl) (swF w.heap.size wr.heap.size) (sw_one _ _) hb6' hbl5 ?_; intro w7 sl7 hg7 hF7)))
        have hBx7 : Bxs w7 w.heap.size (bns ++ [wr.heap.size]) (U ++ [x]) := (((hBx.below (hw3.trans (below_of_grown hg4 (Nat.le_refl _) hw3.size))).snoc hb4 hszw).below hw6).grown hg7 hF6
        have hBd : Below wr.heap.size wr w4 := hw3.trans (below_of_grown hg4 (Nat.le_refl _) hw3.size)
        have hB7 : Below w2.heap.size w2 w7 := ((hB.trans (hBd.mono hsz)).trans (hw6.mono (Nat.le_trans hsz hBd.size))).trans (hF6.grow hg7 (Nat.le_trans hsz hszd))
        go_roundw
        case rel => exact ⟨i + 1, bns ++ [wr.heap.size], by omega, by go_num, hB7, by rw [e3.out, hoth]; exact hBx7, by rw [List.map_append]; exact hF7⟩
        case measure => simp [intOf]; omega
    · have hin : ns.take i = ns := List.take_of_length_le (by omega)
      rw [hin, ← eoth.out] at hBx
      have hlen : (bns.map (swF w.heap.size)).length = oo.length := by rw [List.length_map, hBx.len]
      by_cases he : oo = []
      · have hbn : bns = [] := List.length_eq_zero_iff.1 (by rw [hBx.len, he]; rfl)
        rw [hbn] at hF
        obtain ⟨a3, c3, hu3⟩ := hF.sl
        subst hu3
        have HT := HT0 wr a3 c3 hBw he
        clear HT0 HT1
        go_wp2_with (go_at_call 37; refine HT.mono ?_; rintro e w8 ⟨rfl, b8, hW8, hK8⟩)
        go_ret
        exact ⟨rfl, b8, hW8, hK8⟩
      · have hpos : 0 < oo.length := List.length_pos_iff.2 he
        obtain ⟨a3, c3, hu3⟩ := hF.sl
        rw [hlen] at hu3
        subst hu3
        have HT := fun w3 a cap hB hbl hbx hF => HT1 w3 a cap bns hB he hbl hbx hF
        clear HT0 HT1
        have hz3 : (0 : Int) < (oo.length : Int) := by omega
        have hLr := hL.belowSize hBw
        go_wp2_with (first
          | (go_at_call 37; refine (HT _ _ _ hB5 hbl5b hBx5 hF5b).mono ?_; rintro e w8 ⟨rfl, b8, hW8, hK8⟩)
          | (with_reducible refine at_list ?_; first
            | (refine wpList_loadCell (op := ⟨some 28, _, _, _, _, _⟩) rfl _ _ rfl w.heap.size 0 rfl _ _ hblr _ Tryz.underlying25 rfl _ rfl ?_)
            | (refine wpList_loadCell (op := ⟨some 31, _, _, _, _, _⟩) rfl _ _ rfl q 0 rfl _ _ hLr _ Tryz.underlying23 rfl _ (lC_g0 _ _ _) ?_)
            | (refine wpList_fsl1 (op := ⟨some 33, _, _, _, _, _⟩) rfl _ rfl (.func 27) #[.pointer (some ⟨p, 0, none⟩)] #[] rfl ?_; intro w4 hw4 hb4; have hb4' := sy_blk hb4; have hF4 := hF.below hw4; have hB4 := hBw.trans (hw4.mono hszw))
            | (refine wpList_appF (op := ⟨some 34, _, _, _, _, _⟩) rfl _ _ rfl w2.heap.size (.slice a3 oo.length c3) (bns.map (swF w.heap.size)) (Nat.le_trans hsz hw4.size) (by with_unfolding_all exact rfl) hF4 wr.heap.size (by with_unfolding_all exact rfl) (syF p) (sy_one _) hb4' hbl5 ?_; intro w5 sl5 hg5 hF5; obtain ⟨a5, c5, hsl5⟩ := app_sl hlen hF5; subst hsl5; have hB5 := hB4.trans ((hF4.grow hg5 (Nat.le_trans hsz hw4.size)).mono hB2.size); have hF5b := hF5.weak hB2.size; have hBx5 := (hBx.below hw4).grown hg5 hF4; have hbl5b := (hblr.belowSize hw4).grown hg5 (fne hF4 (hblr.belowSize hw4)))))
        go_ret
        exact ⟨rfl, b8, hW8, hK8⟩
end Go.Proofs.YtaiiojbakmminaaGreatDoor
