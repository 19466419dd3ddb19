/- A chain plainly, batch behind batch; what is needed of it. -/
import Derived.Test.YtmbdhngoldganaaGreatDoorCgd
namespace Go.Proofs.YtmbdhngoldganaaGreatDoor
open Go Go.RowKit
/-- A chain behind batches. -/
def plC (c : CN) (l : List BT) : CN := l.foldl nextC c
theorem plC_snoc (c : CN) (l : List BT) (b : BT) : plC c (l ++ [b]) = nextC (plC c l) b := by unfold plC; rw [List.foldl_append]; rfl
theorem plC_ht (c : CN) (l : List BT) : (plC c l).ht = c.ht + l.length := by
  induction l generalizing c with
  | nil => rfl
  | cons b r ih =>
    show (plC (nextC c b) r).ht = _
    rw [ih, List.length_cons]
    show c.ht + 1 + r.length = _
    omega
theorem plC_klen (c : CN) (l : List BT) : (plC c l).kept.length = c.kept.length + l.length := by
  induction l generalizing c with
  | nil => rfl
  | cons b r ih =>
    show (plC (nextC c b) r).kept.length = _
    rw [ih, List.length_cons]
    show (c.kept ++ [mkB c b]).length + r.length = _
    rw [List.length_append, List.length_singleton]
    omega
/-- How far a chain may go on. -/
structure Room (c : CN) (n : Nat) : Prop where
  ok : OkC c
  cnt : c.t.cnt + 144 * n ≤ 3300
  ht : c.ht + n < 18446744073709551616
  klen : c.kept.length + n ≤ 1000000
theorem Room.next {c : CN} {n : Nat} (h : Room c (n + 1)) {b : BT} (hb : chkB b = 0) : Room (nextC c b) n := by
  obtain ⟨h1, h2, h3, h4⟩ := h
  refine ⟨nextC_ok h1 hb (by omega), ?_, ?_, ?_⟩
  · have := nextC_cnt h1 hb
    omega
  · show c.ht + 1 + n < _
    omega
  · show (c.kept ++ [mkB c b]).length + n ≤ _
    rw [List.length_append, List.length_singleton]
    omega
theorem Room.add {c : CN} {n : Nat} (h : Room c (n + 1)) {b : BK} (hr : RightC c b) (hb : OkH b.h) : Room (addC c b) n := by
  obtain ⟨h1, h2, h3, h4⟩ := h
  have e1 : b.h.height = c.ht + 1 := by rw [← hr.head]; rfl
  have h5 := exR_ok (m := c.m) hr.ok h1.canon
  have h6 := hr.len
  refine ⟨⟨h1.first, okM_iff.2 hb.m, hD_len _, h1.name, h1.sz.exS _, h5.1, ?_, ?_⟩, ?_, ?_, ?_⟩
  · show b.h.height < _
    omega
  · show (c.kept ++ [b]).length ≤ b.h.height
    rw [List.length_append, List.length_singleton, e1]
    have := h1.kept
    omega
  · show (exR c.m c.t b.txs).cnt + _ ≤ _
    omega
  · show b.h.height + n < _
    omega
  · show (c.kept ++ [b]).length + n ≤ _
    rw [List.length_append, List.length_singleton]
    omega
theorem Room.mono {c : CN} {n k : Nat} (h : Room c n) (hk : k ≤ n) : Room c k := by
  obtain ⟨h1, h2, h3, h4⟩ := h
  exact ⟨h1, by omega, by omega, by omega⟩
theorem room_new {n : List UInt8} {l : List Int} (h : okS n l = true) : Room (newC n l) 20 := by
  obtain ⟨h1, h2⟩ := okS_iff.1 h
  exact ⟨newC_ok h1 h2, (by decide : (0 : Nat) + 144 * 20 ≤ 3300), (by decide : (0 : Nat) + 20 < 18446744073709551616), (by decide : (0 : Nat) + 20 ≤ 1000000)⟩
/-- A block that is right behind a chain has its place there. -/
theorem right_place {c : CN} {b : BK} (h : RightC c b) : b.h.height = c.ht + 1 ∧ b.h.prev = c.hash := by
  have := h.head
  exact ⟨by rw [← this]; rfl, by rw [← this]; rfl⟩
theorem memB_inj {l m : List Int} (hl : OkM l) (hm : OkM m) (h : memB l = memB m) : l = m := by
  have hx : OkH ⟨1, zr, zr, zr, l⟩ := ⟨Nat.one_ne_zero, rfl, rfl, rfl, hl⟩
  have hy : OkH ⟨1, zr, zr, zr, m⟩ := ⟨Nat.one_ne_zero, rfl, rfl, rfl, hm⟩
  have e : hB ⟨1, zr, zr, zr, l⟩ = hB ⟨1, zr, zr, zr, m⟩ := by unfold hB; rw [show memB (⟨1, zr, zr, zr, l⟩ : HH).mem = memB l from rfl, show memB (⟨1, zr, zr, zr, m⟩ : HH).mem = memB m from rfl, h]
  have := hB_inj hx hy (show (1 : Nat) < 18446744073709551616 by decide) (show (1 : Nat) < 18446744073709551616 by decide) e
  simpa using this
/-- What made leaves, whether they may be or not. -/
theorem MdP.out {w w' : World} {n : List UInt8} {l : List Int} {e : Ending} (h : MdP w n l e w') : ∃ px rc, e = .returned (.tuple #[.pointer px, .agg rc, .bool (okS n l)]) ∧ Below w.heap.size w w' ∧ (Tryz.prog.info? 45).map (·.size) = some rc.size ∧ rc.all (·.oneCell') = true ∧ rc.size = 7 := by
  obtain ⟨h1, ⟨h2, cb, bs, bt, a, cap, h3, _⟩ | ⟨h2, h3⟩⟩ := h
  · exact ⟨_, _, by rw [h2]; exact h3, h1, rcC_info _ _ _, rcC_one _ _ _ _ _, rfl⟩
  · exact ⟨_, _, by rw [h2]; exact h3, h1, rcC_info _ _ _, rcC_one _ _ _ _ _, rfl⟩
theorem MdP.good {w w' : World} {n : List UInt8} {l : List Int} {e : Ending} (h : MdP w n l e w') (hk : okS n l = true) : ∃ cb bs bt a cap, e = .returned (.tuple #[.pointer (some ⟨cb, 0, none⟩), .agg (rcC n (.slice a l.length cap) (gD n l)), .bool true]) ∧ CH w' w.heap.size cb bs bt (.slice none 0 0) (newC n l) ∧ Below w.heap.size w w' := by
  obtain ⟨h1, ⟨_, cb, bs, bt, a, cap, h3, h4⟩ | ⟨h2, h3⟩⟩ := h
  · exact ⟨cb, bs, bt, a, cap, h3, h4, h1⟩
  · rw [hk] at h2; cases h2
theorem CH.keepBlk {w w' : World} {N cb bs bt : Nat} {sl : Value} {c : CN} {B : Nat} {d : Array Value} {u : TypeId} (h : CH w N cb bs bt sl c) (k : Own (ownC cb bs bt sl) w w') (hb : Blk w B d u) (hu : u ≠ 103 ∧ u ≠ 167 ∧ u ≠ 215 ∧ u ≠ 53) : Blk w' B d u := hb.own k fun e => by
  obtain ⟨d', u', fr', h3, h4⟩ := h.typed e
  rw [hb.out] at h3
  simp only [Option.some.injEq, Obj.cells.injEq] at h3
  obtain ⟨_, rfl, _⟩ := h3
  obtain ⟨u1, u2, u3, u4⟩ := hu
  rcases h4 with h4 | h4 | h4 | h4
  · exact u1 h4
  · exact u2 h4
  · exact u3 h4
  · exact u4 h4
theorem GB.own {w0 w w' : World} {lo : Nat} {sl : Value} {dls : List (List Value)} {L : List BT} {N cb bs bt : Nat} {slC : Value} {c : CN} (h : GB w0 w lo sl dls L) (hc : CH w N cb bs bt slC c) (k : Own (ownC cb bs bt slC) w w') (hN : w0.heap.size ≤ N) : GB w0 w' lo sl dls L := by
  refine ⟨GLown h.gl k (fun r hr e => ?_), h.len, h.each, h.bel.trans ((hc.ownBelow k).mono hN), h.lo1.1, Nat.le_trans h.lo1.2 k.size⟩
  obtain ⟨cur, hcur⟩ := GLtyped h.gl hr
  obtain ⟨d', u', fr', h3, h4⟩ := hc.typed e
  rw [hcur.out] at h3
  simp only [Option.some.injEq, Obj.cells.injEq] at h3
  obtain ⟨_, rfl, _⟩ := h3
  rcases h4 with h4 | h4 | h4 | h4 <;> exact absurd h4 (by decide)
theorem GB.local {w0 w w' : World} {lo : Nat} {sl : Value} {dls : List (List Value)} {L : List BT} {B : Nat} {d : Array Value} {u : TypeId} (h : GB w0 w lo sl dls L) (hg : w.grownBy w' (some B)) (hB : Blk w B d u) (hu : u ≠ 58) (hN : w0.heap.size ≤ B) : GB w0 w' lo sl dls L :=
  ⟨h.gl.grown hg (h.gl.ne (Blk.sh hB) (.inl hu)), h.len, h.each, h.bel.trans (below_of_grown hg hN h.bel.size), h.lo1.1, Nat.le_trans h.lo1.2 hg.size⟩
theorem GB.at {w0 w : World} {lo : Nat} {a : Option Addr} {n cap : Nat} {dls : List (List Value)} {L : List BT} (h : GB w0 w lo (.slice a n cap) dls L) (i : Nat) (hi : i < L.length) : ∃ g xa xa2 xc xc2, a = some ⟨g, 0, none⟩ ∧ BR w g (i * 3) L[i] xa xa2 xc xc2 := by
  obtain ⟨a', cap', e, h1⟩ := h.gl.sl
  simp only [Value.slice.injEq] at e
  obtain ⟨rfl, _, rfl⟩ := e
  obtain ⟨xa, xa2, xc, xc2, k1, k2, k3, k4, k5⟩ := h.each i hi
  have hid : i < dls.length := by rw [h.len]; exact hi
  obtain ⟨g, ha, h2⟩ := h1 i hid
  rw [List.getElem?_eq_getElem hid] at k1
  exact ⟨g, xa, xa2, xc, xc2, ha, fun j v hv => h2 j v (by rw [Option.some.inj k1]; exact hv), k2.below h.bel, k3.below h.bel⟩
section
variable {P : Program} {ops : Array Oper} {Q : Exit → Act → World → Prop}
theorem wpAnyH_solo {md : Region.Mode} {S : World → Prop} {i : Nat} {o : Oper} {fuel : Nat} {listed : Array Bool} {a : Act} {w : World} (ho : ops[i]? = some o) (hr : Region.ready md ops listed = [i])
    (h : ∀ K : Act → World → Prop, (∀ a w, S w → wpAnyH P md ops Q S fuel (listed.setIfInBounds i true) a w → K a w) → wpList P ops (QK Q K) [o] a w) : wpAnyH P md ops Q S (fuel + 1) listed a w :=
  ⟨(fun h0 => absurd (hr ▸ h0) (List.cons_ne_nil _ _)), fun j hj => by
    rw [hr] at hj
    obtain rfl := List.mem_singleton.1 hj
    exact wpOp_list ho (h _ (fun a w hS hW => ⟨hS, hW⟩))⟩
theorem wpList_callG {rest : List Oper} {op : Oper} {a : Act} {w : World} {f : FuncId} {fn : Func} (hf : P.funcs[f]? = some fn) (hn : (fn.name == "runtime.NumGoroutine") = false) (hb : fn.body.isNone = false) (hw : Region.wanted op (yielded ops a.tmps) = true) (xs : Array Operand) (tys : Array TypeId) (ho : op.op = .call { callee := .value (.func f), args := xs, argTypes := tys })
    (args : Array Value) (hargs : xs.map a.eval = args) (R : Ending → World → Prop) (hc : Calls P f args w R) (h : ∀ e w', R e w' → ∃ v, e = .returned v ∧ wpList P ops Q rest (a.put op.dst v) w') : wpList P ops Q (op :: rest) a w := by
  refine wpList_step fun K hK => ?_
  rw [if_pos hw]
  unfold Oper.wp
  rw [run_callF hf hn hb xs tys ho, Oper.upon_enter, hargs]
  refine hc.mono fun e w'' hh => ?_
  obtain ⟨v, rfl, h3⟩ := h e w'' hh
  exact hK _ _ h3
end
end Go.Proofs.YtmbdhngoldganaaGreatDoor
