/- What with does. -/
import Derived.Test.YtmbdhngoldganaaGreatDoorSbw
namespace Go.Proofs.YtmbdhngoldganaaGreatDoor.Sh
open Go Go.RowKit Go.Shelf
/-- An end put back up through the steps of a way. -/
def upAll (cs : List CT) (e : Tr) : Tr := cs.foldr (fun c x => Tr.upC (c.l, c.r, c.at_) x) e
theorem upAll_snoc (cs : List CT) (c : CT) (e : Tr) : upAll (cs ++ [c]) e = upAll cs (Tr.upC (c.l, c.r, c.at_) e) := by
  unfold upAll
  rw [List.foldr_append]
  rfl
/-- How far a way down has come. -/
structure WI (t : Tr) (p : List UInt8) (e : Tr) (d : Nat) (td : Tr) (cs : List CT) : Prop where
  eq : Tr.withT p e 256 0 t = upAll cs (Tr.withT p e (256 - d) d td)
theorem WI.start (t : Tr) (p : List UInt8) (e : Tr) : WI t p e 0 t [] := ⟨rfl⟩
theorem WI.step {t : Tr} {p : List UInt8} {e : Tr} {d : Nat} {td : Tr} {cs : List CT} (h : WI t p e d td cs) (hd : d < 256) (hn : ¬ Tr.ends p td) (pl pr : Option Addr) : WI t p e (d + 1) (Tr.sideT (Tr.openT d td) (bitD p d)) (cs ++ [⟨(Tr.openT d td).1, (Tr.openT d td).2, bitD p d, pl, pr⟩]) := by
  refine ⟨?_⟩
  rw [upAll_snoc, h.eq, show 256 - d = (256 - (d + 1)) + 1 by omega, Tr.with_step hn]
theorem WI.ends {t : Tr} {p : List UInt8} {e : Tr} {d : Nat} {td : Tr} {cs : List CT} (h : WI t p e d td cs) (hn : Tr.ends p td) : Tr.withT p e 256 0 t = upAll cs e := by rw [h.eq, Tr.with_ends hn]
theorem WI.last {t : Tr} {p : List UInt8} {e : Tr} {td : Tr} {cs : List CT} (h : WI t p e 256 td cs) : Tr.withT p e 256 0 t = upAll cs e := h.eq
theorem HF.turn {w w' : World} {t : Tr} {q : Option Addr} {row : Option Nat} (h : HF w t q) (hg : w.grownBy w' row) (hr : ∀ r, row = some r → ∃ o : Obj, w.heap[r]? = some o ∧ o.isCells = false) : HF w' t q := h.keep fun _ _ h1 => h1.turn hg hr
theorem HF.app {w w' : World} {t : Tr} {q : Option Addr} {ty : TypeId} {k lo : Nat} {sl : Value} {l : List (List Value)} (h : HF w t q) (hg : w.grownBy w' (slBlk sl)) (hs : GL w ty k lo sl l) (hu : 196 ≠ ty) : HF w' t q := h.keep fun _ _ h1 => h1.grown hg (fun e => hs.ne h1 (.inl hu) _ e.symm rfl)
/-- The halves of steps lie in memory. -/
def CF (W : World) (cs : List CT) : Prop := ∀ c ∈ cs, HF W c.l c.pl ∧ HF W c.r c.pr ∧ c.l.cnt ≤ 3500 ∧ c.r.cnt ≤ 3500 ∧ c.at_ < 2
theorem CF.keep {W W' : World} {cs : List CT} (h : CF W cs) (hk : ∀ {t : Tr} {q : Option Addr}, HF W t q → HF W' t q) : CF W' cs := fun c hc => ⟨hk (h c hc).1, hk (h c hc).2.1, (h c hc).2.2⟩
/-- The memory between two rounds of the way down. -/
structure WM (w : World) (p : List UInt8) (lo B : Nat) (e : Tr) (pe : Option Addr) (td : Tr) (qh : Option Addr) (sl : Value) (cs : List CT) (W : World) : Prop where
  h : Blk W w.heap.size #[.pointer qh] 190
  pt : Blk W (w.heap.size + 1) #[.string ⟨p.toArray⟩] 9
  eb : Blk W (w.heap.size + 2) #[.pointer pe] 190
  s : Blk W (w.heap.size + 3) #[sl] 241
  gl : GL W 244 3 lo sl (cs.map ctC)
  path : Blk W B #[.string ⟨p.toArray⟩] 9
  hf : HF W td qh
  cf : CF W cs
  ef : HF W e pe
  below : Below w.heap.size w W
  size : lo ≤ W.heap.size
theorem WM.turn {w : World} {p : List UInt8} {lo B : Nat} {e : Tr} {pe : Option Addr} {td : Tr} {qh : Option Addr} {sl : Value} {cs : List CT} {W W' : World} {row : Option Nat} (h : WM w p lo B e pe td qh sl cs W) (hl : w.heap.size ≤ lo) (hg : W.grownBy W' row) (hr : ∀ r, row = some r → lo ≤ r ∧ ∃ o : Obj, W.heap[r]? = some o ∧ o.isCells = false) : WM w p lo B e pe td qh sl cs W' :=
  have hr2 := fun r e => (hr r e).2
  ⟨h.h.turn hg hr2, h.pt.turn hg hr2, h.eb.turn hg hr2, h.s.turn hg hr2, h.gl.turn hg hr2, h.path.turn hg hr2, h.hf.turn hg hr2, h.cf.keep (fun h1 => h1.turn hg hr2), h.ef.turn hg hr2, h.below.grown hg h.below.size (fun k e => Nat.le_trans hl (hr k e).1), Nat.le_trans h.size hg.size⟩
theorem WM.below' {w : World} {p : List UInt8} {lo B : Nat} {e : Tr} {pe : Option Addr} {td : Tr} {qh : Option Addr} {sl : Value} {cs : List CT} {W W' : World} (h : WM w p lo B e pe td qh sl cs W) (hb : Below W.heap.size W W') : WM w p lo B e pe td qh sl cs W' :=
  ⟨h.h.belowSize hb, h.pt.belowSize hb, h.eb.belowSize hb, h.s.belowSize hb, h.gl.below hb, h.path.belowSize hb, h.hf.below hb, h.cf.keep (fun h1 => h1.below hb), h.ef.below hb, h.below.trans (hb.mono h.below.size), Nat.le_trans h.size hb.size⟩
/-- A block that the call itself has made is written. -/
theorem WM.own {w : World} {p : List UInt8} {lo B : Nat} {e : Tr} {pe : Option Addr} {td : Tr} {qh : Option Addr} {sl : Value} {cs : List CT} {W W' : World} {b : Nat} {c : Array Value} {t : TypeId} (h : WM w p lo B e pe td qh sl cs W) (hg : W.grownBy W' (some b)) (hb : Blk W b c t) (ht : 196 ≠ t) (hbl : lo ≤ b) (hB : B < lo) (hw : w.heap.size + 4 ≤ lo) (hs : ∀ r, slBlk sl = some r → r ≠ b) : WM w p lo B e pe td qh sl cs W' :=
  have hne : ∀ {i : Nat}, i < lo → some i ≠ some b := fun hi e => by have := Option.some.inj e; omega
  ⟨h.h.grown hg (hne (by omega)), h.pt.grown hg (hne (by omega)), h.eb.grown hg (hne (by omega)), h.s.grown hg (hne (by omega)), h.gl.grown hg (fun r e e2 => hs r e (Option.some.inj e2)), h.path.grown hg (hne hB), h.hf.grown hg hb ht, h.cf.keep (fun h1 => h1.grown hg hb ht), h.ef.grown hg hb ht, h.below.grown hg h.below.size (fun k e => by cases e; omega), Nat.le_trans h.size hg.size⟩
/-- A step is put behind the others, and kept. -/
theorem WM.app {w : World} {p : List UInt8} {lo B : Nat} {e : Tr} {pe : Option Addr} {td : Tr} {qh : Option Addr} {sl sl' : Value} {cs : List CT} {c : CT} {W W' : World} (h : WM w p lo B e pe td qh sl cs W) (hg : W.grownBy W' (slBlk sl)) (hG : GL W' 244 3 lo sl' (cs.map ctC ++ [ctC c])) (hc : HF W c.l c.pl ∧ HF W c.r c.pr ∧ c.l.cnt ≤ 3500 ∧ c.r.cnt ≤ 3500 ∧ c.at_ < 2) (hw : w.heap.size + 4 ≤ lo) (hB : B < lo) (hB2 : w.heap.size + 3 < B) :
    Blk W' (w.heap.size + 3) #[sl] 241 ∧ NC W W' ∧ WM w p lo B e pe td qh sl' (cs ++ [c]) (W'.setCell ⟨w.heap.size + 3, 0, none⟩ sl') := by
  have hk : ∀ {t : Tr} {q : Option Addr}, HF W t q → HF W' t q := fun h1 => h1.app hg h.gl (by decide)
  have hlt : ∀ {i : Nat} {d : Array Value} {u : TypeId}, Blk W i d u → i < lo → Blk W' i d u := fun h1 hi => h1.grown hg (fun e => h.gl.ne h1 (.inr hi) _ e.symm rfl)
  have hs := hlt h.s (by omega)
  have hg2 := grown_setCell (w.heap.size + 3) sl' 0 W'
  have hk2 : ∀ {t : Tr} {q : Option Addr}, HF W t q → HF (W'.setCell ⟨w.heap.size + 3, 0, none⟩ sl') t q := fun h1 => (hk h1).grown hg2 hs (by decide)
  have hne : ∀ {i : Nat}, i ≠ w.heap.size + 3 → some i ≠ some (w.heap.size + 3) := fun hi e => hi (Option.some.inj e)
  have hB9 : Below w.heap.size w W' := h.below.grown hg h.below.size (fun k e => by have := (h.gl.lt k e).1; omega)
  refine ⟨hs, NC.app hg h.gl, ⟨(hlt h.h (by omega)).grown hg2 (hne (by omega)), (hlt h.pt (by omega)).grown hg2 (hne (by omega)), (hlt h.eb (by omega)).grown hg2 (hne (by omega)), hs.setCell 0 sl', ?_, (hlt h.path hB).grown hg2 (hne (by omega)), hk2 h.hf, ?_, hk2 h.ef, hB9.grown hg2 hB9.size (fun k e => by cases e; omega), Nat.le_trans (Nat.le_trans h.size hg.size) hg2.size⟩⟩
  · rw [List.map_append]
    exact GL.grown hG hg2 (hG.ne hs (.inr (by omega)))
  · intro d hd
    rcases List.mem_append.1 hd with hd | hd
    · exact ⟨hk2 (h.cf d hd).1, hk2 (h.cf d hd).2.1, (h.cf d hd).2.2⟩
    · rw [List.mem_singleton.1 hd]
      exact ⟨hk2 hc.1, hk2 hc.2.1, hc.2.2⟩
theorem WM.move {w : World} {p : List UInt8} {lo B : Nat} {e : Tr} {pe : Option Addr} {td tn : Tr} {qh qn : Option Addr} {sl : Value} {cs : List CT} {W : World} (h : WM w p lo B e pe td qh sl cs W) (hn : HF W tn qn) (hw : w.heap.size + 4 ≤ lo) (hB2 : w.heap.size + 3 < B) : WM w p lo B e pe tn qn sl cs (W.setCell ⟨w.heap.size, 0, none⟩ (.pointer qn)) := by
  have hg := grown_setCell w.heap.size (.pointer qn) 0 W
  have hne : ∀ {i : Nat}, i ≠ w.heap.size → some i ≠ some w.heap.size := fun hi e => hi (Option.some.inj e)
  have hk : ∀ {t : Tr} {q : Option Addr}, HF W t q → HF (W.setCell ⟨w.heap.size, 0, none⟩ (.pointer qn)) t q := fun h1 => h1.grown hg h.h (by decide)
  exact ⟨h.h.setCell 0 (.pointer qn), h.pt.grown hg (hne (by omega)), h.eb.grown hg (hne (by omega)), h.s.grown hg (hne (by omega)), h.gl.grown hg (h.gl.ne h.h (.inr (by omega))), h.path.grown hg (hne (by omega)), hk hn, h.cf.keep hk, hk h.ef, h.below.grown hg h.below.size (fun k e => by cases e; omega), Nat.le_trans h.size hg.size⟩
theorem zSt : (∀ w, (zeroValue 244).run Tryz.prog w = .ok (.agg #[.pointer none, .pointer none, .int .i64 0]) w) ∧ (Tryz.prog.info? 244).map (·.size) = some 3 := zero_of_info (by kernel_rfl)
theorem infoSt : ∃ i, Tryz.prog.info? 244 = some i ∧ i.zero = some (.agg #[.pointer none, .pointer none, .int .i64 0]) ∧ i.size = 3 ∧ i.bytes ≤ 256 := by
  have h : (Tryz.prog.info? 244).map (fun i => (i.zero, i.size, i.bytes)) = some (some (.agg #[.pointer none, .pointer none, .int .i64 0]), 3, 24) := by kernel_rfl
  cases hq : Tryz.prog.info? 244 with
  | none => rw [hq] at h; cases h
  | some i => rw [hq] at h; simp at h; exact ⟨i, rfl, h.1, h.2.1, by omega⟩
theorem range3K : Array.range 3 = #[0, 1, 2] := by decide
theorem bslSt (x y z : Value) (w : World) : (Instr.buildSlice 241 1 #[(0, .agg #[x, y, z])]).run Tryz.prog w = .ok (.slice (some ⟨w.heap.size, 0, none⟩) 1 1) (w.alloc (.cells #[x, y, z] 244)) := by
  simp [Instr.buildSlice, run_underlying Tryz.underlying241, sizeOf_run zSt.2, Sem.run_bind, Instr.fill, newRow, zSt.1, Value.cells, range3K]
theorem wpList_bslSt {ops : Array Oper} {rest : List Oper} {op : Oper} {a : Act} {w : World} {Q : Exit → Act → World → Prop} (hgd : op.guard = none) (x : Operand) (ho : op.op = .buildSlice 241 1 #[(0, x)]) (u v z : Value) (hx : a.eval x = .agg #[u, v, z])
    (h : ∀ w1 : World, Below w.heap.size w w1 → w1.heap.size = w.heap.size + 1 → Blk w1 w.heap.size #[u, v, z] 244 → wpList Tryz.prog ops Q rest (a.put op.dst (.slice (some ⟨w.heap.size, 0, none⟩) 1 1)) w1) : wpList Tryz.prog ops Q (op :: rest) a w := by
  refine wpList_run hgd _ _ ?_ (h _ ((Below.refl _ _).alloc (Nat.le_refl _) _) (by simp) (Blk.new _ _ _))
  unfold execOp
  have e : (#[(0, x)] : Array (Nat × Operand)).map (fun (i, x) => (i, a.eval x)) = #[(0, .agg #[u, v, z])] := by simp [hx]
  have hr := bslSt u v z w
  rw [← e] at hr
  simp only [ho, Sem.run_bind, hr, Result.andThen_ok]
  rfl
theorem blk3c {w : World} {b : Nat} {x y z : Value} {t : TypeId} (h : Blk w b #[x, y, z] t) : w.cell? ⟨b, 0, none⟩ = some x ∧ w.cell? ⟨b, 1, none⟩ = some y ∧ w.cell? ⟨b, 2, none⟩ = some z := ⟨h.cell 0, h.cell 1, h.cell 2⟩
/-- What with leaves. -/
def WithP (t : Tr) (p : List UInt8) (en : Tr) (w : World) (e : Ending) (w' : World) : Prop := ∃ q, e = .returned (.pointer q) ∧ HF w' (Tr.withT p en 256 0 t) q ∧ Below w.heap.size w w'
theorem blk1c {w : World} {b : Nat} {x : Value} {t : TypeId} (h : Blk w b #[x] t) : w.cell? ⟨b, 0, none⟩ = some x := h.cell 0
theorem open_cnt (t : Tr) (i : Nat) : (Tr.openT i t).1.cnt ≤ t.cnt ∧ (Tr.openT i t).2.cnt ≤ t.cnt := by
  cases t with
  | emp => exact ⟨Nat.le_refl _, Nat.le_refl _⟩
  | lf y =>
    by_cases h : bitD y.1 i = 0
    · rw [show Tr.openT i (.lf y) = (.lf y, .emp) from if_pos h]
      exact ⟨Nat.le_refl _, Nat.zero_le _⟩
    · rw [show Tr.openT i (.lf y) = (.emp, .lf y) from if_neg h]
      exact ⟨Nat.zero_le _, Nat.le_refl _⟩
  | nd l r =>
    rw [Tr.cnt_nd]
    exact ⟨Nat.le_add_right _ _, Nat.le_add_left _ _⟩
theorem GL.els {w : World} {lo n k : Nat} {a : Option Addr} {cs : List CT} {t : TypeId} (h : GL w t 3 lo (.slice a n k) (cs.map ctC)) : ∀ i (hi : i < cs.length), ∃ g, a = some ⟨g, 0, none⟩ ∧ w.cell? ⟨g, i * 3, none⟩ = some (.pointer cs[i].pl) ∧ w.cell? ⟨g, i * 3 + 1, none⟩ = some (.pointer cs[i].pr) ∧ w.cell? ⟨g, i * 3 + 2, none⟩ = some (.int .i64 ((cs[i].at_ : Nat) : Int)) := by
  obtain ⟨a', c', e, hh⟩ := h.sl
  cases e
  intro i hi
  obtain ⟨g, ha, h2⟩ := hh i (by rw [List.length_map]; exact hi)
  exact ⟨g, ha, h2 0 _ (by simp), h2 1 _ (by simp), h2 2 _ (by simp)⟩
/-- The rounds so far are the first ones of those from the last place on. -/
def IsR (n : Nat) (pre : List (Fin n)) : Prop := pre = (revW n).take pre.length
theorem IsR.snoc {n : Nat} {pre : List (Fin n)} {x : Fin n} (h : IsR n (pre ++ [x])) (hl : pre.length < n) : IsR n pre ∧ x.1 = n - 1 - pre.length := by
  unfold IsR at h
  rw [List.length_append, List.length_singleton, revW_take hl] at h
  have h2 := List.append_inj' h rfl
  refine ⟨h2.1, ?_⟩
  rw [(List.cons.inj h2.2).1]
theorem IsR.all (n : Nat) : IsR n (revW n) := by unfold IsR; rw [List.take_length]
theorem upAll_drop (cs : List CT) (en : Tr) (k : Nat) (h : k < cs.length) : upAll (cs.drop (cs.length - (k + 1))) en = Tr.upC ((cs[cs.length - 1 - k]'(by omega)).l, (cs[cs.length - 1 - k]'(by omega)).r, (cs[cs.length - 1 - k]'(by omega)).at_) (upAll (cs.drop (cs.length - k)) en) := by
  rw [List.drop_eq_getElem_cons (by omega : cs.length - (k + 1) < cs.length)]
  have e1 : cs.length - (k + 1) + 1 = cs.length - k := by omega
  have e2 : cs[cs.length - (k + 1)]'(by omega) = cs[cs.length - 1 - k]'(by omega) := by congr 1; omega
  rw [e1, e2]
  rfl
theorem joinG_cnt (l r : Tr) : (Tr.joinG l r).cnt ≤ l.cnt + r.cnt := by
  unfold Tr.joinG
  split
  · rw [Tr.cnt_nd]; exact Nat.le_refl _
  · split
    · omega
    · omega
/-- The memory between two rounds of the way up. -/
structure EM (w : World) (lo2 bx D : Nat) (a : Option Addr) (k : Nat) (cs : List CT) (e : Tr) (pe : Option Addr) (W : World) : Prop where
  eb : Blk W (w.heap.size + 2) #[.pointer pe] 190
  ef : HF W e pe
  cf : CF W cs
  bm : BMs bx a k cs W
  below : Below w.heap.size w W
  dd : W.heap[D]? = some (.deferred (some []))
  size : lo2 ≤ W.heap.size
/-- How the blocks lie. -/
structure EL (w : World) (lo2 bx D : Nat) (a : Option Addr) (cs : List CT) : Prop where
  g : ∀ g, a = some ⟨g, 0, none⟩ → 0 < cs.length → w.heap.size + 3 < g ∧ g < lo2
  bx : w.heap.size + 3 < bx ∧ bx < lo2
  d : D < lo2
theorem EM.turn {w : World} {lo2 bx D : Nat} {a : Option Addr} {k : Nat} {cs : List CT} {e : Tr} {pe : Option Addr} {W W' : World} {row : Option Nat} (h : EM w lo2 bx D a k cs e pe W) (L : EL w lo2 bx D a cs) (hg : W.grownBy W' row) (hr : ∀ r, row = some r → lo2 ≤ r ∧ ∃ o : Obj, W.heap[r]? = some o ∧ o.isCells = false) : EM w lo2 bx D a k cs e pe W' :=
  have hr2 := fun r e => (hr r e).2
  ⟨h.eb.turn hg hr2, h.ef.turn hg hr2, h.cf.keep (fun h1 => h1.turn hg hr2), h.bm.turn hg hr2, h.below.grown hg h.below.size (fun k e => by have := (hr k e).1; have := L.bx; omega), by
    rw [hg.block D (Array.getElem?_eq_some_iff.1 h.dd).1 (fun e => by have := (hr D e.symm).1; have := L.d; omega)]
    exact h.dd, Nat.le_trans h.size hg.size⟩
theorem EM.below' {w : World} {lo2 bx D : Nat} {a : Option Addr} {k : Nat} {cs : List CT} {e : Tr} {pe : Option Addr} {W W' : World} (h : EM w lo2 bx D a k cs e pe W) (hb : Below W.heap.size W W') : EM w lo2 bx D a k cs e pe W' :=
  ⟨h.eb.belowSize hb, h.ef.below hb, h.cf.keep (fun h1 => h1.below hb), h.bm.below hb, h.below.trans (hb.mono h.below.size), (NC.below hb).all D _ h.dd rfl, Nat.le_trans h.size hb.size⟩
theorem BMs.grown {bx : Nat} {a : Option Addr} {k : Nat} {cs : List CT} {W W' : World} {b : Nat} (h : BMs bx a k cs W) (hg : W.grownBy W' (some b)) (h1 : bx ≠ b) (h2 : ∀ g, a = some ⟨g, 0, none⟩ → 0 < cs.length → g ≠ b) : BMs bx a k cs W' :=
  ⟨h.box.grown hg (fun e => h1 (Option.some.inj e)), fun i hi => by
    obtain ⟨g, ha, c1, c2, c3⟩ := h.el i hi
    have hl := World.block_lt_of_cell? _ _ c1
    have hne : some g ≠ some b := fun e => h2 g ha (by omega) (Option.some.inj e)
    have hb := hg.block g hl hne
    exact ⟨g, ha, by simp only [World.cell?] at c1 ⊢; rw [hb]; exact c1, by simp only [World.cell?] at c2 ⊢; rw [hb]; exact c2, by simp only [World.cell?] at c3 ⊢; rw [hb]; exact c3⟩⟩
theorem EM.own {w : World} {lo2 bx D : Nat} {a : Option Addr} {k : Nat} {cs : List CT} {e : Tr} {pe : Option Addr} {W W' : World} {b : Nat} {c : Array Value} {t : TypeId} (h : EM w lo2 bx D a k cs e pe W) (L : EL w lo2 bx D a cs) (hg : W.grownBy W' (some b)) (hb : Blk W b c t) (ht : 196 ≠ t) (hl : lo2 ≤ b) : EM w lo2 bx D a k cs e pe W' :=
  ⟨h.eb.grown hg (fun e => by have := Option.some.inj e; have := L.bx; omega), h.ef.grown hg hb ht, h.cf.keep (fun h1 => h1.grown hg hb ht), h.bm.grown hg (by have := L.bx; omega) (fun g ha h0 => by have := L.g g ha h0; omega), h.below.grown hg h.below.size (fun k e => by cases e; have := L.bx; omega), (NC.blk hg hb).all D _ h.dd rfl, Nat.le_trans h.size hg.size⟩
theorem EM.move {w : World} {lo2 bx D : Nat} {a : Option Addr} {k : Nat} {cs : List CT} {e en : Tr} {pe pn : Option Addr} {W : World} (h : EM w lo2 bx D a k cs e pe W) (L : EL w lo2 bx D a cs) (hn : HF W en pn) : EM w lo2 bx D a k cs en pn (W.setCell ⟨w.heap.size + 2, 0, none⟩ (.pointer pn)) := by
  have hg := grown_setCell (w.heap.size + 2) (.pointer pn) 0 W
  have hk : ∀ {t : Tr} {q : Option Addr}, HF W t q → HF (W.setCell ⟨w.heap.size + 2, 0, none⟩ (.pointer pn)) t q := fun h1 => h1.grown hg h.eb (by decide)
  exact ⟨h.eb.setCell 0 (.pointer pn), hk hn, h.cf.keep hk, h.bm.grown hg (by have := L.bx; omega) (fun g ha h0 => by have := L.g g ha h0; omega), h.below.grown hg h.below.size (fun k e => by cases e; omega), (NC.blk hg h.eb).all D _ h.dd rfl, Nat.le_trans h.size hg.size⟩
theorem fold2 (t : Array Value) (p q : Tmp) (u v : Value) : (((#[p, q] : Array Tmp).zip #[u, v]).foldl (fun t (p, v) => t.setIfInBounds p v) t) = (t.setIfInBounds p u).setIfInBounds q v := by simp
section
attribute [local go_sem] Oper.semAt_some
set_option maxRecDepth 100000 in
set_option maxHeartbeats 4000000 in
theorem hwith_any (t en : Tr) (q pe : Option Addr) (p : List UInt8) (w : World) (hG : Glob w) (h : HF w t q) (he : HF w en pe) (hp : p.length = 32) (hn : t.cnt ≤ 3500) (hen : en.cnt ≤ 3500) :
    Calls Tryz.prog 139 #[.pointer q, .string ⟨p.toArray⟩, .pointer pe] w (WithP t p en w) := by
  obtain ⟨iSt, hiS, hzS, hsS, hbyS⟩ := infoSt
  refine (callsIn_wide (n := 6)).1 (callsIn_of_wp_marks Tryz.func139 rfl trivial ?_ rfl)
  refine wpIn_wide.2 ?_
  simp only [Tryz.ntmps139, List.size_toArray, List.length_cons, List.length_nil, Nat.reduceAdd, Nat.reduceSub, Array.replicate_succ, Array.replicate_zero, List.push_toArray, List.append_toArray, List.nil_append, List.cons_append]
  have HW := way_any p
  go_wp2_with (go_at_call 156; refine (HW _).mono ?_; rintro e w2 ⟨rfl, hb2, hw2⟩)
  clear HW
  rename_i K hKK
  have e2 : w.heap.size + 1 + 1 = w.heap.size + 2 := rfl
  have e3 : w.heap.size + 2 + 1 = w.heap.size + 3 := rfl
  have e4 : w.heap.size + 3 + 1 = w.heap.size + 4 := rfl
  have W1 : ∃ w1 : World, ((((w.alloc (.cells #[.pointer q] 190)).alloc (.cells #[.string ⟨p.toArray⟩] 9)).alloc (.cells #[.pointer pe] 190)).alloc (.cells #[.slice none 0 0] 241)) = w1 ∧ Below w.heap.size w w1 ∧ w1.heap.size = w.heap.size + 4 ∧ Blk w1 w.heap.size #[.pointer q] 190 ∧ Blk w1 (w.heap.size + 1) #[.string ⟨p.toArray⟩] 9 ∧ Blk w1 (w.heap.size + 2) #[.pointer pe] 190 ∧ Blk w1 (w.heap.size + 3) #[.slice none 0 0] 241 := by
    refine ⟨_, rfl, ((((Below.refl _ w).alloc (Nat.le_refl _) _).alloc (by simp) _).alloc (by simp; omega) _).alloc (by simp; omega) _, by simp, (((Blk.new w _ _).alloc _).alloc _).alloc _, ?_, ?_, ?_⟩
    · have := Blk.new (w.alloc (.cells #[.pointer q] 190)) #[.string ⟨p.toArray⟩] 9
      rw [World.size_alloc] at this
      exact (this.alloc _).alloc _
    · have := Blk.new ((w.alloc (.cells #[.pointer q] 190)).alloc (.cells #[.string ⟨p.toArray⟩] 9)) #[.pointer pe] 190
      rw [World.size_alloc, World.size_alloc] at this
      exact this.alloc _
    · have := Blk.new (((w.alloc (.cells #[.pointer q] 190)).alloc (.cells #[.string ⟨p.toArray⟩] 9)).alloc (.cells #[.pointer pe] 190)) #[.slice none 0 0] 241
      rw [World.size_alloc, World.size_alloc, World.size_alloc] at this
      exact this
  obtain ⟨w1, hw1, hA, hsz, k0, k1, k2, k3⟩ := W1
  rw [hw1] at hw2 hb2
  rw [hsz] at hb2
  have hlo : w.heap.size + 4 ≤ w2.heap.size := by have := hw2.size; rw [hsz] at this; exact this
  have hlt : w.heap.size + 4 < w2.heap.size := hb2.lt
  have hB2 := hA.trans (hw2.mono hA.size)
  have M2 : WM w p w2.heap.size (w.heap.size + 4) en pe t q (.slice none 0 0) [] w2 := ⟨k0.belowSize hw2, k1.belowSize hw2, k2.belowSize hw2, k3.belowSize hw2, GL.nil _ _ _ _, hb2, h.below hB2, (fun _ hc => nomatch hc), he.below hB2, hB2, Nat.le_refl _⟩
  clear k0 k1 k2 k3 hA hsz hw2 hB2 hw1
  rw [e2, e3, e4]
  obtain ⟨lo, hlo'⟩ : ∃ lo, w2.heap.size = lo := ⟨_, rfl⟩
  obtain ⟨B, hB'⟩ : ∃ B, w.heap.size + 4 = B := ⟨_, rfl⟩
  rw [hlo'] at hlo hlt M2
  have hB3 : w.heap.size + 3 < B := by omega
  rw [hB'] at hlt M2 hb2
  have REST : ∀ (D : Nat) (W : World) (td : Tr) (qh : Option Addr) (sl : Value) (cs : List CT), WM w p lo B en pe td qh sl cs W → cs.length ≤ 256 → Tr.withT p en 256 0 t = upAll cs en → lo ≤ D → W.heap[D]? = some (.deferred (some [])) → K { tmps := #[.pointer q, .string ⟨p.toArray⟩, .pointer pe, .pointer (some ⟨w.heap.size, 0, none⟩), .pointer (some ⟨w.heap.size + 1, 0, none⟩), .pointer (some ⟨w.heap.size + 2, 0, none⟩), .pointer none, .pointer (some ⟨w.heap.size + 3, 0, none⟩), undef, undef, undef, undef, undef, .string ⟨p.toArray⟩, .func (.func 190) #[] #[.pointer (some ⟨B, 0, none⟩)], undef, undef, undef, undef, undef, undef, undef, undef, undef, undef, undef, undef, undef, undef, undef, undef, undef, undef, undef, undef, undef, undef, undef, undef, undef, undef, undef, undef, undef, undef, undef, undef, undef, undef, undef], defers := [{ target := .collected D, args := #[] }] } W := by
    clear M2 hb2 hlo'
    intro D W td qh sl cs hM hcl hEq hD hKD
    refine hKK _ _ ?_
    clear hKK
    obtain ⟨a, k, rfl, _⟩ := hM.gl.sl
    have cS : W.cell? ⟨w.heap.size + 3, 0, none⟩ = some (.slice a cs.length k) := by have := blk1c hM.s; rw [List.length_map] at this; exact this
    have HBW := bwS_any a cs.length k
    go_wp2_with (go_at_call 167; refine (HBW _).mono ?_; rintro e w3 ⟨rfl, hb3, hw3⟩)
    clear HBW cS
    obtain ⟨bx, hbx⟩ : ∃ bx, W.heap.size = bx := ⟨_, rfl⟩
    have hDl : D < W.heap.size := (Array.getElem?_eq_some_iff.1 hKD).1
    have hML := hM.size
    rw [hbx] at hb3 hDl hML
    rw [hbx]
    have hgl3 := hM.gl.below hw3
    have L : EL w w3.heap.size bx D a cs := ⟨fun g ha h0 => by
      have h1 := hM.gl.lt g (by rw [ha]; rfl)
      have h2 := hw3.size
      exact ⟨by omega, by omega⟩, ⟨by omega, hb3.lt⟩, by have := hb3.lt; omega⟩
    have M3 : EM w w3.heap.size bx D a k cs en pe w3 := ⟨hM.eb.belowSize hw3, hM.ef.below hw3, hM.cf.keep (fun h1 => h1.below hw3), ⟨hb3, hgl3.els⟩, hM.below.trans (hw3.mono hM.below.size), (NC.below hw3).all D _ hKD rfl, Nat.le_refl _⟩
    have hB3' := M3.bm
    obtain ⟨lo2, hlo2⟩ : ∃ lo2, w3.heap.size = lo2 := ⟨_, rfl⟩
    rw [hlo2] at L M3
    clear hgl3 hM hw3 hb3 hbx hKD hDl hML
    refine (wpIn_wide (n := 6)).1 ?_
    refine wpIn_rangeFunc_ownH rfl (by omega) (gf := 196) (lb := #[.pointer (some ⟨bx, 0, none⟩)]) rfl trivial (enters_of Tryz.func196 (by kernel_rfl) rfl)
      (bwS_stops 5 (by omega) bx a k cs (by omega) w3 hB3') kpS_t (kpS_b (w := w3)) (Below.refl _ _) (fun _ => rfl)
      (fun pre W1 => ∃ e1 pe1, EM w lo2 bx D a k cs e1 pe1 W1 ∧ e1.cnt ≤ 3500 * (pre.length + 1) ∧ Hid (IsR cs.length pre → e1 = upAll (cs.drop (cs.length - pre.length)) en))
      (fun _ _ _ => False)
      (fun s W1 W2 row hs hg hr => by
        obtain ⟨e1, pe1, hM, hrest⟩ := hs
        exact ⟨e1, pe1, hM.turn L hg (by rw [hlo2] at hr; exact hr), hrest⟩)
      (fun _ _ _ _ _ hs _ _ => hs)
      ⟨en, pe, M3, by rw [List.length_nil]; omega, fun _ => by rw [List.length_nil, Nat.sub_zero, List.drop_length]; rfl⟩
      (fun x a' W1 => ∃ Bx, lo2 ≤ Bx ∧ Blk W1 Bx #[.pointer cs[x.1].pl, .pointer cs[x.1].pr, .int .i64 ((cs[x.1].at_ : Nat) : Int)] 244 ∧ a' = { tmps := #[.pointer q, .string ⟨p.toArray⟩, .pointer pe, .pointer (some ⟨w.heap.size, 0, none⟩), .pointer (some ⟨w.heap.size + 1, 0, none⟩), .pointer (some ⟨w.heap.size + 2, 0, none⟩), .pointer none, .pointer (some ⟨w.heap.size + 3, 0, none⟩), undef, undef, undef, undef, .pointer (some ⟨Bx, 0, none⟩), .string ⟨p.toArray⟩, .func (.func 190) #[] #[.pointer (some ⟨B, 0, none⟩)], undef, undef, undef, undef, undef, undef, undef, undef, undef, undef, undef, undef, undef, undef, undef, undef, undef, undef, undef, undef, undef, undef, .slice a cs.length k, .func (.func 196) #[] #[.pointer (some ⟨bx, 0, none⟩)], .int .i64 ((x.1 : Nat) : Int), .agg #[.pointer cs[x.1].pl, .pointer cs[x.1].pr, .int .i64 ((cs[x.1].at_ : Nat) : Int)], undef, undef, undef, undef, undef, undef, undef, undef, undef], defers := [] })
      (fun x a' s W1 W2 row hs hg hr => by
        obtain ⟨Bx, h1, h2, h3⟩ := hs
        exact ⟨Bx, h1, h2.turn hg (fun r e => (hr r e).2), h3⟩) ?assign2 ?body2 ?done2 ?stop2
    case assign2 =>
      rintro l pre x W1 K ⟨e1, pe1, M1, hcn, hFI⟩ hK
      rw [fold2]
      simp only [List.setIfInBounds_toArray, List.set_cons_zero, List.set_cons_succ]
      refine region_in (by kernel_rfl) (by rintro ⟨_, _, h⟩; exact h) ?_
      go_wp2_with (with_reducible refine at_list ?_; first
        | (refine wpList_allocRow (op := ⟨some 12, _, _, _, _, _⟩) rfl _ rfl _ zSt.1 ?_; intro w4 hw4 hs4 hz4; replace hs4 := hs4.symm; have M4 := M1.below' hw4)
        | (refine wpList_storeRow (op := ⟨none, .store 244 (.tmp 12) (.tmp 40), _, _, _, _⟩) rfl _ _ _ rfl W1.heap.size #[.pointer cs[x.1].pl, .pointer cs[x.1].pr, .int .i64 ((cs[x.1].at_ : Nat) : Int)] rfl rfl _ _ hz4 (by simp) (by simpa using zSt.2) (by simp [Value.oneCell']) ?_; intro w5 hg5 hs5 hz5))
      have M5 := M4.own L hg5 hz4 (by decide) M1.size
      exact hK _ _ (((NC.below hw4).trans (NC.blk hg5 hz4)).from _) (fun _ => M5.bm) ⟨e1, pe1, M5, hcn, hFI⟩ ⟨W1.heap.size, M1.size, hz5, rfl⟩
    case body2 =>
      rintro l pre x a' W1 hl9 ⟨r9, hr9⟩ ⟨e1, pe1, M1, hcn, hFI⟩ ⟨Bx, hBx, bX, rfl⟩ hlt2
      have hcc := M1.cf cs[x.1] (List.getElem_mem _)
      have ce := blk1c M1.eb
      have hBxl := bX.lt
      obtain ⟨cc, hcx⟩ : ∃ cc, cs[x.1] = cc := ⟨_, rfl⟩
      rw [hcx] at bX hcc
      rw [hcx]
      replace hcx : Hid (cs[x.1] = cc) := hcx
      obtain ⟨cl, cr, cat, cpl, cpr⟩ := cc
      dsimp only at bX hcc ⊢
      obtain ⟨hc1, hc2, hc3, hc4', hc5⟩ := hcc
      have hcc : HF W1 cl cpl ∧ HF W1 cr cpr := ⟨hc1, hc2⟩
      obtain ⟨z0, z1, z2⟩ := blk3c bX
      rcases (show cat = 0 ∨ cat = 1 by omega) with rfl | rfl
      · have f0 := bX.frozen 0
        have f1 := f0
        gi_upto_region 12 with fail
        have M4 := M1.own L (grown_setCell Bx (.pointer pe1) 0 W1) bX (by decide) hBx
        have N4 := NC.blk (grown_setCell Bx (.pointer pe1) 0 W1) bX
        have b4 := bX.setCell 0 (.pointer pe1)
        have hc4 : HF (W1.setCell ⟨Bx, 0, none⟩ (.pointer pe1)) cl cpl ∧ HF (W1.setCell ⟨Bx, 0, none⟩ (.pointer pe1)) cr cpr := ⟨hcc.1.grown (grown_setCell Bx (.pointer pe1) 0 W1) bX (by decide), hcc.2.grown (grown_setCell Bx (.pointer pe1) 0 W1) bX (by decide)⟩
        clear z0 z1 z2 f0 f1 ce
        generalize W1.setCell ⟨Bx, 0, none⟩ (.pointer pe1) = w4 at *
        replace b4 : Blk w4 Bx #[.pointer pe1, .pointer cpr, .int .i64 0] 244 := b4
        obtain ⟨z0, z1, z2⟩ := blk3c b4
        have HJ := joined_any e1 cr pe1 cpr w4 (hG.belowSize M4.below) M4.ef hc4.2 (by omega) (by omega)
        gi_wp2_with (refine ⟨trivial, ?_⟩; gi_at_call 168; refine (CallsIn.inRound l (callsIn_wide.2 HJ)).mono ?_; rintro e w5 ⟨q5, rfl, h5, hw5⟩; have M5 := M4.below' hw5; have c5 := blk1c M5.eb; have f5 := M5.eb.frozen 0)
        have M6 := M5.move L h5
        have N6 := (N4.trans (NC.below hw5)).trans (NC.blk (grown_setCell (w.heap.size + 2) (.pointer q5) 0 w5) M5.eb)
        have hjc := joinG_cnt e1 cr
        refine ⟨N6.from _, fun _ => M6.bm, _, _, M6, by rw [List.length_append, List.length_singleton]; omega, fun hR => ?_⟩
        have h9 := hR.snoc hlt2
        have h10 := upAll_drop cs en pre.length hlt2
        rw [List.length_append, List.length_singleton, h10, ← hFI.out h9.1]
        have hx9 : cs[cs.length - 1 - pre.length]'(by omega) = cs[x.1] := by congr 1; exact h9.2.symm
        rw [hx9, hcx.out]
        rfl
      · have f0 := bX.frozen 1
        have f1 := f0
        gi_upto_region 12 with fail
        have M4 := M1.own L (grown_setCell Bx (.pointer pe1) 1 W1) bX (by decide) hBx
        have N4 := NC.blk (grown_setCell Bx (.pointer pe1) 1 W1) bX
        have b4 := bX.setCell 1 (.pointer pe1)
        have hc4 : HF (W1.setCell ⟨Bx, 1, none⟩ (.pointer pe1)) cl cpl ∧ HF (W1.setCell ⟨Bx, 1, none⟩ (.pointer pe1)) cr cpr := ⟨hcc.1.grown (grown_setCell Bx (.pointer pe1) 1 W1) bX (by decide), hcc.2.grown (grown_setCell Bx (.pointer pe1) 1 W1) bX (by decide)⟩
        clear z0 z1 z2 f0 f1 ce
        generalize W1.setCell ⟨Bx, 1, none⟩ (.pointer pe1) = w4 at *
        replace b4 : Blk w4 Bx #[.pointer cpl, .pointer pe1, .int .i64 1] 244 := b4
        obtain ⟨z0, z1, z2⟩ := blk3c b4
        have HJ := joined_any cl e1 cpl pe1 w4 (hG.belowSize M4.below) hc4.1 M4.ef (by omega) (by omega)
        gi_wp2_with (refine ⟨trivial, ?_⟩; gi_at_call 168; refine (CallsIn.inRound l (callsIn_wide.2 HJ)).mono ?_; rintro e w5 ⟨q5, rfl, h5, hw5⟩; have M5 := M4.below' hw5; have c5 := blk1c M5.eb; have f5 := M5.eb.frozen 0)
        have M6 := M5.move L h5
        have N6 := (N4.trans (NC.below hw5)).trans (NC.blk (grown_setCell (w.heap.size + 2) (.pointer q5) 0 w5) M5.eb)
        have hjc := joinG_cnt cl e1
        refine ⟨N6.from _, fun _ => M6.bm, _, _, M6, by rw [List.length_append, List.length_singleton]; omega, fun hR => ?_⟩
        have h9 := hR.snoc hlt2
        have h10 := upAll_drop cs en pre.length hlt2
        rw [List.length_append, List.length_singleton, h10, ← hFI.out h9.1]
        have hx9 : cs[cs.length - 1 - pre.length]'(by omega) = cs[x.1] := by congr 1; exact h9.2.symm
        rw [hx9, hcx.out]
        rfl
    case done2 =>
      rintro D2 ys W1 hD2 rfl ⟨e1, pe1, M1, hcn, hFI⟩ hK2
      have ce := blk1c M1.eb
      have hfin := hFI.out (IsR.all _)
      rw [revW_len, Nat.sub_self, List.drop_zero, ← hEq] at hfin
      go_wp2_with fail
      have hd := L.d
      refine ⟨by simp, .inl ⟨_, _, rfl, run_takeDeferred hK2, ?_⟩⟩
      have hg1 := grownBy_putObj' W1 D2 (.deferred none)
      have hKD2 : (W1.putObj D2 (.deferred none)).heap[D]? = some (.deferred (some [])) := by
        rw [hg1.block D (Array.getElem?_eq_some_iff.1 M1.dd).1 (fun e => by have := Option.some.inj e; omega)]
        exact M1.dd
      refine ⟨by simp, .inl ⟨_, _, rfl, run_takeDeferred hKD2, ?_⟩⟩
      have hf1 := M1.ef.turn hg1 (fun r e => by cases e; exact ⟨_, hK2, rfl⟩)
      have hf2 := hf1.turn (grownBy_putObj' (W1.putObj D2 (.deferred none)) D (.deferred none)) (fun r e => by cases e; exact ⟨_, hKD2, rfl⟩)
      have hB1 := M1.below.trans (belowK_b (w := w) (Nat.le_refl _) W1 D2 _ (.deferred none) (by have := L.bx; omega) hK2 rfl rfl)
      exact ⟨_, results_tmp rfl _ _ _, pe1, rfl, by rw [← hfin]; exact hf2, hB1.trans (belowK_b (w := w) (Nat.le_refl _) (W1.putObj D2 (.deferred none)) D _ _ (by omega) hKD2 rfl rfl)⟩
    case stop2 =>
      rintro D2 c pre W1 _ _ h _
      exact h.elim
  clear hKK
  refine (wpIn_wide (n := 6)).1 ?_
  rw [hB']
  refine wpIn_rangeFunc_ownG rfl (by omega) (gf := 190) (lb := #[.pointer (some ⟨B, 0, none⟩)]) rfl trivial (enters_of Tryz.func190 (by kernel_rfl) rfl)
    (way_stops 5 (by omega) B p hp w2 hb2) kpW_t (kpW_b (w := w2)) (Below.refl _ _) (fun _ => rfl)
    (fun pre W => ∃ td qh sl cs, WM w p lo B en pe td qh sl cs W ∧ td.cnt ≤ 3500 ∧ cs.length = pre.length ∧ Hid (IsW pre → WI t p en pre.length td cs))
    (fun c pre W => c = .exit 0 ∧ ∃ td qh sl cs, WM w p lo B en pe td qh sl cs W ∧ Tr.ends p td ∧ cs.length + 1 = pre.length ∧ Hid (IsW pre → WI t p en (pre.length - 1) td cs))
    (fun s W W' row hs hg hr => by
      obtain ⟨td, qh, sl, cs, hM, hrest⟩ := hs
      exact ⟨td, qh, sl, cs, hM.turn (by omega) hg (by rw [hlo'] at hr; exact hr), hrest⟩)
    (fun c s W W' row hs hg hr => by
      obtain ⟨hc, td, qh, sl, cs, hM, hrest⟩ := hs
      exact ⟨hc, td, qh, sl, cs, hM.turn (by omega) hg (by rw [hlo'] at hr; exact hr), hrest⟩)
    ⟨t, q, _, [], M2, hn, rfl, fun _ => WI.start t p en⟩
    (fun x => { tmps := #[.pointer q, .string ⟨p.toArray⟩, .pointer pe, .pointer (some ⟨w.heap.size, 0, none⟩), .pointer (some ⟨w.heap.size + 1, 0, none⟩), .pointer (some ⟨w.heap.size + 2, 0, none⟩), .pointer none, .pointer (some ⟨w.heap.size + 3, 0, none⟩), .int .i64 ((x.1 : Nat) : Int), .int .i64 ((bitD p x.1 : Nat) : Int), undef, undef, undef, .string ⟨p.toArray⟩, .func (.func 190) #[] #[.pointer (some ⟨B, 0, none⟩)], .int .i64 ((x.1 : Nat) : Int), .int .i64 ((bitD p x.1 : Nat) : Int), undef, undef, undef, undef, undef, undef, undef, undef, undef, undef, undef, undef, undef, undef, undef, undef, undef, undef, undef, undef, undef, undef, undef, undef, undef, undef, undef, undef, undef, undef, undef, undef, undef], defers := [] }) ?assign ?body ?done ?stop
  case assign =>
    intro l x W K hK
    gi_wp2
    exact hK
  case body =>
    rintro l pre x W ⟨td, qh, sl, cs, hM, hcn, hcl, hFI⟩ hlt2
    have ch : W.cell? ⟨w.heap.size, 0, none⟩ = some (.pointer qh) := hM.h.cell 0
    have cp : W.cell? ⟨w.heap.size + 1, 0, none⟩ = some (.string ⟨p.toArray⟩) := hM.pt.cell 0
    have hgo : ∀ {u : Tr} {v : Option Addr}, cs.length + 1 = (pre ++ [x]).length ∧ (IsW (pre ++ [x]) → WI t p en ((pre ++ [x]).length - 1) td cs) := fun {_ _} => ⟨by rw [List.length_append, List.length_singleton, hcl], fun hW => by
      rw [List.length_append, List.length_singleton, Nat.add_sub_cancel]
      exact hFI.out (hW.snoc hlt2).1⟩
    have HL := isLeaf_any td qh p W hM.hf (by omega)
    by_cases hend : Tr.ends p td
    · cases td with
      | emp =>
        obtain rfl : qh = none := hM.hf
        gi_wp2
        refine ⟨trivial, ?_⟩
        gi_wp2
        exact ⟨(NC.refl _).from _, rfl, .emp, none, sl, cs, hM, hend, (hgo (u := .emp) (v := none)).1, (hgo (u := .emp) (v := none)).2⟩
      | lf y =>
        obtain ⟨b, rfl, hb, hy⟩ := hM.hf
        rw [show isAtT p (.lf y) = true from by show (y.1 == p) = true; rw [beq_iff_eq]; exact hend] at HL
        gi_wp2_with (refine ⟨trivial, ?_⟩; gi_at_call 165; refine (CallsIn.inRound l (callsIn_wide.2 HL)).mono ?_; rintro e w3 ⟨rfl, hw3⟩; have hw3 := hw3.symm; subst hw3)
        exact ⟨(NC.refl _).from _, rfl, .lf y, _, sl, cs, hM, hend, (hgo (u := .emp) (v := none)).1, (hgo (u := .emp) (v := none)).2⟩
      | nd a b => exact hend.elim
    · have hat : isAtT p td = false := by
        cases td with
        | emp => rfl
        | lf y => show (y.1 == p) = false; rw [beq_eq_false_iff_ne]; exact hend
        | nd a b => rfl
      rw [hat] at HL
      have hne : td ≠ .emp := fun e => hend (by rw [e]; trivial)
      have HO := opened_any td qh x.1 W hM.hf hne (by omega) x.2
      have hoc := open_cnt td x.1
      have ho1 : (Tr.openT x.1 td).1.cnt ≤ 3500 := by omega
      have ho2 : (Tr.openT x.1 td).2.cnt ≤ 3500 := by omega
      rcases hM.hf.out with ⟨rfl, _⟩ | ⟨b, _, _, _, _, rfl, _, _, _⟩
      · exact absurd rfl hne
      · have hbit := bitD_lt p x.1
        by_cases hb0 : bitD p x.1 = 0
        · rw [hb0]
          gi_upto_region 6 with (refine ⟨trivial, ?_⟩; gi_at_call 165; refine (CallsIn.inRound l (callsIn_wide.2 HL)).mono ?_; rintro e w3 ⟨rfl, hw3⟩; have hw3 := hw3.symm; subst hw3)
          refine region_in (by kernel_rfl) (by rintro ⟨_, _, h⟩; exact h) ?_
          go_wp2_with (first
            | (go_at_call 166; refine HO.mono ?_; rintro e w3 ⟨pl, pr, rfl, hl3, hr3, hw3⟩; have M3 := hM.below' hw3)
            | (with_reducible refine at_list ?_; first
              | (refine wpList_allocRow (op := ⟨some 10, _, _, _, _, _⟩) rfl _ rfl _ zSt.1 ?_; intro w4 hw4 hs4 hz4; replace hs4 := hs4.symm; have M4 := M3.below' hw4)
              | (refine wpList_storeRow (op := ⟨none, .store 244 (.tmp 10) (.tmp 28), _, _, _, _⟩) rfl _ _ _ rfl w3.heap.size #[.pointer pl, .pointer pr, .int .i64 0] rfl rfl _ _ hz4 (by simp) (by simpa using zSt.2) (by simp [Value.oneCell']) ?_; intro w5 hg5 hs5 hz5)))
          have hsl : ∀ r, slBlk sl = some r → r ≠ w3.heap.size := fun r e e2 => by have := (M3.gl.lt r e).2; omega
          have M5 := M4.own hg5 hz4 (by decide) M3.size hlt hlo hsl
          have N5 : NC W w5 := ((NC.below hw3).trans (NC.below hw4)).trans (NC.blk hg5 hz4)
          have hl5 := (hl3.below hw4).grown hg5 hz4 (by decide)
          have hr5 := (hr3.below hw4).grown hg5 hz4 (by decide)
          obtain ⟨z0, z1, z2⟩ := blk3c hz5
          have cs5 : w5.cell? ⟨w.heap.size + 3, 0, none⟩ = some sl := M5.s.cell 0
          obtain ⟨bx, hbx⟩ : ∃ bx, w3.heap.size = bx := ⟨_, rfl⟩
          rw [hbx] at hz5 z0 z1 z2 hsl hz4
          rw [hbx]
          have hbl : lo ≤ bx := by rw [← hbx]; exact M3.size
          clear hw3 hw4 hs4 hs5 hg5 hz4 M3 M4 hl3 hr3 HO HL
          gi_upto_region 7 with fail
          refine region_in (by kernel_rfl) (by rintro ⟨_, _, h⟩; exact h) ?_
          go_wp2_with (with_reducible refine at_list ?_; first
              | (refine wpList_bslSt (op := ⟨some 31, _, _, _, _, _⟩) rfl _ rfl (.pointer pl) (.pointer pr) (.int .i64 0) rfl ?_; intro w6 hw6 hs6 hb6; replace hs6 := hs6.symm; have M6 := M5.below' hw6)
              | (refine wpList_appendGL (op := ⟨some 32, _, _, _, _, _⟩) rfl _ _ 241 244 rfl 3 lo sl (cs.map ctC) M6.size rfl M6.gl w5.heap.size 1 rfl [.pointer pl, .pointer pr, .int .i64 0] (by simp) (by simp [Value.oneCell']) 244 hb6 iSt (.agg #[.pointer none, .pointer none, .int .i64 0]) (by simp [Value.cells]) Tryz.underlying241 hiS hzS hsS hbyS (by rw [List.length_map]; omega) ?_; intro w7 sl7 hg7 hG7; obtain ⟨b7, n7, M7⟩ := M6.app (c := ⟨(Tr.openT x.1 td).1, (Tr.openT x.1 td).2, 0, pl, pr⟩) hg7 hG7 ⟨hl5.below hw6, hr5.below hw6, ho1, ho2, Nat.zero_lt_two⟩ hlo hlt hB3; have c7 := blk1c b7; have f7 := b7.frozen 0; obtain ⟨a7, k7, e7, _⟩ := hG7.sl; generalize List.length _ = q7 at e7; subst e7))
          have hz8 := ((hz5.belowSize hw6).grown hg7 (fun e => hsl _ e.symm rfl)).setCell_other ⟨w.heap.size + 3, 0, none⟩ (by show bx ≠ w.heap.size + 3; omega) (.slice a7 q7 k7)
          have N8 := ((N5.trans (NC.below hw6)).trans n7).trans (NC.blk (grown_setCell (w.heap.size + 3) (.slice a7 q7 k7) 0 w7) b7)
          have h8 := (M7.cf _ (List.mem_append.2 (.inr (List.mem_singleton.2 rfl)))).1
          dsimp only at h8
          clear c7 f7 hg7 hG7 b7 n7 M6 M5 N5 hw6 hs6 hb6 hz5 z0 z1 z2 cs5
          generalize w7.setCell ⟨w.heap.size + 3, 0, none⟩ (.slice a7 q7 k7) = w8 at *
          obtain ⟨z0, z1, z2⟩ := blk3c hz8
          have q0 : w8.cell? ⟨w.heap.size, 0, none⟩ = some (.pointer (some ⟨b, 0, none⟩)) := M7.h.cell 0
          have q1 := M7.h.frozen 0
          gi_wp2
          have M9 := M7.move (tn := (Tr.openT x.1 td).1) (qn := pl) h8 hlo hB3
          have N9 := N8.trans (NC.blk (grown_setCell w.heap.size (.pointer pl) 0 w8) M7.h)
          refine ⟨N9.from _, fun _ => M9.path, (Tr.openT x.1 td).1, pl, _, _, M9, ho1, by rw [List.length_append, List.length_append, List.length_singleton, List.length_singleton, hcl], fun hW => ?_⟩
          rw [List.length_append, List.length_singleton]
          have h9 := hW.snoc hlt2
          have h10 := (hFI.out h9.1).step hlt2 hend pl pr
          rw [← h9.2, hb0] at h10
          rw [← h9.2]
          exact h10
        · have hb1 : bitD p x.1 = 1 := by omega
          rw [hb1]
          gi_upto_region 6 with (refine ⟨trivial, ?_⟩; gi_at_call 165; refine (CallsIn.inRound l (callsIn_wide.2 HL)).mono ?_; rintro e w3 ⟨rfl, hw3⟩; have hw3 := hw3.symm; subst hw3)
          refine region_in (by kernel_rfl) (by rintro ⟨_, _, h⟩; exact h) ?_
          go_wp2_with (first
            | (go_at_call 166; refine HO.mono ?_; rintro e w3 ⟨pl, pr, rfl, hl3, hr3, hw3⟩; have M3 := hM.below' hw3)
            | (with_reducible refine at_list ?_; first
              | (refine wpList_allocRow (op := ⟨some 10, _, _, _, _, _⟩) rfl _ rfl _ zSt.1 ?_; intro w4 hw4 hs4 hz4; replace hs4 := hs4.symm; have M4 := M3.below' hw4)
              | (refine wpList_storeRow (op := ⟨none, .store 244 (.tmp 10) (.tmp 28), _, _, _, _⟩) rfl _ _ _ rfl w3.heap.size #[.pointer pl, .pointer pr, .int .i64 1] rfl rfl _ _ hz4 (by simp) (by simpa using zSt.2) (by simp [Value.oneCell']) ?_; intro w5 hg5 hs5 hz5)))
          have hsl : ∀ r, slBlk sl = some r → r ≠ w3.heap.size := fun r e e2 => by have := (M3.gl.lt r e).2; omega
          have M5 := M4.own hg5 hz4 (by decide) M3.size hlt hlo hsl
          have N5 : NC W w5 := ((NC.below hw3).trans (NC.below hw4)).trans (NC.blk hg5 hz4)
          have hl5 := (hl3.below hw4).grown hg5 hz4 (by decide)
          have hr5 := (hr3.below hw4).grown hg5 hz4 (by decide)
          obtain ⟨z0, z1, z2⟩ := blk3c hz5
          have cs5 : w5.cell? ⟨w.heap.size + 3, 0, none⟩ = some sl := M5.s.cell 0
          obtain ⟨bx, hbx⟩ : ∃ bx, w3.heap.size = bx := ⟨_, rfl⟩
          rw [hbx] at hz5 z0 z1 z2 hsl hz4
          rw [hbx]
          have hbl : lo ≤ bx := by rw [← hbx]; exact M3.size
          clear hw3 hw4 hs4 hs5 hg5 hz4 M3 M4 hl3 hr3 HO HL
          gi_upto_region 7 with fail
          refine region_in (by kernel_rfl) (by rintro ⟨_, _, h⟩; exact h) ?_
          go_wp2_with (with_reducible refine at_list ?_; first
              | (refine wpList_bslSt (op := ⟨some 31, _, _, _, _, _⟩) rfl _ rfl (.pointer pl) (.pointer pr) (.int .i64 1) rfl ?_; intro w6 hw6 hs6 hb6; replace hs6 := hs6.symm; have M6 := M5.below' hw6)
              | (refine wpList_appendGL (op := ⟨some 32, _, _, _, _, _⟩) rfl _ _ 241 244 rfl 3 lo sl (cs.map ctC) M6.size rfl M6.gl w5.heap.size 1 rfl [.pointer pl, .pointer pr, .int .i64 1] (by simp) (by simp [Value.oneCell']) 244 hb6 iSt (.agg #[.pointer none, .pointer none, .int .i64 0]) (by simp [Value.cells]) Tryz.underlying241 hiS hzS hsS hbyS (by rw [List.length_map]; omega) ?_; intro w7 sl7 hg7 hG7; obtain ⟨b7, n7, M7⟩ := M6.app (c := ⟨(Tr.openT x.1 td).1, (Tr.openT x.1 td).2, 1, pl, pr⟩) hg7 hG7 ⟨hl5.below hw6, hr5.below hw6, ho1, ho2, Nat.one_lt_two⟩ hlo hlt hB3; have c7 := blk1c b7; have f7 := b7.frozen 0; obtain ⟨a7, k7, e7, _⟩ := hG7.sl; generalize List.length _ = q7 at e7; subst e7))
          have hz8 := ((hz5.belowSize hw6).grown hg7 (fun e => hsl _ e.symm rfl)).setCell_other ⟨w.heap.size + 3, 0, none⟩ (by show bx ≠ w.heap.size + 3; omega) (.slice a7 q7 k7)
          have N8 := ((N5.trans (NC.below hw6)).trans n7).trans (NC.blk (grown_setCell (w.heap.size + 3) (.slice a7 q7 k7) 0 w7) b7)
          have h8 := (M7.cf _ (List.mem_append.2 (.inr (List.mem_singleton.2 rfl)))).2.1
          dsimp only at h8
          clear c7 f7 hg7 hG7 b7 n7 M6 M5 N5 hw6 hs6 hb6 hz5 z0 z1 z2 cs5
          generalize w7.setCell ⟨w.heap.size + 3, 0, none⟩ (.slice a7 q7 k7) = w8 at *
          obtain ⟨z0, z1, z2⟩ := blk3c hz8
          have q0 : w8.cell? ⟨w.heap.size, 0, none⟩ = some (.pointer (some ⟨b, 0, none⟩)) := M7.h.cell 0
          have q1 := M7.h.frozen 0
          gi_wp2
          have M9 := M7.move (tn := (Tr.openT x.1 td).2) (qn := pr) h8 hlo hB3
          have N9 := N8.trans (NC.blk (grown_setCell w.heap.size (.pointer pr) 0 w8) M7.h)
          refine ⟨N9.from _, fun _ => M9.path, (Tr.openT x.1 td).2, pr, _, _, M9, ho2, by rw [List.length_append, List.length_append, List.length_singleton, List.length_singleton, hcl], fun hW => ?_⟩
          rw [List.length_append, List.length_singleton]
          have h9 := hW.snoc hlt2
          have h10 := (hFI.out h9.1).step hlt2 hend pl pr
          rw [← h9.2, hb1] at h10
          rw [← h9.2]
          exact h10
  case done =>
    rintro D ys W hD rfl ⟨td, qh, sl, cs, hM, hcn, hcl, hFI⟩ hK
    rw [allW_len] at hcl
    refine REST D W td qh sl cs hM (by omega) ?_ (by omega) hK
    have := hFI.out IsW.all
    rw [allW_len] at this
    exact this.last
  case stop =>
    rintro D c pre W hD ⟨j, hj, rfl⟩ ⟨rfl, td, qh, sl, cs, hM, hend, hcl, hFI⟩ hK
    rw [List.length_take, allW_len] at hcl
    refine wpIn_exit ?_
    exact REST D W td qh sl cs hM (by omega) ((hFI.out (IsW.take hj)).ends hend) (by omega) hK
end
end Go.Proofs.YtmbdhngoldganaaGreatDoor.Sh
