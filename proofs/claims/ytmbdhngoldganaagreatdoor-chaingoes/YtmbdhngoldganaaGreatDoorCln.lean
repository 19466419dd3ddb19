/- A state and a tree in memory beside one another: what goes on with both, and what stays. Slices of errors and of transactions that grow; what a round of transactions keeps. What Clone does. -/
import Derived.Test.YtmbdhngoldganaaGreatDoorExm
import Derived.Test.YtmbdhngoldganaaGreatDoorBcc
import Derived.Test.YtmbdhngoldganaaGreatDoorRef
namespace Go.Proofs.YtmbdhngoldganaaGreatDoor
open Go Go.RowKit
/-- A state in block bs, a tree in block bt. -/
structure EX (w : World) (bs bt : Nat) (m : List KV) (t : Tr) : Prop where
  st : ST w bs m
  tr : ∃ q, Sh.Blk w bt #[.pointer q] 215 ∧ Sh.HF w t q
  glob : Sh.Glob w
  two : 2 ≤ bs ∧ 2 ≤ bt
theorem Blk.neT {w : World} {i j : Nat} {c d : Array Value} {t u : TypeId} (h : Blk w i c t) (k : Blk w j d u) (ht : t ≠ u) : i ≠ j := by
  intro e
  subst e
  have h2 := h.out
  rw [k.out] at h2
  simp only [Option.some.injEq, Obj.cells.injEq] at h2
  exact ht h2.2.1.symm
theorem EX.ne {w : World} {bs bt : Nat} {m : List KV} {t : Tr} (h : EX w bs bt m t) : bs ≠ bt := by
  obtain ⟨mb, h1, _⟩ := h.st.out
  obtain ⟨q, h2, _⟩ := h.tr
  exact h1.neT (Blk.of_sh h2) (by decide)
theorem EX.lts {w : World} {bs bt : Nat} {m : List KV} {t : Tr} (h : EX w bs bt m t) : bs < w.heap.size := h.st.lt
theorem EX.ltt {w : World} {bs bt : Nat} {m : List KV} {t : Tr} (h : EX w bs bt m t) : bt < w.heap.size := by
  obtain ⟨q, h2, _⟩ := h.tr
  exact (Blk.of_sh h2).lt
theorem EX.below {w w' : World} {bs bt : Nat} {m : List KV} {t : Tr} (h : EX w bs bt m t) (hb : Below w.heap.size w w') : EX w' bs bt m t := by
  obtain ⟨q, h1, h2⟩ := h.tr
  exact ⟨h.st.below hb, ⟨q, h1.belowSize hb, h2.below hb⟩, h.glob.belowSize hb, h.two⟩
theorem EX.apply {w w' : World} {bs bt : Nat} {m : List KV} {t : Tr} {x : TX} {e : Ending} (h : EX w bs bt m t) (hA : ApP m x bs w e w') : EX w' bs bt (apM m x) t := by
  obtain ⟨q, h1, h2⟩ := h.tr
  obtain ⟨mb, h3, _⟩ := h.st.out
  exact ⟨hA.st, ⟨q, h1.grown hA.grown (fun e => h.ne (Option.some.inj e).symm), h2.grown hA.grown (Blk.sh h3) (by decide)⟩, h.glob.grown hA.grown h.two.1, h.two⟩
theorem EX.tree {w w' : World} {bs bt : Nat} {m : List KV} {t t' : Tr} (h : EX w bs bt m t) (ht : ∃ q', Sh.Blk w' bt #[.pointer q'] 215 ∧ Sh.HF w' t' q' ∧ w.grownBy w' (some bt)) : EX w' bs bt m t' := by
  obtain ⟨q', h1, h2, hg⟩ := ht
  obtain ⟨q, h3, _⟩ := h.tr
  exact ⟨h.st.kept hg (Blk.of_sh h3) h.ne, ⟨q', h1, h2⟩, h.glob.grown hg h.two.2, h.two⟩
theorem EX.other {w w' : World} {bs bt b : Nat} {m : List KV} {t : Tr} {c : Array Value} {u : TypeId} (h : EX w bs bt m t) (hg : w.grownBy w' (some b)) (hb : Blk w b c u) (h1 : u ≠ 167) (h2 : u ≠ 215) (h3 : 196 ≠ u) (hb2 : 2 ≤ b) : EX w' bs bt m t := by
  obtain ⟨q, h4, h5⟩ := h.tr
  obtain ⟨mb, h6, _⟩ := h.st.out
  exact ⟨h.st.kept hg hb (h6.neT hb (Ne.symm h1)), ⟨q, h4.grown hg (fun e => (Blk.of_sh h4).neT hb (Ne.symm h2) (Option.some.inj e)), h5.grown hg (Blk.sh hb) h3⟩, h.glob.grown hg hb2, h.two⟩
theorem EX.row {w w' : World} {bs bt k lo : Nat} {m : List KV} {t : Tr} {u : TypeId} {sl : Value} {ls : List (List Value)} (h : EX w bs bt m t) (hG : Sh.GL w u k lo sl ls) (hg : w.grownBy w' (Sh.slBlk sl)) (h1 : u ≠ 167) (h2 : u ≠ 215) (h3 : 196 ≠ u) (hlo : 2 ≤ lo) : EX w' bs bt m t := by
  rcases hG.2 with ⟨_, rfl⟩ | ⟨g, cap, h4, rfl, h5⟩
  · exact h.below (below_row (row := none) hg (fun _ e => nomatch e) (Nat.le_refl _))
  · obtain ⟨cur, h6, _⟩ := h5.out
    exact h.other (b := g) hg ⟨h6⟩ h1 h2 h3 (by omega)
/-- What stays but two blocks. -/
structure Two (bs bt : Nat) (w w' : World) : Prop where
  os : w'.os = w.os
  tape : w'.tape = w.tape
  output : w'.output = w.output
  size : w.heap.size ≤ w'.heap.size
  block : ∀ k, k < w.heap.size → k ≠ bs → k ≠ bt → w'.heap[k]? = w.heap[k]?
theorem Two.refl (bs bt : Nat) (w : World) : Two bs bt w w := ⟨rfl, rfl, rfl, Nat.le_refl _, fun _ _ _ _ => rfl⟩
theorem Two.trans {bs bt : Nat} {a b c : World} (h : Two bs bt a b) (k : Two bs bt b c) : Two bs bt a c :=
  ⟨k.os.trans h.os, k.tape.trans h.tape, k.output.trans h.output, Nat.le_trans h.size k.size, fun i hi h1 h2 => (k.block i (Nat.lt_of_lt_of_le hi h.size) h1 h2).trans (h.block i hi h1 h2)⟩
theorem Two.grown {bs bt : Nat} {a b c : World} {row : Option Nat} (h : Two bs bt a b) (hg : b.grownBy c row) (hr : ∀ r, row = some r → r = bs ∨ r = bt ∨ a.heap.size ≤ r) : Two bs bt a c :=
  ⟨hg.os.trans h.os, hg.tape.trans h.tape, hg.output.trans h.output, Nat.le_trans h.size hg.size, fun i hi h1 h2 => (hg.block i (Nat.lt_of_lt_of_le hi h.size) (fun e => by
    rcases hr i e.symm with h3 | h3 | h3
    · exact h1 h3
    · exact h2 h3
    · omega)).trans (h.block i hi h1 h2)⟩
theorem Two.below {bs bt : Nat} {a b c : World} (h : Two bs bt a b) (hb : Below b.heap.size b c) : Two bs bt a c := h.grown (row := none) (grown_of_below hb) (fun _ e => nomatch e)
theorem Two.to_below {bs bt B : Nat} {w w' : World} (h : Two bs bt w w') (h1 : B ≤ bs) (h2 : B ≤ bt) (h3 : B ≤ w.heap.size) : Below B w w' := ⟨h.os, h.tape, h.output, h.size, fun k hk => h.block k (by omega) (by omega) (by omega)⟩
/-- A cell that is neither a map nor a pointer stays. -/
theorem Two.cell {bs bt : Nat} {w w' : World} {m : List KV} {t : Tr} (h : Two bs bt w w') (hE : EX w bs bt m t) {p : Addr} {v : Value} (hc : w.cell? p = some v) (h1 : ∀ x, v ≠ .map x) (h2 : ∀ x, v ≠ .pointer x) : w'.cell? p = some v := by
  have hl := World.block_lt_of_cell? _ _ hc
  obtain ⟨g, j, sp⟩ := p
  have hsp := World.cell?_spot hc
  dsimp only at hsp hl
  subst hsp
  obtain ⟨mb, h6, _⟩ := hE.st.out
  obtain ⟨q, h4, _⟩ := hE.tr
  have n1 : g ≠ bs := fun e => by
    subst e
    have := (h6.cell j).symm.trans hc
    match j, this with
    | 0, this => exact h1 _ (Option.some.inj this).symm
    | j + 1, this => simp at this
  have n2 : g ≠ bt := fun e => by
    subst e
    have := ((Blk.of_sh h4).cell j).symm.trans hc
    match j, this with
    | 0, this => exact h2 _ (Option.some.inj this).symm
    | j + 1, this => simp at this
  have e := h.block g hl n1 n2
  simp only [World.cell?] at hc ⊢
  rw [e]
  exact hc
theorem IA.two {bs bt : Nat} {w w' : World} {m : List KV} {t : Tr} {a : Option Addr} {l : List Int} (hI : IA w a l) (h : Two bs bt w w') (hE : EX w bs bt m t) : IA w' a l := fun i x hx => by
  obtain ⟨g, o, ha, hc⟩ := hI i x hx
  exact ⟨g, o, ha, h.cell hE hc (fun _ e => nomatch e) (fun _ e => nomatch e)⟩
theorem SL.two {bs bt : Nat} {w w' : World} {m : List KV} {t : Tr} {a : Option Addr} {l : List O} (hS : SL w a l) (h : Two bs bt w w') (hE : EX w bs bt m t) : SL w' a l := fun i hi => by
  obtain ⟨g, o, ha, hc⟩ := hS i hi
  refine ⟨g, o, ha, fun j v hv => ?_⟩
  have hv' : (opc l[i]).toList[j]? = some v := hv
  have : v = .int .i64 l[i].kind ∨ v = .string ⟨l[i].key.toArray⟩ ∨ v = .string ⟨l[i].val.toArray⟩ := by
    match j, hv' with
    | 0, e => exact .inl (Option.some.inj e).symm
    | 1, e => exact .inr (.inl (Option.some.inj e).symm)
    | 2, e => exact .inr (.inr (Option.some.inj e).symm)
    | j + 3, e => cases e
  refine h.cell hE (hc j v hv) (fun x e => ?_) (fun x e => ?_)
  · rcases this with h | h | h <;> (rw [h] at e; cases e)
  · rcases this with h | h | h <;> (rw [h] at e; cases e)
theorem range_two {bs bt : Nat} {w w' : World} {m : List KV} {t : Tr} {g o c n : Nat} {sa : Option Addr} {k cap : Nat} (hr : w.rangeAt g o (txc c n (.slice sa k cap)).toList) (h : Two bs bt w w') (hE : EX w bs bt m t) : w'.rangeAt g o (txc c n (.slice sa k cap)).toList := fun j v hv => by
  have hv' : (txc c n (.slice sa k cap)).toList[j]? = some v := hv
  have : v = .int .u64 (c : Nat) ∨ v = .int .u64 (n : Nat) ∨ v = .slice sa k cap := by
    match j, hv' with
    | 0, e => exact .inl (Option.some.inj e).symm
    | 1, e => exact .inr (.inl (Option.some.inj e).symm)
    | 2, e => exact .inr (.inr (Option.some.inj e).symm)
    | j + 3, e => cases e
  refine h.cell hE (hr j v hv) (fun x e => ?_) (fun x e => ?_)
  · rcases this with h | h | h <;> (rw [h] at e; cases e)
  · rcases this with h | h | h <;> (rw [h] at e; cases e)
theorem TA.two {bs bt : Nat} {w w' : World} {m : List KV} {t : Tr} {a : Option Addr} {l : List TX} (hT : TA w a l) (h : Two bs bt w w') (hE : EX w bs bt m t) : TA w' a l := fun i hi => by
  obtain ⟨g, o, sa, cap, ha, hr, hs, h1, h2⟩ := hT i hi
  exact ⟨g, o, sa, cap, ha, range_two hr h hE, hs.two h hE, h1, h2⟩
end Go.Proofs.YtmbdhngoldganaaGreatDoor
namespace Go.Proofs.YtmbdhngoldganaaGreatDoor
open Go Go.RowKit
theorem infoErr : ∃ i, Tryz.prog.info? 31 = some i ∧ i.zero = some (.int .i64 0) ∧ i.size = 1 ∧ i.bytes ≤ 256 := by
  have h : (Tryz.prog.info? 31).map (fun i => (i.zero, i.size, i.bytes)) = some (some (.int .i64 0), 1, 8) := by kernel_rfl
  cases hq : Tryz.prog.info? 31 with
  | none => rw [hq] at h; cases h
  | some i => rw [hq] at h; simp at h; exact ⟨i, rfl, h.1, h.2.1, by omega⟩
theorem infoTx : ∃ i, Tryz.prog.info? 95 = some i ∧ i.zero = some (.agg (txc 0 0 (.slice none 0 0))) ∧ i.size = 3 ∧ i.bytes ≤ 256 := by
  have h : (Tryz.prog.info? 95).map (fun i => (i.zero, i.size, i.bytes)) = some (some (.agg (txc 0 0 (.slice none 0 0))), 3, 40) := by kernel_rfl
  cases hq : Tryz.prog.info? 95 with
  | none => rw [hq] at h; cases h
  | some i => rw [hq] at h; simp at h; exact ⟨i, rfl, h.1, h.2.1, by omega⟩
theorem bslE (z : Int) (w : World) : (Instr.buildSlice 54 1 #[(0, .int .i64 z)]).run Tryz.prog w = .ok (.slice (some ⟨w.heap.size, 0, none⟩) 1 1) (w.alloc (.cells #[.int .i64 z] 31)) := by
  simp [Instr.buildSlice, run_underlying Tryz.underlying54, sizeOf_run i29, Sem.run_bind, Instr.fill, newRow, Tryz.zeroValue31, Value.cells, range1]
theorem bslTx (c n : Nat) (a : Option Addr) (k cap : Nat) (w : World) : (Instr.buildSlice 51 1 #[(0, .agg (txc c n (.slice a k cap)))]).run Tryz.prog w = .ok (.slice (some ⟨w.heap.size, 0, none⟩) 1 1) (w.alloc (.cells (txc c n (.slice a k cap)) 95)) := by
  simp [Instr.buildSlice, run_underlying Tryz.underlying51, sizeOf_run zTx.2, Sem.run_bind, Instr.fill, newRow, zTx.1]
  congr 2
  simp [txc, Value.cells, range3]
section
variable {ops : Array Oper} {rest : List Oper} {op : Oper} {a : Act} {w : World} {Q : Exit → Act → World → Prop}
theorem wpList_bslE (hgd : op.guard = none) (x : Operand) (ho : op.op = .buildSlice 54 1 #[(0, x)]) (z : Int) (hx : a.eval x = .int .i64 z)
    (h : ∀ w1 : World, Below w.heap.size w w1 → Blk w1 w.heap.size #[.int .i64 z] 31 → wpList Tryz.prog ops Q rest (a.put op.dst (.slice (some ⟨w.heap.size, 0, none⟩) 1 1)) w1) : wpList Tryz.prog ops Q (op :: rest) a w := by
  refine wpList_run hgd _ _ ?_ (h _ ((Below.refl _ _).alloc (Nat.le_refl _) _) (Blk.new _ _ _))
  unfold execOp
  have e : (#[(0, x)] : Array (Nat × Operand)).map (fun (i, x) => (i, a.eval x)) = #[(0, .int .i64 z)] := by simp [hx]
  have hr := bslE z w
  rw [← e] at hr
  simp only [ho, Sem.run_bind, hr, Result.andThen_ok]
  rfl
theorem wpList_bslTx (hgd : op.guard = none) (x : Operand) (ho : op.op = .buildSlice 51 1 #[(0, x)]) (c n : Nat) (sa : Option Addr) (k cap : Nat) (hx : a.eval x = .agg (txc c n (.slice sa k cap)))
    (h : ∀ w1 : World, Below w.heap.size w w1 → Blk w1 w.heap.size (txc c n (.slice sa k cap)) 95 → wpList Tryz.prog ops Q rest (a.put op.dst (.slice (some ⟨w.heap.size, 0, none⟩) 1 1)) w1) : wpList Tryz.prog ops Q (op :: rest) a w := by
  refine wpList_run hgd _ _ ?_ (h _ ((Below.refl _ _).alloc (Nat.le_refl _) _) (Blk.new _ _ _))
  unfold execOp
  have e : (#[(0, x)] : Array (Nat × Operand)).map (fun (i, x) => (i, a.eval x)) = #[(0, .agg (txc c n (.slice sa k cap)))] := by simp [hx]
  have hr := bslTx c n sa k cap w
  rw [← e] at hr
  simp only [ho, Sem.run_bind, hr, Result.andThen_ok]
  rfl
end
/-- The cells of errors. -/
def ecs (l : List Int) : List (List Value) := l.map fun e => [.int .i64 e]
/-- State, tree, those that were done and what each was told, from block lo on. -/
structure DN (w0 w : World) (bs bt lo : Nat) (m : List KV) (t : Tr) (sd st : Value) (dls : List (List Value)) (D : List TX) (E : List Int) : Prop where
  ex : EX w bs bt m t
  two : Two bs bt w0 w
  big : 2 ≤ w0.heap.size
  lo1 : w0.heap.size ≤ lo
  lo2 : lo ≤ w.heap.size
  dn : Sh.GL w 95 3 lo sd dls
  tx : TXL w 0 97 dls D
  tld : Sh.GL w 31 1 lo st (ecs E)
theorem Beside.blk {w : World} {b : Nat} {c : Array Value} {u t : TypeId} (h : Blk w b c u) (ht : u ≠ t) : Beside w 0 t (some b) := fun r e => by
  have e := Option.some.inj e
  subst e
  exact ⟨Nat.zero_le _, c, u, _, h.out, ht⟩
theorem DN.below {w0 w w' : World} {bs bt lo : Nat} {m : List KV} {t : Tr} {sd st : Value} {dls : List (List Value)} {D : List TX} {E : List Int} (h : DN w0 w bs bt lo m t sd st dls D E) (hb : Below w.heap.size w w') : DN w0 w' bs bt lo m t sd st dls D E :=
  ⟨h.ex.below hb, h.two.below hb, h.big, h.lo1, Nat.le_trans h.lo2 hb.size, h.dn.below hb, h.tx.below hb, h.tld.below hb⟩
theorem DN.apply {w0 w w' : World} {bs bt lo : Nat} {m : List KV} {t : Tr} {sd st : Value} {dls : List (List Value)} {D : List TX} {E : List Int} {x : TX} {e : Ending} (h : DN w0 w bs bt lo m t sd st dls D E) (hA : ApP m x bs w e w') : DN w0 w' bs bt lo (apM m x) t sd st dls D E := by
  obtain ⟨mb, hb, _⟩ := h.ex.st.out
  exact ⟨h.ex.apply hA, h.two.grown hA.grown (fun r e => .inl (Option.some.inj e).symm), h.big, h.lo1, Nat.le_trans h.lo2 hA.grown.size, h.dn.grown hA.grown (h.dn.ne (Blk.sh hb) (.inl (by decide))), h.tx.grown hA.grown (Beside.blk hb (by decide)), h.tld.grown hA.grown (h.tld.ne (Blk.sh hb) (.inl (by decide)))⟩
theorem DN.tree {w0 w w' : World} {bs bt lo : Nat} {m : List KV} {t t' : Tr} {sd st : Value} {dls : List (List Value)} {D : List TX} {E : List Int} (h : DN w0 w bs bt lo m t sd st dls D E) (ht : ∃ q', Sh.Blk w' bt #[.pointer q'] 215 ∧ Sh.HF w' t' q' ∧ w.grownBy w' (some bt)) : DN w0 w' bs bt lo m t' sd st dls D E := by
  obtain ⟨q, hb, _⟩ := h.ex.tr
  have hE := h.ex.tree ht
  obtain ⟨q', _, _, hg⟩ := ht
  exact ⟨hE, h.two.grown hg (fun r e => .inr (.inl (Option.some.inj e).symm)), h.big, h.lo1, Nat.le_trans h.lo2 hg.size, h.dn.grown hg (h.dn.ne hb (.inl (by decide))), h.tx.grown hg (Beside.blk (Blk.of_sh hb) (by decide)), h.tld.grown hg (h.tld.ne hb (.inl (by decide)))⟩
/-- A block of its own, beyond, of a type of its own, is written. -/
theorem DN.other {w0 w w' : World} {bs bt lo b : Nat} {m : List KV} {t : Tr} {sd st : Value} {dls : List (List Value)} {D : List TX} {E : List Int} {c : Array Value} {u : TypeId} (h : DN w0 w bs bt lo m t sd st dls D E) (hg : w.grownBy w' (some b)) (hb : Blk w b c u) (hlo : w0.heap.size ≤ b)
    (h1 : u ≠ 167 ∧ u ≠ 215 ∧ 196 ≠ u ∧ u ≠ 97 ∧ u ≠ 31) (h2 : ∀ r, Sh.slBlk sd = some r → r ≠ b) : DN w0 w' bs bt lo m t sd st dls D E := by
  refine ⟨h.ex.other hg hb h1.1 h1.2.1 h1.2.2.1 (Nat.le_trans h.big hlo), h.two.grown hg (fun r e => .inr (.inr (by have := Option.some.inj e; omega))), h.big, h.lo1, Nat.le_trans h.lo2 hg.size, h.dn.grown hg (fun r e => fun k => h2 r e (Option.some.inj k)), h.tx.grown hg (Beside.blk hb h1.2.2.2.1), h.tld.grown hg (h.tld.ne (Blk.sh hb) (.inl h1.2.2.2.2))⟩
theorem GLapart {w : World} {t u : TypeId} {k k2 lo lo2 : Nat} {sl sl2 : Value} {ls ls2 : List (List Value)} (h : Sh.GL w t k lo sl ls) (h2 : Sh.GL w u k2 lo2 sl2 ls2) (ht : t ≠ u) : ∀ r, Sh.slBlk sl = some r → some r ≠ Sh.slBlk sl2 := fun r e e2 => by
  rcases h.2 with ⟨_, rfl⟩ | ⟨g, cap, _, rfl, h3⟩
  · cases e
  · cases e
    rcases h2.2 with ⟨_, rfl⟩ | ⟨g2, cap2, _, rfl, h4⟩
    · cases e2
    · cases e2
      obtain ⟨c1, e3, _⟩ := h3.out
      obtain ⟨c2, e4, _⟩ := h4.out
      rw [e3] at e4
      simp only [Option.some.injEq, Obj.cells.injEq] at e4
      exact ht e4.2.1
/-- One more is told something. -/
theorem DN.told {w0 w w' : World} {bs bt lo : Nat} {m : List KV} {t : Tr} {sd st st' : Value} {dls : List (List Value)} {D : List TX} {E : List Int} (h : DN w0 w bs bt lo m t sd st dls D E) (e : Int) (hg : w.grownBy w' (Sh.slBlk st)) (hG : Sh.GL w' 31 1 lo st' (ecs E ++ [[.int .i64 e]])) : DN w0 w' bs bt lo m t sd st' dls D (E ++ [e]) :=
  ⟨h.ex.row h.tld hg (by decide) (by decide) (by decide) (Nat.le_trans h.big h.lo1), h.two.grown hg (fun r k => .inr (.inr (Nat.le_trans h.lo1 (h.tld.lt r k).1))), h.big, h.lo1, Nat.le_trans h.lo2 hg.size, h.dn.grown hg (GLapart h.dn h.tld (by decide)), h.tx.grown hg (GLbeside h.tld (Nat.zero_le _) (by decide)), by unfold ecs; rw [List.map_append]; exact hG⟩
/-- One more is done. -/
theorem DN.done {w0 w w' : World} {bs bt lo : Nat} {m : List KV} {t : Tr} {sd st sd' : Value} {dls : List (List Value)} {D : List TX} {E : List Int} (h : DN w0 w bs bt lo m t sd st dls D E) (x : TX) (sa : Option Addr) (cap : Nat) (hs : SL w sa x.ops) (hn : NB w 0 97 sa) (h1 : x.client < 18446744073709551616) (h2 : x.nonce < 18446744073709551616) (hg : w.grownBy w' (Sh.slBlk sd)) (hG : Sh.GL w' 95 3 lo sd' (dls ++ [(txc x.client x.nonce (.slice sa x.ops.length cap)).toList])) :
    DN w0 w' bs bt lo m t sd' st (dls ++ [(txc x.client x.nonce (.slice sa x.ops.length cap)).toList]) (D ++ [x]) E :=
  ⟨h.ex.row h.dn hg (by decide) (by decide) (by decide) (Nat.le_trans h.big h.lo1), h.two.grown hg (fun r k => .inr (.inr (Nat.le_trans h.lo1 (h.dn.lt r k).1))), h.big, h.lo1, Nat.le_trans h.lo2 hg.size, hG, (h.tx.snoc x sa cap hs hn h1 h2).grown hg (GLbeside h.dn (Nat.zero_le _) (by decide)), h.tld.grown hg (GLapart h.tld h.dn (by decide))⟩
theorem ecs_len (E : List Int) : (ecs E).length = E.length := by unfold ecs; rw [List.length_map]
theorem one_all (e : Int) : ∀ u ∈ [Value.int .i64 e], u.oneCell' = true := fun u hu => by rw [List.mem_singleton.1 hu]; rfl
section
variable {ops : Array Oper} {rest : List Oper} {op : Oper} {a : Act} {w w0 : World} {Q : Exit → Act → World → Prop}
theorem wpList_told (hgd : op.guard = none) (x y : Operand) (ho : op.op = .call { callee := .builtin .append, args := #[x, y], argTypes := #[54, 54] }) {bs bt lo : Nat} {m : List KV} {t : Tr} {sd st : Value} {dls : List (List Value)} {D : List TX} {E : List Int}
    (hD : DN w0 w bs bt lo m t sd st dls D E) (hx : a.eval x = st) (g c : Nat) (hy : a.eval y = .slice (some ⟨g, 0, none⟩) 1 c) (e : Int) (hb : Blk w g #[.int .i64 e] 31) (hlen : E.length ≤ 1000)
    (h : ∀ (w1 : World) (st1 : Value), DN w0 w1 bs bt lo m t sd st1 dls D (E ++ [e]) → w.grownBy w1 (Sh.slBlk st) → wpList Tryz.prog ops Q rest (a.put op.dst st1) w1) : wpList Tryz.prog ops Q (op :: rest) a w := by
  obtain ⟨ie, ei, ez, es, eb⟩ := infoErr
  exact Sh.wpList_appendGL hgd x y 54 31 ho 1 lo st (ecs E) hD.lo2 hx hD.tld g c hy [.int .i64 e] rfl (one_all e) 31 (Blk.sh hb) ie (.int .i64 0) rfl Tryz.underlying54 ei ez es eb (by rw [ecs_len]; omega) (fun w1 st1 hg hG => h w1 st1 (hD.told e hg hG) hg)
theorem wpList_done (hgd : op.guard = none) (x y : Operand) (ho : op.op = .call { callee := .builtin .append, args := #[x, y], argTypes := #[51, 51] }) {bs bt lo : Nat} {m : List KV} {t : Tr} {sd st : Value} {dls : List (List Value)} {D : List TX} {E : List Int}
    (hD : DN w0 w bs bt lo m t sd st dls D E) (hx : a.eval x = sd) (g c : Nat) (hy : a.eval y = .slice (some ⟨g, 0, none⟩) 1 c) (v : TX) (sa : Option Addr) (cap : Nat) (hb : Blk w g (txc v.client v.nonce (.slice sa v.ops.length cap)) 95) (hs : SL w sa v.ops) (hn : NB w 0 97 sa) (h1 : v.client < 18446744073709551616) (h2 : v.nonce < 18446744073709551616) (hlen : D.length ≤ 1000)
    (h : ∀ (w1 : World) (sd1 : Value), DN w0 w1 bs bt lo m t sd1 st (dls ++ [(txc v.client v.nonce (.slice sa v.ops.length cap)).toList]) (D ++ [v]) E → w.grownBy w1 (Sh.slBlk sd) → wpList Tryz.prog ops Q rest (a.put op.dst sd1) w1) : wpList Tryz.prog ops Q (op :: rest) a w := by
  obtain ⟨ie, ei, ez, es, eb⟩ := infoTx
  exact Sh.wpList_appendGL hgd x y 51 95 ho 3 lo sd dls hD.lo2 hx hD.dn g c hy (txc v.client v.nonce (.slice sa v.ops.length cap)).toList rfl (txc_all _ _ _ _ _) 95 (Blk.sh hb) ie (.agg (txc 0 0 (.slice none 0 0))) rfl Tryz.underlying51 ei ez es eb (by rw [hD.tx.len]; omega) (fun w1 sd1 hg hG => h w1 sd1 (hD.done v sa cap hs hn h1 h2 hg hG) hg)
end
end Go.Proofs.YtmbdhngoldganaaGreatDoor
namespace Go.Proofs.YtmbdhngoldganaaGreatDoor
open Go Go.RowKit
theorem bsl0 (w : World) : (Instr.buildSlice 93 0 #[]).run Tryz.prog w = .ok (.slice (some ⟨w.heap.size, 0, none⟩) 0 0) (w.alloc (.cells #[] 97)) := by
  simp [Instr.buildSlice, run_underlying Tryz.underlying93, sizeOf_run zOp.2, Sem.run_bind, Instr.fill, newRow]
  congr 2
  simp
section
variable {P : Program} {ops : Array Oper} {rest : List Oper} {op : Oper} {a : Act} {w : World} {Q : Exit → Act → World → Prop}
theorem SL.cellsC {w : World} {g o : Nat} {l : List O} (h : SL w (some ⟨g, o, none⟩) l) : ∀ j u, (opsC l)[j]? = some u → w.cell? ⟨g, o + j, none⟩ = some u := by
  intro j u hj
  have hjl := (List.getElem?_eq_some_iff.1 hj).1
  rw [opsC_length] at hjl
  have hi : j / 3 < l.length := by omega
  have hr := h.at (j / 3) hi
  have hlen : (opc l[j / 3]).toList.length = 3 := rfl
  have hm : j % 3 < (opc l[j / 3]).toList.length := by rw [hlen]; omega
  have h1 := opsC_get l (j / 3) hi (j % 3) _ (List.getElem?_eq_getElem hm)
  rw [show j / 3 * 3 + j % 3 = j from by omega, hj] at h1
  have h2 := hr (j % 3) _ (List.getElem?_eq_getElem hm)
  rw [show o + j / 3 * 3 + j % 3 = o + j from by omega] at h2
  rw [h2, h1]
/-- A slice of operations is appended to an empty one: a new one. -/
theorem run_appendNew (st ty t : TypeId) (ba : Option Addr) (l : List O) (g o c : Nat) (hSL : SL w (some ⟨g, o, none⟩) l) (i : TypeInfo) (z : O)
    (hu : P.underlying st = some (.slice t)) (hi : P.info? t = some i) (hz : i.zero = some (.agg (opc z))) (hs : i.size = 3) (hby : i.bytes ≤ 256) (h0 : 0 < l.length) (hlen : l.length ≤ 1000000) :
    ∃ (w1 : World) (cap1 : Nat), (Builtin.append_ #[st, st] ty #[.slice ba 0 0, .slice (some ⟨g, o, none⟩) l.length c]).run P w = .ok (.slice (some ⟨w.heap.size, 0, none⟩) l.length cap1) w1 ∧ Below w.heap.size w w1 ∧ OS w1 t w.heap.size cap1 l := by
  have hsrc : Src P i.size st (.slice (some ⟨g, o, none⟩) l.length c) l.length (opsC l) w :=
    Src.ofSlice w hu ⟨g, o, none⟩ l.length c _ (by rw [hs, opsC_length]) (fun j u hj => by
      rw [Addr.add_mid]
      exact hSL.cellsC j u hj) (opsC_one l)
  have hold : (Builtin.firstCells i.size 0 (.slice ba 0 0)).run P w.drew = .ok ([] : List Value).toArray w.drew := by
    cases ba with
    | none => exact run_firstCells_none (w := w.drew) i.size 0 0 0
    | some b => exact run_firstCells_some w.drew i.size 0 b 0 0 [] (by simp) (fun j v hj => by simp at hj)
  have hr := run_append_grow_src (P := P) w st st ty t i _ hu hi hz ba 0 0 _ hold _ l.length _ hsrc (by omega) (by omega) (growslice_fits (by omega) (Nat.le_trans (Nat.mul_le_mul (show 0 + l.length ≤ 1000000 by omega) hby) (by decide)))
  have hge : 0 + l.length ≤ grownCap w (0 + l.length) 0 t := grownCap_ge w _ _ _
  refine ⟨_, _, by rw [Nat.zero_add] at hr; exact hr, (Below.refl _ w).drew.alloc (Nat.le_refl _) _, ?_⟩
  rw [Nat.zero_add] at hge
  refine ⟨_, heap_alloc_last w.drew _, hge, ?_, ?_⟩
  · simp only [Array.size_append, List.size_toArray, List.length_append, opsC_length, size_zeroCells, Value.cells, opc_size, List.length_nil]
    omega
  · intro j v hj
    have hjl := (List.getElem?_eq_some_iff.1 hj).1
    rw [Array.getElem?_append_left (by simpa using hjl)]
    simpa using hj
theorem wpList_appendNew (hgd : op.guard = none) (x y : Operand) (st t : TypeId) (ho : op.op = .call { callee := .builtin .append, args := #[x, y], argTypes := #[st, st] })
    (ba : Option Addr) (hx : a.eval x = .slice ba 0 0) (l : List O) (g o c : Nat) (hy : a.eval y = .slice (some ⟨g, o, none⟩) l.length c) (hSL : SL w (some ⟨g, o, none⟩) l) (i : TypeInfo) (z : O)
    (hu : P.underlying st = some (.slice t)) (hi : P.info? t = some i) (hz : i.zero = some (.agg (opc z))) (hs : i.size = 3) (hby : i.bytes ≤ 256) (h0 : 0 < l.length) (hlen : l.length ≤ 1000000)
    (h : ∀ (w1 : World) (cap1 : Nat), Below w.heap.size w w1 → OS w1 t w.heap.size cap1 l → wpList P ops Q rest (a.put op.dst (.slice (some ⟨w.heap.size, 0, none⟩) l.length cap1)) w1) : wpList P ops Q (op :: rest) a w := by
  obtain ⟨w1, cap1, hr, hb, hl⟩ := run_appendNew (P := P) (w := w) st op.type t ba l g o c hSL i z hu hi hz hs hby h0 hlen
  refine wpList_run hgd _ _ ?_ (h w1 cap1 hb hl)
  unfold execOp
  simp only [ho]
  simp [resolve, invoke, builtin, hx, hy, hr, Result.andThen]
theorem wpList_bsl0 {ops : Array Oper} {rest : List Oper} {op : Oper} {a : Act} {w : World} {Q : Exit → Act → World → Prop} (hgd : op.guard = none) (ho : op.op = .buildSlice 93 0 #[])
    (h : ∀ w1 : World, Below w.heap.size w w1 → w1.heap.size = w.heap.size + 1 → wpList Tryz.prog ops Q rest (a.put op.dst (.slice (some ⟨w.heap.size, 0, none⟩) 0 0)) w1) : wpList Tryz.prog ops Q (op :: rest) a w := by
  refine wpList_run hgd _ _ ?_ (h _ ((Below.refl _ _).alloc (Nat.le_refl _) (.cells #[] 97)) (by simp))
  unfold execOp
  have hr := bsl0 w
  have e : (#[] : Array (Nat × Operand)).map (fun (i, x) => (i, a.eval x)) = #[] := by simp
  rw [← e] at hr
  simp only [ho, Sem.run_bind, hr, Result.andThen_ok]
  rfl
end
theorem eqlNil (w : World) (b : Addr) (n c : Nat) : (binOp .eql 93 (.slice (some b) n c) (.slice none 0 0)).run Tryz.prog w = .ok (.bool false) w := Lib.run_eql_slice_nil w 93 97 (some b) n c 0 0 Tryz.underlying93
/-- What Clone leaves. -/
def ClP (w : World) (l : List O) (e : Ending) (w' : World) : Prop := ∃ (g cap : Nat), e = .returned (.slice (some ⟨g, 0, none⟩) l.length cap) ∧ w.heap.size ≤ g ∧ Below w.heap.size w w' ∧ OS w' 97 g cap l
attribute [local go_sem] eqlNil
set_option maxRecDepth 100000 in
set_option maxHeartbeats 400000 in
theorem sclone_any (a : Option Addr) (l : List O) (cap : Nat) (w : World) (h : SL w a l) (h0 : 0 < l.length) (hl : l.length ≤ 1000000) : Calls Tryz.prog 150 #[.slice a l.length cap] w (ClP w l) := by
  obtain ⟨g, o, rfl⟩ := h.ex (by omega)
  obtain ⟨iop, hi, hz, hs, hby⟩ := infoOp
  go_enter Tryz.func150, Tryz.ntmps150
  go_wp2_with (with_reducible refine at_list ?_; first
    | (refine wpList_bsl0 (op := ⟨some 5, _, _, _, _, _⟩) rfl rfl ?_; intro w1 hw1 hs1; replace hs1 := hs1.symm)
    | (refine wpList_appendNew (op := ⟨some 7, _, _, _, _, _⟩) rfl _ _ _ _ rfl _ rfl l g o cap rfl (h.below hw1) _ _ Tryz.underlying93 hi hz hs hby h0 hl ?_; intro w2 cap2 hw2 hO2))
  go_ret
  exact ⟨_, _, rfl, hw1.size, hw1.trans (hw2.mono hw1.size), hO2⟩
/-- What Clone of a transaction leaves. -/
def TclP (w : World) (t : TX) (e : Ending) (w' : World) : Prop := ∃ (g cap : Nat), e = .returned (.agg (txc t.client t.nonce (.slice (some ⟨g, 0, none⟩) t.ops.length cap))) ∧ w.heap.size ≤ g ∧ Below w.heap.size w w' ∧ OS w' 97 g cap t.ops
theorem OS.other {w w' : World} {t ty : TypeId} {g cap b : Nat} {l : List O} {c : Array Value} (h : OS w t g cap l) (hg : w.grownBy w' (some b)) (hb : Blk w b c ty) (ht : ty ≠ t) : OS w' t g cap l := h.grown hg (fun e => h.ne hb ht (Option.some.inj e).symm)
set_option maxRecDepth 100000 in
set_option maxHeartbeats 400000 in
theorem tclone_any (t : TX) (a : Option Addr) (cap : Nat) (w : World) (h : SL w a t.ops) (h0 : 0 < t.ops.length) (hl : t.ops.length ≤ 1000000) : Calls Tryz.prog 111 #[.agg (txc t.client t.nonce (.slice a t.ops.length cap))] w (TclP w t) := by
  have HC := fun w' (hB : Below w.heap.size w w') => sclone_any a t.ops cap w' (h.below hB) h0 hl
  obtain ⟨c, n, l⟩ := t
  dsimp only at *
  go_enter Tryz.func111, Tryz.ntmps111
  go_wp2_with (first
    | (go_at_call 150; refine (HC _ (hw1.trans (hw2.mono hw1.size))).mono ?_; rintro e w3 ⟨g, cap3, rfl, hg, hw3, hO3⟩; clear HC; replace hb1 := hb1.belowSize hw3; replace hz2 := hz2.belowSize hw3)
    | (with_reducible refine at_list ?_; first
      | (refine wpList_boxRow (op := ⟨some 1, _, _, _, _, _⟩) rfl _ _ rfl _ rfl ?_; intro w1 hw1 hs1 hb1; replace hs1 := hs1.symm)
      | (refine wpList_allocRow (op := ⟨some 2, _, _, _, _, _⟩) rfl _ rfl _ zTx.1 ?_; intro w2 hw2 hs2 hz2; replace hs2 := hs2.symm; replace hb1 := hb1.belowSize hw2)
      | (refine wpList_loadCell (op := ⟨some 4, _, _, _, _, _⟩) rfl _ _ rfl w.heap.size 2 rfl _ _ hb1 _ Tryz.underlying93 rfl (.slice a l.length cap) (txc_g2 _ _ _) ?_)
      | (refine wpList_storeCell (op := ⟨none, .store 93 (.tmp 6) (.tmp 5), _, _, _, _⟩) rfl _ _ _ rfl w.heap.size 2 rfl (.slice (some ⟨g, 0, none⟩) l.length cap3) rfl _ _ hb1 iSl rfl rfl (by simp [txc]) ?_; intro w4 hg4 hs4 hb4; rw [txc_set2] at hb4; replace hz2 := hz2.grown hg4 (by simp; omega); have hO4 := hO3.other hg4 hb1 (by decide))
      | (refine wpList_loadRow (op := ⟨some 7, _, _, _, _, _⟩) rfl _ _ rfl w.heap.size rfl _ _ hb4 _ Tryz.underlying95 rfl (by rw [txc_size]; exact zTx.2) ?_)
      | (refine wpList_storeRow (op := ⟨none, .store 95 (.tmp 2) (.tmp 7), _, _, _, _⟩) rfl _ _ _ rfl w1.heap.size (txc c n (.slice (some ⟨g, 0, none⟩) l.length cap3)) rfl rfl _ _ hz2 (by simp only [txc_size]) (by rw [txc_size]; exact zTx.2) (txc_one _ _ _ _ _) ?_; intro w5 hg5 hs5 hz5)))
  have hl2 := hw2.size
  have hB3 : Below w.heap.size w w3 := (hw1.trans (hw2.mono hw1.size)).trans (hw3.mono (Nat.le_trans hw1.size hw2.size))
  have hB4 : Below w.heap.size w w4 := hB3.trans (below_of_grown hg4 (Nat.le_refl _) hB3.size)
  refine bodyPost_ret (v := .agg (txc c n (.slice (some ⟨g, 0, none⟩) l.length cap3))) ?_ rfl ⟨g, cap3, rfl, by omega, hB4.trans (below_of_grown hg5 (by omega) hB4.size), hO4.other hg5 hz2 (by decide)⟩
  exact results_cell_row rfl _ _ w1.heap.size _ _ _ _ rfl hz5.out Tryz.underlying95 rfl (by exact zTx.2)
end Go.Proofs.YtmbdhngoldganaaGreatDoor
