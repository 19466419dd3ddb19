/- Slices of errors and of transactions that grow; what a round of transactions keeps. What Clone does. What Exec does . -/
import Derived.Test.YtmbdhngoldganaaGreatDoorExw
import Derived.Test.YtmbdhngoldganaaGreatDoorRef
namespace Go.Proofs.YtmbdhngoldganaaGreatDoor
open Go Go.RowKit
theorem infoErr : ∃ i, Tryz.prog.info? 31 = some i ∧ i.zero = some (.int .i64 0) ∧ i.size = 1 ∧ i.bytes ≤ 256 := by
  have h : (Tryz.prog.info? 31).map (fun i => (i.zero, i.size, i.bytes)) = some (some (.int .i64 0), 1, 8) := by kernel_rfl
  cases hq : Tryz.prog.info? 31 with
  | none => rw [hq] at h; cases h
  | some i => rw [hq] at h; simp at h; exact ⟨i, rfl, h.1, h.2.1, by omega⟩
theorem infoTx : ∃ i, Tryz.prog.info? 95 = some i ∧ i.zero = some (.agg (txc 0 0 (.slice none 0 0))) ∧ i.size = 3 ∧ i.bytes ≤ 256 := by
  have h : (Tryz.prog.info? 95).map (fun i => (i.zero, i.size, i.bytes)) = some (some (.agg (txc 0 0 (.slice none 0 0))), 3, 40) := by kernel_rfl
  cases hq : Tryz.prog.info? 95 with
  | none => rw [hq] at h; cases h
  | some i => rw [hq] at h; simp at h; exact ⟨i, rfl, h.1, h.2.1, by omega⟩
theorem bslE (z : Int) (w : World) : (Instr.buildSlice 54 1 #[(0, .int .i64 z)]).run Tryz.prog w = .ok (.slice (some ⟨w.heap.size, 0, none⟩) 1 1) (w.alloc (.cells #[.int .i64 z] 31)) := by
  simp [Instr.buildSlice, run_underlying Tryz.underlying54, sizeOf_run i29, Sem.run_bind, Instr.fill, newRow, Tryz.zeroValue31, Value.cells, range1]
theorem bslTx (c n : Nat) (a : Option Addr) (k cap : Nat) (w : World) : (Instr.buildSlice 51 1 #[(0, .agg (txc c n (.slice a k cap)))]).run Tryz.prog w = .ok (.slice (some ⟨w.heap.size, 0, none⟩) 1 1) (w.alloc (.cells (txc c n (.slice a k cap)) 95)) := by
  simp [Instr.buildSlice, run_underlying Tryz.underlying51, sizeOf_run zTx.2, Sem.run_bind, Instr.fill, newRow, zTx.1]
  congr 2
  simp [txc, Value.cells, range3]
section
variable {ops : Array Oper} {rest : List Oper} {op : Oper} {a : Act} {w : World} {Q : Exit → Act → World → Prop}
theorem wpList_bslE (hgd : op.guard = none) (x : Operand) (ho : op.op = .buildSlice 54 1 #[(0, x)]) (z : Int) (hx : a.eval x = .int .i64 z)
    (h : ∀ w1 : World, Below w.heap.size w w1 → Blk w1 w.heap.size #[.int .i64 z] 31 → wpList Tryz.prog ops Q rest (a.put op.dst (.slice (some ⟨w.heap.size, 0, none⟩) 1 1)) w1) : wpList Tryz.prog ops Q (op :: rest) a w := by
  refine wpList_run hgd _ _ ?_ (h _ ((Below.refl _ _).alloc (Nat.le_refl _) _) (Blk.new _ _ _))
  unfold execOp
  have e : (#[(0, x)] : Array (Nat × Operand)).map (fun (i, x) => (i, a.eval x)) = #[(0, .int .i64 z)] := by simp [hx]
  have hr := bslE z w
  rw [← e] at hr
  simp only [ho, Sem.run_bind, hr, Result.andThen_ok]
  rfl
theorem wpList_bslTx (hgd : op.guard = none) (x : Operand) (ho : op.op = .buildSlice 51 1 #[(0, x)]) (c n : Nat) (sa : Option Addr) (k cap : Nat) (hx : a.eval x = .agg (txc c n (.slice sa k cap)))
    (h : ∀ w1 : World, Below w.heap.size w w1 → Blk w1 w.heap.size (txc c n (.slice sa k cap)) 95 → wpList Tryz.prog ops Q rest (a.put op.dst (.slice (some ⟨w.heap.size, 0, none⟩) 1 1)) w1) : wpList Tryz.prog ops Q (op :: rest) a w := by
  refine wpList_run hgd _ _ ?_ (h _ ((Below.refl _ _).alloc (Nat.le_refl _) _) (Blk.new _ _ _))
  unfold execOp
  have e : (#[(0, x)] : Array (Nat × Operand)).map (fun (i, x) => (i, a.eval x)) = #[(0, .agg (txc c n (.slice sa k cap)))] := by simp [hx]
  have hr := bslTx c n sa k cap w
  rw [← e] at hr
  simp only [ho, Sem.run_bind, hr, Result.andThen_ok]
  rfl
end
def ecs (l : List Int) : List (List Value) := l.map fun e => [.int .i64 e]
structure DN (w0 w : World) (bs bt lo : Nat) (m : List KV) (t : Tr) (sd st : Value) (dls : List (List Value)) (D : List TX) (E : List Int) : Prop where
  ex : EX w bs bt m t
  two : Two bs bt w0 w
  big : 2 ≤ w0.heap.size
  lo1 : w0.heap.size ≤ lo
  lo2 : lo ≤ w.heap.size
  dn : Sh.GL w 95 3 lo sd dls
  tx : TXL w 0 97 dls D
  tld : Sh.GL w 31 1 lo st (ecs E)
theorem Beside.blk {w : World} {b : Nat} {c : Array Value} {u t : TypeId} (h : Blk w b c u) (ht : u ≠ t) : Beside w 0 t (some b) := fun r e => by
  have e := Option.some.inj e
  subst e
  exact ⟨Nat.zero_le _, c, u, _, h.out, ht⟩
theorem DN.below {w0 w w' : World} {bs bt lo : Nat} {m : List KV} {t : Tr} {sd st : Value} {dls : List (List Value)} {D : List TX} {E : List Int} (h : DN w0 w bs bt lo m t sd st dls D E) (hb : Below w.heap.size w w') : DN w0 w' bs bt lo m t sd st dls D E :=
  ⟨h.ex.below hb, h.two.below hb, h.big, h.lo1, Nat.le_trans h.lo2 hb.size, h.dn.below hb, h.tx.below hb, h.tld.below hb⟩
theorem DN.apply {w0 w w' : World} {bs bt lo : Nat} {m : List KV} {t : Tr} {sd st : Value} {dls : List (List Value)} {D : List TX} {E : List Int} {x : TX} {e : Ending} (h : DN w0 w bs bt lo m t sd st dls D E) (hA : ApP m x bs w e w') : DN w0 w' bs bt lo (apM m x) t sd st dls D E := by
  obtain ⟨mb, hb, _⟩ := h.ex.st.out
  exact ⟨h.ex.apply hA, h.two.grown hA.grown (fun r e => .inl (Option.some.inj e).symm), h.big, h.lo1, Nat.le_trans h.lo2 hA.grown.size, h.dn.grown hA.grown (h.dn.ne (Blk.sh hb) (.inl (by decide))), h.tx.grown hA.grown (Beside.blk hb (by decide)), h.tld.grown hA.grown (h.tld.ne (Blk.sh hb) (.inl (by decide)))⟩
theorem DN.tree {w0 w w' : World} {bs bt lo : Nat} {m : List KV} {t t' : Tr} {sd st : Value} {dls : List (List Value)} {D : List TX} {E : List Int} (h : DN w0 w bs bt lo m t sd st dls D E) (ht : ∃ q', Sh.Blk w' bt #[.pointer q'] 215 ∧ Sh.HF w' t' q' ∧ w.grownBy w' (some bt)) : DN w0 w' bs bt lo m t' sd st dls D E := by
  obtain ⟨q, hb, _⟩ := h.ex.tr
  have hE := h.ex.tree ht
  obtain ⟨q', _, _, hg⟩ := ht
  exact ⟨hE, h.two.grown hg (fun r e => .inr (.inl (Option.some.inj e).symm)), h.big, h.lo1, Nat.le_trans h.lo2 hg.size, h.dn.grown hg (h.dn.ne hb (.inl (by decide))), h.tx.grown hg (Beside.blk (Blk.of_sh hb) (by decide)), h.tld.grown hg (h.tld.ne hb (.inl (by decide)))⟩
theorem DN.other {w0 w w' : World} {bs bt lo b : Nat} {m : List KV} {t : Tr} {sd st : Value} {dls : List (List Value)} {D : List TX} {E : List Int} {c : Array Value} {u : TypeId} (h : DN w0 w bs bt lo m t sd st dls D E) (hg : w.grownBy w' (some b)) (hb : Blk w b c u) (hlo : w0.heap.size ≤ b)
    (h1 : u ≠ 167 ∧ u ≠ 215 ∧ 196 ≠ u ∧ u ≠ 97 ∧ u ≠ 31) (h2 : ∀ r, Sh.slBlk sd = some r → r ≠ b) : DN w0 w' bs bt lo m t sd st dls D E := by
  refine ⟨h.ex.other hg hb h1.1 h1.2.1 h1.2.2.1 (Nat.le_trans h.big hlo), h.two.grown hg (fun r e => .inr (.inr (by have := Option.some.inj e; omega))), h.big, h.lo1, Nat.le_trans h.lo2 hg.size, h.dn.grown hg (fun r e => fun k => h2 r e (Option.some.inj k)), h.tx.grown hg (Beside.blk hb h1.2.2.2.1), h.tld.grown hg (h.tld.ne (Blk.sh hb) (.inl h1.2.2.2.2))⟩
theorem GLapart {w : World} {t u : TypeId} {k k2 lo lo2 : Nat} {sl sl2 : Value} {ls ls2 : List (List Value)} (h : Sh.GL w t k lo sl ls) (h2 : Sh.GL w u k2 lo2 sl2 ls2) (ht : t ≠ u) : ∀ r, Sh.slBlk sl = some r → some r ≠ Sh.slBlk sl2 := fun r e e2 => by
  rcases h.2 with ⟨_, rfl⟩ | ⟨g, cap, _, rfl, h3⟩
  · cases e
  · cases e
    rcases h2.2 with ⟨_, rfl⟩ | ⟨g2, cap2, _, rfl, h4⟩
    · cases e2
    · cases e2
      obtain ⟨c1, e3, _⟩ := h3.out
      obtain ⟨c2, e4, _⟩ := h4.out
      rw [e3] at e4
      simp only [Option.some.injEq, Obj.cells.injEq] at e4
      exact ht e4.2.1
theorem DN.told {w0 w w' : World} {bs bt lo : Nat} {m : List KV} {t : Tr} {sd st st' : Value} {dls : List (List Value)} {D : List TX} {E : List Int} (h : DN w0 w bs bt lo m t sd st dls D E) (e : Int) (hg : w.grownBy w' (Sh.slBlk st)) (hG : Sh.GL w' 31 1 lo st' (ecs E ++ [[.int .i64 e]])) : DN w0 w' bs bt lo m t sd st' dls D (E ++ [e]) :=
  ⟨h.ex.row h.tld hg (by decide) (by decide) (by decide) (Nat.le_trans h.big h.lo1), h.two.grown hg (fun r k => .inr (.inr (Nat.le_trans h.lo1 (h.tld.lt r k).1))), h.big, h.lo1, Nat.le_trans h.lo2 hg.size, h.dn.grown hg (GLapart h.dn h.tld (by decide)), h.tx.grown hg (GLbeside h.tld (Nat.zero_le _) (by decide)), by unfold ecs; rw [List.map_append]; exact hG⟩
theorem DN.done {w0 w w' : World} {bs bt lo : Nat} {m : List KV} {t : Tr} {sd st sd' : Value} {dls : List (List Value)} {D : List TX} {E : List Int} (h : DN w0 w bs bt lo m t sd st dls D E) (x : TX) (sa : Option Addr) (cap : Nat) (hs : SL w sa x.ops) (hn : NB w 0 97 sa) (h1 : x.client < 18446744073709551616) (h2 : x.nonce < 18446744073709551616) (hg : w.grownBy w' (Sh.slBlk sd)) (hG : Sh.GL w' 95 3 lo sd' (dls ++ [(txc x.client x.nonce (.slice sa x.ops.length cap)).toList])) :
    DN w0 w' bs bt lo m t sd' st (dls ++ [(txc x.client x.nonce (.slice sa x.ops.length cap)).toList]) (D ++ [x]) E :=
  ⟨h.ex.row h.dn hg (by decide) (by decide) (by decide) (Nat.le_trans h.big h.lo1), h.two.grown hg (fun r k => .inr (.inr (Nat.le_trans h.lo1 (h.dn.lt r k).1))), h.big, h.lo1, Nat.le_trans h.lo2 hg.size, hG, (h.tx.snoc x sa cap hs hn h1 h2).grown hg (GLbeside h.dn (Nat.zero_le _) (by decide)), h.tld.grown hg (GLapart h.tld h.dn (by decide))⟩
theorem ecs_len (E : List Int) : (ecs E).length = E.length := by unfold ecs; rw [List.length_map]
theorem one_all (e : Int) : ∀ u ∈ [Value.int .i64 e], u.oneCell' = true := fun u hu => by rw [List.mem_singleton.1 hu]; rfl
section
variable {ops : Array Oper} {rest : List Oper} {op : Oper} {a : Act} {w w0 : World} {Q : Exit → Act → World → Prop}
theorem wpList_told (hgd : op.guard = none) (x y : Operand) (ho : op.op = .call { callee := .builtin .append, args := #[x, y], argTypes := #[54, 54] }) {bs bt lo : Nat} {m : List KV} {t : Tr} {sd st : Value} {dls : List (List Value)} {D : List TX} {E : List Int}
    (hD : DN w0 w bs bt lo m t sd st dls D E) (hx : a.eval x = st) (g c : Nat) (hy : a.eval y = .slice (some ⟨g, 0, none⟩) 1 c) (e : Int) (hb : Blk w g #[.int .i64 e] 31) (hlen : E.length ≤ 1000)
    (h : ∀ (w1 : World) (st1 : Value), DN w0 w1 bs bt lo m t sd st1 dls D (E ++ [e]) → w.grownBy w1 (Sh.slBlk st) → wpList Tryz.prog ops Q rest (a.put op.dst st1) w1) : wpList Tryz.prog ops Q (op :: rest) a w := by
  obtain ⟨ie, ei, ez, es, eb⟩ := infoErr
  exact Sh.wpList_appendGL hgd x y 54 31 ho 1 lo st (ecs E) hD.lo2 hx hD.tld g c hy [.int .i64 e] rfl (one_all e) 31 (Blk.sh hb) ie (.int .i64 0) rfl Tryz.underlying54 ei ez es eb (by rw [ecs_len]; omega) (fun w1 st1 hg hG => h w1 st1 (hD.told e hg hG) hg)
theorem wpList_done (hgd : op.guard = none) (x y : Operand) (ho : op.op = .call { callee := .builtin .append, args := #[x, y], argTypes := #[51, 51] }) {bs bt lo : Nat} {m : List KV} {t : Tr} {sd st : Value} {dls : List (List Value)} {D : List TX} {E : List Int}
    (hD : DN w0 w bs bt lo m t sd st dls D E) (hx : a.eval x = sd) (g c : Nat) (hy : a.eval y = .slice (some ⟨g, 0, none⟩) 1 c) (v : TX) (sa : Option Addr) (cap : Nat) (hb : Blk w g (txc v.client v.nonce (.slice sa v.ops.length cap)) 95) (hs : SL w sa v.ops) (hn : NB w 0 97 sa) (h1 : v.client < 18446744073709551616) (h2 : v.nonce < 18446744073709551616) (hlen : D.length ≤ 1000)
    (h : ∀ (w1 : World) (sd1 : Value), DN w0 w1 bs bt lo m t sd1 st (dls ++ [(txc v.client v.nonce (.slice sa v.ops.length cap)).toList]) (D ++ [v]) E → w.grownBy w1 (Sh.slBlk sd) → wpList Tryz.prog ops Q rest (a.put op.dst sd1) w1) : wpList Tryz.prog ops Q (op :: rest) a w := by
  obtain ⟨ie, ei, ez, es, eb⟩ := infoTx
  exact Sh.wpList_appendGL hgd x y 51 95 ho 3 lo sd dls hD.lo2 hx hD.dn g c hy (txc v.client v.nonce (.slice sa v.ops.length cap)).toList rfl (txc_all _ _ _ _ _) 95 (Blk.sh hb) ie (.agg (txc 0 0 (.slice none 0 0))) rfl Tryz.underlying51 ei ez es eb (by rw [hD.tx.len]; omega) (fun w1 sd1 hg hG => h w1 sd1 (hD.done v sa cap hs hn h1 h2 hg hG) hg)
end
end Go.Proofs.YtmbdhngoldganaaGreatDoor
namespace Go.Proofs.YtmbdhngoldganaaGreatDoor
open Go Go.RowKit
theorem bsl0 (w : World) : (Instr.buildSlice 93 0 #[]).run Tryz.prog w = .ok (.slice (some ⟨w.heap.size, 0, none⟩) 0 0) (w.alloc (.cells #[] 97)) := by
  simp [Instr.buildSlice, run_underlying Tryz.underlying93, sizeOf_run zOp.2, Sem.run_bind, Instr.fill, newRow]
  congr 2
  simp
section
variable {P : Program} {ops : Array Oper} {rest : List Oper} {op : Oper} {a : Act} {w : World} {Q : Exit → Act → World → Prop}
theorem SL.cellsC {w : World} {g o : Nat} {l : List O} (h : SL w (some ⟨g, o, none⟩) l) : ∀ j u, (opsC l)[j]? = some u → w.cell? ⟨g, o + j, none⟩ = some u := by
  intro j u hj
  have hjl := (List.getElem?_eq_some_iff.1 hj).1
  rw [opsC_length] at hjl
  have hi : j / 3 < l.length := by omega
  have hr := h.at (j / 3) hi
  have hlen : (opc l[j / 3]).toList.length = 3 := rfl
  have hm : j % 3 < (opc l[j / 3]).toList.length := by rw [hlen]; omega
  have h1 := opsC_get l (j / 3) hi (j % 3) _ (List.getElem?_eq_getElem hm)
  rw [show j / 3 * 3 + j % 3 = j from by omega, hj] at h1
  have h2 := hr (j % 3) _ (List.getElem?_eq_getElem hm)
  rw [show o + j / 3 * 3 + j % 3 = o + j from by omega] at h2
  rw [h2, h1]
theorem run_appendNew (st ty t : TypeId) (ba : Option Addr) (l : List O) (g o c : Nat) (hSL : SL w (some ⟨g, o, none⟩) l) (i : TypeInfo) (z : O)
    (hu : P.underlying st = some (.slice t)) (hi : P.info? t = some i) (hz : i.zero = some (.agg (opc z))) (hs : i.size = 3) (hby : i.bytes ≤ 256) (h0 : 0 < l.length) (hlen : l.length ≤ 1000000) :
    ∃ (w1 : World) (cap1 : Nat), (Builtin.append_ #[st, st] ty #[.slice ba 0 0, .slice (some ⟨g, o, none⟩) l.length c]).run P w = .ok (.slice (some ⟨w.heap.size, 0, none⟩) l.length cap1) w1 ∧ Below w.heap.size w w1 ∧ OS w1 t w.heap.size cap1 l := by
  have hsrc : Src P i.size st (.slice (some ⟨g, o, none⟩) l.length c) l.length (opsC l) w :=
    Src.ofSlice w hu ⟨g, o, none⟩ l.length c _ (by rw [hs, opsC_length]) (fun j u hj => by
      rw [Addr.add_mid]
      exact hSL.cellsC j u hj) (opsC_one l)
  have hold : (Builtin.firstCells i.size 0 (.slice ba 0 0)).run P w.drew = .ok ([] : List Value).toArray w.drew := by
    cases ba with
    | none => exact run_firstCells_none (w := w.drew) i.size 0 0 0
    | some b => exact run_firstCells_some w.drew i.size 0 b 0 0 [] (by simp) (fun j v hj => by simp at hj)
  have hr := run_append_grow_src (P := P) w st st ty t i _ hu hi hz ba 0 0 _ hold _ l.length _ hsrc (by omega) (by omega) (growslice_fits (by omega) (Nat.le_trans (Nat.mul_le_mul (show 0 + l.length ≤ 1000000 by omega) hby) (by decide)))
  have hge : 0 + l.length ≤ grownCap w (0 + l.length) 0 t := grownCap_ge w _ _ _
  refine ⟨_, _, by rw [Nat.zero_add] at hr; exact hr, (Below.refl _ w).drew.alloc (Nat.le_refl _) _, ?_⟩
  rw [Nat.zero_add] at hge
  refine ⟨_, heap_alloc_last w.drew _, hge, ?_, ?_⟩
  · simp only [Array.size_append, List.size_toArray, List.length_append, opsC_length, size_zeroCells, Value.cells, opc_size, List.length_nil]
    omega
  · intro j v hj
    have hjl := (List.getElem?_eq_some_iff.1 hj).1
    rw [Array.getElem?_append_left (by simpa using hjl)]
    simpa using hj
theorem wpList_appendNew (hgd : op.guard = none) (x y : Operand) (st t : TypeId) (ho : op.op = .call { callee := .builtin .append, args := #[x, y], argTypes := #[st, st] })
    (ba : Option Addr) (hx : a.eval x = .slice ba 0 0) (l : List O) (g o c : Nat) (hy : a.eval y = .slice (some ⟨g, o, none⟩) l.length c) (hSL : SL w (some ⟨g, o, none⟩) l) (i : TypeInfo) (z : O)
    (hu : P.underlying st = some (.slice t)) (hi : P.info? t = some i) (hz : i.zero = some (.agg (opc z))) (hs : i.size = 3) (hby : i.bytes ≤ 256) (h0 : 0 < l.length) (hlen : l.length ≤ 1000000)
    (h : ∀ (w1 : World) (cap1 : Nat), Below w.heap.size w w1 → OS w1 t w.heap.size cap1 l → wpList P ops Q rest (a.put op.dst (.slice (some ⟨w.heap.size, 0, none⟩) l.length cap1)) w1) : wpList P ops Q (op :: rest) a w := by
  obtain ⟨w1, cap1, hr, hb, hl⟩ := run_appendNew (P := P) (w := w) st op.type t ba l g o c hSL i z hu hi hz hs hby h0 hlen
  refine wpList_run hgd _ _ ?_ (h w1 cap1 hb hl)
  unfold execOp
  simp only [ho]
  simp [resolve, invoke, builtin, hx, hy, hr, Result.andThen]
theorem wpList_bsl0 {ops : Array Oper} {rest : List Oper} {op : Oper} {a : Act} {w : World} {Q : Exit → Act → World → Prop} (hgd : op.guard = none) (ho : op.op = .buildSlice 93 0 #[])
    (h : ∀ w1 : World, Below w.heap.size w w1 → w1.heap.size = w.heap.size + 1 → wpList Tryz.prog ops Q rest (a.put op.dst (.slice (some ⟨w.heap.size, 0, none⟩) 0 0)) w1) : wpList Tryz.prog ops Q (op :: rest) a w := by
  refine wpList_run hgd _ _ ?_ (h _ ((Below.refl _ _).alloc (Nat.le_refl _) (.cells #[] 97)) (by simp))
  unfold execOp
  have hr := bsl0 w
  have e : (#[] : Array (Nat × Operand)).map (fun (i, x) => (i, a.eval x)) = #[] := by simp
  rw [← e] at hr
  simp only [ho, Sem.run_bind, hr, Result.andThen_ok]
  rfl
end
theorem eqlNil (w : World) (b : Addr) (n c : Nat) : (binOp .eql 93 (.slice (some b) n c) (.slice none 0 0)).run Tryz.prog w = .ok (.bool false) w := Lib.run_eql_slice_nil w 93 97 (some b) n c 0 0 Tryz.underlying93
def ClP (w : World) (l : List O) (e : Ending) (w' : World) : Prop := ∃ (g cap : Nat), e = .returned (.slice (some ⟨g, 0, none⟩) l.length cap) ∧ w.heap.size ≤ g ∧ Below w.heap.size w w' ∧ OS w' 97 g cap l
attribute [local go_sem] eqlNil
set_option maxRecDepth 100000 in
set_option maxHeartbeats 400000 in
theorem sclone_any (a : Option Addr) (l : List O) (cap : Nat) (w : World) (h : SL w a l) (h0 : 0 < l.length) (hl : l.length ≤ 1000000) : Calls Tryz.prog 150 #[.slice a l.length cap] w (ClP w l) := by
  obtain ⟨g, o, rfl⟩ := h.ex (by omega)
  obtain ⟨iop, hi, hz, hs, hby⟩ := infoOp
  go_enter Tryz.func150, Tryz.ntmps150
  go_wp2_with (with_reducible refine at_list ?_; first
    | (refine wpList_bsl0 (op := ⟨some 5, _, _, _, _, _⟩) rfl rfl ?_; intro w1 hw1 hs1; replace hs1 := hs1.symm)
    | (refine wpList_appendNew (op := ⟨some 7, _, _, _, _, _⟩) rfl _ _ _ _ rfl _ rfl l g o cap rfl (h.below hw1) _ _ Tryz.underlying93 hi hz hs hby h0 hl ?_; intro w2 cap2 hw2 hO2))
  go_ret
  exact ⟨_, _, rfl, hw1.size, hw1.trans (hw2.mono hw1.size), hO2⟩
def TclP (w : World) (t : TX) (e : Ending) (w' : World) : Prop := ∃ (g cap : Nat), e = .returned (.agg (txc t.client t.nonce (.slice (some ⟨g, 0, none⟩) t.ops.length cap))) ∧ w.heap.size ≤ g ∧ Below w.heap.size w w' ∧ OS w' 97 g cap t.ops
theorem OS.other {w w' : World} {t ty : TypeId} {g cap b : Nat} {l : List O} {c : Array Value} (h : OS w t g cap l) (hg : w.grownBy w' (some b)) (hb : Blk w b c ty) (ht : ty ≠ t) : OS w' t g cap l := h.grown hg (fun e => h.ne hb ht (Option.some.inj e).symm)
set_option maxRecDepth 100000 in
set_option maxHeartbeats 400000 in
theorem tclone_any (t : TX) (a : Option Addr) (cap : Nat) (w : World) (h : SL w a t.ops) (h0 : 0 < t.ops.length) (hl : t.ops.length ≤ 1000000) : Calls Tryz.prog 111 #[.agg (txc t.client t.nonce (.slice a t.ops.length cap))] w (TclP w t) := by
  have HC := fun w' (hB : Below w.heap.size w w') => sclone_any a t.ops cap w' (h.below hB) h0 hl
  obtain ⟨c, n, l⟩ := t
  dsimp only at *
  go_enter Tryz.func111, Tryz.ntmps111
  go_wp2_with (first
    | (go_at_call 150; refine (HC _ (hw1.trans (hw2.mono hw1.size))).mono ?_; rintro e w3 ⟨g, cap3, rfl, hg, hw3, hO3⟩; clear HC; replace hb1 := hb1.belowSize hw3; replace hz2 := hz2.belowSize hw3)
    | (with_reducible refine at_list ?_; first
      | (refine wpList_boxRow (op := ⟨some 1, _, _, _, _, _⟩) rfl _ _ rfl _ rfl ?_; intro w1 hw1 hs1 hb1; replace hs1 := hs1.symm)
      | (refine wpList_allocRow (op := ⟨some 2, _, _, _, _, _⟩) rfl _ rfl _ zTx.1 ?_; intro w2 hw2 hs2 hz2; replace hs2 := hs2.symm; replace hb1 := hb1.belowSize hw2)
      | (refine wpList_loadCell (op := ⟨some 4, _, _, _, _, _⟩) rfl _ _ rfl w.heap.size 2 rfl _ _ hb1 _ Tryz.underlying93 rfl (.slice a l.length cap) (txc_g2 _ _ _) ?_)
      | (refine wpList_storeCell (op := ⟨none, .store 93 (.tmp 6) (.tmp 5), _, _, _, _⟩) rfl _ _ _ rfl w.heap.size 2 rfl (.slice (some ⟨g, 0, none⟩) l.length cap3) rfl _ _ hb1 iSl rfl rfl (by simp [txc]) ?_; intro w4 hg4 hs4 hb4; rw [txc_set2] at hb4; replace hz2 := hz2.grown hg4 (by simp; omega); have hO4 := hO3.other hg4 hb1 (by decide))
      | (refine wpList_loadRow (op := ⟨some 7, _, _, _, _, _⟩) rfl _ _ rfl w.heap.size rfl _ _ hb4 _ Tryz.underlying95 rfl (by rw [txc_size]; exact zTx.2) ?_)
      | (refine wpList_storeRow (op := ⟨none, .store 95 (.tmp 2) (.tmp 7), _, _, _, _⟩) rfl _ _ _ rfl w1.heap.size (txc c n (.slice (some ⟨g, 0, none⟩) l.length cap3)) rfl rfl _ _ hz2 (by simp only [txc_size]) (by rw [txc_size]; exact zTx.2) (txc_one _ _ _ _ _) ?_; intro w5 hg5 hs5 hz5)))
  have hl2 := hw2.size
  have hB3 : Below w.heap.size w w3 := (hw1.trans (hw2.mono hw1.size)).trans (hw3.mono (Nat.le_trans hw1.size hw2.size))
  have hB4 : Below w.heap.size w w4 := hB3.trans (below_of_grown hg4 (Nat.le_refl _) hB3.size)
  refine bodyPost_ret (v := .agg (txc c n (.slice (some ⟨g, 0, none⟩) l.length cap3))) ?_ rfl ⟨g, cap3, rfl, by omega, hB4.trans (below_of_grown hg5 (by omega) hB4.size), hO4.other hg5 hz2 (by decide)⟩
  exact results_cell_row rfl _ _ w1.heap.size _ _ _ _ rfl hz5.out Tryz.underlying95 rfl (by exact zTx.2)
end Go.Proofs.YtmbdhngoldganaaGreatDoor
namespace Go.Proofs.YtmbdhngoldganaaGreatDoor
open Go Go.RowKit
def ExP (w : World) (bs bt : Nat) (m : List KV) (t : Tr) (l : List TX) (e : Ending) (w' : World) : Prop :=
  ∃ lo sd st dls, e = .returned (.tuple #[sd, st]) ∧ DN w w' bs bt lo (exS m l) (exR m t l) sd st dls (exD m l) (exE m l)
theorem OS.nb {w : World} {t : TypeId} {g cap B : Nat} {l : List O} (h : OS w t g cap l) : NB w B t (some ⟨g, 0, none⟩) := fun g' o hs => by
  simp only [Option.some.injEq, Addr.mk.injEq] at hs
  obtain ⟨rfl, _⟩ := hs
  obtain ⟨cur, h4, _⟩ := h.out
  exact ⟨h.lt, .inr ⟨cur, _, h4⟩⟩
theorem OS.toSL {w : World} {t : TypeId} {g cap : Nat} {l : List O} (h : OS w t g cap l) : SL w (some ⟨g, 0, none⟩) l := by
  have h1 : OL w t g (.slice (some ⟨g, 0, none⟩) l.length cap) l := .inr ⟨g, cap, Nat.le_refl _, rfl, h⟩
  obtain ⟨a, cap', he, hs⟩ := h1.sl
  simp only [Value.slice.injEq] at he
  rw [he.1]
  exact hs
theorem XT.grown {w w' : World} {g : Nat} {l : List (List UInt8)} {row : Option Nat} (h : XT w g l) (hg : w.grownBy w' row) (hne : some g ≠ row) : XT w' g l := fun i x hx => by
  have h3 := h i x hx
  have e := hg.block g (World.block_lt_of_cell? _ _ h3) hne
  simp only [World.cell?] at h3 ⊢
  rw [e]
  exact h3
theorem XT.below {w w' : World} {g : Nat} {l : List (List UInt8)} (h : XT w g l) (hb : Below w.heap.size w w') : XT w' g l := h.grown (row := none) (grown_of_below hb) (fun e => nomatch e)
theorem ex_put {w : World} {bs bt : Nat} {m : List KV} {t : Tr} (h : EX w bs bt m t) (hc : Tr.Canon 0 t) (hn : t.cnt ≤ 3500) (k v : List UInt8) (hk : k.length ≤ 1000) (hv : v.length ≤ 1000) :
    Calls Tryz.prog 99 #[.pointer (some ⟨bt, 0, none⟩), .string ⟨k.toArray⟩, .string ⟨v.toArray⟩] w fun e w' => e = .returned (.int .i64 0) ∧ ∃ q', Sh.Blk w' bt #[.pointer q'] 215 ∧ Sh.HF w' (Tr.put 256 0 t (ofD Sh.TgD k v)) q' ∧ w.grownBy w' (some bt) := by
  obtain ⟨q, h1, h2⟩ := h.tr
  exact Sh.tput_any bt q t k v w h.glob h1 h2 hc hn hk hv
theorem ex_del {w : World} {bs bt : Nat} {m : List KV} {t : Tr} (h : EX w bs bt m t) (hc : Tr.Canon 0 t) (hn : t.cnt ≤ 3500) (k : List UInt8) (hk : k.length ≤ 1000) :
    Calls Tryz.prog 178 #[.pointer (some ⟨bt, 0, none⟩), .string ⟨k.toArray⟩] w fun e w' => (∃ y : Bool, e = .returned (.bool y)) ∧ ∃ q', Sh.Blk w' bt #[.pointer q'] 215 ∧ Sh.HF w' (Tr.del 256 0 t (Sh.TgD 80 [k])) q' ∧ w.grownBy w' (some bt) := by
  obtain ⟨q, h1, h2⟩ := h.tr
  exact (Sh.tdel_any bt q t k w h.glob h1 h2 hc hn hk).mono fun e w' ⟨he, hq⟩ => ⟨⟨_, he⟩, hq⟩
theorem exS_snoc (m : List KV) (l : List TX) (x : TX) : exS m (l ++ [x]) = apM (exS m l) x := by rw [exS_app]; rfl
theorem exR_snoc (m : List KV) (t : Tr) (l : List TX) (x : TX) : exR m t (l ++ [x]) = exT (exS m l) (exR m t l) x := by rw [exR_app]; rfl
theorem exE_snoc (m : List KV) (l : List TX) (x : TX) : exE m (l ++ [x]) = exE m l ++ [apE (exS m l) x] := by rw [exE_app]; rfl
theorem exD_snoc (m : List KV) (l : List TX) (x : TX) : exD m (l ++ [x]) = exD m l ++ (if apE (exS m l) x = 0 then [x] else []) := by rw [exD_app]; unfold exD; split <;> rfl
section
attribute [local go_sem] Oper.semAt_some
set_option maxRecDepth 100000 in
set_option maxHeartbeats 2000000 in
theorem follow_any (T : List (List UInt8)) (hTe : ∀ k ∈ T, k.length ≤ 33) (hTl : T.length ≤ 9) (bs bt : Nat) (mx : List KV) (ti : Tr) (g4 cp4 : Nat) (w : World) (hE : EX w bs bt mx ti) (hSm : Sz mx) (hCi : Tr.Canon 0 ti) (hni2 : ti.cnt ≤ 3490) (hX : XT w g4 T) (hg4 : g4 ≠ bt) :
    Calls Tryz.prog 145 #[.pointer (some ⟨bt, 0, none⟩), .pointer (some ⟨bs, 0, none⟩), .slice (some ⟨g4, 0, none⟩) T.length cp4] w fun e w' => e = .returned (.tuple #[]) ∧ ∃ q', Sh.Blk w' bt #[.pointer q'] 215 ∧ Sh.HF w' (laysK mx ti T) q' ∧ w.grownBy w' (some bt) := by
  go_enter Tryz.func145, Tryz.ntmps145
  go_wp2_with fail
  go_loopw [12] (fun v12 wl => ∃ j : Nat, j ≤ T.length ∧ v12 = .int .i64 j ∧ EX wl bs bt mx (laysK mx ti (T.take j)) ∧ w.grownBy wl (some bt) ∧ XT wl g4 T) (fun v12 _ => T.length - (intOf v12).toNat)
  case atStart => exact ⟨0, by omega, rfl, by rw [List.take_zero]; exact hE, World.grownBy.refl _ _, hX⟩
  case round =>
    obtain ⟨j, hjl, rfl, hDj, hGj, hXj⟩ := hrel
    clear hE hX
    by_cases hjt : j < T.length
    · have ck := hXj j _ (List.getElem?_eq_getElem hjt)
      have hk33 := hTe _ (List.getElem_mem hjt)
      have hsn : Hid (laysK mx ti (T.take (j + 1)) = stepK mx (laysK mx ti (T.take j)) T[j]) := by show _ = _; rw [List.take_succ_eq_append_getElem hjt, laysK_snoc]
      obtain ⟨hCj, hnj⟩ := laysK_ok (m := mx) (l := T.take j) hCi
      have hnj2 : (laysK mx ti (T.take j)).cnt ≤ 3500 := by rw [List.length_take] at hnj; omega
      have y1 : (0 : Int) ≤ (j : Int) := by omega
      have y2 : (j : Int) < (T.length : Int) := by omega
      have hXg : Hid (XT wr g4 T) := hXj
      have hGg : Hid (w.grownBy wr (some bt)) := hGj
      clear hnj hXj hGj
      generalize hkk : T[j] = k at *
      clear hkk
      generalize laysK mx ti (T.take j) = tj at *
      have HV := fun w1 (d : EX w1 bs bt mx tj) => value_st bs mx k w1 d.st (Nat.le_trans hk33 (by decide))
      have HPt := fun w1 (d : EX w1 bs bt mx tj) => ex_put d hCj hnj2 k (valM mx k) (by omega) (Nat.le_trans (hSm.val k) (by decide))
      have HDl := fun w1 (d : EX w1 bs bt mx tj) => ex_del d hCj hnj2 k (by omega)
      cases hh : hasM mx k
      · have hst2 : Hid (stepK mx tj k = Tr.del 256 0 tj (Sh.TgD 80 [k])) := if_neg (by rw [hh]; exact Bool.noConfusion)
        rw [hst2.out] at hsn
        rw [hh] at HV
        clear hh HPt
        go_wp2_with (first
          | (go_at_call 113; refine (HV _ hDj).mono ?_; rintro e w10 ⟨rfl, hw10⟩; clear HV; replace hDj := hDj.below hw10; have hX10 := hXg.out.below hw10; have hG10 : Hid (w.grownBy w10 (some bt)) := grown_trans hGg.out (grown_of_below hw10); clear hw10)
          | (go_at_call 178; refine (HDl _ hDj).mono ?_; rintro e w11 ⟨⟨yb, rfl⟩, hq11⟩; clear HDl; have hD11 := hDj.tree hq11; obtain ⟨_, _, _, hg11⟩ := hq11; have hX11 := hX10.grown hg11 (fun e => hg4 (Option.some.inj e)); have hG11 : Hid (w.grownBy w11 (some bt)) := grown_trans hG10.out hg11; clear hg11))
        go_roundw
        case rel => exact ⟨j + 1, by omega, by go_num, by rw [hsn.out]; exact hD11, hG11.out, hX11⟩
        case measure => simp [intOf]; omega
      · have hst2 : Hid (stepK mx tj k = Tr.put 256 0 tj (ofD Sh.TgD k (valM mx k))) := if_pos hh
        rw [hst2.out] at hsn
        rw [hh] at HV
        clear hh HDl
        go_wp2_with (first
          | (go_at_call 113; refine (HV _ hDj).mono ?_; rintro e w10 ⟨rfl, hw10⟩; clear HV; replace hDj := hDj.below hw10; have hX10 := hXg.out.below hw10; have hG10 : Hid (w.grownBy w10 (some bt)) := grown_trans hGg.out (grown_of_below hw10); clear hw10)
          | (go_at_call 99; refine (HPt _ hDj).mono ?_; rintro e w11 ⟨rfl, hq11⟩; clear HPt; have hD11 := hDj.tree hq11; obtain ⟨_, _, _, hg11⟩ := hq11; have hX11 := hX10.grown hg11 (fun e => hg4 (Option.some.inj e)); have hG11 : Hid (w.grownBy w11 (some bt)) := grown_trans hG10.out hg11; clear hg11))
        go_roundw
        case rel => exact ⟨j + 1, by omega, by go_num, by rw [hsn.out]; exact hD11, hG11.out, hX11⟩
        case measure => simp [intOf]; omega
    · have y2 : ¬ (j : Int) < (T.length : Int) := by omega
      rw [List.take_of_length_le (by omega)] at hDj
      obtain ⟨q', ht1, ht2⟩ := hDj.tr
      go_wp2_with fail
      go_end0
      exact ⟨rfl, q', ht1, ht2, hGj⟩
set_option maxRecDepth 100000 in
set_option maxHeartbeats 4000000 in
theorem exec_any (l : List TX) (hok : ∀ x ∈ l, okTx x = true) (hl : l.length ≤ 16) (bs bt : Nat) (m : List KV) (t : Tr) (a : Option Addr) (cap : Nat) (c : Bool) (a2 : Option Addr) (n2 cap2 : Nat) (w : World) (hE : EX w bs bt m t) (hS : Sz m) (hC : Tr.Canon 0 t) (hn : t.cnt ≤ 3300) (hT : TA w a l) :
    Calls Tryz.prog 106 #[.pointer (some ⟨bs, 0, none⟩), .pointer (some ⟨bt, 0, none⟩), .agg (bc (.slice a l.length cap) c (.slice a2 n2 cap2))] w (ExP w bs bt m t l) := by
  have hbs := hE.lts
  have hbt := hE.ltt
  have h2 : Hid (2 ≤ w.heap.size) := hE.glob.two
  go_enter Tryz.func106, Tryz.ntmps106
  go_wp2_with (with_reducible refine at_list ?_; refine wpList_boxRow (op := ⟨some 5, _, _, _, _, _⟩) rfl _ _ rfl _ rfl ?_; intro w1 hw1 hs1 h1; replace hs1 := hs1.symm; have c0 := (h1.cell 0).trans (bc_g0 _ _ _))
  clear c0 h1
  obtain ⟨lo, hlo⟩ : ∃ lo, lo = w1.heap.size := ⟨_, rfl⟩
  have hst : DN w w1 bs bt lo m t (.slice none 0 0) (.slice none 0 0) [] [] [] :=
    ⟨hE.below hw1, (Two.refl bs bt w).below hw1, h2.out, by omega, by omega, Sh.GL.nil _ _ _ _, TXL.nil _ _ _, Sh.GL.nil _ _ _ _⟩
  have hlw : w.heap.size < lo := by omega
  clear hs1 hw1 hlo
  go_loopw [8, 9, 23] (fun v8 v9 v27 wl => ∃ (i : Nat) (dls : List (List Value)), i ≤ l.length ∧ v27 = .int .i64 i ∧ DN w wl bs bt lo (exS m (l.take i)) (exR m t (l.take i)) v8 v9 dls (exD m (l.take i)) (exE m (l.take i))) (fun _ _ v27 _ => l.length - (intOf v27).toNat)
  case atStart => exact ⟨0, [], by omega, rfl, by rw [List.take_zero]; exact hst⟩
  case round =>
    obtain ⟨i, dls, hil, rfl, hD⟩ := hrel
    clear hst
    by_cases hlt : i < l.length
    · obtain ⟨g, o, rfl⟩ := hT.ex (by omega)
      obtain ⟨sa, sc, hr0, hs0, hx1, hx2⟩ := hT.at i hlt
      have hokx : okTx l[i] = true := hok _ (List.getElem_mem hlt)
      have hSi : Sz (exS m (l.take i)) := hS.exS _
      obtain ⟨hCi, hni⟩ := exR_ok (m := m) (t := t) (l := l.take i) (fun y hy => hok y (List.mem_of_mem_take hy)) hC
      have hni2 : (exR m t (l.take i)).cnt ≤ 3444 := by rw [List.length_take] at hni; omega
      have n1 : Hid (exS m (l.take (i + 1)) = apM (exS m (l.take i)) l[i]) := by show _ = _; rw [List.take_succ_eq_append_getElem hlt, exS_snoc]
      have n2' : Hid (exR m t (l.take (i + 1)) = exT (exS m (l.take i)) (exR m t (l.take i)) l[i]) := by show _ = _; rw [List.take_succ_eq_append_getElem hlt, exR_snoc]
      have n3 : Hid (exE m (l.take (i + 1)) = exE m (l.take i) ++ [apE (exS m (l.take i)) l[i]]) := by show _ = _; rw [List.take_succ_eq_append_getElem hlt, exE_snoc]
      have n4 : Hid (exD m (l.take (i + 1)) = exD m (l.take i) ++ (if apE (exS m (l.take i)) l[i] = 0 then [l[i]] else [])) := by show _ = _; rw [List.take_succ_eq_append_getElem hlt, exD_snoc]
      have ll1 : Hid ((exE m (l.take i)).length ≤ 1000) := by show _ ≤ _; rw [exE_len, List.length_take]; omega
      have ll2 : Hid ((exD m (l.take i)).length ≤ 1000) := by
        show _ ≤ _
        have h3 := exD_len m (l.take i)
        rw [List.length_take] at h3
        omega
      have hz1 : (0 : Int) ≤ (i : Int) := by omega
      have hz2 : (i : Int) < (l.length : Int) := by omega
      have hlt8 : Hid (∀ r, Sh.slBlk u8 = some r → r < wr.heap.size) := fun r e => (hD.dn.lt r e).2
      generalize hxx : l[i] = x at *
      clear hxx
      generalize exS m (l.take i) = mi at *
      generalize exR m t (l.take i) = ti at *
      generalize exE m (l.take i) = Ei at *
      generalize exD m (l.take i) = Di at *
      have HA := fun w1 (d : Two bs bt w w1) (e : EX w1 bs bt mi ti) => apply_any x sa sc bs mi w1 e.st (hs0.two d hE) e.glob hSi.len hx1 hx2 (Nat.le_trans (hSi.val _) (by decide))
      have hrw : wr.rangeAt g (o + i * 3) (txc x.client x.nonce (.slice sa x.ops.length sc)).toList := range_two hr0 hD.two hE
      have hws := hD.two.size
      by_cases he : apE mi x = 0
      · have hxT : Hid (exT mi ti x = laysK (apM mi x) ti (apT x)) := if_pos he
        have hxD : Hid ((if apE mi x = 0 then [x] else []) = [x]) := if_pos he
        rw [hxT.out] at n2'
        rw [hxD.out] at n4
        rw [he] at n3
        clear hxT hxD
        have hlt9 : Hid (∀ r, Sh.slBlk u9 = some r → r < wr.heap.size) := fun r e => (hD.tld.lt r e).2
        have hop := okTx_of hokx
        have HC := fun w1 (d : Two bs bt w w1) => tclone_any x sa sc w1 (hs0.two d hE) (Nat.lt_of_lt_of_le Nat.zero_lt_one hop.len0) (Nat.le_trans hop.len1 (by decide))
        have hTe := apT_each hokx
        have hTl := apT_len hokx
        have hSm : Sz (apM mi x) := hSi.apply x
        have HF := fun g4 cp4 w1 (d : EX w1 bs bt (apM mi x) ti) (h4 : XT w1 g4 (apT x)) (h5 : g4 ≠ bt) => follow_any (apT x) hTe hTl bs bt (apM mi x) ti g4 cp4 w1 d hSm hCi (by omega) h4 h5
        clear hTe hTl
        go_wp2_with (first
          | (go_at_call 144; refine (HA _ hD.two hD.ex).mono ?_; rintro e w4 hA; obtain ⟨g4, cp4, rfl, hlo4, hX4⟩ := hA.txt he; clear HA; have hl3 := h11.lt; replace h11 := h11.grown hA.grown (fun e => by have := Option.some.inj e; omega); replace hD := hD.apply hA; clear hA)
          | (go_at_call 145; refine (HF _ _ _ hD6.ex hX4 (by omega)).mono ?_; rintro e w10 ⟨rfl, hq10⟩; clear HF hX4; replace hD6 := hD6.tree hq10; obtain ⟨_, _, _, hg10⟩ := hq10; replace h11 := h11.grown hg10 (fun e => by have := Option.some.inj e; omega); clear hg10)
          | (go_at_call 111; refine (HC _ hD6.two).mono ?_; rintro e w7 ⟨g7, cp7, rfl, hg7, hw7, hO7⟩; clear HC; replace hD6 := hD6.below hw7; clear hw7)
          | (with_reducible refine at_list ?_; first
            | (refine wpList_loadOp (op := ⟨some 26, _, _, _, _, _⟩) rfl _ _ rfl g (o + i * 3) rfl (txc x.client x.nonce (.slice sa x.ops.length sc)) hrw _ Tryz.underlying95 rfl (by rw [txc_size]; exact zTx.2) ?_)
            | (refine wpList_allocRow (op := ⟨some 11, _, _, _, _, _⟩) rfl _ rfl _ zTx.1 ?_; intro w2 hw2 hs2 h11; replace hs2 := hs2.symm; replace hD := hD.below hw2; clear hrw hw2)
            | (refine wpList_storeRow (op := ⟨none, .store 95 (.tmp 11) (.tmp 26), _, _, _, _⟩) rfl _ _ _ rfl wr.heap.size (txc x.client x.nonce (.slice sa x.ops.length sc)) rfl rfl _ _ h11 (by simp only [txc_size]) (by rw [txc_size]; exact zTx.2) (txc_one _ _ _ _ _) ?_; intro w3 hg3 hs3 hb3; clear hs3; replace hD := hD.other hg3 h11 hws (by decide) (fun r e => Nat.ne_of_lt (hlt8.out r e)); replace h11 := hb3; clear hg3 hb3)
            | (refine wpList_loadRow (op := ⟨some 29, _, _, _, _, _⟩) rfl _ _ rfl wr.heap.size rfl _ _ h11 _ Tryz.underlying95 rfl (by rw [txc_size]; exact zTx.2) ?_)
            | (refine wpList_bslE (op := ⟨some 35, _, _, _, _, _⟩) rfl _ rfl 0 rfl ?_; intro w5 hw5 hb5; replace hD := hD.below hw5; replace h11 := h11.belowSize hw5; replace hX4 := hX4.below hw5; clear hw5)
            | (refine wpList_told (op := ⟨some 36, _, _, _, _, _⟩) rfl _ _ rfl hD rfl w4.heap.size 1 rfl 0 hb5 ll1.out ?_; intro w6 st6 hD6 hg6; replace h11 := h11.grown hg6 (fun e => by have := hlt9.out _ e.symm; omega); replace hX4 := hX4.grown hg6 (fun e => by have := hlt9.out _ e.symm; omega); clear hg6 hb5 hD)
            | (refine wpList_loadRow (op := ⟨some 44, _, _, _, _, _⟩) rfl _ _ rfl wr.heap.size rfl _ _ h11 _ Tryz.underlying95 rfl (by rw [txc_size]; exact zTx.2) ?_)
            | (refine wpList_bslTx (op := ⟨some 46, _, _, _, _, _⟩) rfl _ rfl x.client x.nonce (some ⟨g7, 0, none⟩) x.ops.length cp7 rfl ?_; intro w8 hw8 hb8; replace hD6 := hD6.below hw8; replace hO7 := hO7.below hw8; clear hw8)
            | (refine wpList_done (op := ⟨some 47, _, _, _, _, _⟩) rfl _ _ rfl hD6 rfl w7.heap.size 1 rfl x (some ⟨g7, 0, none⟩) cp7 hb8 hO7.toSL hO7.nb hx1 hx2 ll2.out ?_; intro w9 sd9 hD9 hg9; clear hg9 hb8 hD6 hO7)))
        go_roundw
        case rel => exact ⟨i + 1, _, by omega, by go_num, by rw [n1.out, n2'.out, n3.out, n4.out]; exact hD9⟩
        case measure => simp [intOf]; omega
      · have hne : (apE mi x != 0) = true := by simpa using he
        have hxT : Hid (exT mi ti x = ti) := if_neg he
        have hxD : Hid ((if apE mi x = 0 then [x] else []) = ([] : List TX)) := if_neg he
        rw [hxT.out] at n2'
        rw [hxD.out, List.append_nil] at n4
        clear hxT hxD
        clear he
        go_wp2_with (first
          | (go_at_call 144; refine (HA _ hD.two hD.ex).mono ?_; rintro e w4 hA; obtain ⟨sl4, cp4, rfl⟩ := hA.out; clear HA; replace hD := hD.apply hA; clear hA)
          | (with_reducible refine at_list ?_; first
            | (refine wpList_loadOp (op := ⟨some 26, _, _, _, _, _⟩) rfl _ _ rfl g (o + i * 3) rfl (txc x.client x.nonce (.slice sa x.ops.length sc)) hrw _ Tryz.underlying95 rfl (by rw [txc_size]; exact zTx.2) ?_)
            | (refine wpList_allocRow (op := ⟨some 11, _, _, _, _, _⟩) rfl _ rfl _ zTx.1 ?_; intro w2 hw2 hs2 h11; replace hs2 := hs2.symm; replace hD := hD.below hw2; clear hrw hw2)
            | (refine wpList_storeRow (op := ⟨none, .store 95 (.tmp 11) (.tmp 26), _, _, _, _⟩) rfl _ _ _ rfl wr.heap.size (txc x.client x.nonce (.slice sa x.ops.length sc)) rfl rfl _ _ h11 (by simp only [txc_size]) (by rw [txc_size]; exact zTx.2) (txc_one _ _ _ _ _) ?_; intro w3 hg3 hs3 hb3; clear hs3; replace hD := hD.other hg3 h11 hws (by decide) (fun r e => Nat.ne_of_lt (hlt8.out r e)); replace h11 := hb3; clear hg3 hb3)
            | (refine wpList_loadRow (op := ⟨some 29, _, _, _, _, _⟩) rfl _ _ rfl wr.heap.size rfl _ _ h11 _ Tryz.underlying95 rfl (by rw [txc_size]; exact zTx.2) ?_)
            | (refine wpList_bslE (op := ⟨some 35, _, _, _, _, _⟩) rfl _ rfl (apE mi x) rfl ?_; intro w5 hw5 hb5; replace hD := hD.below hw5; clear hw5)
            | (refine wpList_told (op := ⟨some 36, _, _, _, _, _⟩) rfl _ _ rfl hD rfl w4.heap.size 1 rfl (apE mi x) hb5 ll1.out ?_; intro w6 st6 hD6 hg6; clear hg6 hb5 hD)))
        go_roundw
        case rel => exact ⟨i + 1, dls, by omega, by go_num, by rw [n1.out, n2'.out, n3.out, n4.out]; exact hD6⟩
        case measure => simp [intOf]; omega
    · have hz2 : ¬ (i : Int) < (l.length : Int) := by omega
      rw [List.take_of_length_le (by omega)] at hD
      go_wp2_with fail
      go_ret2
      exact ⟨lo, _, _, dls, rfl, hD⟩
end
end Go.Proofs.YtmbdhngoldganaaGreatDoor
