/- What Clone does. -/
import Derived.Test.YtncoifkchoiiaaaDoorTk
namespace Go.Proofs.YtncoifkchoiiaaaDoor
open Go Go.RowKit
theorem bsl0 (w : World) : (Instr.buildSlice 23 0 #[]).run Tryd.prog w = .ok (.slice (some ⟨w.heap.size, 0, none⟩) 0 0) (w.alloc (.cells #[] 52)) := by
  simp [Instr.buildSlice, run_underlying Tryd.underlying23, sizeOf_run zOp.2, Sem.run_bind, Instr.fill, newRow]
  congr 2
  simp
section
variable {P : Program} {ops : Array Oper} {rest : List Oper} {op : Oper} {a : Act} {w : World} {Q : Exit → Act → World → Prop}
theorem SL.cellsC {w : World} {g o : Nat} {l : List O} (h : SL w (some ⟨g, o, none⟩) l) : ∀ j u, (opsC l)[j]? = some u → w.cell? ⟨g, o + j, none⟩ = some u := by
  intro j u hj
  have hjl := (List.getElem?_eq_some_iff.1 hj).1
  rw [opsC_length] at hjl
  have hi : j / 3 < l.length := by omega
  have hr := h.at (j / 3) hi
  have hlen : (opc l[j / 3]).toList.length = 3 := rfl
  have hm : j % 3 < (opc l[j / 3]).toList.length := by rw [hlen]; omega
  have h1 := opsC_get l (j / 3) hi (j % 3) _ (List.getElem?_eq_getElem hm)
  rw [show j / 3 * 3 + j % 3 = j from by omega, hj] at h1
  have h2 := hr (j % 3) _ (List.getElem?_eq_getElem hm)
  rw [show o + j / 3 * 3 + j % 3 = o + j from by omega] at h2
  rw [h2, h1]
/-- A slice of operations is appended to an empty one: a new one. -/
theorem run_appendNew (st ty t : TypeId) (ba : Option Addr) (l : List O) (g o c : Nat) (hSL : SL w (some ⟨g, o, none⟩) l) (i : TypeInfo) (z : O)
    (hu : P.underlying st = some (.slice t)) (hi : P.info? t = some i) (hz : i.zero = some (.agg (opc z))) (hs : i.size = 3) (hby : i.bytes ≤ 64) (h0 : 0 < l.length) (hlen : l.length ≤ 1000000) :
    ∃ (w1 : World) (cap1 : Nat), (Builtin.append_ #[st, st] ty #[.slice ba 0 0, .slice (some ⟨g, o, none⟩) l.length c]).run P w = .ok (.slice (some ⟨w.heap.size, 0, none⟩) l.length cap1) w1 ∧ Below w.heap.size w w1 ∧ OS w1 t w.heap.size cap1 l := by
  have hsrc : Src P i.size st (.slice (some ⟨g, o, none⟩) l.length c) l.length (opsC l) w :=
    Src.ofSlice w hu ⟨g, o, none⟩ l.length c _ (by rw [hs, opsC_length]) (fun j u hj => by
      rw [Addr.add_mid]
      exact hSL.cellsC j u hj) (opsC_one l)
  have hold : (Builtin.firstCells i.size 0 (.slice ba 0 0)).run P w.drew = .ok ([] : List Value).toArray w.drew := by
    cases ba with
    | none => exact run_firstCells_none (w := w.drew) i.size 0 0 0
    | some b => exact run_firstCells_some w.drew i.size 0 b 0 0 [] (by simp) (fun j v hj => by simp at hj)
  have hr := run_append_grow_src (P := P) w st st ty t i _ hu hi hz ba 0 0 _ hold _ l.length _ hsrc (by omega) (by omega) (growslice_fits (by omega) (Nat.le_trans (Nat.mul_le_mul (show 0 + l.length ≤ 1000000 by omega) hby) (by decide)))
  have hge : 0 + l.length ≤ grownCap w (0 + l.length) 0 t := grownCap_ge w _ _ _
  refine ⟨_, _, by rw [Nat.zero_add] at hr; exact hr, (Below.refl _ w).drew.alloc (Nat.le_refl _) _, ?_⟩
  rw [Nat.zero_add] at hge
  refine ⟨_, heap_alloc_last w.drew _, hge, ?_, ?_⟩
  · simp only [Array.size_append, List.size_toArray, List.length_append, opsC_length, size_zeroCells, Value.cells, opc_size, List.length_nil]
    omega
  · intro j v hj
    have hjl := (List.getElem?_eq_some_iff.1 hj).1
    rw [Array.getElem?_append_left (by simpa using hjl)]
    simpa using hj
theorem wpList_appendNew (hgd : op.guard = none) (x y : Operand) (st t : TypeId) (ho : op.op = .call { callee := .builtin .append, args := #[x, y], argTypes := #[st, st] })
    (ba : Option Addr) (hx : a.eval x = .slice ba 0 0) (l : List O) (g o c : Nat) (hy : a.eval y = .slice (some ⟨g, o, none⟩) l.length c) (hSL : SL w (some ⟨g, o, none⟩) l) (i : TypeInfo) (z : O)
    (hu : P.underlying st = some (.slice t)) (hi : P.info? t = some i) (hz : i.zero = some (.agg (opc z))) (hs : i.size = 3) (hby : i.bytes ≤ 64) (h0 : 0 < l.length) (hlen : l.length ≤ 1000000)
    (h : ∀ (w1 : World) (cap1 : Nat), Below w.heap.size w w1 → OS w1 t w.heap.size cap1 l → wpList P ops Q rest (a.put op.dst (.slice (some ⟨w.heap.size, 0, none⟩) l.length cap1)) w1) : wpList P ops Q (op :: rest) a w := by
  obtain ⟨w1, cap1, hr, hb, hl⟩ := run_appendNew (P := P) (w := w) st op.type t ba l g o c hSL i z hu hi hz hs hby h0 hlen
  refine wpList_run hgd _ _ ?_ (h w1 cap1 hb hl)
  unfold execOp
  simp only [ho]
  simp [resolve, invoke, builtin, hx, hy, hr, Result.andThen]
theorem wpList_bsl0 {ops : Array Oper} {rest : List Oper} {op : Oper} {a : Act} {w : World} {Q : Exit → Act → World → Prop} (hgd : op.guard = none) (ho : op.op = .buildSlice 23 0 #[])
    (h : ∀ w1 : World, Below w.heap.size w w1 → w1.heap.size = w.heap.size + 1 → wpList Tryd.prog ops Q rest (a.put op.dst (.slice (some ⟨w.heap.size, 0, none⟩) 0 0)) w1) : wpList Tryd.prog ops Q (op :: rest) a w := by
  refine wpList_run hgd _ _ ?_ (h _ ((Below.refl _ _).alloc (Nat.le_refl _) (.cells #[] 52)) (by simp))
  unfold execOp
  have hr := bsl0 w
  have e : (#[] : Array (Nat × Operand)).map (fun (i, x) => (i, a.eval x)) = #[] := by simp
  rw [← e] at hr
  simp only [ho, Sem.run_bind, hr, Result.andThen_ok]
  rfl
end
theorem eqlNil (w : World) (b : Addr) (n c : Nat) : (binOp .eql 23 (.slice (some b) n c) (.slice none 0 0)).run Tryd.prog w = .ok (.bool false) w := Lib.run_eql_slice_nil w 23 52 (some b) n c 0 0 Tryd.underlying23
/-- What Clone leaves. -/
def ClP (w : World) (l : List O) (e : Ending) (w' : World) : Prop := ∃ (g cap : Nat), e = .returned (.slice (some ⟨g, 0, none⟩) l.length cap) ∧ w.heap.size ≤ g ∧ Below w.heap.size w w' ∧ OS w' 52 g cap l
attribute [local go_sem] eqlNil
set_option maxRecDepth 100000 in
set_option maxHeartbeats 400000 in
theorem sclone_any (a : Option Addr) (l : List O) (cap : Nat) (w : World) (h : SL w a l) (h0 : 0 < l.length) (hl : l.length ≤ 1000000) : Calls Tryd.prog 40 #[.slice a l.length cap] w (ClP w l) := by
  obtain ⟨g, o, rfl⟩ := h.ex (by omega)
  obtain ⟨iop, hi, hz, hs, hby⟩ := infoOp
  go_enter Tryd.func40, Tryd.ntmps40
  go_wp2_with (with_reducible refine at_list ?_; first
    | (refine wpList_bsl0 (op := ⟨some 5, _, _, _, _, _⟩) rfl rfl ?_; intro w1 hw1 hs1; replace hs1 := hs1.symm)
    | (refine wpList_appendNew (op := ⟨some 7, _, _, _, _, _⟩) rfl _ _ _ _ rfl _ rfl l g o cap rfl (h.below hw1) _ _ Tryd.underlying23 hi hz hs hby h0 hl ?_; intro w2 cap2 hw2 hO2))
  go_ret
  exact ⟨_, _, rfl, hw1.size, hw1.trans (hw2.mono hw1.size), hO2⟩
/-- What Clone of a transaction leaves. -/
def TclP (w : World) (t : TX) (e : Ending) (w' : World) : Prop := ∃ (g cap : Nat), e = .returned (.agg (txc t.client t.nonce (.slice (some ⟨g, 0, none⟩) t.ops.length cap))) ∧ w.heap.size ≤ g ∧ Below w.heap.size w w' ∧ OS w' 52 g cap t.ops
theorem OS.other {w w' : World} {t ty : TypeId} {g cap b : Nat} {l : List O} {c : Array Value} (h : OS w t g cap l) (hg : w.grownBy w' (some b)) (hb : Blk w b c ty) (ht : ty ≠ t) : OS w' t g cap l := h.grown hg (fun e => h.ne hb ht (Option.some.inj e).symm)
set_option maxRecDepth 100000 in
set_option maxHeartbeats 400000 in
theorem tclone_any (t : TX) (a : Option Addr) (cap : Nat) (w : World) (h : SL w a t.ops) (h0 : 0 < t.ops.length) (hl : t.ops.length ≤ 1000000) : Calls Tryd.prog 21 #[.agg (txc t.client t.nonce (.slice a t.ops.length cap))] w (TclP w t) := by
  have HC := fun w' (hB : Below w.heap.size w w') => sclone_any a t.ops cap w' (h.below hB) h0 hl
  obtain ⟨c, n, l⟩ := t
  dsimp only at *
  go_enter Tryd.func21, Tryd.ntmps21
  go_wp2_with (first
    | (go_at_call 40; refine (HC _ (hw1.trans (hw2.mono hw1.size))).mono ?_; rintro e w3 ⟨g, cap3, rfl, hg, hw3, hO3⟩; clear HC; replace hb1 := hb1.belowSize hw3; replace hz2 := hz2.belowSize hw3)
    | (with_reducible refine at_list ?_; first
      | (refine wpList_boxRow (op := ⟨some 1, _, _, _, _, _⟩) rfl _ _ rfl _ rfl ?_; intro w1 hw1 hs1 hb1; replace hs1 := hs1.symm)
      | (refine wpList_allocRow (op := ⟨some 2, _, _, _, _, _⟩) rfl _ rfl _ zTx.1 ?_; intro w2 hw2 hs2 hz2; replace hs2 := hs2.symm; replace hb1 := hb1.belowSize hw2)
      | (refine wpList_loadCell (op := ⟨some 4, _, _, _, _, _⟩) rfl _ _ rfl w.heap.size 2 rfl _ _ hb1 _ Tryd.underlying23 rfl (.slice a l.length cap) (txc_g2 _ _ _) ?_)
      | (refine wpList_storeCell (op := ⟨none, .store 23 (.tmp 6) (.tmp 5), _, _, _, _⟩) rfl _ _ _ rfl w.heap.size 2 rfl (.slice (some ⟨g, 0, none⟩) l.length cap3) rfl _ _ hb1 iSl rfl rfl (by simp [txc]) ?_; intro w4 hg4 hs4 hb4; rw [txc_set2] at hb4; replace hz2 := hz2.grown hg4 (by simp; omega); have hO4 := hO3.other hg4 hb1 (by decide))
      | (refine wpList_loadRow (op := ⟨some 7, _, _, _, _, _⟩) rfl _ _ rfl w.heap.size rfl _ _ hb4 _ Tryd.underlying25 rfl (by rw [txc_size]; exact zTx.2) ?_)
      | (refine wpList_storeRow (op := ⟨none, .store 25 (.tmp 2) (.tmp 7), _, _, _, _⟩) rfl _ _ _ rfl w1.heap.size (txc c n (.slice (some ⟨g, 0, none⟩) l.length cap3)) rfl rfl _ _ hz2 (by simp only [txc_size]) (by rw [txc_size]; exact zTx.2) (txc_one _ _ _ _ _) ?_; intro w5 hg5 hs5 hz5)))
  have hl2 := hw2.size
  have hB3 : Below w.heap.size w w3 := (hw1.trans (hw2.mono hw1.size)).trans (hw3.mono (Nat.le_trans hw1.size hw2.size))
  have hB4 : Below w.heap.size w w4 := hB3.trans (below_of_grown hg4 (Nat.le_refl _) hB3.size)
  refine bodyPost_ret (v := .agg (txc c n (.slice (some ⟨g, 0, none⟩) l.length cap3))) ?_ rfl ⟨g, cap3, rfl, by omega, hB4.trans (below_of_grown hg5 (by omega) hB4.size), hO4.other hg5 hz2 (by decide)⟩
  exact results_cell_row rfl _ _ w1.heap.size _ _ _ _ rfl hz5.out Tryd.underlying25 rfl (by exact zTx.2)
end Go.Proofs.YtncoifkchoiiaaaDoor
