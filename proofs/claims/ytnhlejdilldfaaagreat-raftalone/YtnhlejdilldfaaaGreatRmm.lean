/- A replica in memory, what it is handed and what it tells; what stays when it changes. -/
import Derived.Test.YtnhlejdilldfaaaGreatRmp
import Derived.Test.YtnhlejdilldfaaaGreatRgl
import Derived.Test.YtnhlejdilldfaaaGreatRpl
import Derived.Test.YtnhlejdilldfaaaGreatCix
namespace Go.Proofs.YtnhlejdilldfaaaGreat
open Go Go.RowKit Go.Maps
/-- The numbers l lie at a, in a block of F. -/
def IF (F : Nat → Prop) (w : World) (a : Option Addr) (l : List Int) : Prop := ∀ i x, l[i]? = some x → ∃ g o, a = some ⟨g, o, none⟩ ∧ F g ∧ w.cell? ⟨g, o + i, none⟩ = some (.int .i64 x)
theorem cell_of_block {w w' : World} {g o : Nat} (h : w'.heap[g]? = w.heap[g]?) : w'.cell? ⟨g, o, none⟩ = w.cell? ⟨g, o, none⟩ := by
  unfold World.cell?
  rw [h]
theorem IF.ia {F : Nat → Prop} {w : World} {a : Option Addr} {l : List Int} (h : IF F w a l) : IA w a l := fun i x hx => by
  obtain ⟨g, o, h1, _, h3⟩ := h i x hx
  exact ⟨g, o, h1, h3⟩
theorem IF.nil (F : Nat → Prop) (w : World) (a : Option Addr) : IF F w a [] := fun i x hx => by simp at hx
theorem IF.kept {F F' : Nat → Prop} {w w' : World} {a : Option Addr} {l : List Int} (h : IF F w a l) (hk : ∀ k, F k → w'.heap[k]? = w.heap[k]?) (hF : ∀ k, F k → F' k) : IF F' w' a l := fun i x hx => by
  obtain ⟨g, o, h1, h2, h3⟩ := h i x hx
  exact ⟨g, o, h1, hF g h2, (cell_of_block (hk g h2)).trans h3⟩
theorem IF.of {F : Nat → Prop} {w : World} {a : Option Addr} {l : List Int} (h : IA w a l) (hF : ∀ g o, a = some ⟨g, o, none⟩ → g < w.heap.size → F g) : IF F w a l := fun i x hx => by
  obtain ⟨g, o, h1, h3⟩ := h i x hx
  exact ⟨g, o, h1, hF g o h1 (World.block_lt_of_cell? _ _ h3), h3⟩
/-- The entries l lie at a, in blocks of F. -/
def EF (F : Nat → Prop) (w : World) (a : Option Addr) (l : List LE) : Prop := ∀ i (h : i < l.length), ∃ g o ma cap, a = some ⟨g, o, none⟩ ∧ F g ∧ w.rangeAt g (o + i * 4) (lec l[i] (.slice ma l[i].mem.length cap)).toList ∧ IF F w ma l[i].mem ∧ l[i].mem.length ≤ 17592186044416
theorem EF.nil (F : Nat → Prop) (w : World) (a : Option Addr) : EF F w a [] := fun i hi => by simp at hi
theorem range_of_block {w w' : World} {g o : Nat} {vs : List Value} (h : w'.heap[g]? = w.heap[g]?) (hr : w.rangeAt g o vs) : w'.rangeAt g o vs := fun j v hv => by
  rw [cell_of_block h]
  exact hr j v hv
theorem EF.kept {F F' : Nat → Prop} {w w' : World} {a : Option Addr} {l : List LE} (h : EF F w a l) (hk : ∀ k, F k → w'.heap[k]? = w.heap[k]?) (hF : ∀ k, F k → F' k) : EF F' w' a l := fun i hi => by
  obtain ⟨g, o, ma, cap, h1, h2, h3, h4, h5⟩ := h i hi
  exact ⟨g, o, ma, cap, h1, hF g h2, range_of_block (hk g h2) h3, h4.kept hk hF, h5⟩
/-- The log l lies in a slice of its own. -/
def LG (F : Nat → Prop) (w : World) (lv : Value) (l : List LE) : Prop := ∃ ls : List (List Value), GL w 29 4 0 lv ls ∧ ls.length = l.length ∧ ∀ i (h : i < l.length), ∃ ma mc, ls[i]? = some (lec l[i] (.slice ma l[i].mem.length mc)).toList ∧ IF F w ma l[i].mem ∧ l[i].mem.length ≤ 17592186044416
theorem LG.kept {F F' : Nat → Prop} {w w' : World} {lv : Value} {l : List LE} (h : LG F w lv l) (hb : ∀ k, slBlk lv = some k → w'.heap[k]? = w.heap[k]?) (hk : ∀ k, F k → w'.heap[k]? = w.heap[k]?) (hF : ∀ k, F k → F' k) : LG F' w' lv l := by
  obtain ⟨ls, h1, h2, h3⟩ := h
  refine ⟨ls, ⟨h1.1, ?_⟩, h2, fun i hi => ?_⟩
  · rcases h1.2 with h4 | ⟨g, cap, h4, rfl, cur, h5, h6⟩
    · exact .inl h4
    · exact .inr ⟨g, cap, h4, rfl, cur, (hb g rfl).trans h5, h6⟩
  · obtain ⟨ma, mc, h4, h5, h6⟩ := h3 i hi
    exact ⟨ma, mc, h4, h5.kept hk hF, h6⟩
theorem LG.sl {F : Nat → Prop} {w : World} {lv : Value} {l : List LE} (h : LG F w lv l) : ∃ a cap, lv = .slice a l.length cap ∧ l.length ≤ cap ∧ EA w a l ∧ (∀ b, a = some b → ∃ g, b = ⟨g, 0, none⟩) := by
  obtain ⟨ls, h1, h2, h3⟩ := h
  rcases h1.2 with ⟨rfl, rfl⟩ | ⟨g, cap, _, rfl, hS⟩
  · obtain rfl : l = [] := List.length_eq_zero_iff.1 (by simpa using h2.symm)
    exact ⟨none, 0, rfl, Nat.le_refl _, fun i hi => by simp at hi, fun b e => by cases e⟩
  · obtain ⟨cur, k1, k2, k3, k4⟩ := hS.out
    refine ⟨some ⟨g, 0, none⟩, cap, by rw [h2], by omega, fun i hi => ?_, fun b e => by cases e; exact ⟨g, rfl⟩⟩
    obtain ⟨ma, mc, h4, h5, h6⟩ := h3 i hi
    refine ⟨g, 0, ma, mc, rfl, fun j v hv => ?_, h5.ia, h6⟩
    have hil : i < ls.length := by omega
    have he : ls[i] = (lec l[i] (.slice ma l[i].mem.length mc)).toList := by
      rw [List.getElem?_eq_getElem hil] at h4
      exact Option.some.inj h4
    have := hS.cell (i * 4 + j) v (flat_get h1.1 i hil j v (by rw [he]; exact hv))
    simpa using this
/-- Where a replica's maps lie. -/
structure NM where
  bv : Nat
  bn : Nat
  bh : Nat
  be : Nat
/-- The blocks that a replica writes. -/
def own (nb : Nat) (M : NM) (lb : Option Nat) (k : Nat) : Prop := k = nb ∨ k = M.bv ∨ k = M.bn ∨ k = M.bh ∨ k = M.be ∨ lb = some k
abbrev S16 : List Int := [0, 1, 2, 3, 4, 5, 6, 7, 8, 9, 10, 11, 12, 13, 14, 15]
/-- A replica's cells. -/
def ncells (M : NM) (N : RN) (ba : Option Addr) (ca : Nat) (lv : Value) (da : Option Addr) (dc : Nat) : Array Value :=
  #[.int .i64 N.me, .int .i64 N.k.term, .int .i64 N.k.vote, .int .i64 N.k.bi, .int .i64 N.k.bt, .string ⟨N.k.base.toArray⟩, .slice ba N.k.bconf.length ca, lv,
    .int .i64 N.role, .int .i64 N.leader, .int .i64 N.commit, .slice da N.draws.length dc, .int .i64 N.wait, .int .i64 N.ticks, .int .i64 N.quiet,
    .map (some M.bv), .map (some M.bn), .map (some M.bh), .map (some M.be), .int .i64 N.pidx, .int .i64 N.pterm, .string ⟨N.ps.toArray⟩]
/-- A replica lies at nb, its log in block lb; whatever else it knows of lies in blocks of F. -/
structure ND (F : Nat → Prop) (nb : Nat) (M : NM) (lb : Option Nat) (w : World) (N : RN) : Prop where
  out : ∃ ba ca lv da dc, Blk w nb (ncells M N ba ca lv da dc) 109 ∧ slBlk lv = lb ∧ IF F w ba N.k.bconf ∧ LG F w lv N.k.log ∧ IF F w da N.draws ∧ N.draws.length ≤ dc
  votes : MB w M.bv S16 N.votes
  next : MI w M.bn (S16 ++ N.keys) N.next
  had : MI w M.bh S16 N.had
  ends : MI w M.be S16 N.ends
  apart : M.bv ≠ M.bn ∧ M.bv ≠ M.bh ∧ M.bv ≠ M.be ∧ M.bn ≠ M.bh ∧ M.bn ≠ M.be ∧ M.bh ≠ M.be
  off : ∀ k, F k → ¬ own nb M lb k
  flt : ∀ k, F k → k < w.heap.size
/-- What a call at a replica leaves. -/
structure Stp (nb : Nat) (M : NM) (F F' : Nat → Prop) (lb lb' : Option Nat) (w w' : World) : Prop where
  os : w'.os = w.os
  tape : w'.tape = w.tape
  output : w'.output = w.output
  size : w.heap.size ≤ w'.heap.size
  keep : ∀ k, k < w.heap.size → ¬ own nb M lb k → w'.heap[k]? = w.heap[k]?
  newb : ∀ k, lb' = some k → lb = some k ∨ w.heap.size ≤ k
  fin : ∀ k, F k → F' k
  fnew : ∀ k, F' k → F k ∨ w.heap.size ≤ k
section
variable {nb : Nat} {M : NM} {F F' F'' : Nat → Prop} {lb lb' lb'' : Option Nat} {w w' w'' : World} {N : RN}
theorem Stp.refl : Stp nb M F F lb lb w w := ⟨rfl, rfl, rfl, Nat.le_refl _, fun _ _ _ => rfl, fun _ e => .inl e, fun _ h => h, fun _ h => .inl h⟩
theorem Stp.trans (h : Stp nb M F F' lb lb' w w') (k : Stp nb M F' F'' lb' lb'' w' w'') : Stp nb M F F'' lb lb'' w w'' := by
  refine ⟨k.os.trans h.os, k.tape.trans h.tape, k.output.trans h.output, Nat.le_trans h.size k.size, fun i hi ho => ?_, fun i e => ?_, fun i hi => k.fin i (h.fin i hi), fun i hi => ?_⟩
  · refine (k.keep i (Nat.lt_of_lt_of_le hi h.size) (fun ho' => ?_)).trans (h.keep i hi ho)
    rcases ho' with e | e | e | e | e | e
    · exact ho (.inl e)
    · exact ho (.inr (.inl e))
    · exact ho (.inr (.inr (.inl e)))
    · exact ho (.inr (.inr (.inr (.inl e))))
    · exact ho (.inr (.inr (.inr (.inr (.inl e)))))
    · rcases h.newb i e with e | e
      · exact ho (.inr (.inr (.inr (.inr (.inr e)))))
      · omega
  · rcases k.newb i e with e | e
    · exact h.newb i e
    · exact .inr (Nat.le_trans h.size e)
  · rcases k.fnew i hi with h1 | h1
    · exact h.fnew i h1
    · exact .inr (Nat.le_trans h.size h1)
theorem Stp.grown {b : Nat} (h : w.grownBy w' (some b)) (hb : own nb M lb b) : Stp nb M F F lb lb w w' :=
  ⟨h.os, h.tape, h.output, h.size, fun k hk ho => h.block k hk (fun e => ho (by cases e; exact hb)), fun _ e => .inl e, fun _ h => h, fun _ h => .inl h⟩
theorem Stp.below (h : Below w.heap.size w w') : Stp nb M F F lb lb w w' := ⟨h.os, h.tape, h.output, h.size, fun k hk _ => h.block k hk, fun _ e => .inl e, fun _ h => h, fun _ h => .inl h⟩
theorem Stp.set (h : Stp nb M F F' lb lb' w w') (o : Nat) (v : Value) : Stp nb M F F' lb lb' w (w'.setCell ⟨nb, o, none⟩ v) := h.trans (Stp.grown (grown_setCell nb v o w') (.inl rfl))
theorem Stp.drewN (h : Stp nb M F F' lb lb' w w') (n : Nat) : Stp nb M F F' lb lb' w (w'.drewN n) := ⟨h.os, h.tape, h.output, h.size, h.keep, h.newb, h.fin, h.fnew⟩
theorem Stp.drew (h : Stp nb M F F' lb lb' w w') : Stp nb M F F' lb lb' w w'.drew := ⟨h.os, h.tape, h.output, h.size, h.keep, h.newb, h.fin, h.fnew⟩
theorem ND.lbLt (h : ND F nb M lb w N) : ∀ k, lb = some k → k < w.heap.size := fun k e => by
  obtain ⟨ba, ca, lv, da, dc, h1, h2, h3, h4, h5⟩ := h.out
  obtain ⟨ls, h6, _⟩ := h4
  exact (h6.lt k (h2.trans e)).2
theorem ND.ownLt (h : ND F nb M lb w N) : ∀ k, own nb M lb k → k < w.heap.size := fun k e => by
  obtain ⟨ba, ca, lv, da, dc, h1, h2, h3, h4, h5⟩ := h.out
  rcases e with e | e | e | e | e | e
  · rw [e]; exact h1.lt
  · rw [e]; exact h.votes.lt
  · rw [e]; exact h.next.lt
  · rw [e]; exact h.had.lt
  · rw [e]; exact h.ends.lt
  · exact h.lbLt k e
theorem ND.nbBlk (h : ND F nb M lb w N) : ∃ c, Blk w nb c 109 := by
  obtain ⟨ba, ca, lv, da, dc, h1, _⟩ := h.out
  exact ⟨_, h1⟩
theorem MA.neCells {et : TypeId} {z : DataW Unit} {b : Nat} {X : List Int} {f : Int → DataW Unit} (h : MA w et z b X f) {c : Array Value} {t : TypeId} {fr : Nat × Nat} {g : Nat} (hb : w.heap[g]? = some (.cells c t fr)) : b ≠ g := fun e => by
  subst e
  obtain ⟨_, _, ⟨es, clock, h1, _⟩, _⟩ := h
  rw [hb] at h1
  cases h1
theorem ND.lbBlk (h : ND F nb M lb w N) : ∀ k, lb = some k → ∃ c, w.heap[k]? = some (.cells c 29 (0, 0)) := fun k e => by
  obtain ⟨ba, ca, lv, da, dc, h1, h2, h3, h4, h5⟩ := h.out
  obtain ⟨ls, h6, _⟩ := h4
  rcases h6.2 with ⟨_, rfl⟩ | ⟨g, cap, _, rfl, cur, h7, _⟩
  · rw [← h2] at e; cases e
  · rw [← h2] at e; cases e
    exact ⟨cur, h7⟩
/-- A replica's own blocks are apart. -/
theorem ND.ne (h : ND F nb M lb w N) : M.bv ≠ nb ∧ M.bn ≠ nb ∧ M.bh ≠ nb ∧ M.be ≠ nb ∧ ∀ k, lb = some k → k ≠ nb ∧ M.bv ≠ k ∧ M.bn ≠ k ∧ M.bh ≠ k ∧ M.be ≠ k := by
  obtain ⟨c, hc⟩ := h.nbBlk
  refine ⟨h.votes.neCells hc.out, h.next.neCells hc.out, h.had.neCells hc.out, h.ends.neCells hc.out, fun k e => ?_⟩
  obtain ⟨c2, h2⟩ := h.lbBlk k e
  refine ⟨fun e2 => ?_, h.votes.neCells h2, h.next.neCells h2, h.had.neCells h2, h.ends.neCells h2⟩
  subst e2
  rw [hc.out] at h2
  simp only [Option.some.injEq, Obj.cells.injEq] at h2
  exact absurd h2.2.1 (by decide)
/-- Only cells of the replica's own block changed. -/
theorem ND.cellsTo (h : ND F nb M lb w N) (hg : w.grownBy w' (some nb)) (N' : RN) (h1 : N'.k.bconf = N.k.bconf) (h2 : N'.k.log = N.k.log) (h3 : N'.draws = N.draws) (h4 : N'.votes = N.votes) (h5 : N'.next = N.next) (h6 : N'.had = N.had) (h7 : N'.ends = N.ends) (h8 : N'.keys = N.keys)
    (hc : ∀ ba ca lv da dc, Blk w nb (ncells M N ba ca lv da dc) 109 → Blk w' nb (ncells M N' ba ca lv da dc) 109) : ND F nb M lb w' N' := by
  have hk : ∀ k, k < w.heap.size → k ≠ nb → w'.heap[k]? = w.heap[k]? := fun k hk hn => hg.block k hk (fun e => hn (Option.some.inj e))
  have hn := h.ne
  obtain ⟨ba, ca, lv, da, dc, k1, k2, k3, k4, k5, k6⟩ := h.out
  have hF : ∀ k, F k → w'.heap[k]? = w.heap[k]? := fun k hF => hk k (h.flt k hF) (fun e => h.off k hF (.inl e))
  refine ⟨⟨ba, ca, lv, da, dc, hc _ _ _ _ _ k1, k2, ?_, ?_, ?_, by rw [h3]; exact k6⟩, ?_, ?_, ?_, ?_, h.apart, h.off, fun k hk => Nat.lt_of_lt_of_le (h.flt k hk) hg.size⟩
  · rw [h1]; exact k3.kept hF (fun _ h => h)
  · rw [h2]; exact k4.kept (fun k e => hk k (h.lbLt k (k2.symm.trans e)) (hn.2.2.2.2 k (k2.symm.trans e)).1) hF (fun _ h => h)
  · rw [h3]; exact k5.kept hF (fun _ h => h)
  · rw [h4]; exact h.votes.block (hk _ h.votes.lt hn.1)
  · rw [h5, h8]; exact h.next.block (hk _ h.next.lt hn.2.1)
  · rw [h6]; exact h.had.block (hk _ h.had.lt hn.2.2.1)
  · rw [h7]; exact h.ends.block (hk _ h.ends.lt hn.2.2.2.1)
/-- New blocks may come. -/
theorem ND.below (h : ND F nb M lb w N) (hb : Below w.heap.size w w') : ND F nb M lb w' N := by
  obtain ⟨ba, ca, lv, da, dc, k1, k2, k3, k4, k5, k6⟩ := h.out
  have hF : ∀ k, F k → w'.heap[k]? = w.heap[k]? := fun k hF => hb.block k (h.flt k hF)
  exact ⟨⟨ba, ca, lv, da, dc, k1.belowSize hb, k2, k3.kept hF (fun _ h => h), k4.kept (fun k e => hb.block k (h.lbLt k (k2.symm.trans e))) hF (fun _ h => h), k5.kept hF (fun _ h => h), k6⟩,
    h.votes.block (hb.block _ h.votes.lt), h.next.block (hb.block _ h.next.lt), h.had.block (hb.block _ h.had.lt), h.ends.block (hb.block _ h.ends.lt), h.apart, h.off, fun k hk => Nat.lt_of_lt_of_le (h.flt k hk) hb.size⟩
theorem ND.drewN (h : ND F nb M lb w N) (n : Nat) : ND F nb M lb (w.drewN n) N := h.below (below_draws (Below.refl _ _) n)
theorem ND.drew (h : ND F nb M lb w N) : ND F nb M lb w.drew N := h.below ((Below.refl _ _).drew)
/-- More may be taken for what does not change. -/
theorem ND.more (h : ND F nb M lb w N) (hF : ∀ k, F k → F' k) (ho : ∀ k, F' k → ¬ own nb M lb k ∧ k < w.heap.size) : ND F' nb M lb w N := by
  obtain ⟨ba, ca, lv, da, dc, k1, k2, k3, k4, k5, k6⟩ := h.out
  exact ⟨⟨ba, ca, lv, da, dc, k1, k2, k3.kept (fun _ _ => rfl) hF, k4.kept (fun _ _ => rfl) (fun _ _ => rfl) hF, k5.kept (fun _ _ => rfl) hF, k6⟩, h.votes, h.next, h.had, h.ends, h.apart, fun k hk => (ho k hk).1, fun k hk => (ho k hk).2⟩
/-- What is of F, and the new blocks. -/
def Fb (F : Nat → Prop) (w w' : World) (k : Nat) : Prop := F k ∨ (w.heap.size ≤ k ∧ k < w'.heap.size)
theorem ND.fresh (h : ND F nb M lb w N) (hb : Below w.heap.size w w') : ND (Fb F w w') nb M lb w' N :=
  (h.below hb).more (fun _ hk => .inl hk) (fun k hk => by
    rcases hk with hk | ⟨h1, h2⟩
    · exact ⟨h.off k hk, Nat.lt_of_lt_of_le (h.flt k hk) hb.size⟩
    · exact ⟨fun ho => by have := h.ownLt k ho; omega, h2⟩)
theorem Stp.fresh (hb : Below w.heap.size w w') : Stp nb M F (Fb F w w') lb lb w w' := ⟨hb.os, hb.tape, hb.output, hb.size, fun k hk _ => hb.block k hk, fun _ e => .inl e, fun _ h => .inl h, fun _ h => h.elim .inl (fun h => .inr h.1)⟩
end
end Go.Proofs.YtnhlejdilldfaaaGreat
