/- What DiskVoid does: it answers true. -/
import Derived.Test.YtgkkpmliociieaaAwk
namespace Go.Proofs.Ytgkkpmliociieaa
open Go Go.RowKit
/-- A disk stays where another one changes. -/
theorem DK.apart {w w' : World} {p q : Nat} {b c c' : Option Nat} {m : DM} (h : DK w p b m) (hc : Chg w w' q c c') (h1 : p ≠ q) (h2 : some p ≠ c) (h3 : ∀ r, b = some r → r ≠ q ∧ some r ≠ c) : DK w' p b m := by
  obtain ⟨sl, k1, k2, k3⟩ := h.out
  refine ⟨sl, ⟨(hc.block p k1.lt h1 h2).trans k1.out⟩, ?_, k3⟩
  refine ⟨k2.1, ?_⟩
  rcases k2.2 with k | ⟨g, cap, k4, rfl, k5⟩
  · exact .inl k
  · obtain ⟨cur, k6, k7⟩ := k5.out
    obtain ⟨k8, k9⟩ := h3 g (k3.symm.trans rfl)
    exact .inr ⟨g, cap, k4, rfl, ⟨cur, (hc.block g k5.lt k8 k9).trans k6, k7⟩⟩
theorem below_chg {N : Nat} {w w1 w2 : World} {p : Nat} {b b' : Option Nat} (hB : Below N w w1) (h : Chg w1 w2 p b b') (hp : N ≤ p) (hb : ∀ r, b = some r → N ≤ r) (hN : N ≤ w1.heap.size) : Below N w w2 := hB.trans (h.to hp hb hN)
theorem none_lo {N : Nat} : ∀ r, (none : Option Nat) = some r → N ≤ r := fun r e => (by cases e)
def falC (x y z : Int) : Array Value := #[.int .i64 x, .int .i64 y, .int .i64 z]
theorem iFal (x y z : Int) : (Try.prog.info? 34).map (·.size) = some (falC x y z).size := by kernel_rfl
theorem zFal : (∀ w, (zeroValue 34).run Try.prog w = .ok (.agg (falC 0 0 0)) w) ∧ (Try.prog.info? 34).map (·.size) = some 3 := zero_of_info (by kernel_rfl)
theorem bslA1 (x y z : Int) (w : World) : (Instr.buildSlice 57 1 #[(0, .agg (falC x y z))]).run Try.prog w = .ok (.slice (some ⟨w.heap.size, 0, none⟩) 1 1) (w.alloc (.cells (falC x y z) 34)) := by
  have hr3 : Array.range 3 = #[0, 1, 2] := by decide
  simp [Instr.buildSlice, run_underlying Try.underlying57, sizeOf_run zFal.2, Sem.run_bind, Instr.fill, newRow, zFal.1, falC, Value.cells, hr3]
section
variable {ops : Array Oper} {rest : List Oper} {op : Oper} {a : Act} {w : World} {Q : Exit → Act → World → Prop}
theorem wpList_bslA1 (hgd : op.guard = none) (x : Operand) (ho : op.op = .buildSlice 57 1 #[(0, x)]) (r y z : Int) (hx : a.eval x = .agg (falC r y z))
    (h : ∀ w1 : World, Below w.heap.size w w1 → wpList Try.prog ops Q rest (a.put op.dst (.slice (some ⟨w.heap.size, 0, none⟩) 1 1)) w1) : wpList Try.prog ops Q (op :: rest) a w := by
  have e : (#[(0, x)] : Array (Nat × Operand)).map (fun (i, x) => (i, a.eval x)) = #[(0, .agg (falC r y z))] := by simp [hx]
  refine wpList_run hgd _ _ ?_ (h _ ((Below.refl _ _).alloc (Nat.le_refl _) (.cells (falC r y z) 34)))
  unfold execOp
  simp only [ho, Sem.run_bind, e, bslA1, Result.andThen_ok]
  rfl
end
theorem aC_fall {w : World} {b : Nat} {a : AC} {t : TypeId} (h : Blk w b (aC a) t) : w.rangeAt b 5 (falC a.at_ a.keep a.torn).toList := rangeAt_part (o := 0) h.rangeAll 5 3
theorem aC_g5 (a : AC) : (aC a)[5]? = some (.int .i64 a.at_) := rfl
theorem aC_g6 (a : AC) : (aC a)[6]? = some (.int .i64 a.keep) := rfl
theorem aC_g7 (a : AC) : (aC a)[7]? = some (.int .i64 a.torn) := rfl
theorem void_ne {w : World} {p : Nat} {b : Option Nat} {m : DM} (h : DK w p b m) : p ≠ w.heap.size := Nat.ne_of_lt h.lt
theorem void_nb {w : World} {p : Nat} {b c : Option Nat} {m : DM} (h : DK w p b m) (hc : ∀ r, c = some r → w.heap.size ≤ r) : some p ≠ c := fun e => by have := hc p e.symm; have := h.lt; omega
theorem void_nr {w : World} {p : Nat} {b c : Option Nat} {m : DM} (h : DK w p b m) (hc : ∀ r, c = some r → w.heap.size ≤ r) : ∀ r, b = some r → r ≠ w.heap.size ∧ some r ≠ c := fun r e => by
  have := h.blt r e
  exact ⟨by omega, fun e2 => by have := hc r e2.symm; omega⟩
def n1 : DM := ⟨[⟨[97], some [49], none, 2⟩], false, false, 0, 1⟩
def n2 : DM := ⟨[⟨[97], some [50], none, 2⟩], false, false, 0, 2⟩
theorem wri1 : wriD m0 [97] [49] = (n1, 0) := by kernel_rfl
theorem wri2 : wriD n1 [97] [50] = (n2, 0) := by kernel_rfl
theorem okdN : Okd n1 := ⟨⟨List.pairwise_singleton .., fun f h => by rw [List.mem_singleton.1 h]; decide, fun f h => by rw [List.mem_singleton.1 h]; decide⟩, by decide, by decide, by decide, fun h => (by cases h)⟩
theorem the1 : theC n1 [97] = some [49] ∧ theE n1 [97] = 0 := ⟨by kernel_rfl, by kernel_rfl⟩
set_option maxRecDepth 100000 in
set_option maxHeartbeats 2000000 in
theorem diskVoid_any (s : B) (a : AC) (w : World) (hs : s.length ≤ 9223372036854775807) : Calls Try.prog 6 #[.string ⟨s.toArray⟩, .agg (aC a)] w fun e w' => e = .returned (.bool true) ∧ Below w.heap.size w w' := by
  have H1 := fun w1 p (h : DK w1 p none m0) => write_any p none m0 [97] [49] w1 h okd0 (by decide) (by decide)
  rw [wri1] at H1
  have H2 := fun w1 p b (h : DK w1 p b n1) => clone_any p b n1 w1 h (by decide)
  have H3 := fun w1 p b (h : DK w1 p b n1) => write_any p b n1 [97] [50] w1 h okdN (by decide) (by decide)
  rw [wri2] at H3
  have H4 := fun w1 p b (h : DK w1 p b n1) => read_any p b n1 [97] w1 h okdN.l.ris (by decide) (by decide)
  rw [the1.1, the1.2] at H4
  have HN : ∀ w1 : World, Calls Try.prog 21 #[] w1 fun e w' => e = .returned (.pointer (some ⟨w1.heap.size, 0, none⟩)) ∧ Below w1.heap.size w1 w' ∧ DK w' w1.heap.size none m0 := fun w1 => new_any w1
  have HA := fun w1 => awake_any w1
  have HNa := fun w1 => name_any s w1 hs
  have HNb := fun w1 => rname_any s w1 hs
  have HCh := fun w1 => change_nil a w1
  generalize okN s = ok at *
  generalize m0 = x0 at *
  generalize n1 = x1 at *
  generalize n2 = x2 at *
  clear hs
  have g4 := aC_g4 a
  have HRn := fun w1 => read_nil (.string ⟨s.toArray⟩) w1
  go_enter Try.func6, Try.ntmps6
  go_wp2_with (first
    | (go_at_call 19; refine (room_nil _ _).mono ?_; rintro e w2 ⟨rfl, hw2⟩; have hw2 := hw2.symm; subst hw2)
    | (go_at_call 20; refine (plan_nil _ _).mono ?_; rintro e w4 ⟨rfl, hw4⟩; have hw4 := hw4.symm; subst hw4)
    | (go_at_call 14; refine (crash_nil _ _ _).mono ?_; rintro e w5 ⟨rfl, hw5⟩; have hw5 := hw5.symm; subst hw5)
    | (go_at_call 16; refine (HRn _).mono ?_; rintro e w6 ⟨rfl, hw6⟩; clear HRn; have hB6 := hB3.trans (hw6.mono hB3.size); replace h3 := h3.belowSize hw6)
    | (go_at_call 21; refine (HN _).mono ?_; rintro e w7 ⟨rfl, hw7, hD7⟩; have hB7 := hB6.trans (hw7.mono hB6.size); replace h3 := h3.belowSize hw7)
    | (go_at_call 22; refine (H1 _ _ hD7).mono ?_; rintro e w8 ⟨rfl, b8, hC8, hD8⟩; clear H1; have hB8 := below_chg hB7 hC8 hB6.size none_lo hB7.size; have hlo8 := hC8.lo (N := w.heap.size) none_lo hB7.size; replace h3 := hC8.blk hD7 h3 (by decide) (by decide))
    | (go_at_call 23; refine (H2 _ _ _ hD8).mono ?_; rintro e w9 ⟨rfl, hw9, b9, hD9, hlo9⟩; clear H2; have hB9 := hB8.trans (hw9.mono hB8.size); replace h3 := h3.belowSize hw9; have hD8b := hD8.below hw9)
    | (go_at_call 22; refine (H3 _ _ _ hD9).mono ?_; rintro e w10 ⟨rfl, b10, hC10, hD10⟩; clear H3; have hB10 := below_chg hB9 hC10 hB8.size (fun r e => Nat.le_trans hB8.size (hlo9 r e)) hB9.size; replace h3 := hC10.blk hD9 h3 (by decide) (by decide); have hD8c := hD8b.apart hC10 (void_ne hD8) (void_nb hD8 hlo9) (void_nr hD8 hlo9))
    | (go_at_call 16; refine (H4 _ _ _ hD8c).mono ?_; rintro e w11 ⟨rfl, hw11⟩; clear H4; have hB11 := hB10.trans (hw11.mono hB10.size); replace h3 := h3.belowSize hw11)
    | (go_at_call 10; refine (HA _).mono ?_; rintro e w12 ⟨rfl, hw12⟩; have hB12 := hB11.trans (hw12.mono hB11.size); replace h3 := h3.belowSize hw12; have c0 := (h3.cell 0).trans (aC_g0 a); have c1 := (h3.cell 1).trans (aC_g1 a); have c2 := (h3.cell 2).trans (aC_g2 a); have c3 := (h3.cell 3).trans (aC_g3 a); have c4 := (h3.cell 4).trans (aC_g4 a); have c5 := (h3.cell 5).trans (aC_g5 a); have c6 := (h3.cell 6).trans (aC_g6 a); have c7 := (h3.cell 7).trans (aC_g7 a))
    | (go_at_call 24; refine (HNa _).mono ?_; rintro e w13 ⟨rfl, hw13⟩; have hw13 := hw13.symm; subst hw13)
    | (go_at_call 25; refine (HNb _).mono ?_; rintro e w13 ⟨rfl, hw13⟩; have hw13 := hw13.symm; subst hw13)
    | (go_at_call 26; refine (dead_nil _).mono ?_; rintro e w13 ⟨rfl, hw13⟩; have hw13 := hw13.symm; subst hw13)
    | (go_at_call 15; refine (up_nil _).mono ?_; rintro e w13 ⟨rfl, hw13⟩; have hw13 := hw13.symm; subst hw13)
    | (go_at_call 11; refine (sync_nil _).mono ?_; rintro e w13 ⟨rfl, hw13⟩; have hw13 := hw13.symm; subst hw13)
    | (go_at_call 27; refine (HCh _).mono ?_; rintro e w14 ⟨v14, rfl, rfl, hw14⟩; have hB14 := hB12.trans (hw14.mono hB12.size))
    | (go_at_call 28; refine (names_nil _).mono ?_; rintro e w13 ⟨rfl, hw13⟩; have hw13 := hw13.symm; subst hw13)
    | (go_at_call 18; refine (used_nil _).mono ?_; rintro e w13 ⟨rfl, hw13⟩; have hw13 := hw13.symm; subst hw13)
    | (go_at_call 29; refine (changes_nil _).mono ?_; rintro e w13 ⟨rfl, hw13⟩; have hw13 := hw13.symm; subst hw13)
    | (go_at_call 30; refine (nloose_nil _).mono ?_; rintro e w13 ⟨rfl, hw13⟩; have hw13 := hw13.symm; subst hw13)
    | (go_at_call 23; refine (clone_nil _).mono ?_; rintro e w13 ⟨rfl, hw13⟩; have hw13 := hw13.symm; subst hw13)
    | (with_reducible refine at_list ?_; first
      | (refine wpList_boxRow (op := ⟨some 3, _, _, _, _, _⟩) rfl _ _ rfl _ rfl ?_; intro w1 hw1 hs1 h3; clear hs1; have hfa := aC_fall h3)
      | (refine wpList_loadCell (op := ⟨some 16, _, _, _, _, _⟩) rfl _ _ rfl w.heap.size 4 rfl _ _ h3 _ Try.underlying3 rfl _ g4 ?_)
      | (refine wpList_loadAt (op := ⟨some 20, _, _, _, _, _⟩) rfl _ _ rfl w.heap.size 5 rfl (falC a.at_ a.keep a.torn) hfa _ Try.underlying34 rfl (iFal _ _ _) ?_)
      | (refine wpList_bslA1 (op := ⟨some 21, _, _, _, _, _⟩) rfl _ rfl a.at_ a.keep a.torn rfl ?_; intro w3 hw3; replace h3 := h3.belowSize hw3; have hB3 := hw1.trans (hw3.mono hw1.size); clear hfa)
      | (refine wpList_loadCell (op := ⟨some 25, _, _, _, _, _⟩) rfl _ _ rfl w.heap.size 4 rfl _ _ h3 _ Try.underlying3 rfl _ g4 ?_)
      | (refine wpList_loadCell (op := ⟨some 27, _, _, _, _, _⟩) rfl _ _ rfl w.heap.size 4 rfl _ _ h3 _ Try.underlying3 rfl _ g4 ?_)))
  go_ret
  exact ⟨rfl, hB14⟩
end Go.Proofs.Ytgkkpmliociieaa
