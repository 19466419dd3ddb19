/- Lists of who takes part in memory; head.Members and the plain one; slices of numbers that grow. Lists of who takes part, entries in memory: what conf is asked to do. -/
import Derived.Test.YtnhlejdilldfaaaGreatRows
import Derived.Test.YtnhlejdilldfaaaGreatVsi
import Derived.Deep.CutRange
import Derived.Test.YtnhlejdilldfaaaGreatRc
import Derived.Test.YtnhlejdilldfaaaGreatWf
namespace Go.Proofs.YtnhlejdilldfaaaGreat
open Go Go.RowKit
/-- May they be who takes part? -/
def okM (l : List Int) : Bool := decide (l ≠ []) && ((l.all fun m => decide (0 ≤ m ∧ m ≤ 15)) && decide (l.Pairwise (· < ·)))
structure OkM (l : List Int) : Prop where
  ne : l ≠ []
  each : ∀ m ∈ l, 0 ≤ m ∧ m ≤ 15
  up : l.Pairwise (· < ·)
theorem okM_iff {l : List Int} : okM l = true ↔ OkM l := by
  unfold okM
  rw [Bool.and_eq_true, Bool.and_eq_true, decide_eq_true_eq, decide_eq_true_eq, List.all_eq_true]
  exact ⟨fun ⟨h1, h2, h3⟩ => ⟨h1, fun m hm => of_decide_eq_true (h2 m hm), h3⟩, fun h => ⟨h.ne, fun m hm => decide_eq_true (h.each m hm), h.up⟩⟩
theorem rising_len : ∀ (l : List Int) (a b : Int), a ≤ b + 1 → (∀ m ∈ l, a ≤ m ∧ m ≤ b) → l.Pairwise (· < ·) → (l.length : Int) ≤ b - a + 1
  | [], a, b, h, _, _ => by simp only [List.length_nil]; omega
  | x :: r, a, b, h, hm, hp => by
    obtain ⟨h1, h2⟩ := List.pairwise_cons.1 hp
    obtain ⟨h3, h4⟩ := hm x (List.mem_cons_self ..)
    have h5 := rising_len r (x + 1) b (by omega) (fun m hr => ⟨by have := h1 m hr; omega, (hm m (List.mem_cons_of_mem _ hr)).2⟩) h2
    rw [List.length_cons]
    omega
theorem OkM.len {l : List Int} (h : OkM l) : l.length ≤ 16 := by
  have := rising_len l 0 15 (by decide) h.each h.up
  omega
theorem OkM.pos {l : List Int} (h : OkM l) : 0 < l.length := List.length_pos_iff.2 h.ne
/-- The numbers l lie at a. -/
def IA (w : World) (a : Option Addr) (l : List Int) : Prop := ∀ i x, l[i]? = some x → ∃ g o, a = some ⟨g, o, none⟩ ∧ w.cell? ⟨g, o + i, none⟩ = some (.int .i64 x)
theorem IA.below {w w' : World} {a : Option Addr} {l : List Int} (h : IA w a l) (hb : Below w.heap.size w w') : IA w' a l := fun i x hx => by
  obtain ⟨g, o, ha, hc⟩ := h i x hx
  exact ⟨g, o, ha, by rw [hb.cell (World.block_lt_of_cell? _ _ hc)]; exact hc⟩
theorem IA.ex {w : World} {a : Option Addr} {l : List Int} (h : IA w a l) (h0 : 0 < l.length) : ∃ g o, a = some ⟨g, o, none⟩ := by
  obtain ⟨g, o, ha, _⟩ := h 0 _ (List.getElem?_eq_getElem h0)
  exact ⟨g, o, ha⟩
theorem IA.cell {w : World} {g o : Nat} {l : List Int} (h : IA w (some ⟨g, o, none⟩) l) {i : Nat} (hi : i < l.length) : w.cell? ⟨g, o + i, none⟩ = some (.int .i64 (l.getD i 0)) := by
  obtain ⟨g', o', ha, hc⟩ := h i _ (List.getElem?_eq_getElem hi)
  simp only [Option.some.injEq, Addr.mk.injEq, and_true] at ha
  obtain ⟨rfl, rfl⟩ := ha
  rw [hc, List.getD_eq_getElem?_getD, List.getElem?_eq_getElem hi]
  rfl
theorem okM_at {l : List Int} : okM l = true ↔ 0 < l.length ∧ ∀ i, i < l.length → 0 ≤ l.getD i 0 ∧ l.getD i 0 ≤ 15 ∧ (0 < i → l.getD (i - 1) 0 < l.getD i 0) := by
  rw [okM_iff]
  have hg : ∀ {i : Nat} (h : i < l.length), l.getD i 0 = l[i] := fun h => by rw [List.getD_eq_getElem?_getD, List.getElem?_eq_getElem h]; rfl
  constructor
  · intro h
    refine ⟨h.pos, fun i hi => ?_⟩
    obtain ⟨h1, h2⟩ := h.each _ (List.getElem_mem hi)
    rw [hg hi]
    refine ⟨h1, h2, fun h0 => ?_⟩
    rw [hg (show i - 1 < l.length by omega)]
    exact List.pairwise_iff_getElem.1 h.up _ _ _ _ (by omega)
  · rintro ⟨h0, h⟩
    refine ⟨List.length_pos_iff.1 h0, fun m hm => ?_, List.pairwise_iff_getElem.2 ?_⟩
    · obtain ⟨i, hi, rfl⟩ := List.getElem_of_mem hm
      have := h i hi
      rw [hg hi] at this
      exact ⟨this.1, this.2.1⟩
    · have key : ∀ (d i : Nat) (hi : i + (d + 1) < l.length), l[i]'(by omega) < l[i + (d + 1)] := by
        intro d
        induction d with
        | zero =>
          intro i hi
          have := (h (i + 1) hi).2.2 (by omega)
          rw [hg hi, show i + 1 - 1 = i by omega, hg (show i < l.length by omega)] at this
          exact this
        | succ d ih =>
          intro i hi
          have h1 := ih i (by omega)
          have hi' : i + (d + 1) + 1 < l.length := hi
          have h2 := (h (i + (d + 1) + 1) hi').2.2 (by omega)
          rw [hg hi', show i + (d + 1) + 1 - 1 = i + (d + 1) by omega, hg (show i + (d + 1) < l.length by omega)] at h2
          exact Int.lt_trans h1 h2
      intro i j hi hj hij
      obtain ⟨d, rfl⟩ : ∃ d, j = i + (d + 1) := ⟨j - i - 1, by omega⟩
      exact key d i hj
theorem rise_le {l : List Int} {i : Nat} (h : ∀ j, j < i → 0 ≤ l.getD j 0 ∧ l.getD j 0 ≤ 15 ∧ (0 < j → l.getD (j - 1) 0 < l.getD j 0)) : i ≤ 16 := by
  have key : ∀ j, j < i → (j : Int) ≤ l.getD j 0 := by
    intro j
    induction j with
    | zero => intro hj; exact (h 0 hj).1
    | succ j ih =>
      intro hj
      have h1 := ih (by omega)
      have h2 := (h (j + 1) hj).2.2 (by omega)
      rw [show j + 1 - 1 = j by omega] at h2
      omega
  refine Classical.byContradiction fun hc => ?_
  have h1 := key 16 (by omega)
  have h2 := (h 16 (by omega)).2.1
  omega
set_option maxRecDepth 100000 in
set_option maxHeartbeats 4000000 in
theorem rmembers_any (l : List Int) (a : Option Addr) (cap : Nat) (w : World) (hA : IA w a l) (B : Bool) (hB0 : Hid (okM l = B)) :
    Calls Tryz.prog 11 #[.slice a l.length cap] w fun e w' => e = .returned (.bool B) ∧ Below w.heap.size w w' := by
  go_enter Tryz.func11, Tryz.ntmps11
  go_wp2_with fail
  go_loopw [3] (fun v3 wl => ∃ i : Nat, i ≤ l.length ∧ v3 = .int .i64 i ∧ Hid (∀ j, j < i → 0 ≤ l.getD j 0 ∧ l.getD j 0 ≤ 15 ∧ (0 < j → l.getD (j - 1) 0 < l.getD j 0)) ∧ Below w.heap.size w wl) (fun v3 _ => l.length - (intOf v3).toNat)
  case atStart => exact ⟨0, by omega, rfl, (fun j hj => absurd hj (Nat.not_lt_zero _)), Below.refl _ _⟩
  case round =>
    obtain ⟨i, hil, rfl, hI, hB⟩ := hrel
    have hi16 : i ≤ 16 := rise_le hI.out
    by_cases hlt : i < l.length
    · obtain ⟨g, o, rfl⟩ := hA.ex (by omega)
      have c0 := (hA.below hB).cell hlt
      have hz1 : (0 : Int) ≤ (i : Int) := by omega
      have hz2 : (i : Int) < (l.length : Int) := by omega
      have hz3 : i < l.length := hlt
      by_cases hbad : l.getD i 0 < 0 ∨ 15 < l.getD i 0 ∨ 0 < i ∧ l.getD i 0 ≤ l.getD (i - 1) 0
      · have hBf : B = false := by
          rw [← hB0.out, Bool.eq_false_iff]
          intro h
          have := (okM_at.1 h).2 i hlt
          rcases hbad with h1 | h1 | ⟨h1, h2⟩
          · omega
          · omega
          · have := this.2.2 h1; omega
        subst hBf
        by_cases h1 : l.getD i 0 < 0
        · clear hbad hI
          generalize l.getD i 0 = x at *
          have hd1 : decide (x < 0) = true := decide_eq_true h1
          go_wp2_with fail
          go_quiet (fail)
          go_wp2_with fail
          go_ret
          exact ⟨rfl, below_draws hB _⟩
        · by_cases h2 : 15 < l.getD i 0
          · clear hbad hI
            generalize l.getD i 0 = x at *
            have hd1 : decide (x < 0) = false := decide_eq_false h1
            have hd2 : decide (15 < x) = true := decide_eq_true h2
            go_wp2_with fail
            go_quiet (fail)
            go_wp2_with fail
            go_ret
            exact ⟨rfl, below_draws hB _⟩
          · obtain ⟨h3, h4⟩ := (hbad.resolve_left h1).resolve_left h2
            have c1 := (hA.below hB).cell (show i - 1 < l.length by omega)
            have hw1 : IntKind.i64.wrap ((i : Int) - 1) = ((i - 1 : Nat) : Int) := by rw [IntKind.wrap_i64]; omega
            have hz4 : (0 : Int) ≤ ((i - 1 : Nat) : Int) := by omega
            have hz5 : ((i - 1 : Nat) : Int) < (l.length : Int) := by omega
            have hz6 : i - 1 < l.length := by omega
            have hz7 : (0 : Int) < (i : Int) := by omega
            clear hbad hI
            generalize l.getD i 0 = x at *
            generalize l.getD (i - 1) 0 = y at *
            generalize i - 1 = k at *
            have hd1 : decide (x < 0) = false := decide_eq_false h1
            have hd2 : decide (15 < x) = false := decide_eq_false h2
            have hd3 : decide (x ≤ y) = true := decide_eq_true h4
            go_wp2_with fail
            go_quiet (fail)
            go_wp2_with fail
            go_ret
            exact ⟨rfl, below_draws hB _⟩
      · have h1 : ¬ l.getD i 0 < 0 := fun h => hbad (.inl h)
        have h2 : ¬ 15 < l.getD i 0 := fun h => hbad (.inr (.inl h))
        have hI2 : Hid (∀ j, j < i + 1 → 0 ≤ l.getD j 0 ∧ l.getD j 0 ≤ 15 ∧ (0 < j → l.getD (j - 1) 0 < l.getD j 0)) := fun j hj => by
          by_cases hji : j < i
          · exact hI.out j hji
          · obtain rfl : j = i := by omega
            exact ⟨by omega, by omega, fun h0 => by
              have : ¬ (0 < j ∧ l.getD j 0 ≤ l.getD (j - 1) 0) := fun h => hbad (.inr (.inr h))
              omega⟩
        by_cases h0 : 0 < i
        · have h4 : ¬ l.getD i 0 ≤ l.getD (i - 1) 0 := fun h => hbad (.inr (.inr ⟨h0, h⟩))
          have c1 := (hA.below hB).cell (show i - 1 < l.length by omega)
          have hw1 : IntKind.i64.wrap ((i : Int) - 1) = ((i - 1 : Nat) : Int) := by rw [IntKind.wrap_i64]; omega
          have hz4 : (0 : Int) ≤ ((i - 1 : Nat) : Int) := by omega
          have hz5 : ((i - 1 : Nat) : Int) < (l.length : Int) := by omega
          have hz6 : i - 1 < l.length := by omega
          have hz7 : (0 : Int) < (i : Int) := by omega
          clear hbad hI
          generalize l.getD i 0 = x at *
          generalize l.getD (i - 1) 0 = y at *
          generalize i - 1 = k at *
          have hd1 : decide (x < 0) = false := decide_eq_false h1
          have hd2 : decide (15 < x) = false := decide_eq_false h2
          have hd3 : decide (x ≤ y) = false := decide_eq_false h4
          go_wp2_with fail
          go_quiet (fail)
          go_wp2_with fail
          go_roundw
          case rel => exact ⟨i + 1, by omega, by go_num, hI2, below_draws hB _⟩
          case measure => simp [intOf]; omega
        · have hz7 : ¬ (0 : Int) < (i : Int) := by omega
          clear hbad hI
          generalize l.getD i 0 = x at *
          have hd1 : decide (x < 0) = false := decide_eq_false h1
          have hd2 : decide (15 < x) = false := decide_eq_false h2
          go_wp2_with fail
          go_quiet (fail)
          go_wp2_with fail
          go_roundw
          case rel => exact ⟨i + 1, by omega, by go_num, hI2, below_draws hB _⟩
          case measure => simp [intOf]; omega
    · have hz2 : ¬ (i : Int) < (l.length : Int) := by omega
      have hBl : B = decide (0 < l.length) := by
        rw [← hB0.out, Bool.eq_iff_iff, decide_eq_true_eq, okM_at]
        exact ⟨fun h => h.1, fun h => ⟨h, fun j hj => hI.out j (by omega)⟩⟩
      clear hI hB0
      subst hBl
      go_wp2_with fail
      go_ret
      exact ⟨rfl, hB⟩
/-- The least that the next number may be. -/
def lst (l : List Int) (i : Nat) : Int := if i = 0 then 0 else l.getD (i - 1) 0 + 1
theorem lst_succ (l : List Int) (i : Nat) : lst l (i + 1) = l.getD i 0 + 1 := by simp [lst]
theorem lst_step {l : List Int} {i : Nat} (h : ∀ j, j < i → 0 ≤ l.getD j 0 ∧ l.getD j 0 ≤ 15 ∧ (0 < j → l.getD (j - 1) 0 < l.getD j 0)) :
    0 ≤ lst l i ∧ (lst l i ≤ l.getD i 0 ↔ 0 ≤ l.getD i 0 ∧ (0 < i → l.getD (i - 1) 0 < l.getD i 0)) := by
  by_cases h0 : i = 0
  · subst h0
    simp [lst]
  · have h1 := h (i - 1) (by omega)
    unfold lst
    rw [if_neg h0]
    refine ⟨by omega, fun h2 => ⟨by omega, fun _ => by omega⟩, fun h2 => ?_⟩
    have := h2.2 (by omega)
    omega
set_option maxRecDepth 100000 in
set_option maxHeartbeats 4000000 in
theorem members_any (l : List Int) (a : Option Addr) (cap : Nat) (w : World) (hA : IA w a l) (B : Bool) (hB0 : Hid (okM l = B)) :
    Calls Tryz.prog 82 #[.slice a l.length cap] w fun e w' => e = .returned (.bool B) ∧ w' = w := by
  go_enter Tryz.func82, Tryz.ntmps82
  go_wp2_with fail
  go_loopw [3, 8] (fun v3 v8 wl => ∃ i : Nat, i ≤ l.length ∧ v8 = .int .i64 i ∧ v3 = .int .i64 (lst l i) ∧ Hid (∀ j, j < i → 0 ≤ l.getD j 0 ∧ l.getD j 0 ≤ 15 ∧ (0 < j → l.getD (j - 1) 0 < l.getD j 0)) ∧ wl = w) (fun _ v8 _ => l.length - (intOf v8).toNat)
  case atStart => exact ⟨0, by omega, rfl, rfl, (fun j hj => absurd hj (Nat.not_lt_zero _)), rfl⟩
  case round =>
    obtain ⟨i, hil, rfl, rfl, hI, hw⟩ := hrel
    have hw2 := hw.symm
    subst hw2
    clear hw
    have hi16 : i ≤ 16 := rise_le hI.out
    obtain ⟨hs0, hs1⟩ := lst_step hI.out
    by_cases hlt : i < l.length
    · obtain ⟨g, o, rfl⟩ := hA.ex (by omega)
      have c0 := hA.cell hlt
      have hz1 : (0 : Int) ≤ (i : Int) := by omega
      have hz2 : (i : Int) < (l.length : Int) := by omega
      have hz3 : i < l.length := hlt
      have hL : Hid (lst l (i + 1) = l.getD i 0 + 1) := lst_succ l i
      by_cases h1 : l.getD i 0 < lst l i
      · have hBf : B = false := by
          rw [← hB0.out, Bool.eq_false_iff]
          intro h
          have := (okM_at.1 h).2 i hlt
          have := hs1.2 ⟨this.1, this.2.2⟩
          omega
        subst hBf
        clear hI hs1 hL
        generalize l.getD i 0 = x at *
        generalize lst l i = m at *
        have hd1 : decide (x < m) = true := decide_eq_true h1
        go_wp2_with fail
        go_ret
        exact ⟨rfl, rfl⟩
      · by_cases h2 : 16 ≤ l.getD i 0
        · have hBf : B = false := by
            rw [← hB0.out, Bool.eq_false_iff]
            intro h
            have := (okM_at.1 h).2 i hlt
            omega
          subst hBf
          clear hI hs1 hL
          generalize l.getD i 0 = x at *
          generalize lst l i = m at *
          have hd1 : decide (x < m) = false := decide_eq_false h1
          have hd2 : decide (16 ≤ x) = true := decide_eq_true h2
          go_wp2_with fail
          go_ret
          exact ⟨rfl, rfl⟩
        · have hI2 : Hid (∀ j, j < i + 1 → 0 ≤ l.getD j 0 ∧ l.getD j 0 ≤ 15 ∧ (0 < j → l.getD (j - 1) 0 < l.getD j 0)) := fun j hj => by
            by_cases hji : j < i
            · exact hI.out j hji
            · obtain rfl : j = i := by omega
              have := hs1.1 (by omega)
              exact ⟨this.1, by omega, this.2⟩
          clear hI hs1
          generalize l.getD i 0 = x at *
          generalize lst l i = m at *
          have hd1 : decide (x < m) = false := decide_eq_false h1
          have hd2 : decide (16 ≤ x) = false := decide_eq_false h2
          have hw1 : IntKind.i64.wrap (x + 1) = x + 1 := by rw [IntKind.wrap_i64]; omega
          go_wp2_with fail
          go_roundw
          case rel => exact ⟨i + 1, by omega, by go_num, by rw [hL.out], hI2, trivial⟩
          case measure => simp [intOf]; omega
    · have hz2 : ¬ (i : Int) < (l.length : Int) := by omega
      have hBl : B = decide (0 < l.length) := by
        rw [← hB0.out, Bool.eq_iff_iff, decide_eq_true_eq, okM_at]
        exact ⟨fun h => h.1, fun h => ⟨h, fun j hj => hI.out j (by omega)⟩⟩
      clear hI hB0 hs1 hs0
      subst hBl
      generalize lst l i = m at *
      go_wp2_with fail
      go_ret
      exact ⟨rfl, rfl⟩
theorem infoI : ∃ i, Tryz.prog.info? 3 = some i ∧ i.zero = some (.int .i64 0) ∧ i.size = 1 ∧ i.bytes ≤ 256 := by
  have h : (Tryz.prog.info? 3).map (fun i => (i.zero, i.size, i.bytes)) = some (some (.int .i64 0), 1, 8) := by kernel_rfl
  cases hq : Tryz.prog.info? 3 with
  | none => rw [hq] at h; cases h
  | some i => rw [hq] at h; simp at h; exact ⟨i, rfl, h.1, h.2.1, by omega⟩
theorem range0 : Array.range 0 = #[] := by decide
theorem bsl0I (w : World) : (Instr.buildSlice 23 0 #[]).run Tryz.prog w = .ok (.slice (some ⟨w.heap.size, 0, none⟩) 0 0) (w.alloc (.cells #[] 3)) := by
  simp [Instr.buildSlice, run_underlying Tryz.underlying23, sizeOf_run i3, Sem.run_bind, Instr.fill, newRow, range0]
theorem bsl1I (z : Int) (w : World) : (Instr.buildSlice 23 1 #[(0, .int .i64 z)]).run Tryz.prog w = .ok (.slice (some ⟨w.heap.size, 0, none⟩) 1 1) (w.alloc (.cells #[.int .i64 z] 3)) := by
  simp [Instr.buildSlice, run_underlying Tryz.underlying23, sizeOf_run i3, Sem.run_bind, Instr.fill, newRow, Tryz.zeroValue3, Value.cells, range1]
section
variable {ops : Array Oper} {rest : List Oper} {op : Oper} {a : Act} {w : World} {Q : Exit → Act → World → Prop}
theorem wpList_bsl0I (hgd : op.guard = none) (ho : op.op = .buildSlice 23 0 #[])
    (h : ∀ w1 : World, Below w.heap.size w w1 → w1.heap.size = w.heap.size + 1 → VL w1 3 w.heap.size (.slice (some ⟨w.heap.size, 0, none⟩) 0 0) [] → wpList Tryz.prog ops Q rest (a.put op.dst (.slice (some ⟨w.heap.size, 0, none⟩) 0 0)) w1) : wpList Tryz.prog ops Q (op :: rest) a w := by
  refine wpList_run hgd _ _ ?_ (h _ ((Below.refl _ _).alloc (Nat.le_refl _) (.cells #[] 3)) (by simp) (.inr ⟨w.heap.size, 0, Nat.le_refl _, rfl, ⟨#[], (0, 0), (Blk.new w _ _).out, by simp, by simp, .inl rfl, fun j v hv => by simp at hv⟩⟩))
  unfold execOp
  have hr := bsl0I w
  simp only [ho, Sem.run_bind, Array.map_empty, hr, Result.andThen_ok]
  rfl
theorem wpList_bsl1I (hgd : op.guard = none) (x : Operand) (ho : op.op = .buildSlice 23 1 #[(0, x)]) (z : Int) (hx : a.eval x = .int .i64 z)
    (h : ∀ w1 : World, Below w.heap.size w w1 → w1.heap.size = w.heap.size + 1 → Blk w1 w.heap.size #[.int .i64 z] 3 → wpList Tryz.prog ops Q rest (a.put op.dst (.slice (some ⟨w.heap.size, 0, none⟩) 1 1)) w1) : wpList Tryz.prog ops Q (op :: rest) a w := by
  refine wpList_run hgd _ _ ?_ (h _ ((Below.refl _ _).alloc (Nat.le_refl _) _) (by simp) (Blk.new _ _ _))
  unfold execOp
  have e : (#[(0, x)] : Array (Nat × Operand)).map (fun (i, x) => (i, a.eval x)) = #[(0, .int .i64 z)] := by simp [hx]
  have hr := bsl1I z w
  rw [← e] at hr
  simp only [ho, Sem.run_bind, hr, Result.andThen_ok]
  rfl
end
theorem VL.ia {w : World} {t : TypeId} {lo : Nat} {sl : Value} {l : List Int} (h : VL w t lo sl (l.map fun x => .int .i64 x)) : ∃ a cap, sl = .slice a l.length cap ∧ IA w a l := by
  rcases h with ⟨h1, h2⟩ | ⟨g, cap, h1, h2, h3⟩
  · obtain rfl : l = [] := List.map_eq_nil_iff.1 h1
    exact ⟨none, 0, h2, fun i x hx => by simp at hx⟩
  · refine ⟨some ⟨g, 0, none⟩, cap, by rw [h2, List.length_map], fun i x hx => ⟨g, 0, rfl, ?_⟩⟩
    rw [Nat.zero_add]
    exact h3.cell i _ (by rw [List.getElem?_map, hx]; rfl)
end Go.Proofs.YtnhlejdilldfaaaGreat
namespace Go.Proofs.YtnhlejdilldfaaaGreat
open Go Go.RowKit
/-- How many of one list another one lacks. -/
def lack (l m : List Int) : Nat := (l.filter fun x => decide (x ∉ m)).length
/-- May the one follow the other? -/
def nx (l m : List Int) : Bool := okM l && (okM m && decide (lack l m + lack m l = 1))
/-- An entry of the log. -/
structure LE where
  term : Int
  s : List UInt8
  conf : Bool
  mem : List Int
def lec (e : LE) (sl : Value) : Array Value := #[.int .i64 e.term, .string ⟨e.s.toArray⟩, .bool e.conf, sl]
/-- The entries l lie at a. -/
def EA (w : World) (a : Option Addr) (l : List LE) : Prop := ∀ i (h : i < l.length), ∃ g o ma cap, a = some ⟨g, o, none⟩ ∧ w.rangeAt g (o + i * 4) (lec l[i] (.slice ma l[i].mem.length cap)).toList ∧ IA w ma l[i].mem ∧ l[i].mem.length ≤ 17592186044416
theorem EA.below {w w' : World} {a : Option Addr} {l : List LE} (h : EA w a l) (hb : Below w.heap.size w w') : EA w' a l := fun i hi => by
  obtain ⟨g, o, ma, cap, ha, hr, hs, h1⟩ := h i hi
  refine ⟨g, o, ma, cap, ha, fun j v hv => ?_, hs.below hb, h1⟩
  have h3 := hr j v hv
  rw [hb.cell (World.block_lt_of_cell? _ _ h3)]
  exact h3
theorem EA.ex {w : World} {a : Option Addr} {l : List LE} (h : EA w a l) (h0 : 0 < l.length) : ∃ g o, a = some ⟨g, o, none⟩ := by
  obtain ⟨g, o, _, _, ha, _⟩ := h 0 h0
  exact ⟨g, o, ha⟩
theorem EA.at {w : World} {g o : Nat} {l : List LE} (h : EA w (some ⟨g, o, none⟩) l) (i : Nat) (hi : i < l.length) : ∃ ma cap, w.cell? ⟨g, o + i * 4 + 2, none⟩ = some (.bool l[i].conf) ∧ w.cell? ⟨g, o + i * 4 + 3, none⟩ = some (.slice ma l[i].mem.length cap) ∧ IA w ma l[i].mem ∧ l[i].mem.length ≤ 17592186044416 := by
  obtain ⟨g', o', ma, cap, ha, hr, hs, h1⟩ := h i hi
  simp only [Option.some.injEq, Addr.mk.injEq, and_true] at ha
  obtain ⟨rfl, rfl⟩ := ha
  exact ⟨ma, cap, hr 2 _ rfl, hr 3 _ rfl, hs, h1⟩
/-- Who takes part by the first i entries, and the place. -/
def ltM (base : List Int) (l : List LE) : Nat → List Int × Nat
  | 0 => (base, 0)
  | i + 1 => if h : i < l.length then bif l[i].conf then (l[i].mem, i + 1) else ltM base l i else ltM base l i
theorem ltM_yes {base : List Int} {l : List LE} {i : Nat} (h : i < l.length) (hc : l[i].conf = true) : ltM base l (i + 1) = (l[i].mem, i + 1) := by
  show (if h : i < l.length then bif l[i].conf then (l[i].mem, i + 1) else ltM base l i else ltM base l i) = _
  rw [dif_pos h, hc, cond_true]
theorem ltM_no {base : List Int} {l : List LE} {i : Nat} (h : i < l.length) (hc : l[i].conf = false) : ltM base l (i + 1) = ltM base l i := by
  show (if h : i < l.length then bif l[i].conf then (l[i].mem, i + 1) else ltM base l i else ltM base l i) = _
  rw [dif_pos h, hc, cond_false]
end Go.Proofs.YtnhlejdilldfaaaGreat
