/- What Members, digests and Check of a header do. What digests and Check of a header do. What PutMembers, Put, bytesOf and Encode of a header do. Slices of numbers that grow; readers' steps beside them. -/
import Derived.Test.YtmbdhngoldganaaGreatDoorHdq
import Derived.Test.YtmbdhngoldganaaGreatDoorVsi
import Derived.Test.YtmbdhngoldganaaGreatDoorPut
import Derived.Test.YtmbdhngoldganaaGreatDoorRef
namespace Go.Proofs.YtmbdhngoldganaaGreatDoor
open Go Go.RowKit
/-- The least that the next number may be. -/
def lst (l : List Int) (i : Nat) : Int := if i = 0 then 0 else l.getD (i - 1) 0 + 1
theorem lst_succ (l : List Int) (i : Nat) : lst l (i + 1) = l.getD i 0 + 1 := by simp [lst]
theorem lst_step {l : List Int} {i : Nat} (h : ∀ j, j < i → 0 ≤ l.getD j 0 ∧ l.getD j 0 ≤ 15 ∧ (0 < j → l.getD (j - 1) 0 < l.getD j 0)) :
    0 ≤ lst l i ∧ (lst l i ≤ l.getD i 0 ↔ 0 ≤ l.getD i 0 ∧ (0 < i → l.getD (i - 1) 0 < l.getD i 0)) := by
  by_cases h0 : i = 0
  · subst h0
    simp [lst]
  · have h1 := h (i - 1) (by omega)
    unfold lst
    rw [if_neg h0]
    refine ⟨by omega, fun h2 => ⟨by omega, fun _ => by omega⟩, fun h2 => ?_⟩
    have := h2.2 (by omega)
    omega
set_option maxRecDepth 100000 in
set_option maxHeartbeats 4000000 in
theorem members_any (l : List Int) (a : Option Addr) (cap : Nat) (w : World) (hA : IA w a l) (B : Bool) (hB0 : Hid (okM l = B)) :
    Calls Tryz.prog 93 #[.slice a l.length cap] w fun e w' => e = .returned (.bool B) ∧ w' = w := by
  go_enter Tryz.func93, Tryz.ntmps93
  go_wp2_with fail
  go_loopw [3, 8] (fun v3 v8 wl => ∃ i : Nat, i ≤ l.length ∧ v8 = .int .i64 i ∧ v3 = .int .i64 (lst l i) ∧ Hid (∀ j, j < i → 0 ≤ l.getD j 0 ∧ l.getD j 0 ≤ 15 ∧ (0 < j → l.getD (j - 1) 0 < l.getD j 0)) ∧ wl = w) (fun _ v8 _ => l.length - (intOf v8).toNat)
  case atStart => exact ⟨0, by omega, rfl, rfl, (fun j hj => absurd hj (Nat.not_lt_zero _)), rfl⟩
  case round =>
    obtain ⟨i, hil, rfl, rfl, hI, hw⟩ := hrel
    have hw2 := hw.symm
    subst hw2
    clear hw
    have hi16 : i ≤ 16 := rise_le hI.out
    obtain ⟨hs0, hs1⟩ := lst_step hI.out
    by_cases hlt : i < l.length
    · obtain ⟨g, o, rfl⟩ := hA.ex (by omega)
      have c0 := hA.cell hlt
      have hz1 : (0 : Int) ≤ (i : Int) := by omega
      have hz2 : (i : Int) < (l.length : Int) := by omega
      have hz3 : i < l.length := hlt
      have hL : Hid (lst l (i + 1) = l.getD i 0 + 1) := lst_succ l i
      by_cases h1 : l.getD i 0 < lst l i
      · have hBf : B = false := by
          rw [← hB0.out, Bool.eq_false_iff]
          intro h
          have := (okM_at.1 h).2 i hlt
          have := hs1.2 ⟨this.1, this.2.2⟩
          omega
        subst hBf
        clear hI hs1 hL
        generalize l.getD i 0 = x at *
        generalize lst l i = m at *
        have hd1 : decide (x < m) = true := decide_eq_true h1
        go_wp2_with fail
        go_ret
        exact ⟨rfl, rfl⟩
      · by_cases h2 : 16 ≤ l.getD i 0
        · have hBf : B = false := by
            rw [← hB0.out, Bool.eq_false_iff]
            intro h
            have := (okM_at.1 h).2 i hlt
            omega
          subst hBf
          clear hI hs1 hL
          generalize l.getD i 0 = x at *
          generalize lst l i = m at *
          have hd1 : decide (x < m) = false := decide_eq_false h1
          have hd2 : decide (16 ≤ x) = true := decide_eq_true h2
          go_wp2_with fail
          go_ret
          exact ⟨rfl, rfl⟩
        · have hI2 : Hid (∀ j, j < i + 1 → 0 ≤ l.getD j 0 ∧ l.getD j 0 ≤ 15 ∧ (0 < j → l.getD (j - 1) 0 < l.getD j 0)) := fun j hj => by
            by_cases hji : j < i
            · exact hI.out j hji
            · obtain rfl : j = i := by omega
              have := hs1.1 (by omega)
              exact ⟨this.1, by omega, this.2⟩
          clear hI hs1
          generalize l.getD i 0 = x at *
          generalize lst l i = m at *
          have hd1 : decide (x < m) = false := decide_eq_false h1
          have hd2 : decide (16 ≤ x) = false := decide_eq_false h2
          have hw1 : IntKind.i64.wrap (x + 1) = x + 1 := by rw [IntKind.wrap_i64]; omega
          go_wp2_with fail
          go_roundw
          case rel => exact ⟨i + 1, by omega, by go_num, by rw [hL.out], hI2, trivial⟩
          case measure => simp [intOf]; omega
    · have hz2 : ¬ (i : Int) < (l.length : Int) := by omega
      have hBl : B = decide (0 < l.length) := by
        rw [← hB0.out, Bool.eq_iff_iff, decide_eq_true_eq, okM_at]
        exact ⟨fun h => h.1, fun h => ⟨h, fun j hj => hI.out j (by omega)⟩⟩
      clear hI hB0 hs1 hs0
      subst hBl
      generalize lst l i = m at *
      go_wp2_with fail
      go_ret
      exact ⟨rfl, rfl⟩
end Go.Proofs.YtmbdhngoldganaaGreatDoor
namespace Go.Proofs.YtmbdhngoldganaaGreatDoor
open Go Go.RowKit
set_option maxRecDepth 100000 in
theorem dg1_any (s : List UInt8) (w : World) : Calls Tryz.prog 187 #[.string ⟨s.toArray⟩] w fun e w' => e = .returned (.bool ((s.length : Int) != 32)) ∧ w' = w := by
  go_enter Tryz.func187, Tryz.ntmps187
  go_wp2_with fail
  go_ret
  exact ⟨rfl, rfl⟩
/-- Is each as long as a digest? -/
def okD (l : List (List UInt8)) : Bool := l.all fun s => decide (s.length = 32)
set_option maxRecDepth 100000 in
set_option maxHeartbeats 400000 in
theorem indexS_any (g : Nat) (l : List (List UInt8)) (w : World) (h : ∀ i, i < l.length → w.cell? ⟨g, i, none⟩ = some (.string ⟨(l.getD i []).toArray⟩)) (hl : l.length ≤ 1000) :
    Calls Tryz.prog 201 #[.slice (some ⟨g, 0, none⟩) l.length l.length, .func (.func 187) #[] #[]] w fun e w' => (∃ z : Int, e = .returned (.int .i64 z) ∧ (decide (0 ≤ z) = !okD l)) ∧ w' = w := by
  have hh : Hid (∀ i, i < l.length → w.cell? ⟨g, i, none⟩ = some (.string ⟨(l.getD i []).toArray⟩)) := h
  clear h
  go_enter Tryz.func201, Tryz.ntmps201
  go_wp2_with fail
  go_loopw [8] (fun v8 wl => ∃ i : Nat, i ≤ l.length ∧ v8 = .int .i64 i ∧ wl = w ∧ Hid (okD (l.take i) = true)) (fun v8 _ => l.length - (intOf v8).toNat)
  case atStart => exact ⟨0, by omega, rfl, rfl, by rw [List.take_zero]; exact rfl⟩
  case round =>
    obtain ⟨i, hi, rfl, hw, hA⟩ := hrel
    have hw2 := hw.symm
    subst hw2
    clear hw
    by_cases hlt : i < l.length
    · have c0 := hh.out i hlt
      have HF := fun w => dg1_any (l.getD i []) w
      have hT : Hid (okD (l.take (i + 1)) = (okD (l.take i) && decide ((l.getD i []).length = 32))) := by
        show okD _ = _
        unfold okD
        rw [List.take_succ_eq_append_getElem hlt, List.all_append, List.getD_eq_getElem?_getD, List.getElem?_eq_getElem hlt]
        simp
      have hm : Hid (¬ (l.getD i []).length = 32 → okD l = false) := fun hf => by
        rw [← Bool.not_eq_true]
        intro hall
        have := List.all_eq_true.1 hall _ (List.getElem_mem hlt)
        rw [List.getD_eq_getElem?_getD, List.getElem?_eq_getElem hlt] at hf
        exact hf (of_decide_eq_true this)
      have hz1 : (0 : Int) ≤ (i : Int) := by omega
      have hz2 : (i : Int) < (l.length : Int) := by omega
      generalize l.getD i [] = x at *
      by_cases hok : x.length = 32
      · have hd : ((x.length : Int) != 32) = false := by simp; omega
        rw [hd] at HF
        have hT := hT.out
        rw [hA.out, decide_eq_true hok] at hT
        have hT2 : Hid (okD (l.take (i + 1)) = true) := hT
        clear hok hm hA hT hd
        go_wp2_with (go_at_call 187; refine (HF _).mono ?_; rintro e w2 ⟨rfl, hw2⟩; have hw2 := hw2.symm; subst hw2)
        go_roundw
        case rel => exact ⟨i + 1, by omega, by go_num, trivial, hT2⟩
        case measure => simp [intOf]; omega
      · have hd : ((x.length : Int) != 32) = true := by simp; omega
        rw [hd] at HF
        have hm := hm.out hok
        clear hok hT hA hd
        go_wp2_with (go_at_call 187; refine (HF _).mono ?_; rintro e w2 ⟨rfl, hw2⟩; have hw2 := hw2.symm; subst hw2)
        go_ret
        exact ⟨⟨_, rfl, by rw [hm]; simp⟩, rfl⟩
    · have hA2 : Hid (okD l = true) := by
        have := hA.out
        rw [List.take_of_length_le (by omega)] at this
        exact this
      have hz2 : ¬ (i : Int) < (l.length : Int) := by omega
      go_wp2_with fail
      go_ret
      exact ⟨⟨_, rfl, by rw [hA2.out]; rfl⟩, rfl⟩
set_option maxRecDepth 100000 in
theorem containsS_any (g : Nat) (l : List (List UInt8)) (w : World) (h : ∀ i, i < l.length → w.cell? ⟨g, i, none⟩ = some (.string ⟨(l.getD i []).toArray⟩)) (hl : l.length ≤ 1000) :
    Calls Tryz.prog 186 #[.slice (some ⟨g, 0, none⟩) l.length l.length, .func (.func 187) #[] #[]] w fun e w' => e = .returned (.bool (!okD l)) ∧ w' = w := by
  have HI := indexS_any g l w h hl
  generalize okD l = y at *
  go_enter Tryz.func186, Tryz.ntmps186
  go_wp2_with (go_at_call 201; refine HI.mono ?_; rintro e w1 ⟨⟨z, rfl, hz⟩, hw1⟩; have hw1 := hw1.symm; subst hw1)
  go_ret
  exact ⟨by rw [← hz]; rfl, rfl⟩
set_option maxRecDepth 100000 in
theorem digests_any (g : Nat) (p t s : List UInt8) (w : World) (h : Blk w g #[.string ⟨p.toArray⟩, .string ⟨t.toArray⟩, .string ⟨s.toArray⟩] 9) :
    Calls Tryz.prog 151 #[.slice (some ⟨g, 0, none⟩) 3 3] w fun e w' => e = .returned (.bool (decide (p.length = 32 ∧ t.length = 32 ∧ s.length = 32))) ∧ w' = w := by
  have HC := containsS_any g [p, t, s] w (fun i hi => by
    have h3 : i < 3 := hi
    rw [h.cell]
    rcases (show i = 0 ∨ i = 1 ∨ i = 2 by omega) with rfl | rfl | rfl
    · rfl
    · rfl
    · rfl) (show 3 ≤ 1000 by decide)
  change Calls Tryz.prog 186 #[.slice (some ⟨g, 0, none⟩) 3 3, .func (.func 187) #[] #[]] w _ at HC
  have hE : okD [p, t, s] = decide (p.length = 32 ∧ t.length = 32 ∧ s.length = 32) := by
    unfold okD
    rw [Bool.eq_iff_iff]
    simp
  rw [hE] at HC
  generalize decide (p.length = 32 ∧ t.length = 32 ∧ s.length = 32) = y at *
  clear hE
  go_enter Tryz.func151, Tryz.ntmps151
  go_wp2_with (go_at_call 186; refine HC.mono ?_; rintro e w1 ⟨rfl, hw1⟩; have hw1 := hw1.symm; subst hw1)
  go_ret
  exact ⟨rfl, rfl⟩
theorem i9 : (Tryz.prog.info? 9).map (·.size) = some 1 := by kernel_rfl
theorem bsl3S (p t s : ByteArray) (w : World) : (Instr.buildSlice 28 3 #[(0, .string p), (1, .string t), (2, .string s)]).run Tryz.prog w = .ok (.slice (some ⟨w.heap.size, 0, none⟩) 3 3) (w.alloc (.cells #[.string p, .string t, .string s] 9)) := by
  simp [Instr.buildSlice, run_underlying Tryz.underlying28, sizeOf_run i9, Sem.run_bind, Instr.fill, newRow, Tryz.zeroValue9, Value.cells, range3]
section
variable {P : Program} {ops : Array Oper} {rest : List Oper} {op : Oper} {a : Act} {w : World} {Q : Exit → Act → World → Prop}
/-- An operation whose guard is met. -/
theorem wpList_runG (hw : Region.wanted op (yielded ops a.tmps) = true) (v : Value) (w1 : World) (hr : (execOp a.eval op).run P w = .ok (.value v) w1)
    (h : wpList P ops Q rest (a.put op.dst v) w1) : wpList P ops Q (op :: rest) a w := by
  refine wpList_step fun K hK => ?_
  rw [if_pos hw]
  unfold Oper.wp
  rw [hr]
  exact hK _ _ h
theorem wpList_bsl3S (hw : Region.wanted op (yielded ops a.tmps) = true) (x y z : Operand) (ho : op.op = .buildSlice 28 3 #[(0, x), (1, y), (2, z)]) (p t s : ByteArray) (hx : a.eval x = .string p) (hy : a.eval y = .string t) (hz : a.eval z = .string s)
    (h : ∀ w1 : World, Below w.heap.size w w1 → w1.heap.size = w.heap.size + 1 → Blk w1 w.heap.size #[.string p, .string t, .string s] 9 → wpList Tryz.prog ops Q rest (a.put op.dst (.slice (some ⟨w.heap.size, 0, none⟩) 3 3)) w1) : wpList Tryz.prog ops Q (op :: rest) a w := by
  refine wpList_runG hw _ _ ?_ (h _ ((Below.refl _ _).alloc (Nat.le_refl _) _) (by simp) (Blk.new _ _ _))
  unfold execOp
  have e : (#[(0, x), (1, y), (2, z)] : Array (Nat × Operand)).map (fun (i, x) => (i, a.eval x)) = #[(0, .string p), (1, .string t), (2, .string s)] := by simp [hx, hy, hz]
  have hr := bsl3S p t s w
  rw [← e] at hr
  simp only [ho, Sem.run_bind, hr, Result.andThen_ok]
  rfl
end
section
attribute [local go_sem] Oper.semAt_some
set_option maxRecDepth 100000 in
set_option maxHeartbeats 4000000 in
theorem checkH_any (h : HH) (a : Option Addr) (cap : Nat) (w : World) (hA : IA w a h.mem) :
    Calls Tryz.prog 117 #[.agg (hc h a cap)] w fun e w' => e = .returned (.int .i64 (chkH h)) ∧ Below w.heap.size w w' := by
  obtain ⟨B, hB0⟩ : ∃ B, okM h.mem = B := ⟨_, rfl⟩
  have HM := fun w1 (k : IA w1 a h.mem) => members_any h.mem a cap w1 k B hB0
  have HD := fun g w1 (k : Blk w1 g #[.string ⟨h.prev.toArray⟩, .string ⟨h.txr.toArray⟩, .string ⟨h.str.toArray⟩] 9) => digests_any g h.prev h.txr h.str w1 k
  obtain ⟨D, hD0⟩ : ∃ D, decide (h.prev.length = 32 ∧ h.txr.length = 32 ∧ h.str.length = 32) = D := ⟨_, rfl⟩
  rw [hD0] at HD
  have hres : Hid (chkH h = if h.height = 0 ∨ D = false ∨ B = false then 80 else 0) := by
    show chkH h = _
    unfold chkH okH
    rw [hB0]
    by_cases h1 : h.height = 0 ∨ D = false ∨ B = false
    · rw [if_pos h1, if_neg]
      intro h2
      rw [Bool.and_eq_true, decide_eq_true_eq] at h2
      obtain ⟨⟨a1, a2⟩, a5⟩ := h2
      rcases h1 with h1 | h1 | h1
      · exact a1 h1
      · rw [h1, decide_eq_false_iff_not] at hD0; exact hD0 a2
      · rw [a5] at h1; cases h1
    · rw [if_neg h1, if_pos]
      rw [Bool.and_eq_true, decide_eq_true_eq]
      refine ⟨⟨fun e => h1 (.inl e), ?_⟩, ?_⟩
      · cases D
        · exact absurd (.inr (.inl rfl)) h1
        · exact of_decide_eq_true hD0
      · cases B
        · exact absurd (.inr (.inr rfl)) h1
        · rfl
  rw [hres.out]
  obtain ⟨ht, p, t, s, m⟩ := h
  clear hres hB0 hD0
  dsimp only [hc] at *
  by_cases c1 : ht = 0
  · rw [if_pos (.inl c1)]
    have d1 : ((ht : Int) == 0) = true := by rw [beq_iff_eq]; omega
    go_enter Tryz.func117, Tryz.ntmps117
    go_wp2_with (with_reducible refine at_list ?_; refine wpList_boxRow (op := ⟨some 1, _, _, _, _, _⟩) rfl _ _ rfl _ rfl ?_; intro w1 hw1 hs1 hb1; replace hs1 := hs1.symm; have q0 := hb1.cell 0; have q1 := hb1.cell 1; have q2 := hb1.cell 2; have q3 := hb1.cell 3; have q4 := hb1.cell 4; simp only [List.getElem?_toArray, List.getElem?_cons_zero, List.getElem?_cons_succ] at q0 q1 q2 q3 q4)
    go_ret
    exact ⟨rfl, hw1⟩
  · have d1 : ((ht : Int) == 0) = false := by rw [beq_eq_false_iff_ne]; omega
    cases D
    · rw [if_pos (.inr (.inl rfl))]
      go_enter Tryz.func117, Tryz.ntmps117
      go_wp2_with (first
        | (with_reducible refine at_list ?_; first
          | (refine wpList_boxRow (op := ⟨some 1, _, _, _, _, _⟩) rfl _ _ rfl _ rfl ?_; intro w1 hw1 hs1 hb1; replace hs1 := hs1.symm; have q0 := hb1.cell 0; have q1 := hb1.cell 1; have q2 := hb1.cell 2; have q3 := hb1.cell 3; have q4 := hb1.cell 4; simp only [List.getElem?_toArray, List.getElem?_cons_zero, List.getElem?_cons_succ] at q0 q1 q2 q3 q4)
          | (refine wpList_bsl3S (op := ⟨some 13, _, _, _, _, _⟩) rfl _ _ _ rfl _ _ _ rfl rfl rfl ?_; intro w2 hw2 hs2 hb2; replace hs2 := hs2.symm; replace q4 := cell_keep hw2 q4; clear q0 q1 q2 q3))
        | (go_at_call 151; refine (HD _ _ hb2).mono ?_; rintro e w3 ⟨rfl, hw3⟩; have hw3 := hw3.symm; subst hw3))
      go_ret
      exact ⟨rfl, hw1.trans (hw2.mono hw1.size)⟩
    · cases B
      · rw [if_pos (.inr (.inr rfl))]
        go_enter Tryz.func117, Tryz.ntmps117
        go_wp2_with (first
          | (with_reducible refine at_list ?_; first
            | (refine wpList_boxRow (op := ⟨some 1, _, _, _, _, _⟩) rfl _ _ rfl _ rfl ?_; intro w1 hw1 hs1 hb1; replace hs1 := hs1.symm; have q0 := hb1.cell 0; have q1 := hb1.cell 1; have q2 := hb1.cell 2; have q3 := hb1.cell 3; have q4 := hb1.cell 4; simp only [List.getElem?_toArray, List.getElem?_cons_zero, List.getElem?_cons_succ] at q0 q1 q2 q3 q4)
            | (refine wpList_bsl3S (op := ⟨some 13, _, _, _, _, _⟩) rfl _ _ _ rfl _ _ _ rfl rfl rfl ?_; intro w2 hw2 hs2 hb2; replace hs2 := hs2.symm; replace q4 := cell_keep hw2 q4; clear q0 q1 q2 q3))
          | (go_at_call 151; refine (HD _ _ hb2).mono ?_; rintro e w3 ⟨rfl, hw3⟩; have hw3 := hw3.symm; subst hw3)
          | (go_at_call 93; refine (HM _ (hA.below (hw1.trans (hw2.mono hw1.size)))).mono ?_; rintro e w4 ⟨rfl, hw4⟩; have hw4 := hw4.symm; subst hw4))
        go_ret
        exact ⟨rfl, hw1.trans (hw2.mono hw1.size)⟩
      · rw [if_neg (fun h => h.elim c1 fun h => h.elim Bool.noConfusion Bool.noConfusion)]
        go_enter Tryz.func117, Tryz.ntmps117
        go_wp2_with (first
          | (with_reducible refine at_list ?_; first
            | (refine wpList_boxRow (op := ⟨some 1, _, _, _, _, _⟩) rfl _ _ rfl _ rfl ?_; intro w1 hw1 hs1 hb1; replace hs1 := hs1.symm; have q0 := hb1.cell 0; have q1 := hb1.cell 1; have q2 := hb1.cell 2; have q3 := hb1.cell 3; have q4 := hb1.cell 4; simp only [List.getElem?_toArray, List.getElem?_cons_zero, List.getElem?_cons_succ] at q0 q1 q2 q3 q4)
            | (refine wpList_bsl3S (op := ⟨some 13, _, _, _, _, _⟩) rfl _ _ _ rfl _ _ _ rfl rfl rfl ?_; intro w2 hw2 hs2 hb2; replace hs2 := hs2.symm; replace q4 := cell_keep hw2 q4; clear q0 q1 q2 q3))
          | (go_at_call 151; refine (HD _ _ hb2).mono ?_; rintro e w3 ⟨rfl, hw3⟩; have hw3 := hw3.symm; subst hw3)
          | (go_at_call 93; refine (HM _ (hA.below (hw1.trans (hw2.mono hw1.size)))).mono ?_; rintro e w4 ⟨rfl, hw4⟩; have hw4 := hw4.symm; subst hw4))
        go_ret
        exact ⟨rfl, hw1.trans (hw2.mono hw1.size)⟩
end
end Go.Proofs.YtmbdhngoldganaaGreatDoor
namespace Go.Proofs.YtmbdhngoldganaaGreatDoor
open Go Go.RowKit
/-- An empty header's cells. -/
def hc0 : Array Value := #[.int .u64 0, .string ⟨#[]⟩, .string ⟨#[]⟩, .string ⟨#[]⟩, .slice none 0 0]
theorem zH : (∀ w, (zeroValue 50).run Tryz.prog w = .ok (.agg hc0) w) ∧ (Tryz.prog.info? 50).map (·.size) = some 5 := zero_of_info (by kernel_rfl)
set_option maxRecDepth 100000 in
set_option maxHeartbeats 1000000 in
theorem putM_any (l : List Int) (hl : OkM l) (a : Option Addr) (cap b : Nat) (x : List UInt8) (w w0 : World) (hB : Below w0.heap.size w0 w) (hb : w0.heap.size ≤ b) (h : IA w0 a l) (hW : WR w b x) (hx : x.length ≤ 1000000) :
    Calls Tryz.prog 50 #[.pointer (some ⟨b, 0, none⟩), .slice a l.length cap] w fun e w' => e = .returned (.tuple #[]) ∧ Puts w w' b x (memB l) := by
  have hl16 := hl.len
  have hall := hl.each
  have HT : Hid (memB l = num l.length 1 ++ memsB l) := by exact rfl
  rw [HT.out]
  clear HT hl
  have H1 := fun w x (h : WR w b x) (hx : x.length ≤ 1000000) => wnumber_any b x l.length 1 w h (by omega)
  rw [show cut8 1 = 1 from rfl] at H1
  have hwr : IntKind.u64.wrap (l.length : Int) = (l.length : Int) := by rw [IntKind.wrap_u64]; omega
  have hnl := num_length 1 l.length
  generalize hnn : num l.length 1 = nn at *
  go_enter Tryz.func50, Tryz.ntmps50
  go_wp2_with (go_at_call 51; refine (H1 _ x hW hx).mono ?_; rintro e w2 ⟨rfl, hP0⟩; clear H1)
  clear hwr
  go_loopw [13] (fun v13 wl => ∃ i : Nat, i ≤ l.length ∧ v13 = .int .i64 i ∧ Puts w wl b x (nn ++ memsB (l.take i))) (fun v13 _ => l.length - (intOf v13).toNat)
  case atStart => exact ⟨0, by omega, rfl, by rw [List.take_zero, memsB_nil, List.append_nil]; exact hP0⟩
  case round =>
    obtain ⟨i, hi, rfl, hP⟩ := hrel
    clear hP0
    by_cases hlt : i < l.length
    · obtain ⟨g, o, rfl⟩ := h.ex (by omega)
      have c0 := (h.below (hB.trans (hP.below.mono hb))).cell hlt
      have hz1 : (0 : Int) ≤ (i : Int) := by omega
      have hz2 : (i : Int) < (l.length : Int) := by omega
      have hz3 : i < l.length := hlt
      have hT : Hid (memsB (l.take (i + 1)) = memsB (l.take i) ++ num (l.getD i 0).toNat 1) := memsB_take hlt
      have hlen : (nn ++ memsB (l.take i)).length ≤ 17 := by rw [List.length_append, hnl, memsB_len, List.length_take]; omega
      have hx2 := hall (l.getD i 0) (by rw [List.getD_eq_getElem?_getD, List.getElem?_eq_getElem hlt]; exact List.getElem_mem hlt)
      obtain ⟨k, hk⟩ : ∃ k : Nat, l.getD i 0 = (k : Int) := ⟨(l.getD i 0).toNat, by omega⟩
      rw [hk] at c0 hx2
      rw [hk, Int.toNat_natCast] at hT
      have HN := fun w x (h : WR w b x) (hx : x.length ≤ 1000100) => wnumber_any b x k 1 w h (by omega)
      rw [show cut8 1 = 1 from rfl] at HN
      have hwr : IntKind.u64.wrap (k : Int) = (k : Int) := by rw [IntKind.wrap_u64]; omega
      clear hk
      generalize num k 1 = u at *
      generalize memsB (l.take i) = t at *
      go_wp2_with (go_at_call 51; refine (HN _ _ hP.wr (by rw [List.length_append]; omega)).mono ?_; rintro e w3 ⟨rfl, hP3⟩)
      go_roundw
      case rel =>
        refine ⟨i + 1, by omega, by go_num, ?_⟩
        rw [hT.out, ← List.append_assoc]
        exact hP.trans hP3
      case measure => simp [intOf]; omega
    · have hT : Hid (l.take i = l) := List.take_of_length_le (by omega)
      rw [hT.out] at hP
      clear hT
      have hz2 : ¬ (i : Int) < (l.length : Int) := by omega
      go_wp2_with fail
      refine bodyPost_end (results_none rfl _ _ _) rfl ⟨rfl, hP⟩
set_option maxRecDepth 100000 in
set_option maxHeartbeats 1000000 in
theorem putH_any (h : HH) (hk : OkH h) (a : Option Addr) (cap b : Nat) (x : List UInt8) (w w0 : World) (hBw : Below w0.heap.size w0 w) (hb : w0.heap.size ≤ b) (hA : IA w0 a h.mem) (hW : WR w b x) (hx : x.length ≤ 100000) :
    Calls Tryz.prog 185 #[.pointer (some ⟨b, 0, none⟩), .agg (hc h a cap)] w fun e w' => e = .returned (.tuple #[]) ∧ Puts w w' b x (hB h) := by
  have hbw : b ≤ w.heap.size := Nat.le_of_lt hW.lt
  have hE : Hid (hB h = num h.height 8 ++ (h.prev ++ (h.txr ++ (h.str ++ memB h.mem)))) := rfl
  have n1 := num_length 8 h.height
  have n2 := hk.p
  have n3 := hk.t
  have n4 := hk.s
  have H1 := fun w x (h1 : WR w b x) (hx : x.length ≤ 100000) => wnumber_any b x h.height 8 w h1 (by omega)
  rw [show cut8 8 = 8 from rfl] at H1
  have H2 := fun w x (h1 : WR w b x) (hx : x.length ≤ 200000) => whash_any b x h.prev w h1 (by omega)
  have H3 := fun w x (h1 : WR w b x) (hx : x.length ≤ 200000) => whash_any b x h.txr w h1 (by omega)
  have H4 := fun w x (h1 : WR w b x) (hx : x.length ≤ 200000) => whash_any b x h.str w h1 (by omega)
  have H5 := fun w' x (h0 : Below w0.heap.size w0 w') (h1 : WR w' b x) (hx : x.length ≤ 200000) => putM_any h.mem hk.m a cap b x w' w0 h0 hb hA h1 (by omega)
  rw [hash32_same hk.p] at H2
  rw [hash32_same hk.t] at H3
  rw [hash32_same hk.s] at H4
  rw [hE.out]
  clear hE hk
  obtain ⟨ht, p, t, s, m⟩ := h
  dsimp only [hc] at *
  generalize num ht 8 = tb at *
  generalize memB m = tm at *
  go_enter Tryz.func185, Tryz.ntmps185
  go_wp2_with (first
    | (with_reducible refine at_list ?_; refine wpList_boxRow (op := ⟨some 3, _, _, _, _, _⟩) rfl _ _ rfl _ rfl ?_; intro w1 hw1 hs1 hb1; replace hs1 := hs1.symm; have q0 := hb1.cell 0; simp only [List.getElem?_toArray, List.getElem?_cons_zero] at q0)
    | (go_at_call 51; refine (H1 _ x (hW.below hw1) hx).mono ?_; rintro e w2 ⟨rfl, hP1⟩; clear H1 q0; have hb2 := hb1.puts hP1 (by decide) (by decide); have q1 := hb2.cell 1; simp only [List.getElem?_toArray, List.getElem?_cons_zero, List.getElem?_cons_succ] at q1)
    | (go_at_call 52; refine (H2 _ _ hP1.wr (by rw [List.length_append]; omega)).mono ?_; rintro e w3 ⟨rfl, hP2⟩; clear H2 q1; have hb3 := hb2.puts hP2 (by decide) (by decide); have q2 := hb3.cell 2; simp only [List.getElem?_toArray, List.getElem?_cons_zero, List.getElem?_cons_succ] at q2)
    | (go_at_call 52; refine (H3 _ _ hP2.wr (by rw [List.length_append, List.length_append]; omega)).mono ?_; rintro e w4 ⟨rfl, hP3⟩; clear H3 q2; have hb4 := hb3.puts hP3 (by decide) (by decide); have q3 := hb4.cell 3; simp only [List.getElem?_toArray, List.getElem?_cons_zero, List.getElem?_cons_succ] at q3)
    | (go_at_call 52; refine (H4 _ _ hP3.wr (by rw [List.length_append, List.length_append, List.length_append]; omega)).mono ?_; rintro e w5 ⟨rfl, hP4⟩; clear H4 q3; have hb5 := hb4.puts hP4 (by decide) (by decide); have q4 := hb5.cell 4; simp only [List.getElem?_toArray, List.getElem?_cons_zero, List.getElem?_cons_succ] at q4)
    | (go_at_call 50; refine (H5 _ _ (hBw.trans (((hw1.mono hbw).trans (hP1.below.trans (hP2.below.trans (hP3.below.trans hP4.below)))).mono hb)) hP4.wr (by rw [List.length_append, List.length_append, List.length_append, List.length_append]; omega)).mono ?_; rintro e w6 ⟨rfl, hP5⟩; clear H5 q4))
  refine bodyPost_end (results_none rfl _ _ _) rfl ⟨rfl, Puts.behind hw1 hbw (hP1.trans (hP2.trans (hP3.trans (hP4.trans hP5))))⟩
set_option maxRecDepth 100000 in
set_option maxHeartbeats 400000 in
theorem bytesOfH_any (h : HH) (hk : OkH h) (a : Option Addr) (cap : Nat) (w : World) (hA : IA w a h.mem) :
    Calls Tryz.prog 149 #[.agg (hc h a cap)] w fun e w' => e = .returned (.string ⟨(hB h).toArray⟩) ∧ Below w.heap.size w w' := by
  have HP := fun b w' (hBw : Below w.heap.size w w') (hb : w.heap.size ≤ b) (hW : WR w' b []) => putH_any h hk a cap b [] w' w hBw hb hA hW (by simp)
  have HN := fun w => neww_any w
  have HA := fun b w l (h : WR w b l) => wall_any b l w h
  generalize hB h = tb at *
  have hz := zH.2
  have hsz : (hc h a cap).size = 5 := rfl
  generalize hc h a cap = c at *
  go_enter Tryz.func149, Tryz.ntmps149
  go_wp2_with (first
    | (go_at_call 48; refine (HN _).mono ?_; rintro e w2 ⟨rfl, hw2, hW2⟩; replace hb1 := hb1.belowSize hw2)
    | (go_at_call 185; refine (HP _ _ (hw1.trans (hw2.mono hw1.size)) hw1.size hW2).mono ?_; rintro e w3 ⟨rfl, hP3⟩)
    | (go_at_call 53; refine (HA _ _ _ hP3.wr).mono ?_; rintro e w' ⟨rfl, hw'⟩; have hw4 := hw'.symm; subst hw4; clear hw')
    | (with_reducible refine at_list ?_; first
      | (refine wpList_boxRow (op := ⟨some 1, _, _, _, _, _⟩) rfl _ _ rfl _ rfl ?_; intro w1 hw1 hs1 hb1; replace hs1 := hs1.symm)
      | (refine wpList_loadRow (op := ⟨some 6, _, _, _, _, _⟩) rfl _ _ rfl w.heap.size rfl _ _ hb1 _ Tryz.underlying50 rfl (by rw [hsz]; exact hz) ?_)))
  go_ret
  exact ⟨rfl, (hw1.trans (hw2.mono hw1.size)).trans (hP3.below.mono hw1.size)⟩
end Go.Proofs.YtmbdhngoldganaaGreatDoor
namespace Go.Proofs.YtmbdhngoldganaaGreatDoor
open Go Go.RowKit
theorem number1_lt (r : R) : (r.number 1).2 < 256 := by
  have h2 : ((r.early 1).bytes 1).2.length ≤ 1 := by
    unfold R.bytes
    split
    · simp
    · split
      · simp
      · split
        · simp
        · simp only [List.length_take]; omega
  have h3 := val_lt _ ((r.early 1).bytes 1).2 rfl
  have h4 : 256 ^ ((r.early 1).bytes 1).2.length ≤ 256 ^ 1 := Nat.pow_le_pow_right (by decide) h2
  unfold R.number
  simp only
  omega
theorem infoI : ∃ i, Tryz.prog.info? 3 = some i ∧ i.zero = some (.int .i64 0) ∧ i.size = 1 ∧ i.bytes ≤ 256 := by
  have h : (Tryz.prog.info? 3).map (fun i => (i.zero, i.size, i.bytes)) = some (some (.int .i64 0), 1, 8) := by kernel_rfl
  cases hq : Tryz.prog.info? 3 with
  | none => rw [hq] at h; cases h
  | some i => rw [hq] at h; simp at h; exact ⟨i, rfl, h.1, h.2.1, by omega⟩
theorem range0 : Array.range 0 = #[] := by decide
theorem bsl0I (w : World) : (Instr.buildSlice 22 0 #[]).run Tryz.prog w = .ok (.slice (some ⟨w.heap.size, 0, none⟩) 0 0) (w.alloc (.cells #[] 3)) := by
  simp [Instr.buildSlice, run_underlying Tryz.underlying22, sizeOf_run i3, Sem.run_bind, Instr.fill, newRow, range0]
theorem bsl1I (z : Int) (w : World) : (Instr.buildSlice 22 1 #[(0, .int .i64 z)]).run Tryz.prog w = .ok (.slice (some ⟨w.heap.size, 0, none⟩) 1 1) (w.alloc (.cells #[.int .i64 z] 3)) := by
  simp [Instr.buildSlice, run_underlying Tryz.underlying22, sizeOf_run i3, Sem.run_bind, Instr.fill, newRow, Tryz.zeroValue3, Value.cells, range1]
section
variable {ops : Array Oper} {rest : List Oper} {op : Oper} {a : Act} {w : World} {Q : Exit → Act → World → Prop}
theorem wpList_bsl0I (hgd : op.guard = none) (ho : op.op = .buildSlice 22 0 #[])
    (h : ∀ w1 : World, Below w.heap.size w w1 → w1.heap.size = w.heap.size + 1 → VL w1 3 w.heap.size (.slice (some ⟨w.heap.size, 0, none⟩) 0 0) [] → wpList Tryz.prog ops Q rest (a.put op.dst (.slice (some ⟨w.heap.size, 0, none⟩) 0 0)) w1) : wpList Tryz.prog ops Q (op :: rest) a w := by
  refine wpList_run hgd _ _ ?_ (h _ ((Below.refl _ _).alloc (Nat.le_refl _) (.cells #[] 3)) (by simp) (.inr ⟨w.heap.size, 0, Nat.le_refl _, rfl, ⟨#[], (0, 0), (Blk.new w _ _).out, by simp, by simp, .inl rfl, fun j v hv => by simp at hv⟩⟩))
  unfold execOp
  have hr := bsl0I w
  simp only [ho, Sem.run_bind, Array.map_empty, hr, Result.andThen_ok]
  rfl
theorem wpList_bsl1I (hgd : op.guard = none) (x : Operand) (ho : op.op = .buildSlice 22 1 #[(0, x)]) (z : Int) (hx : a.eval x = .int .i64 z)
    (h : ∀ w1 : World, Below w.heap.size w w1 → w1.heap.size = w.heap.size + 1 → Blk w1 w.heap.size #[.int .i64 z] 3 → wpList Tryz.prog ops Q rest (a.put op.dst (.slice (some ⟨w.heap.size, 0, none⟩) 1 1)) w1) : wpList Tryz.prog ops Q (op :: rest) a w := by
  refine wpList_run hgd _ _ ?_ (h _ ((Below.refl _ _).alloc (Nat.le_refl _) _) (by simp) (Blk.new _ _ _))
  unfold execOp
  have e : (#[(0, x)] : Array (Nat × Operand)).map (fun (i, x) => (i, a.eval x)) = #[(0, .int .i64 z)] := by simp [hx]
  have hr := bsl1I z w
  rw [← e] at hr
  simp only [ho, Sem.run_bind, hr, Result.andThen_ok]
  rfl
end
theorem VL.grown7 {w w' : World} {t : TypeId} {lo b : Nat} {sl : Value} {l : List Value} (h : VL w t lo sl l) (hg : w.grownBy w' (some b)) (hb : b < lo) : VL w' t lo sl l := by
  rcases h with h | ⟨g, cap, h1, h2, h3⟩
  · exact .inl h
  · exact .inr ⟨g, cap, h1, h2, h3.grown hg (fun e => by have := Option.some.inj e; omega)⟩
theorem VL.ia {w : World} {t : TypeId} {lo : Nat} {sl : Value} {l : List Int} (h : VL w t lo sl (l.map fun x => .int .i64 x)) : ∃ a cap, sl = .slice a l.length cap ∧ IA w a l := by
  rcases h with ⟨h1, h2⟩ | ⟨g, cap, h1, h2, h3⟩
  · obtain rfl : l = [] := List.map_eq_nil_iff.1 h1
    exact ⟨none, 0, h2, fun i x hx => by simp at hx⟩
  · refine ⟨some ⟨g, 0, none⟩, cap, by rw [h2, List.length_map], fun i x hx => ⟨g, 0, rfl, ?_⟩⟩
    rw [Nat.zero_add]
    exact h3.cell i _ (by rw [List.getElem?_map, hx]; rfl)
theorem VS.ne {w : World} {t ty : TypeId} {g cap i : Nat} {l : List Value} {c : Array Value} (h : VS w t g cap l) (hb : Blk w i c ty) (ht : ty ≠ t) : i ≠ g := by
  intro e
  subst e
  obtain ⟨cur, fr, h1, _⟩ := h.out
  have h2 := hb.out
  rw [h1] at h2
  simp only [Option.some.injEq, Obj.cells.injEq] at h2
  exact ht h2.2.1.symm
theorem VL.grownT {w w' : World} {t ty : TypeId} {lo b : Nat} {sl : Value} {l : List Value} {c : Array Value} (h : VL w t lo sl l) (hb : w.grownBy w' (some b)) (hk : Blk w b c ty) (ht : ty ≠ t) : VL w' t lo sl l := by
  rcases h with h | ⟨g, cap, h1, h2, h3⟩
  · exact .inl h
  · exact .inr ⟨g, cap, h1, h2, h3.grown hb (fun e => h3.ne hk ht (Option.some.inj e).symm)⟩
theorem RD.lt {w : World} {b : Nat} {r : R} (h : RD w b r) : b < w.heap.size := h.blk.lt
theorem RD.grown {w w' : World} {b i : Nat} {r : R} (h : RD w b r) (hg : w.grownBy w' (some i)) (hi : b ≠ i) : RD w' b r := ⟨h.blk.grown hg (fun e => hi (Option.some.inj e))⟩
theorem To.low {w w1 w2 : World} {b : Nat} {r : R} (k : To w w1 b r) (h : Below w.heap.size w1 w2) (hr : RD w2 b r) : To w w2 b r :=
  ⟨⟨h.os.trans k.grown.os, h.tape.trans k.grown.tape, h.output.trans k.grown.output, Nat.le_trans k.grown.size h.size, fun j hj hne => (h.block j hj).trans (k.grown.block j hj hne)⟩, hr⟩
theorem RD.lowB {w w' : World} {b lo : Nat} {r : R} (h : RD w b r) (hB : Below lo w w') (hb : b < lo) : RD w' b r := ⟨h.blk.below hB hb⟩
end Go.Proofs.YtmbdhngoldganaaGreatDoor
