/- The law of one alone. -/
import Derived.Test.YtnhlejdilldfaaaGreatWon
namespace Go.Proofs.YtnhlejdilldfaaaGreat
open Go Go.RowKit Go.Maps
/-- The texts l lie at a. -/
structure XA (w : World) (a : Option Addr) (l : List (List UInt8)) : Prop where
  out : ∀ i x, l[i]? = some x → ∃ g o, a = some ⟨g, o, none⟩ ∧ w.cell? ⟨g, o + i, none⟩ = some (.string ⟨x.toArray⟩)
theorem WA.acc {w : World} {wb lb hb nb : Nat} (h : WA w wb lb hb nb) : ∃ cl, w.cell? ⟨wb, 0, none⟩ = some (.slice (some ⟨lb, 0, none⟩) 1 cl) ∧ 1 ≤ cl ∧ w.cell? ⟨lb, 0, none⟩ = some (.pointer (some ⟨nb, 0, none⟩)) := by
  obtain ⟨cl, ch, am, ml, lc, hc, h1, h2, h3, h4, h5, h6, h7⟩ := h.out
  exact ⟨cl, h1.cell 0, h2, (h4.cell 0).trans h5⟩
/-- The log of one alone behind so many proposals. -/
def logA (l : List (List UInt8)) (i : Nat) : List LE := ⟨1, [], false, []⟩ :: (l.take i).map fun s => (⟨1, s, false, []⟩ : LE)
theorem logA_len {l : List (List UInt8)} {i : Nat} (h : i ≤ l.length) : (logA l i).length = i + 1 := by
  unfold logA
  rw [List.length_cons, List.length_map, List.length_take]
  omega
theorem logA_succ {l : List (List UInt8)} {i : Nat} (h : i < l.length) : logA l (i + 1) = logA l i ++ [⟨1, l[i], false, []⟩] := by
  unfold logA
  rw [List.take_succ_eq_append_getElem h, List.map_append]
  rfl
theorem logA_get {l : List (List UInt8)} {i n : Nat} (h : i < n) (hn : n ≤ l.length) (e : LE) (hj : i + 1 < (logA l n ++ [e]).length) : (logA l n ++ [e])[i + 1] = ⟨1, l[i]'(by omega), false, []⟩ := by
  have h2 : (logA l n ++ [e])[i + 1]? = some ⟨1, l[i]'(by omega), false, []⟩ := by
    have hl : i + 1 < (logA l n).length := by rw [logA_len hn]; omega
    rw [List.getElem?_append_left hl]
    unfold logA
    rw [List.getElem?_cons_succ, List.getElem?_map, List.getElem?_take_of_lt h, List.getElem?_eq_getElem (show i < l.length by omega)]
    rfl
  exact (List.getElem?_eq_some_iff.1 h2).2
section
variable (w : World)
set_option maxRecDepth 100000 in
set_option maxHeartbeats 8000000 in
theorem raftAlone_any (l : List (List UInt8)) (a : Option Addr) (c : Nat) (_hc : l.length ≤ c) (hA : XA w a l) : Calls Tryz.prog 5 #[.slice a l.length c] w fun e w' => e = .returned (.bool true) ∧ Below w.heap.size w w' := by
  have hb1 := bl_al (Below.refl w.heap.size w) (.cells #[.int .i64 0] 3)
  have hM1 : IA (w.alloc (.cells #[.int .i64 0] 3)) (some ⟨w.heap.size, 0, none⟩) [0] := fun i x hx => by
    cases i with
    | zero =>
      simp only [List.getElem?_cons_zero, Option.some.injEq] at hx
      subst hx
      exact ⟨w.heap.size, 0, rfl, (Blk.new w #[.int .i64 0] 3).cell 0⟩
    | succ n => simp at hx
  have HB := begun_one (w.alloc (.cells #[.int .i64 0] 3)) w.heap.size 1 hM1 (Nat.le_refl _)
  go_enter Tryz.func5, Tryz.ntmps5
  go_wp2_with (go_at_call 27; refine HB.mono ?_; rintro e w2 ⟨wb, lb, hb, nb, rfl, hge, hWA2, hAX2⟩; clear HB)
  generalize w.alloc (.cells #[.int .i64 0] 3) = w1 at *
  have hs1 := hb1.size
  go_loopw [5] (fun v5 wl => ∃ i : Nat, i ≤ 40 ∧ v5 = .int .i64 i ∧ WA wl wb lb hb nb ∧ AX (X3 wb lb hb) w1 nb 0 (-1) [] 0 i wl) (fun v5 _ => 40 - (intOf v5).toNat)
  case atStart => exact ⟨0, by omega, rfl, hWA2, hAX2⟩
  case round =>
    clear hWA2 hAX2
    obtain ⟨i, hil, rfl, hWA, hAX⟩ := hrel
    rename World => wl
    obtain ⟨cl, v0, hcl, u0⟩ := hWA.acc
    by_cases hlt : i < 40
    · have hz1 : (0 : Int) ≤ (i : Int) := by omega
      have hz2 : (i : Int) < 40 := by omega
      have hw3 : IntKind.i64.wrap ((i : Int) + 1) = ((i + 1 : Nat) : Int) := by rw [IntKind.wrap_i64]; omega
      have HT := hAX.tick (by omega) (by omega) (Nat.zero_le _) ⟨by omega, by show (0 : Int) ≤ 0; omega⟩
      go_wp2_with (go_at_call 26; refine HT.mono ?_; rintro e w3 ⟨r, rfl, hAX3, hK3⟩; clear HT)
      go_roundw
      case rel => exact ⟨i + 1, by omega, by go_num, hWA.kx hK3, hAX3⟩
      case measure => simp [intOf]; omega
    · obtain rfl : i = 40 := by omega
      have hz2 : ¬ ((40 : Int) < 40) := by omega
      have hLX : LX (X3 wb lb hb) w1 nb 1 0 (logA l 0) wl := hAX.leads (by omega)
      clear hAX hlt v0 u0 cl hcl
      go_wp2_with (first
        | (go_at_call 9; refine (awake_any _).mono ?_; rintro e w4 ⟨rfl, hw4⟩; have hLX4 := hLX.below hw4; have hWA4 := hWA.kx (Kx.below hw4 hLX.lt); obtain ⟨cl, v0, hcl, u0⟩ := hWA4.acc)
        | (go_at_call 28; refine hLX4.role.mono ?_; rintro e wq ⟨rfl, hwq⟩; replace hwq := hwq.symm; subst hwq)
        | (go_at_call 29; refine hLX4.leader.mono ?_; rintro e wq ⟨rfl, hwq⟩; replace hwq := hwq.symm; subst hwq)
        | (go_at_call 30; refine hLX4.term.mono ?_; rintro e wq ⟨rfl, hwq⟩; replace hwq := hwq.symm; subst hwq))
      clear hWA hLX v0 u0
      go_loopw [6] (fun v6 wl => ∃ i : Nat, i ≤ l.length ∧ i ≤ 40 ∧ v6 = .int .i64 i ∧ WA wl wb lb hb nb ∧ LX (X3 wb lb hb) w1 nb 1 0 (logA l i) wl) (fun v6 _ => 40 - (intOf v6).toNat)
      case atStart => exact ⟨0, Nat.zero_le _, by omega, rfl, hWA4, hLX4⟩
      case round =>
        clear hWA4 hLX4
        obtain ⟨i, hil1, hil2, rfl, hWA, hLX⟩ := hrel
        rename World => wl
        have hz1 : (0 : Int) ≤ (i : Int) := by omega
        by_cases hlt : i < l.length
        · by_cases hlt2 : i < 40
          · have hz2 : (i : Int) < (l.length : Int) := by omega
            have hz3 : (i : Int) < 40 := by omega
            have hw3 : IntKind.i64.wrap ((i : Int) + 1) = ((i + 1 : Nat) : Int) := by rw [IntKind.wrap_i64]; omega
            have hw4 : IntKind.i64.wrap ((i : Int) + 2) = (i : Int) + 2 := by rw [IntKind.wrap_i64]; omega
            have hlen1 : (logA l i).length = i + 1 := logA_len hil1
            have hlen2 : (logA l (i + 1)).length = i + 2 := logA_len hlt
            have hsu := logA_succ hlt
            obtain ⟨g, o, ha, cS⟩ := hA.out i _ (List.getElem?_eq_getElem hlt)
            subst ha
            generalize l[i] = ss at *
            have HP : ∀ W, LX (X3 wb lb hb) w1 nb 1 0 (logA l i) W → Calls Tryz.prog 31 #[.pointer (some ⟨nb, 0, none⟩), .string ⟨ss.toArray⟩] W fun e w2 => ∃ a k, e = .returned (.tuple #[.int .i64 ((i : Int) + 2), .slice a 0 k, .bool true]) ∧ LX (X3 wb lb hb) w1 nb 1 0 (logA l (i + 1)) w2 ∧ Kx (X3 wb lb hb) W w2 := fun W hW => by
              have h1 := hW.propose ss (by omega) (by omega)
              rw [hlen1, ← hsu, show ((i + 1 : Nat) : Int) + 1 = (i : Int) + 2 by omega] at h1
              exact h1
            have hbw := hb1.trans (hLX.base.mono hs1)
            have hst : ∀ W, Below w.heap.size w W → W.cell? ⟨g, o + i, none⟩ = some (.string ⟨ss.toArray⟩) := fun W hW => (hW.cell (World.block_lt_of_cell? _ _ cS)).trans cS
            have hLXd := hLX.below (Below.refl _ _).drew
            obtain ⟨cl, ch, am, ml, lc, hc2, hW, hcl, hch, hP1, hl0, hH1, hh0⟩ := hWA.out
            have u0d : wl.drew.cell? ⟨lb, 0, none⟩ = some (.pointer (some ⟨nb, 0, none⟩)) := (hP1.drew.cell 0).trans hl0
            go_upto_region 11 with fail
            refine wp_region_held_drew (S := fun w' : World => Blk w' wb #[.slice (some ⟨lb, 0, none⟩) 1 cl, .slice none 0 0, .map am, .map ml, .slice (some ⟨hb, 0, none⟩) 1 ch] 63 ∧ w'.cell? ⟨lb, 0, none⟩ = some (.pointer (some ⟨nb, 0, none⟩)) ∧ w'.cell? ⟨g, o + i, none⟩ = some (.string ⟨ss.toArray⟩)) (by kernel_rfl) (And.intro hW.drew (And.intro u0d (hst _ (hbw.drew)))) (fun hH => ?_)
            try go_frame
            refine wpAnyH_take (i := 0) (oi := ⟨some 81, _, _, _, _, _⟩) (v := .pointer (some ⟨wb, 0, none⟩)) rfl (by kernel_rfl) (by kernel_rfl) (by kernel_rfl) (fun _ _ _ h => h) (Or.inl ⟨by rfl, fun w hSw => by go_simp⟩) hH ?_
            try simp only [Act.put, List.setIfInBounds_toArray, List.set_cons_zero, List.set_cons_succ]
            refine wpAnyH_take (i := 1) (oi := ⟨some 82, _, _, _, _, _⟩) (v := .pointer (some ⟨wb, 0, none⟩)) rfl (by kernel_rfl) (by kernel_rfl) (by kernel_rfl) (fun _ _ _ h => h) (Or.inl ⟨by rfl, fun w hSw => by go_simp⟩) hH ?_
            try simp only [Act.put, List.setIfInBounds_toArray, List.set_cons_zero, List.set_cons_succ]
            refine wpAnyH_take (i := 2) (oi := ⟨some 83, _, _, _, _, _⟩) (v := .pointer (some ⟨wb, 0, none⟩)) rfl (by kernel_rfl) (by kernel_rfl) (by kernel_rfl) (fun _ _ _ h => h) (Or.inl ⟨by rfl, fun w hSw => by go_simp⟩) hH ?_
            try simp only [Act.put, List.setIfInBounds_toArray, List.set_cons_zero, List.set_cons_succ]
            refine wpAnyH_take (i := 3) (oi := ⟨some 84, _, _, _, _, _⟩) (v := .slice (some ⟨lb, 0, none⟩) 1 cl) rfl (by kernel_rfl) (by kernel_rfl) (by kernel_rfl) (fun _ _ _ h => h) (Or.inl ⟨by rfl, fun w hSw => run_loadC _ _ rfl _ _ rfl _ Tryz.underlying59 rfl _ (hSw.1.cell 0)⟩) hH ?_
            try simp only [Act.put, List.setIfInBounds_toArray, List.set_cons_zero, List.set_cons_succ]
            refine wpAnyH_take (i := 4) (oi := ⟨some 85, _, _, _, _, _⟩) (v := .pointer (some ⟨lb, 0, none⟩)) rfl (by kernel_rfl) (by kernel_rfl) (by kernel_rfl) (fun _ _ _ h => h) (Or.inl ⟨by rfl, fun w hSw => by first | (go_simp; done) | (go_simp; omega) | (go_simp; simp; omega)⟩) hH ?_
            try simp only [Act.put, List.setIfInBounds_toArray, List.set_cons_zero, List.set_cons_succ]
            refine wpAnyH_take (i := 5) (oi := ⟨some 86, _, _, _, _, _⟩) (v := .pointer (some ⟨nb, 0, none⟩)) rfl (by kernel_rfl) (by kernel_rfl) (by kernel_rfl) (fun _ _ _ h => h) (Or.inl ⟨by rfl, fun w hSw => run_loadC _ _ rfl _ _ rfl _ Tryz.underlying45 rfl _ hSw.2.1⟩) hH ?_
            try simp only [Act.put, List.setIfInBounds_toArray, List.set_cons_zero, List.set_cons_succ]
            refine wpAnyH_take (i := 6) (oi := ⟨some 87, _, _, _, _, _⟩) (v := .slice (some ⟨g, o, none⟩) l.length c) rfl (by kernel_rfl) (by kernel_rfl) (by kernel_rfl) (fun _ _ _ h => h) (Or.inl ⟨by rfl, fun w hSw => by go_simp⟩) hH ?_
            try simp only [Act.put, List.setIfInBounds_toArray, List.set_cons_zero, List.set_cons_succ]
            refine wpAnyH_take (i := 7) (oi := ⟨some 88, _, _, _, _, _⟩) (v := .int .i64 (i : Nat)) rfl (by kernel_rfl) (by kernel_rfl) (by kernel_rfl) (fun _ _ _ h => h) (Or.inl ⟨by rfl, fun w hSw => by go_simp⟩) hH ?_
            try simp only [Act.put, List.setIfInBounds_toArray, List.set_cons_zero, List.set_cons_succ]
            refine wpAnyH_take (i := 8) (oi := ⟨some 89, _, _, _, _, _⟩) (v := .pointer (some ⟨g, o + i, none⟩)) rfl (by kernel_rfl) (by kernel_rfl) (by kernel_rfl) (fun _ _ _ h => h) (Or.inl ⟨by rfl, fun w hSw => by first | (go_simp; done) | (go_simp; omega) | (go_simp; simp; omega)⟩) hH ?_
            try simp only [Act.put, List.setIfInBounds_toArray, List.set_cons_zero, List.set_cons_succ]
            refine wpAnyH_take (i := 9) (oi := ⟨some 90, _, _, _, _, _⟩) (v := .string ⟨ss.toArray⟩) rfl (by kernel_rfl) (by kernel_rfl) (by kernel_rfl) (fun _ _ _ h => h) (Or.inl ⟨by rfl, fun w hSw => run_loadC _ _ rfl _ _ rfl _ Tryz.underlying9 rfl _ hSw.2.2⟩) hH ?_
            try simp only [Act.put, List.setIfInBounds_toArray, List.set_cons_zero, List.set_cons_succ]
            refine wpAnyH_solo (i := 10) (o := ⟨some 91, _, _, _, _, _⟩) rfl (by kernel_rfl) (fun K hK => ?_)
            refine wpList_callR Tryz.func31 (by kernel_rfl) (by kernel_rfl) rfl _ _ rfl #[.pointer (some ⟨nb, 0, none⟩), .string ⟨ss.toArray⟩] (args2 rfl rfl) _ (HP _ hLXd) ?_
            rintro e w9 hPP
            obtain ⟨a9, k9, rfl, hLX9, hK9⟩ := hPP
            have hH3 := And.intro (Blk.mk ((hK9 wb (.inl rfl)).trans hH.1.out)) (And.intro ((cell_of_block (hK9 lb (.inr (.inl rfl)))).trans hH.2.1) (hst w9 (hb1.trans (hLX9.base.mono hs1))))
            refine ⟨_, rfl, ?_⟩
            refine hK _ _ (hH3) ?_
            clear hH
            have hH := hH3
            clear hK K
            try simp only [Act.put, List.setIfInBounds_toArray, List.set_cons_zero, List.set_cons_succ]
            refine wpAnyH_take (i := 11) (oi := ⟨some 80, _, _, _, _, _⟩) (v := .tuple #[.int .i64 ((i : Int) + 2), .slice a9 0 k9, .bool true]) rfl (by kernel_rfl) (by kernel_rfl) (by kernel_rfl) (fun _ _ _ h => h) (Or.inl ⟨by rfl, fun w hSw => by go_simp⟩) hH ?_
            try simp only [Act.put, List.setIfInBounds_toArray, List.set_cons_zero, List.set_cons_succ]
            refine wpAnyH_take (i := 12) (oi := ⟨some 92, _, _, _, _, _⟩) (v := .int .i64 ((i : Int) + 2)) rfl (by kernel_rfl) (by kernel_rfl) (by kernel_rfl) (fun _ _ _ h => h) (Or.inl ⟨by rfl, fun w hSw => by first | (go_simp; done) | (go_simp; omega) | (go_simp; simp; omega)⟩) hH ?_
            try simp only [Act.put, List.setIfInBounds_toArray, List.set_cons_zero, List.set_cons_succ]
            refine wpAnyH_take (i := 13) (oi := ⟨some 93, _, _, _, _, _⟩) (v := .slice a9 0 k9) rfl (by kernel_rfl) (by kernel_rfl) (by kernel_rfl) (fun _ _ _ h => h) (Or.inl ⟨by rfl, fun w hSw => by first | (go_simp; done) | (go_simp; omega) | (go_simp; simp; omega)⟩) hH ?_
            try simp only [Act.put, List.setIfInBounds_toArray, List.set_cons_zero, List.set_cons_succ]
            refine wpAnyH_take (i := 14) (oi := ⟨some 94, _, _, _, _, _⟩) (v := .bool true) rfl (by kernel_rfl) (by kernel_rfl) (by kernel_rfl) (fun _ _ _ h => h) (Or.inl ⟨by rfl, fun w hSw => by first | (go_simp; done) | (go_simp; omega) | (go_simp; simp; omega)⟩) hH ?_
            try simp only [Act.put, List.setIfInBounds_toArray, List.set_cons_zero, List.set_cons_succ]
            refine wpAnyH_solo (i := 15) (o := ⟨some 7, _, _, _, _, _⟩) rfl (by kernel_rfl) (fun K hK => ?_)
            refine wpList_pure rfl (.int .i64 ((i : Int) + 2)) (by go_simp) ?_
            refine hK _ _ hH ?_
            clear hK K
            try simp only [Act.put, List.setIfInBounds_toArray, List.set_cons_zero, List.set_cons_succ]
            refine wpAnyH_solo (i := 16) (o := ⟨some 8, _, _, _, _, _⟩) rfl (by kernel_rfl) (fun K hK => ?_)
            refine wpList_pure rfl (.slice a9 0 k9) (by go_simp) ?_
            refine hK _ _ hH ?_
            clear hK K
            try simp only [Act.put, List.setIfInBounds_toArray, List.set_cons_zero, List.set_cons_succ]
            refine wpAnyH_solo (i := 17) (o := ⟨some 9, _, _, _, _, _⟩) rfl (by kernel_rfl) (fun K hK => ?_)
            refine wpList_pure rfl (.bool true) (by go_simp) ?_
            refine hK _ _ hH ?_
            clear hK K
            try simp only [Act.put, List.setIfInBounds_toArray, List.set_cons_zero, List.set_cons_succ]
            refine wpAnyH_done (by kernel_rfl) ?_ _
            try simp only [Act.put]
            try go_simp
            have HC := hLX9.commit
            rw [hlen2, show ((i + 2 : Nat) : Int) = (i : Int) + 2 by omega] at HC
            have hWA9 := (hWA.kx (Kx.below (Below.refl _ _).drew hLX.lt)).kx hK9
            obtain ⟨cl9, v09, hcl9, u09⟩ := hWA9.acc
            go_wp2_with (go_at_call 21; refine HC.mono ?_; rintro e wq ⟨rfl, hwq⟩; replace hwq := hwq.symm; subst hwq)
            go_roundw
            case rel => exact ⟨i + 1, by omega, by omega, by go_num, hWA9, hLX9⟩
            case measure => simp [intOf]; omega
          · have hz2 : (i : Int) < (l.length : Int) := by omega
            have hz3 : ¬ ((i : Int) < 40) := by omega
            have hmin : min (l.length : Int) 40 = (i : Int) := by omega
            obtain ⟨cl, v0, hcl, u0⟩ := hWA.acc
            have HO := one_down w1 wl wb lb hb nb 1 0 (logA l i) hWA hLX hge (by omega) (.inl rfl) (by rw [logA_len hil1]; omega)
            have hpl1 : (logA l i).length = i + 1 := logA_len hil1
            have hwn2 : IntKind.i64.wrap ((i : Int) + 2) = (i : Int) + 2 := by rw [IntKind.wrap_i64]; omega
            go_wp2_with (first
              | (go_at_call 32; refine HO.mono ?_; rintro e w5 ⟨nb2, rfl, hWA5, hAX5⟩; clear HO; obtain ⟨cl5, v05, hcl5, u05⟩ := hWA5.acc)
              | (go_at_call 21; refine (hAX5.commit0 (by omega)).mono ?_; rintro e wq ⟨rfl, hwq⟩; replace hwq := hwq.symm; subst hwq))
            clear v05 u05 v0 u0
            go_loopw [11] (fun v11 wl => ∃ j : Nat, j ≤ 40 ∧ v11 = .int .i64 j ∧ WA wl wb lb hb nb2 ∧ AX (X3 wb lb hb) w1 nb2 1 0 (logA l i) 0 j wl) (fun v11 _ => 40 - (intOf v11).toNat)
            case atStart => exact ⟨0, by omega, rfl, hWA5, hAX5⟩
            case round =>
              clear hWA5 hAX5
              obtain ⟨j, hjl, rfl, hWA6, hAX6⟩ := hrel
              obtain ⟨cl6, v06, hcl6, u06⟩ := hWA6.acc
              by_cases hjt : j < 40
              · have hz1 : (0 : Int) ≤ (j : Int) := by omega
                have hz2 : (j : Int) < 40 := by omega
                have hw3 : IntKind.i64.wrap ((j : Int) + 1) = ((j + 1 : Nat) : Int) := by rw [IntKind.wrap_i64]; omega
                have HT := hAX6.tick (by omega) (by omega) (by omega) ⟨by omega, by omega⟩
                go_wp2_with (go_at_call 26; refine HT.mono ?_; rintro e w7 ⟨r, rfl, hAX7, hK7⟩; clear HT)
                go_roundw
                case rel => exact ⟨j + 1, by omega, by go_num, hWA6.kx hK7, hAX7⟩
                case measure => simp [intOf]; omega
              · obtain rfl : j = 40 := by omega
                have hz2 : ¬ ((40 : Int) < 40) := by omega
                have hLX6 := hAX6.leads (by omega)
                have hlen2 : (logA l i ++ [(⟨1 + 1, [], false, []⟩ : LE)]).length = i + 2 := by rw [List.length_append, hpl1]; rfl
                clear hAX6 v06 u06
                go_wp2_with fail
                go_loopw [12] (fun v12 wl => ∃ j : Nat, j ≤ i ∧ v12 = .int .i64 j ∧ WA wl wb lb hb nb2 ∧ LX (X3 wb lb hb) w1 nb2 2 0 (logA l i ++ [⟨1 + 1, [], false, []⟩]) wl) (fun v12 _ => i - (intOf v12).toNat)
                case atStart => exact ⟨0, by omega, rfl, hWA6, hLX6⟩
                case round =>
                  clear hWA6 hLX6
                  obtain ⟨j, hjl2, rfl, hWA8, hLX8⟩ := hrel
                  rename World => wy
                  obtain ⟨cl8, v08, hcl8, u08⟩ := hWA8.acc
                  by_cases hjt : j < i
                  · have hz1 : (0 : Int) ≤ (j : Int) := by omega
                    have hz3 : (j : Int) < (i : Int) := by omega
                    have hz4 : (j : Int) < (l.length : Int) := by omega
                    have hz5 : j < l.length := by omega
                    have hw3 : IntKind.i64.wrap ((j : Int) + 1) = ((j + 1 : Nat) : Int) := by rw [IntKind.wrap_i64]; omega
                    have hw4 : IntKind.i64.wrap ((j : Int) + 2) = (j : Int) + 2 := by rw [IntKind.wrap_i64]; omega
                    have HE := hLX8.entry (by omega) (by omega) (j + 1) (by omega)
                    rw [logA_get hjt hil1 _ (by omega), show (1 : Int) + ((j + 1 : Nat) : Int) = (j : Int) + 2 by omega] at HE
                    dsimp only at HE
                    obtain ⟨g, o, ha, cS⟩ := hA.out j _ (List.getElem?_eq_getElem hz5)
                    subst ha
                    have hst : ∀ W, Below w.heap.size w W → W.cell? ⟨g, o + j, none⟩ = some (.string ⟨(l[j]).toArray⟩) := fun W hW => (hW.cell (World.block_lt_of_cell? _ _ cS)).trans cS
                    generalize l[j] = ss at *
                    go_upto_region 25 with (go_at_call 23; refine HE.mono ?_; rintro e w10 ⟨a9, k9, rfl, hLX10, hK10⟩; clear HE)
                    have hbn := bl_al (Below.refl w10.heap.size w10) (.cells #[.int .i64 1, .string ⟨ss.toArray⟩, .bool false, .slice a9 0 k9] 29)
                    have hXn := Blk.new w10 #[.int .i64 1, .string ⟨ss.toArray⟩, .bool false, .slice a9 0 k9] 29
                    generalize w10.alloc (.cells #[.int .i64 1, .string ⟨ss.toArray⟩, .bool false, .slice a9 0 k9] 29) = w11 at *
                    have hLX11 := hLX10.below hbn
                    have hWA11 := (hWA8.kx hK10).kx (Kx.below hbn hLX10.lt)
                    have e0 := hXn.cell 0
                    have e1 := hXn.cell 1
                    have cS2 := hst w11 (hb1.trans (hLX11.base.mono hs1))
                    go_quiet (fail)
                    go_wp2_with fail
                    have hLXn := fun n => hLX11.below (below_draws (Below.refl w11.heap.size w11) n)
                    have hWAn := fun n => hWA11.kx (Kx.below (below_draws (Below.refl w11.heap.size w11) n) hLX11.lt)
                    go_roundw
                    case rel => exact ⟨j + 1, by omega, by go_num, hWAn _, hLXn _⟩
                    case measure => simp [intOf]; omega
                  · obtain rfl : j = i := by omega
                    have hz3 : ¬ ((j : Int) < (j : Int)) := by omega
                    have HC := hLX8.commit
                    rw [hlen2, show ((j + 2 : Nat) : Int) = (j : Int) + 2 by omega] at HC
                    go_wp2_with (first
                      | (go_at_call 21; refine HC.mono ?_; rintro e wq ⟨rfl, hwq⟩; replace hwq := hwq.symm; subst hwq)
                      | (go_at_call 30; refine hLX8.term.mono ?_; rintro e wq ⟨rfl, hwq⟩; replace hwq := hwq.symm; subst hwq))
                    go_ret
                    exact ⟨rfl, hb1.trans (hLX8.base.mono hs1)⟩
        · have hz2 : ¬ ((i : Int) < (l.length : Int)) := by omega
          have hmin : min (l.length : Int) 40 = (i : Int) := by omega
          obtain ⟨cl, v0, hcl, u0⟩ := hWA.acc
          have HO := one_down w1 wl wb lb hb nb 1 0 (logA l i) hWA hLX hge (by omega) (.inl rfl) (by rw [logA_len hil1]; omega)
          have hpl1 : (logA l i).length = i + 1 := logA_len hil1
          have hwn2 : IntKind.i64.wrap ((i : Int) + 2) = (i : Int) + 2 := by rw [IntKind.wrap_i64]; omega
          go_wp2_with (first
            | (go_at_call 32; refine HO.mono ?_; rintro e w5 ⟨nb2, rfl, hWA5, hAX5⟩; clear HO; obtain ⟨cl5, v05, hcl5, u05⟩ := hWA5.acc)
            | (go_at_call 21; refine (hAX5.commit0 (by omega)).mono ?_; rintro e wq ⟨rfl, hwq⟩; replace hwq := hwq.symm; subst hwq))
          clear v05 u05 v0 u0
          go_loopw [11] (fun v11 wl => ∃ j : Nat, j ≤ 40 ∧ v11 = .int .i64 j ∧ WA wl wb lb hb nb2 ∧ AX (X3 wb lb hb) w1 nb2 1 0 (logA l i) 0 j wl) (fun v11 _ => 40 - (intOf v11).toNat)
          case atStart => exact ⟨0, by omega, rfl, hWA5, hAX5⟩
          case round =>
            clear hWA5 hAX5
            obtain ⟨j, hjl, rfl, hWA6, hAX6⟩ := hrel
            obtain ⟨cl6, v06, hcl6, u06⟩ := hWA6.acc
            by_cases hjt : j < 40
            · have hz1 : (0 : Int) ≤ (j : Int) := by omega
              have hz2 : (j : Int) < 40 := by omega
              have hw3 : IntKind.i64.wrap ((j : Int) + 1) = ((j + 1 : Nat) : Int) := by rw [IntKind.wrap_i64]; omega
              have HT := hAX6.tick (by omega) (by omega) (by omega) ⟨by omega, by omega⟩
              go_wp2_with (go_at_call 26; refine HT.mono ?_; rintro e w7 ⟨r, rfl, hAX7, hK7⟩; clear HT)
              go_roundw
              case rel => exact ⟨j + 1, by omega, by go_num, hWA6.kx hK7, hAX7⟩
              case measure => simp [intOf]; omega
            · obtain rfl : j = 40 := by omega
              have hz2 : ¬ ((40 : Int) < 40) := by omega
              have hLX6 := hAX6.leads (by omega)
              have hlen2 : (logA l i ++ [(⟨1 + 1, [], false, []⟩ : LE)]).length = i + 2 := by rw [List.length_append, hpl1]; rfl
              clear hAX6 v06 u06
              go_wp2_with fail
              go_loopw [12] (fun v12 wl => ∃ j : Nat, j ≤ i ∧ v12 = .int .i64 j ∧ WA wl wb lb hb nb2 ∧ LX (X3 wb lb hb) w1 nb2 2 0 (logA l i ++ [⟨1 + 1, [], false, []⟩]) wl) (fun v12 _ => i - (intOf v12).toNat)
              case atStart => exact ⟨0, by omega, rfl, hWA6, hLX6⟩
              case round =>
                clear hWA6 hLX6
                obtain ⟨j, hjl2, rfl, hWA8, hLX8⟩ := hrel
                rename World => wy
                obtain ⟨cl8, v08, hcl8, u08⟩ := hWA8.acc
                by_cases hjt : j < i
                · have hz1 : (0 : Int) ≤ (j : Int) := by omega
                  have hz3 : (j : Int) < (i : Int) := by omega
                  have hz4 : (j : Int) < (l.length : Int) := by omega
                  have hz5 : j < l.length := by omega
                  have hw3 : IntKind.i64.wrap ((j : Int) + 1) = ((j + 1 : Nat) : Int) := by rw [IntKind.wrap_i64]; omega
                  have hw4 : IntKind.i64.wrap ((j : Int) + 2) = (j : Int) + 2 := by rw [IntKind.wrap_i64]; omega
                  have HE := hLX8.entry (by omega) (by omega) (j + 1) (by omega)
                  rw [logA_get hjt hil1 _ (by omega), show (1 : Int) + ((j + 1 : Nat) : Int) = (j : Int) + 2 by omega] at HE
                  dsimp only at HE
                  obtain ⟨g, o, ha, cS⟩ := hA.out j _ (List.getElem?_eq_getElem hz5)
                  subst ha
                  have hst : ∀ W, Below w.heap.size w W → W.cell? ⟨g, o + j, none⟩ = some (.string ⟨(l[j]).toArray⟩) := fun W hW => (hW.cell (World.block_lt_of_cell? _ _ cS)).trans cS
                  generalize l[j] = ss at *
                  go_upto_region 25 with (go_at_call 23; refine HE.mono ?_; rintro e w10 ⟨a9, k9, rfl, hLX10, hK10⟩; clear HE)
                  have hbn := bl_al (Below.refl w10.heap.size w10) (.cells #[.int .i64 1, .string ⟨ss.toArray⟩, .bool false, .slice a9 0 k9] 29)
                  have hXn := Blk.new w10 #[.int .i64 1, .string ⟨ss.toArray⟩, .bool false, .slice a9 0 k9] 29
                  generalize w10.alloc (.cells #[.int .i64 1, .string ⟨ss.toArray⟩, .bool false, .slice a9 0 k9] 29) = w11 at *
                  have hLX11 := hLX10.below hbn
                  have hWA11 := (hWA8.kx hK10).kx (Kx.below hbn hLX10.lt)
                  have e0 := hXn.cell 0
                  have e1 := hXn.cell 1
                  have cS2 := hst w11 (hb1.trans (hLX11.base.mono hs1))
                  go_quiet (fail)
                  go_wp2_with fail
                  have hLXn := fun n => hLX11.below (below_draws (Below.refl w11.heap.size w11) n)
                  have hWAn := fun n => hWA11.kx (Kx.below (below_draws (Below.refl w11.heap.size w11) n) hLX11.lt)
                  go_roundw
                  case rel => exact ⟨j + 1, by omega, by go_num, hWAn _, hLXn _⟩
                  case measure => simp [intOf]; omega
                · obtain rfl : j = i := by omega
                  have hz3 : ¬ ((j : Int) < (j : Int)) := by omega
                  have HC := hLX8.commit
                  rw [hlen2, show ((j + 2 : Nat) : Int) = (j : Int) + 2 by omega] at HC
                  go_wp2_with (first
                    | (go_at_call 21; refine HC.mono ?_; rintro e wq ⟨rfl, hwq⟩; replace hwq := hwq.symm; subst hwq)
                    | (go_at_call 30; refine hLX8.term.mono ?_; rintro e wq ⟨rfl, hwq⟩; replace hwq := hwq.symm; subst hwq))
                  go_ret
                  exact ⟨rfl, hb1.trans (hLX8.base.mono hs1)⟩
end
end Go.Proofs.YtnhlejdilldfaaaGreat
