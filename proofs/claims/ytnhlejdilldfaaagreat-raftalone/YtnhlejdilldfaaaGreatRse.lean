/- A leader commits what more than half of those that take part have. -/
import Derived.Test.YtnhlejdilldfaaaGreatRfo
namespace Go.Proofs.YtnhlejdilldfaaaGreat
open Go Go.RowKit Go.Maps
/-- What a leader knows of the others. -/
structure Ldr (N : RN) : Prop where
  ne : N.mems ≠ []
  next : ∀ x ∈ N.mems, x ≠ N.me → 1 ≤ N.next x ∧ N.next x ≤ N.last + 1
  had : ∀ x ∈ N.mems, x ≠ N.me → N.had x ≤ N.last
theorem hadBy_bnd {N : RN} (hb : Bnd N) (hl : Ldr N) {x : Int} (hx : x ∈ N.mems) : 0 ≤ N.hadBy x ∧ N.hadBy x ≤ N.last := by
  have h1 := hb.bi
  unfold RN.hadBy
  by_cases h : x = N.me
  · rw [if_pos h]; unfold RN.last; omega
  · rw [if_neg h]; exact ⟨(hb.had x).1, hl.had x hx h⟩
theorem mostHave_bnd {N : RN} (hb : Bnd N) (hl : Ldr N) : 0 ≤ N.mostHave ∧ N.mostHave ≤ N.last := by
  rw [mostHave_eq]
  have hlen : (srt (hvN N N.mems N.mems.length)).length = N.mems.length := by rw [srt_len, hvN_len (Nat.le_refl _)]
  have h0 := List.length_pos_iff.2 hl.ne
  have hk : N.mems.length - (N.mems.length / 2 + 1) < (srt (hvN N N.mems N.mems.length)).length := by omega
  rw [List.getD_eq_getElem?_getD, List.getElem?_eq_getElem hk, Option.getD_some]
  have key : ∀ y ∈ srt (hvN N N.mems N.mems.length), 0 ≤ y ∧ y ≤ N.last := fun y hy => by
    unfold srt at hy
    rw [List.mem_mergeSort] at hy
    unfold hvN at hy
    rw [List.take_length] at hy
    obtain ⟨x, hx, rfl⟩ := List.mem_map.1 hy
    exact hadBy_bnd hb hl hx
  exact key _ (List.getElem_mem hk)
theorem settleAt_bnd (N : RN) : ∀ (n : Nat) (i : Int), N.commit ≤ N.settleAt n i ∧ (N.settleAt n i ≤ N.commit ∨ N.settleAt n i ≤ i)
  | 0, i => ⟨Int.le_refl _, .inl (Int.le_refl _)⟩
  | n + 1, i => by
    unfold RN.settleAt
    by_cases h1 : i > N.commit
    · rw [if_pos h1]
      by_cases h2 : N.termAt i = N.k.term
      · rw [if_pos h2]; omega
      · rw [if_neg h2]
        have := settleAt_bnd N n (i - 1)
        omega
    · rw [if_neg h1]; omega
theorem settleAt_no {N : RN} {i : Int} (h : ¬ i > N.commit) : N.settleAt (i - N.commit).toNat i = N.commit := by
  rw [show (i - N.commit).toNat = 0 by omega]; rfl
theorem settleAt_yes {N : RN} {i : Int} (h : i > N.commit) (h2 : N.termAt i = N.k.term) : N.settleAt (i - N.commit).toNat i = i := by
  obtain ⟨n, hn⟩ : ∃ n, (i - N.commit).toNat = n + 1 := ⟨(i - N.commit).toNat - 1, by omega⟩
  rw [hn]; unfold RN.settleAt; rw [if_pos h, if_pos h2]
theorem settleAt_step {N : RN} {i : Int} (h : i > N.commit) (h2 : N.termAt i ≠ N.k.term) : N.settleAt (i - N.commit).toNat i = N.settleAt (i - 1 - N.commit).toNat (i - 1) := by
  obtain ⟨n, hn⟩ : ∃ n, (i - N.commit).toNat = n + 1 := ⟨(i - N.commit).toNat - 1, by omega⟩
  rw [hn, show (i - 1 - N.commit).toNat = n by omega]
  conv => lhs; unfold RN.settleAt
  rw [if_pos h, if_neg h2]
/-- With another index committed. -/
def wc (N : RN) (c : Int) : RN := { N with commit := c }
theorem wc_self (N : RN) : wc N N.commit = N := rfl
section
variable (F : Nat → Prop) (nb : Nat) (M : NM) (lb : Option Nat) (w : World) (N : RN)
set_option maxRecDepth 100000 in
set_option maxHeartbeats 1000000 in
theorem settle_any (h : ND F nb M lb w N) (hb : Bnd N) (hg : Gm N) (hl : Ldr N) : Calls Tryz.prog 98 #[.pointer (some ⟨nb, 0, none⟩)] w (DrP F nb M lb w (.tuple #[]) N.settle) := by
  have HMo := mostHave_any F nb M lb w N h hb hg hl.ne
  have hmb := mostHave_bnd hb hl
  have hml := hg.mems.1
  obtain ⟨C, hC⟩ : ∃ C, Hid (N.settleAt (N.mostHave - N.commit).toNat N.mostHave = C) := ⟨_, rfl⟩
  have hCb : N.k.bi ≤ C ∧ C ≤ N.last := by
    have h1 := settleAt_bnd N (N.mostHave - N.commit).toNat N.mostHave
    rw [hC.out] at h1
    have h2 := hb.commit
    omega
  have hbC : Bnd (wc N C) := hb.upd rfl hb.term rfl rfl rfl rfl rfl rfl hCb rfl rfl rfl
  have hse : N.settle = if N.confAt ≤ C ∧ N.me ∉ N.mems then (wc N C).follow N.k.term (-1) else wc N C := by
    unfold RN.settle
    rw [hC.out]
    rfl
  have hbt := hb.term
  have hbc := hb.commit
  have hbi := hb.bi
  have hbl : N.last ≤ 1152921504606846976 := hb.last
  obtain ⟨R, hR⟩ : ∃ R, Hid (N.settle = R) := ⟨_, rfl⟩
  replace hse : Hid ((if N.confAt ≤ C ∧ N.me ∉ N.mems then (wc N C).follow N.k.term (-1) else wc N C) = R) := by show _ = _; rw [← hse]; exact hR.out
  rw [hR.out]
  clear hR
  go_enter Tryz.func98, Tryz.ntmps98
  go_wp2_with (go_at_call 121; refine HMo.mono ?_; rintro e w1 ⟨rfl, hw1⟩; clear HMo)
  have h1 := h.below hw1
  have hC0 : Hid (N.settleAt (N.mostHave - N.commit).toNat N.mostHave = C) := hC
  generalize N.mostHave = mh at *
  go_loopw [2] (fun v2 wl => ∃ i c : Int, v2 = .int .i64 i ∧ i ≤ N.last ∧ Stp nb M F F lb lb w1 wl ∧ ND F nb M lb wl (wc N c) ∧ N.k.bi ≤ c ∧ ((c = N.commit ∧ Hid (N.settleAt (i - N.commit).toNat i = C)) ∨ (c = C ∧ i ≤ c))) (fun v2 _ => (intOf v2).toNat)
  case atStart => exact ⟨mh, N.commit, rfl, hmb.2, Stp.refl, by rw [wc_self]; exact h1, hbc.1, .inl ⟨rfl, hC0⟩⟩
  case round =>
    obtain ⟨i, c, rfl, hil, hS, hN, hci, hor⟩ := hrel
    by_cases hgt : i > c
    · obtain ⟨rfl, hCi⟩ : c = N.commit ∧ Hid (N.settleAt (i - N.commit).toNat i = C) := hor.elim id (fun e => by omega)
      rw [wc_self] at hN
      clear hor hC hC0
      have c10 := hN.c10
      have d1 : decide (i > N.commit) = true := decide_eq_true hgt
      have hw3 : IntKind.i64.wrap (i - 1) = i - 1 := by rw [IntKind.wrap_i64]; omega
      have HT := fun W (hW : ND F nb M lb W N) => termAt_any F nb M lb W N hW hb i (by omega) hil
      have hyes := settleAt_yes hgt
      have hstep := settleAt_step hgt
      have hNd := hN.drew
      by_cases htm : N.termAt i = N.k.term
      · have hy := hyes htm
        rw [hCi.out] at hy
        have d2 : (N.termAt i == N.k.term) = true := beq_iff_eq.2 htm
        clear hyes hstep htm hCi
        generalize N.termAt i = tm at *
        go_upto_region 3 with fail
        refine wp_region_held_drew (S := fun w' : World => ND F nb M lb w' N) (by kernel_rfl) (hNd) (fun hH => ?_)
        try go_frame
        refine wpAnyH_take (i := 0) (oi := ⟨some 15, _, _, _, _, _⟩) (v := .pointer (some ⟨nb, 0, none⟩)) rfl (by kernel_rfl) (by kernel_rfl) (by kernel_rfl) (fun _ _ _ h => h) (Or.inl ⟨by rfl, fun w hSw => by go_simp⟩) hH ?_
        try simp only [Act.put, List.setIfInBounds_toArray, List.set_cons_zero, List.set_cons_succ]
        refine wpAnyH_take (i := 1) (oi := ⟨some 16, _, _, _, _, _⟩) (v := .int .i64 i) rfl (by kernel_rfl) (by kernel_rfl) (by kernel_rfl) (fun _ _ _ h => h) (Or.inl ⟨by rfl, fun w hSw => by go_simp⟩) hH ?_
        try simp only [Act.put, List.setIfInBounds_toArray, List.set_cons_zero, List.set_cons_succ]
        refine wpAnyH_take (i := 3) (oi := ⟨some 18, _, _, _, _, _⟩) (v := .pointer (some ⟨nb, 0, none⟩)) rfl (by kernel_rfl) (by kernel_rfl) (by kernel_rfl) (fun _ _ _ h => h) (Or.inl ⟨by rfl, fun w hSw => by go_simp⟩) hH ?_
        try simp only [Act.put, List.setIfInBounds_toArray, List.set_cons_zero, List.set_cons_succ]
        refine wpAnyH_take (i := 4) (oi := ⟨some 19, _, _, _, _, _⟩) (v := .pointer (some ⟨nb, 0, none⟩)) rfl (by kernel_rfl) (by kernel_rfl) (by kernel_rfl) (fun _ _ _ h => h) (Or.inl ⟨by rfl, fun w hSw => by go_simp⟩) hH ?_
        try simp only [Act.put, List.setIfInBounds_toArray, List.set_cons_zero, List.set_cons_succ]
        refine wpAnyH_take (i := 5) (oi := ⟨some 20, _, _, _, _, _⟩) (v := .pointer (some ⟨nb, 1, none⟩)) rfl (by kernel_rfl) (by kernel_rfl) (by kernel_rfl) (fun _ _ _ h => h) (Or.inl ⟨by rfl, fun w hSw => by go_simp⟩) hH ?_
        try simp only [Act.put, List.setIfInBounds_toArray, List.set_cons_zero, List.set_cons_succ]
        refine wpAnyH_take (i := 6) (oi := ⟨some 21, _, _, _, _, _⟩) (v := .pointer (some ⟨nb, 1, none⟩)) rfl (by kernel_rfl) (by kernel_rfl) (by kernel_rfl) (fun _ _ _ h => h) (Or.inl ⟨by rfl, fun w hSw => by go_simp⟩) hH ?_
        try simp only [Act.put, List.setIfInBounds_toArray, List.set_cons_zero, List.set_cons_succ]
        refine wpAnyH_take (i := 7) (oi := ⟨some 22, _, _, _, _, _⟩) (v := .int .i64 N.k.term) rfl (by kernel_rfl) (by kernel_rfl) (by kernel_rfl) (fun _ _ _ h => h) (Or.inl ⟨by rfl, fun w hSw => run_loadC _ _ rfl _ _ rfl _ Tryz.underlying3 rfl _ (hSw.c1)⟩) hH ?_
        try simp only [Act.put, List.setIfInBounds_toArray, List.set_cons_zero, List.set_cons_succ]
        refine wpAnyH_solo (i := 2) (o := ⟨some 17, _, _, _, _, _⟩) rfl (by kernel_rfl) (fun K hK => ?_)
        refine wpList_callR Tryz.func72 (by kernel_rfl) (by kernel_rfl) rfl _ _ rfl #[.pointer (some ⟨nb, 0, none⟩), .int .i64 i] (args2 rfl rfl) _ (HT _ hH) ?_
        rintro e w2 ⟨rfl, hw2⟩
        have hH2 := hH.below hw2
        refine ⟨_, rfl, ?_⟩
        refine hK _ _ (hH2) ?_
        clear hH
        have hH := hH2
        clear hK K
        try simp only [Act.put, List.setIfInBounds_toArray, List.set_cons_zero, List.set_cons_succ]
        refine wpAnyH_take (i := 8) (oi := ⟨some 23, _, _, _, _, _⟩) (v := .bool true) rfl (by kernel_rfl) (by kernel_rfl) (by kernel_rfl) (fun _ _ _ h => h) (Or.inl ⟨by rfl, fun w hSw => by go_simp⟩) hH ?_
        try simp only [Act.put, List.setIfInBounds_toArray, List.set_cons_zero, List.set_cons_succ]
        refine wpAnyH_done (by kernel_rfl) ?_ _
        try simp only [Act.put]
        try go_simp
        have c10b := hH.c10
        have f10 := hH.frz 10
        have hP := hH.p10 i
        have hS2 := ((hS.trans (Stp.below ((Below.refl _ _).drew))).trans (Stp.below hw2)).set 10 (.int .i64 i)
        go_wp2_with fail
        go_roundw
        case rel => exact ⟨i - 1, i, by go_num, by omega, hS2, hP, by omega, .inr ⟨hy.symm, by omega⟩⟩
        case measure => simp [intOf]; omega
      · have hst := hstep htm
        have hCi2 : Hid (N.settleAt (i - 1 - N.commit).toNat (i - 1) = C) := by show _ = _; rw [← hst]; exact hCi.out
        have d2 : (N.termAt i == N.k.term) = false := beq_eq_false_iff_ne.2 htm
        clear hyes hstep htm hCi hst
        generalize N.termAt i = tm at *
        go_upto_region 3 with fail
        refine wp_region_held_drew (S := fun w' : World => ND F nb M lb w' N) (by kernel_rfl) (hNd) (fun hH => ?_)
        try go_frame
        refine wpAnyH_take (i := 0) (oi := ⟨some 15, _, _, _, _, _⟩) (v := .pointer (some ⟨nb, 0, none⟩)) rfl (by kernel_rfl) (by kernel_rfl) (by kernel_rfl) (fun _ _ _ h => h) (Or.inl ⟨by rfl, fun w hSw => by go_simp⟩) hH ?_
        try simp only [Act.put, List.setIfInBounds_toArray, List.set_cons_zero, List.set_cons_succ]
        refine wpAnyH_take (i := 1) (oi := ⟨some 16, _, _, _, _, _⟩) (v := .int .i64 i) rfl (by kernel_rfl) (by kernel_rfl) (by kernel_rfl) (fun _ _ _ h => h) (Or.inl ⟨by rfl, fun w hSw => by go_simp⟩) hH ?_
        try simp only [Act.put, List.setIfInBounds_toArray, List.set_cons_zero, List.set_cons_succ]
        refine wpAnyH_take (i := 3) (oi := ⟨some 18, _, _, _, _, _⟩) (v := .pointer (some ⟨nb, 0, none⟩)) rfl (by kernel_rfl) (by kernel_rfl) (by kernel_rfl) (fun _ _ _ h => h) (Or.inl ⟨by rfl, fun w hSw => by go_simp⟩) hH ?_
        try simp only [Act.put, List.setIfInBounds_toArray, List.set_cons_zero, List.set_cons_succ]
        refine wpAnyH_take (i := 4) (oi := ⟨some 19, _, _, _, _, _⟩) (v := .pointer (some ⟨nb, 0, none⟩)) rfl (by kernel_rfl) (by kernel_rfl) (by kernel_rfl) (fun _ _ _ h => h) (Or.inl ⟨by rfl, fun w hSw => by go_simp⟩) hH ?_
        try simp only [Act.put, List.setIfInBounds_toArray, List.set_cons_zero, List.set_cons_succ]
        refine wpAnyH_take (i := 5) (oi := ⟨some 20, _, _, _, _, _⟩) (v := .pointer (some ⟨nb, 1, none⟩)) rfl (by kernel_rfl) (by kernel_rfl) (by kernel_rfl) (fun _ _ _ h => h) (Or.inl ⟨by rfl, fun w hSw => by go_simp⟩) hH ?_
        try simp only [Act.put, List.setIfInBounds_toArray, List.set_cons_zero, List.set_cons_succ]
        refine wpAnyH_take (i := 6) (oi := ⟨some 21, _, _, _, _, _⟩) (v := .pointer (some ⟨nb, 1, none⟩)) rfl (by kernel_rfl) (by kernel_rfl) (by kernel_rfl) (fun _ _ _ h => h) (Or.inl ⟨by rfl, fun w hSw => by go_simp⟩) hH ?_
        try simp only [Act.put, List.setIfInBounds_toArray, List.set_cons_zero, List.set_cons_succ]
        refine wpAnyH_take (i := 7) (oi := ⟨some 22, _, _, _, _, _⟩) (v := .int .i64 N.k.term) rfl (by kernel_rfl) (by kernel_rfl) (by kernel_rfl) (fun _ _ _ h => h) (Or.inl ⟨by rfl, fun w hSw => run_loadC _ _ rfl _ _ rfl _ Tryz.underlying3 rfl _ (hSw.c1)⟩) hH ?_
        try simp only [Act.put, List.setIfInBounds_toArray, List.set_cons_zero, List.set_cons_succ]
        refine wpAnyH_solo (i := 2) (o := ⟨some 17, _, _, _, _, _⟩) rfl (by kernel_rfl) (fun K hK => ?_)
        refine wpList_callR Tryz.func72 (by kernel_rfl) (by kernel_rfl) rfl _ _ rfl #[.pointer (some ⟨nb, 0, none⟩), .int .i64 i] (args2 rfl rfl) _ (HT _ hH) ?_
        rintro e w2 ⟨rfl, hw2⟩
        have hH2 := hH.below hw2
        refine ⟨_, rfl, ?_⟩
        refine hK _ _ (hH2) ?_
        clear hH
        have hH := hH2
        clear hK K
        try simp only [Act.put, List.setIfInBounds_toArray, List.set_cons_zero, List.set_cons_succ]
        refine wpAnyH_take (i := 8) (oi := ⟨some 23, _, _, _, _, _⟩) (v := .bool false) rfl (by kernel_rfl) (by kernel_rfl) (by kernel_rfl) (fun _ _ _ h => h) (Or.inl ⟨by rfl, fun w hSw => by go_simp⟩) hH ?_
        try simp only [Act.put, List.setIfInBounds_toArray, List.set_cons_zero, List.set_cons_succ]
        refine wpAnyH_done (by kernel_rfl) ?_ _
        try simp only [Act.put]
        try go_simp
        have hS2 := (hS.trans (Stp.below ((Below.refl _ _).drew))).trans (Stp.below hw2)
        go_wp2_with fail
        go_roundw
        case rel => exact ⟨i - 1, N.commit, by go_num, by omega, hS2, by rw [wc_self]; exact hH, hci, .inl ⟨rfl, hCi2⟩⟩
        case measure => simp [intOf]; omega
    · have hcC : c = C := hor.elim (fun e => by rw [e.1, ← e.2.out]; exact (settleAt_no (by rw [← e.1]; exact hgt)).symm) (fun e => e.1)
      subst hcC
      clear hor hC hC0
      have c10 := (show _ = some (Value.int .i64 c) from hN.c10)
      have d1 : decide (i > c) = false := decide_eq_false hgt
      have HL := latestN F nb M lb _ (wc N c) hN hbC
      have HH := fun W a c2 (hA : IA W a N.mems) => hasF N.mems a c2 N.me W hA (by omega)
      have HF := fun W (hW : ND F nb M lb W (wc N c)) => follow_any F nb M lb W _ hW hbC N.k.term (-1) hbt
      have hm0 : (wc N c).mems = N.mems := rfl
      have ha0 : (wc N c).confAt = N.confAt := rfl
      rw [hm0, ha0] at HL
      have hrR := hse.out
      clear hse
      by_cases hac : N.confAt ≤ c
      · have d2 : decide (N.confAt ≤ c) = true := decide_eq_true hac
        by_cases hin : N.me ∈ N.mems
        · rw [if_neg (fun e => e.2 hin)] at hrR
          rw [decide_eq_true hin] at HH
          clear HF hac hin hm0 ha0
          generalize N.mems = L at *
          generalize N.confAt = ca at *
          subst hrR
          go_wp2_with (first
            | (go_at_call 73; refine HL.mono ?_; rintro e w2 ⟨a, c2, rfl, hI, hw2⟩; clear HL; have hN2 := hN.below hw2; have c10b : w2.cell? ⟨nb, 10, none⟩ = some (Value.int .i64 c) := hN2.c10; have c0b : w2.cell? ⟨nb, 0, none⟩ = some (Value.int .i64 N.me) := hN2.c0)
            | (go_at_call 117; refine (HH _ a c2 hI.ia).mono ?_; rintro e w3 ⟨rfl, hw3⟩; clear HH))
          go_end0
          exact ⟨rfl, ((Stp.below hw1).trans hS).trans (Stp.below (bl_ca hw2 hw3)), hN2.below hw3⟩
        · rw [if_pos ⟨hac, hin⟩] at hrR
          rw [decide_eq_false hin] at HH
          clear hac hin hm0 ha0
          generalize N.mems = L at *
          generalize N.confAt = ca at *
          go_wp2_with (first
            | (go_at_call 73; refine HL.mono ?_; rintro e w2 ⟨a, c2, rfl, hI, hw2⟩; clear HL; have hN2 := hN.below hw2; have c10b : w2.cell? ⟨nb, 10, none⟩ = some (Value.int .i64 c) := hN2.c10; have c0b : w2.cell? ⟨nb, 0, none⟩ = some (Value.int .i64 N.me) := hN2.c0)
            | (go_at_call 117; refine (HH _ a c2 hI.ia).mono ?_; rintro e w3 ⟨rfl, hw3⟩; clear HH; have hN3 := hN2.below hw3; have c1b : w3.cell? ⟨nb, 1, none⟩ = some (Value.int .i64 N.k.term) := hN3.c1)
            | (go_at_call 67; refine (HF _ hN3).mono ?_; rintro e w4 ⟨rfl, hS4, hN4⟩; clear HF))
          go_end0
          exact ⟨rfl, (((Stp.below hw1).trans hS).trans (Stp.below (bl_ca hw2 hw3))).trans hS4, by rw [← hrR]; exact hN4⟩
      · have d2 : decide (N.confAt ≤ c) = false := decide_eq_false hac
        rw [if_neg (fun e => hac e.1)] at hrR
        clear HF HH hac hm0 ha0
        generalize N.mems = L at *
        generalize N.confAt = ca at *
        subst hrR
        go_wp2_with (go_at_call 73; refine HL.mono ?_; rintro e w2 ⟨a, c2, rfl, hI, hw2⟩; clear HL; have hN2 := hN.below hw2; have c10b : w2.cell? ⟨nb, 10, none⟩ = some (Value.int .i64 c) := hN2.c10; have c0b : w2.cell? ⟨nb, 0, none⟩ = some (Value.int .i64 N.me) := hN2.c0)
        go_end0
        exact ⟨rfl, ((Stp.below hw1).trans hS).trans (Stp.below hw2), hN2⟩
end
end Go.Proofs.YtnhlejdilldfaaaGreat
