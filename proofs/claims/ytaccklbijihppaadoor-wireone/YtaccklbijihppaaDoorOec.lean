/- What WireOne does. -/
import Derived.Test.YtaccklbijihppaaDoorOea
import Derived.Test.YtaccklbijihppaaDoorRc
namespace Go.Proofs.YtaccklbijihppaaDoor
open Go Go.RowKit
attribute [local go_sem] extract_take n32_shr and1 bits_xor8
set_option maxRecDepth 100000 in
set_option maxHeartbeats 4000000 in
theorem one_check2 (l : List UInt8) (p : Int) (u : BitVec 32) (w : World) (hG : Glob w) (hp1 : -9223372036854775808 ≤ p) (hp2 : p ≤ 9223372036854775807) (hm : p.tmod 2 = 0) (hx0 : ¬ 0 < (fewL l).length) :
    Calls Tryd.prog 8 #[.string ⟨l.toArray⟩, .int .i64 p, .int .u32 (n32 u)] w fun e w' => e = .returned (.bool true) ∧ Below w.heap.size w w' := by
  have hl := fewL_length l
  have HFEW := few_any l w
  have HAW := fun w (hG : Glob w) => awake_any w hG
  generalize fewL l = x at *
  have HU := unframe_any x 0 w hG (by omega)
  have HONE := unframe_one x
  have HFR := fun w (hG : Glob w) => frame_any x w hG (by omega)
  have hfl := frame_length x
  obtain ⟨U, hU⟩ : ∃ U, U = unframe x 0 := ⟨_, rfl⟩
  rw [← hU] at HU HONE
  clear hU
  obtain ⟨t, z, y⟩ := U
  simp only at HU HONE
  have hdm : decide (p.tmod 2 = 0) = true := decide_eq_true hm
  have hdl : decide (0 < (x.length : Int)) = false := decide_eq_false (by omega)
  obtain ⟨first, hf1, hf2, hr1, hr2⟩ := first_of p 32 (by omega)
  have hqb : -4611686018427387904 ≤ p.tdiv 2 ∧ p.tdiv 2 ≤ 4611686018427387903 := by
    by_cases h : 0 ≤ p
    · rw [Int.tdiv_eq_ediv_of_nonneg h]; omega
    · have e : p.tdiv 2 = -((-p) / 2) := by
        rw [show p = -(-p) from by omega, Int.neg_tdiv, Int.tdiv_eq_ediv_of_nonneg (by omega)]
        simp
      rw [e]; omega
  simp only [Int.cast_ofNat_Int] at hf2 hr1 hr2
  have h14 : (wrap64 ((p.tdiv 2).tmod 32 + 32)).tmod 32 = (first : Int) := by
    rw [show wrap64 ((p.tdiv 2).tmod 32 + 32) = (p.tdiv 2).tmod 32 + 32 from by unfold wrap64; omega]
    exact hf2
  clear hf2 hr1 hr2 hqb
  have hHl := num_length 4 x.length
  have hCl := num_length 4 (fcheck x).toNat
  have hFx : frame x = num x.length 4 ++ (num (fcheck x).toNat 4 ++ x) := rfl
  have HLEM := flip_check x first u.toNat (by omega)
  have hL4 := fl_length (num (fcheck x).toNat 4) first u.toNat 32
  generalize num (fcheck x).toNat 4 = C at *
  generalize num x.length 4 = H at *
  rw [hFx] at HFR hfl
  clear hFx
  obtain ⟨L, hL⟩ : ∃ L, L = H ++ (fl C first u.toNat 32 ++ x) := ⟨_, rfl⟩
  have hLl : L.length = 8 + x.length := by rw [hL, List.length_append, List.length_append, hL4, hCl, hHl]; omega
  have HU2 := fun w (hG : Glob w) => unframe_any L 0 w hG (by omega)
  rw [← hL] at HLEM
  have HL : Hid (H ++ (fl C first u.toNat 32 ++ x) = L) := hL.symm
  have HLL : Hid (8 + x.length = L.length) := hLl.symm
  clear hL
  generalize unframe L 0 = V at *
  obtain ⟨t2, z2, y2⟩ := V
  simp only at HU2 HLEM
  obtain ⟨c, hc⟩ : ∃ c, ch C first u.toNat 32 = c := ⟨_, rfl⟩
  rw [hc] at HLEM
  have HCC : Hid (ch C first u.toNat 32 = c) := hc
  clear hc hL4
  by_cases hy : y = 0
  · subst hy
    obtain ⟨nx, hz, hnx, htk, htl⟩ := HONE rfl
    subst hz
    have HRF := fun w => rframe_any t w (by omega)
    rw [← htk] at HRF
    clear HONE htk
    go_enter Tryd.func8, Tryd.ntmps8
    go_wp2_with (first
      | (go_at_call 13; refine HFEW.mono ?_; rintro e w' ⟨rfl, hw'⟩; have hw2' := hw'.symm; subst hw2'; clear hw')
      | (go_at_call 15; refine HU.mono ?_; rintro e w1 ⟨rfl, hB1⟩))
    have hG1 := hG.belowSize hB1
    refine wp_region_any (by kernel_rfl) ?_
    change wpAny _ _ _ _ _ _ _ (World.drew _)
    refine wpAny_ready (rs := [0]) (by kernel_rfl) (by simp) ?_
    refine AllReady.cons (o := ⟨some 29, .call ⟨.value (.func 9), #[], #[]⟩, _, _, _, _⟩) rfl (fun K hK => ?_) AllReady.nil
    rw [if_pos (by rfl)]
    go_simp
    refine (HAW _ hG1.drew).mono ?_
    rintro e w2 ⟨rfl, hw2⟩
    refine hK _ _ ?_
    clear hK K
    have hB2 : Below w.heap.size w w2 := (hB1.drew).trans (hw2.mono hB1.size)
    clear hw2
    refine wpAny_take (i := 1) (oi := ⟨some 30, _, _, _, _, _⟩) (v := .bool false) rfl (by kernel_rfl) (by kernel_rfl) (by kernel_rfl) (fun _ _ _ h => h) (Or.inl ⟨by rfl, fun w => by go_simp⟩) ?_
    refine wpAny_take (i := 2) (oi := ⟨some 31, _, _, _, _, _⟩) (v := .bool false) rfl (by kernel_rfl) (by kernel_rfl) (by kernel_rfl) (fun _ _ _ h => h) (Or.inl ⟨by rfl, fun w => by go_simp⟩) ?_
    simp only [Act.put, List.setIfInBounds_toArray, List.set_cons_zero, List.set_cons_succ]
    refine wpAny_take (i := 3) (oi := ⟨some 32, _, _, _, _, _⟩) (v := .int .i64 0) rfl (by kernel_rfl) (by kernel_rfl) (by kernel_rfl) (fun _ _ _ h => h) (Or.inl ⟨by rfl, fun w => by go_simp⟩) ?_
    refine wpAny_take (i := 4) (oi := ⟨some 33, _, _, _, _, _⟩) (v := .bool true) rfl (by kernel_rfl) (by kernel_rfl) (by kernel_rfl) (fun _ _ _ h => h) (Or.inl ⟨by rfl, fun w => by go_simp⟩) ?_
    refine wpAny_take (i := 5) (oi := ⟨some 34, _, _, _, _, _⟩) (v := .bool true) rfl (by kernel_rfl) (by kernel_rfl) (by kernel_rfl) (fun _ _ _ h => h) (Or.inl ⟨by rfl, fun w => by go_simp⟩) ?_
    simp only [Act.put, List.setIfInBounds_toArray, List.set_cons_zero, List.set_cons_succ]
    refine wpAny_take (i := 6) (oi := ⟨some 35, _, _, _, _, _⟩) (v := .string ⟨x.toArray⟩) rfl (by kernel_rfl) (by kernel_rfl) (by kernel_rfl) (fun _ _ _ h => h) (Or.inl ⟨by rfl, fun w => by go_simp⟩) ?_
    refine wpAny_take (i := 7) (oi := ⟨some 36, _, _, _, _, _⟩) (v := .int .i64 (nx : Nat)) rfl (by kernel_rfl) (by kernel_rfl) (by kernel_rfl) (fun _ _ _ h => h) (Or.inl ⟨by rfl, fun w => by go_simp⟩) ?_
    simp only [Act.put, List.setIfInBounds_toArray, List.set_cons_zero, List.set_cons_succ]
    refine wpAny_take (i := 8) (oi := ⟨some 37, _, _, _, _, _⟩) (v := .string ⟨(x.take nx).toArray⟩) rfl (by kernel_rfl) (by kernel_rfl) (by kernel_rfl) (fun _ _ _ h => h) (Or.inl ⟨by rfl, fun w => by go_simp⟩) ?_
    refine wpAny_take (i := 9) (oi := ⟨some 38, _, _, _, _, _⟩) (v := .string ⟨t.toArray⟩) rfl (by kernel_rfl) (by kernel_rfl) (by kernel_rfl) (fun _ _ _ h => h) (Or.inl ⟨by rfl, fun w => by go_simp⟩) ?_
    simp only [Act.put, List.setIfInBounds_toArray, List.set_cons_zero, List.set_cons_succ]
    refine wpAny_ready (rs := [10]) (by kernel_rfl) (by simp) ?_
    refine AllReady.cons (o := ⟨some 39, .call ⟨.value (.func 18), #[.tmp 38], #[9]⟩, _, _, _, _⟩) rfl (fun K hK => ?_) AllReady.nil
    rw [if_pos (by rfl)]
    go_simp
    refine (HRF _).mono ?_
    rintro e w3 ⟨rfl, hw3⟩
    refine hK _ _ ?_
    clear hK K
    have hB3 : Below w.heap.size w w3 := hB2.trans (hw3.mono hB2.size)
    clear hw3 hB2
    refine wpAny_take (i := 11) (oi := ⟨some 40, _, _, _, _, _⟩) (v := .bool false) rfl (by kernel_rfl) (by kernel_rfl) (by kernel_rfl) (fun _ _ _ h => h) (Or.inl ⟨by rfl, fun w => by go_simp⟩) ?_
    refine wpAny_take (i := 12) (oi := ⟨some 41, _, _, _, _, _⟩) (v := .bool false) rfl (by kernel_rfl) (by kernel_rfl) (by kernel_rfl) (fun _ _ _ h => h) (Or.inl ⟨by rfl, fun w => by go_simp⟩) ?_
    simp only [Act.put, List.setIfInBounds_toArray, List.set_cons_zero, List.set_cons_succ]
    refine wpAny_take (i := 13) (oi := ⟨some 42, _, _, _, _, _⟩) (v := .bool false) rfl (by kernel_rfl) (by kernel_rfl) (by kernel_rfl) (fun _ _ _ h => h) (Or.inl ⟨by rfl, fun w => by go_simp⟩) ?_
    refine wpAny_done (by kernel_rfl) ?_ _
    simp only [Act.put, List.setIfInBounds_toArray, List.set_cons_zero, List.set_cons_succ]
    go_simp
    go_wp2_with (first
      | (go_at_call 17; refine (HFR _ (hG.belowSize hB3)).mono ?_; rintro e w4 ⟨rfl, hw4⟩)
      | (with_reducible refine at_list ?_; refine wpList_strBytes (op := ⟨some 45, _, _, _, _, _⟩) rfl _ _ _ rfl (H ++ (C ++ x)) rfl _ Tryd.underlying9 Tryd.underlying57 Tryd.underlying5 ?_; intro w5 cap hw5 hs5 hb5; replace hs5 := hs5.symm))
    have hB4 : Below w.heap.size w w4 := hB3.trans (hw4.mono hB3.size)
    have hB5 : Below w.heap.size w w5 := hB4.trans (hw5.mono hB4.size)
    have hgl : w.heap.size ≤ w4.heap.size := hB4.size
    clear hw4 hw5 hB4 hB3 hs5
    generalize w4.heap.size = g at *
    go_loopw [15, 16] (fun v15 v16 wl => ∃ k : Nat, k ≤ 32 ∧ v15 = .bool (ch C first u.toNat k) ∧ v16 = .int .i64 k ∧ Below w.heap.size w wl ∧ BS wl g cap (H ++ (fl C first u.toNat k ++ x))) (fun _ v16 _ => 32 - (intOf v16).toNat)
    case atStart => exact ⟨0, by omega, rfl, rfl, hB5, hb5⟩
    case round =>
      obtain ⟨k, hk, rfl, rfl, hBl, hbs⟩ := hrel
      clear hB5 hb5
      by_cases hlt : k < 32
      · have hfl := fl_length C first u.toNat k
        have hsh := low_bit u k
        have hka := wrap_u64_nat k (by omega)
        by_cases hb : first + k < 32
        · have hdb : decide ((first : Int) + (k : Int) < 32) = true := decide_eq_true (by omega)
          cases htb : u.toNat.testBit k with
          | true =>
            rw [htb, if_pos rfl] at hsh
            have HH : Hid (fl C first u.toNat (k + 1) = flip (fl C first u.toNat k) (first + k)) := by
              rw [fl, if_pos (by unfold hit; rw [htb, decide_eq_true (by omega)]; rfl)]; exact rfl
            have HC : Hid (ch C first u.toNat (k + 1) = true) := by
              rw [ch, if_pos (by unfold hit; rw [htb, decide_eq_true (by omega)]; rfl)]; exact rfl
            clear htb
            generalize fl C first u.toNat k = A at *
            have hj : (first + k) / 8 < A.length := by omega
            have h93 := pow8 ((first + k) % 8) (by omega)
            have HSet : Hid ((H ++ (A ++ x)).set (4 + (first + k) / 8) (byteOf A ((first + k) / 8) ^^^ bit8 ((first + k) % 8)) = H ++ (flip A (first + k) ++ x)) := by
              have := set_mid H A x ((first + k) / 8) (byteOf A ((first + k) / 8) ^^^ bit8 ((first + k) % 8)) hj
              rw [hHl] at this
              exact this
            have HBy : Hid (byteOf (H ++ (A ++ x)) (4 + (first + k) / 8) = byteOf A ((first + k) / 8)) := by
              have := byteOf_mid H A x ((first + k) / 8) hj
              rw [hHl] at this
              exact this
            have HLen : Hid (4 + (first + k) / 8 < (H ++ (A ++ x)).length) := by
              have : 4 + (first + k) / 8 < (H ++ (A ++ x)).length := by rw [List.length_append, List.length_append, hHl]; omega
              exact this
            go_wp2_with (with_reducible refine at_list ?_; first
              | (refine wpList_addrS (op := ⟨some 88, _, _, _, _, _⟩) rfl _ _ _ rfl g 0 _ cap rfl .i64 _ rfl (4 + (first + k) / 8) _ Tryd.underlying57 i5 (by omega) (by omega) ?_; rw [Nat.zero_add])
              | (refine wpList_loadBS (op := ⟨some 89, _, _, _, _, _⟩) rfl _ _ rfl g cap (4 + (first + k) / 8) _ hbs HLen.out rfl _ Tryd.underlying5 rfl ?_; rw [HBy.out])
              | (refine wpList_addrS (op := ⟨some 95, _, _, _, _, _⟩) rfl _ _ _ rfl g 0 _ cap rfl .i64 _ rfl (4 + (first + k) / 8) _ Tryd.underlying57 i5 (by omega) (by omega) ?_; rw [Nat.zero_add])
              | (go_simp; refine wpList_storeBS (op := ⟨none, .store 5 (.tmp 95) (.tmp 94), _, _, _, _⟩) rfl _ _ _ rfl g cap (4 + (first + k) / 8) _ hbs HLen.out rfl (byteOf A ((first + k) / 8) ^^^ bit8 ((first + k) % 8)) rfl i5 ?_; intro w6 hg6 hs6 hbs6; rw [HSet.out] at hbs6))
            go_roundw
            case rel => exact ⟨k + 1, by omega, by rw [HC.out], by go_num, hBl.trans (below_of_grown hg6 hgl hBl.size), by rw [HH.out]; exact hbs6⟩
            case measure => simp [intOf]; omega
          | false =>
            rw [htb, if_neg (by simp)] at hsh
            have HH : Hid (fl C first u.toNat (k + 1) = fl C first u.toNat k) := by
              rw [fl, if_neg (by unfold hit; rw [htb]; simp)]; exact rfl
            have HC : Hid (ch C first u.toNat (k + 1) = ch C first u.toNat k) := by
              rw [ch, if_neg (by unfold hit; rw [htb]; simp)]; exact rfl
            clear htb
            generalize fl C first u.toNat k = A at *
            generalize ch C first u.toNat k = c at *
            go_wp2_with fail
            go_roundw
            case rel => exact ⟨k + 1, by omega, by rw [HC.out], by go_num, hBl, by rw [HH.out]; exact hbs⟩
            case measure => simp [intOf]; omega
        · have hdb : decide ((first : Int) + (k : Int) < 32) = false := decide_eq_false (by omega)
          have HH : Hid (fl C first u.toNat (k + 1) = fl C first u.toNat k) := by
            rw [fl, if_neg (by unfold hit; rw [decide_eq_false (by omega)]; simp)]; exact rfl
          have HC : Hid (ch C first u.toNat (k + 1) = ch C first u.toNat k) := by
            rw [ch, if_neg (by unfold hit; rw [decide_eq_false (by omega)]; simp)]; exact rfl
          generalize fl C first u.toNat k = A at *
          generalize ch C first u.toNat k = c at *
          clear hsh
          go_wp2_with fail
          go_roundw
          case rel => exact ⟨k + 1, by omega, by rw [HC.out], by go_num, hBl, by rw [HH.out]; exact hbs⟩
          case measure => simp [intOf]; omega
      · obtain rfl : k = 32 := by omega
        rw [HL.out] at hbs
        rw [HCC.out]
        have hbs2 := hbs
        clear hbs
        go_wp2_with (first
          | (go_at_call 15; refine (HU2 _ (hG.belowSize hBl)).mono ?_; rintro e w9 ⟨rfl, hw9⟩)
          | (with_reducible refine at_list ?_; refine wpList_bslString (op := ⟨some 98, _, _, _, _, _⟩) rfl _ _ _ rfl g _ cap L hbs2 HLL.out rfl _ Tryd.underlying57 Tryd.underlying5 Tryd.underlying9 ?_))
        have hfin : Below w.heap.size w w9 := hBl.trans (hw9.mono hBl.size)
        go_ret
        refine ⟨?_, hfin⟩
        show Ending.returned (.bool (!((y2 == 0) == c))) = _
        cases c with
        | false => rw [beq_iff_eq.2 (HLEM.2 rfl)]; rfl
        | true =>
          have : ¬ y2 = 0 := fun e => by cases HLEM.1 e
          rw [beq_eq_false_iff_ne.2 this]; rfl
  · have hd : decide (y = 0) = false := decide_eq_false hy
    have hbq : (y == 0) = false := by simpa using hy
    clear HONE
    go_enter Tryd.func8, Tryd.ntmps8
    go_wp2_with (first
      | (go_at_call 13; refine HFEW.mono ?_; rintro e w' ⟨rfl, hw'⟩; have hw2' := hw'.symm; subst hw2'; clear hw')
      | (go_at_call 15; refine HU.mono ?_; rintro e w1 ⟨rfl, hB1⟩))
    have hG1 := hG.belowSize hB1
    refine wp_region_any (by kernel_rfl) ?_
    change wpAny _ _ _ _ _ _ _ (World.drew _)
    refine wpAny_ready (rs := [0]) (by kernel_rfl) (by simp) ?_
    refine AllReady.cons (o := ⟨some 29, .call ⟨.value (.func 9), #[], #[]⟩, _, _, _, _⟩) rfl (fun K hK => ?_) AllReady.nil
    rw [if_pos (by rfl)]
    go_simp
    refine (HAW _ hG1.drew).mono ?_
    rintro e w2 ⟨rfl, hw2⟩
    refine hK _ _ ?_
    clear hK K
    have hB2 : Below w.heap.size w w2 := (hB1.drew).trans (hw2.mono hB1.size)
    clear hw2
    refine wpAny_take (i := 1) (oi := ⟨some 30, _, _, _, _, _⟩) (v := .bool false) rfl (by kernel_rfl) (by kernel_rfl) (by kernel_rfl) (fun _ _ _ h => h) (Or.inl ⟨by rfl, fun w => by go_simp⟩) ?_
    refine wpAny_take (i := 2) (oi := ⟨some 31, _, _, _, _, _⟩) (v := .bool false) rfl (by kernel_rfl) (by kernel_rfl) (by kernel_rfl) (fun _ _ _ h => h) (Or.inl ⟨by rfl, fun w => by go_simp⟩) ?_
    simp only [Act.put, List.setIfInBounds_toArray, List.set_cons_zero, List.set_cons_succ]
    refine wpAny_take (i := 3) (oi := ⟨some 32, _, _, _, _, _⟩) (v := .int .i64 y) rfl (by kernel_rfl) (by kernel_rfl) (by kernel_rfl) (fun _ _ _ h => h) (Or.inl ⟨by rfl, fun w => by go_simp⟩) ?_
    refine wpAny_take (i := 4) (oi := ⟨some 33, _, _, _, _, _⟩) (v := .bool false) rfl (by kernel_rfl) (by kernel_rfl) (by kernel_rfl) (fun _ _ _ h => h) (Or.inl ⟨by rfl, fun w => by go_simp⟩) ?_
    refine wpAny_take (i := 5) (oi := ⟨some 34, _, _, _, _, _⟩) (v := .bool false) rfl (by kernel_rfl) (by kernel_rfl) (by kernel_rfl) (fun _ _ _ h => h) (Or.inl ⟨by rfl, fun w => by go_simp⟩) ?_
    simp only [Act.put, List.setIfInBounds_toArray, List.set_cons_zero, List.set_cons_succ]
    refine wpAny_take (i := 6) (oi := ⟨some 35, _, _, _, _, _⟩) (v := undef) rfl (by kernel_rfl) (by kernel_rfl) (by kernel_rfl) (fun _ _ _ h => h) (Or.inr ⟨by rfl, rfl⟩) ?_
    refine wpAny_take (i := 7) (oi := ⟨some 36, _, _, _, _, _⟩) (v := undef) rfl (by kernel_rfl) (by kernel_rfl) (by kernel_rfl) (fun _ _ _ h => h) (Or.inr ⟨by rfl, rfl⟩) ?_
    refine wpAny_take (i := 8) (oi := ⟨some 37, _, _, _, _, _⟩) (v := undef) rfl (by kernel_rfl) (by kernel_rfl) (by kernel_rfl) (fun _ _ _ h => h) (Or.inr ⟨by rfl, rfl⟩) ?_
    refine wpAny_take (i := 9) (oi := ⟨some 38, _, _, _, _, _⟩) (v := undef) rfl (by kernel_rfl) (by kernel_rfl) (by kernel_rfl) (fun _ _ _ h => h) (Or.inr ⟨by rfl, rfl⟩) ?_
    refine wpAny_take (i := 10) (oi := ⟨some 39, _, _, _, _, _⟩) (v := undef) rfl (by kernel_rfl) (by kernel_rfl) (by kernel_rfl) (fun _ _ _ h => h) (Or.inr ⟨by rfl, rfl⟩) ?_
    refine wpAny_take (i := 11) (oi := ⟨some 40, _, _, _, _, _⟩) (v := undef) rfl (by kernel_rfl) (by kernel_rfl) (by kernel_rfl) (fun _ _ _ h => h) (Or.inr ⟨by rfl, rfl⟩) ?_
    refine wpAny_take (i := 12) (oi := ⟨some 41, _, _, _, _, _⟩) (v := .bool false) rfl (by kernel_rfl) (by kernel_rfl) (by kernel_rfl) (fun _ _ _ h => h) (Or.inl ⟨by rfl, fun w => by go_simp⟩) ?_
    simp only [Act.put, List.setIfInBounds_toArray, List.set_cons_zero, List.set_cons_succ]
    refine wpAny_take (i := 13) (oi := ⟨some 42, _, _, _, _, _⟩) (v := .bool false) rfl (by kernel_rfl) (by kernel_rfl) (by kernel_rfl) (fun _ _ _ h => h) (Or.inl ⟨by rfl, fun w => by go_simp⟩) ?_
    refine wpAny_done (by kernel_rfl) ?_ _
    simp only [Act.put, List.setIfInBounds_toArray, List.set_cons_zero, List.set_cons_succ]
    have hB3 := hB2
    clear hB2
    go_simp
    go_wp2_with (first
      | (go_at_call 17; refine (HFR _ (hG.belowSize hB3)).mono ?_; rintro e w4 ⟨rfl, hw4⟩)
      | (with_reducible refine at_list ?_; refine wpList_strBytes (op := ⟨some 45, _, _, _, _, _⟩) rfl _ _ _ rfl (H ++ (C ++ x)) rfl _ Tryd.underlying9 Tryd.underlying57 Tryd.underlying5 ?_; intro w5 cap hw5 hs5 hb5; replace hs5 := hs5.symm))
    have hB4 : Below w.heap.size w w4 := hB3.trans (hw4.mono hB3.size)
    have hB5 : Below w.heap.size w w5 := hB4.trans (hw5.mono hB4.size)
    have hgl : w.heap.size ≤ w4.heap.size := hB4.size
    clear hw4 hw5 hB4 hB3 hs5
    generalize w4.heap.size = g at *
    go_loopw [15, 16] (fun v15 v16 wl => ∃ k : Nat, k ≤ 32 ∧ v15 = .bool (ch C first u.toNat k) ∧ v16 = .int .i64 k ∧ Below w.heap.size w wl ∧ BS wl g cap (H ++ (fl C first u.toNat k ++ x))) (fun _ v16 _ => 32 - (intOf v16).toNat)
    case atStart => exact ⟨0, by omega, rfl, rfl, hB5, hb5⟩
    case round =>
      obtain ⟨k, hk, rfl, rfl, hBl, hbs⟩ := hrel
      clear hB5 hb5
      by_cases hlt : k < 32
      · have hfl := fl_length C first u.toNat k
        have hsh := low_bit u k
        have hka := wrap_u64_nat k (by omega)
        by_cases hb : first + k < 32
        · have hdb : decide ((first : Int) + (k : Int) < 32) = true := decide_eq_true (by omega)
          cases htb : u.toNat.testBit k with
          | true =>
            rw [htb, if_pos rfl] at hsh
            have HH : Hid (fl C first u.toNat (k + 1) = flip (fl C first u.toNat k) (first + k)) := by
              rw [fl, if_pos (by unfold hit; rw [htb, decide_eq_true (by omega)]; rfl)]; exact rfl
            have HC : Hid (ch C first u.toNat (k + 1) = true) := by
              rw [ch, if_pos (by unfold hit; rw [htb, decide_eq_true (by omega)]; rfl)]; exact rfl
            clear htb
            generalize fl C first u.toNat k = A at *
            have hj : (first + k) / 8 < A.length := by omega
            have h93 := pow8 ((first + k) % 8) (by omega)
            have HSet : Hid ((H ++ (A ++ x)).set (4 + (first + k) / 8) (byteOf A ((first + k) / 8) ^^^ bit8 ((first + k) % 8)) = H ++ (flip A (first + k) ++ x)) := by
              have := set_mid H A x ((first + k) / 8) (byteOf A ((first + k) / 8) ^^^ bit8 ((first + k) % 8)) hj
              rw [hHl] at this
              exact this
            have HBy : Hid (byteOf (H ++ (A ++ x)) (4 + (first + k) / 8) = byteOf A ((first + k) / 8)) := by
              have := byteOf_mid H A x ((first + k) / 8) hj
              rw [hHl] at this
              exact this
            have HLen : Hid (4 + (first + k) / 8 < (H ++ (A ++ x)).length) := by
              have : 4 + (first + k) / 8 < (H ++ (A ++ x)).length := by rw [List.length_append, List.length_append, hHl]; omega
              exact this
            go_wp2_with (with_reducible refine at_list ?_; first
              | (refine wpList_addrS (op := ⟨some 88, _, _, _, _, _⟩) rfl _ _ _ rfl g 0 _ cap rfl .i64 _ rfl (4 + (first + k) / 8) _ Tryd.underlying57 i5 (by omega) (by omega) ?_; rw [Nat.zero_add])
              | (refine wpList_loadBS (op := ⟨some 89, _, _, _, _, _⟩) rfl _ _ rfl g cap (4 + (first + k) / 8) _ hbs HLen.out rfl _ Tryd.underlying5 rfl ?_; rw [HBy.out])
              | (refine wpList_addrS (op := ⟨some 95, _, _, _, _, _⟩) rfl _ _ _ rfl g 0 _ cap rfl .i64 _ rfl (4 + (first + k) / 8) _ Tryd.underlying57 i5 (by omega) (by omega) ?_; rw [Nat.zero_add])
              | (go_simp; refine wpList_storeBS (op := ⟨none, .store 5 (.tmp 95) (.tmp 94), _, _, _, _⟩) rfl _ _ _ rfl g cap (4 + (first + k) / 8) _ hbs HLen.out rfl (byteOf A ((first + k) / 8) ^^^ bit8 ((first + k) % 8)) rfl i5 ?_; intro w6 hg6 hs6 hbs6; rw [HSet.out] at hbs6))
            go_roundw
            case rel => exact ⟨k + 1, by omega, by rw [HC.out], by go_num, hBl.trans (below_of_grown hg6 hgl hBl.size), by rw [HH.out]; exact hbs6⟩
            case measure => simp [intOf]; omega
          | false =>
            rw [htb, if_neg (by simp)] at hsh
            have HH : Hid (fl C first u.toNat (k + 1) = fl C first u.toNat k) := by
              rw [fl, if_neg (by unfold hit; rw [htb]; simp)]; exact rfl
            have HC : Hid (ch C first u.toNat (k + 1) = ch C first u.toNat k) := by
              rw [ch, if_neg (by unfold hit; rw [htb]; simp)]; exact rfl
            clear htb
            generalize fl C first u.toNat k = A at *
            generalize ch C first u.toNat k = c at *
            go_wp2_with fail
            go_roundw
            case rel => exact ⟨k + 1, by omega, by rw [HC.out], by go_num, hBl, by rw [HH.out]; exact hbs⟩
            case measure => simp [intOf]; omega
        · have hdb : decide ((first : Int) + (k : Int) < 32) = false := decide_eq_false (by omega)
          have HH : Hid (fl C first u.toNat (k + 1) = fl C first u.toNat k) := by
            rw [fl, if_neg (by unfold hit; rw [decide_eq_false (by omega)]; simp)]; exact rfl
          have HC : Hid (ch C first u.toNat (k + 1) = ch C first u.toNat k) := by
            rw [ch, if_neg (by unfold hit; rw [decide_eq_false (by omega)]; simp)]; exact rfl
          generalize fl C first u.toNat k = A at *
          generalize ch C first u.toNat k = c at *
          clear hsh
          go_wp2_with fail
          go_roundw
          case rel => exact ⟨k + 1, by omega, by rw [HC.out], by go_num, hBl, by rw [HH.out]; exact hbs⟩
          case measure => simp [intOf]; omega
      · obtain rfl : k = 32 := by omega
        rw [HL.out] at hbs
        rw [HCC.out]
        have hbs2 := hbs
        clear hbs
        go_wp2_with (first
          | (go_at_call 15; refine (HU2 _ (hG.belowSize hBl)).mono ?_; rintro e w9 ⟨rfl, hw9⟩)
          | (with_reducible refine at_list ?_; refine wpList_bslString (op := ⟨some 98, _, _, _, _, _⟩) rfl _ _ _ rfl g _ cap L hbs2 HLL.out rfl _ Tryd.underlying57 Tryd.underlying5 Tryd.underlying9 ?_))
        have hfin : Below w.heap.size w w9 := hBl.trans (hw9.mono hBl.size)
        go_ret
        refine ⟨?_, hfin⟩
        show Ending.returned (.bool (!((y2 == 0) == c))) = _
        cases c with
        | false => rw [beq_iff_eq.2 (HLEM.2 rfl)]; rfl
        | true =>
          have : ¬ y2 = 0 := fun e => by cases HLEM.1 e
          rw [beq_eq_false_iff_ne.2 this]; rfl
end Go.Proofs.YtaccklbijihppaaDoor
