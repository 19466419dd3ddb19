/- What MacSeals does. -/
import Derived.Test.YtminjelnbnajhaaDoorRt
import Derived.Test.YtminjelnbnajhaaDoorOpn
namespace Go.Proofs.YtminjelnbnajhaaDoor
open Go.RowKit
theorem openV_ok {k x t : List UInt8} (h : hmac k x = t) : openV k x t = .tuple #[.string ⟨x.toArray⟩, .int .i64 0] := by unfold openV; rw [if_pos h]
theorem openV_bad {k x t : List UInt8} (h : ¬ hmac k x = t) : openV k x t = .tuple #[.string ⟨#[]⟩, .int .i64 20] := by unfold openV; rw [if_neg h]
attribute [local go_sem] mkApp2 ext_left ext_right
set_option maxRecDepth 100000 in
set_option maxHeartbeats 1000000 in
theorem macSeals_any (k0 o0 s raw : List UInt8) (w : World) (hG : Glob w) : Calls Tryd.prog 5 #[.agg #[.string ⟨k0.toArray⟩, .string ⟨o0.toArray⟩], .string ⟨s.toArray⟩, .string ⟨raw.toArray⟩] w fun e w' => e = .returned (.bool true) ∧ Below w.heap.size w w' := by
  have hlk := fewL_length k0
  have hlo := fewL_length o0
  have hls := fewL_length s
  have hlr := fewL_length raw
  go_enter Tryd.func5, Tryd.ntmps5
  go_wp2_with (with_reducible refine at_list ?_; refine wpList_boxRow rfl _ _ rfl _ rfl ?_; intro w1 hw1 hs1 hb1; replace hs1 := hs1.symm)
  have c0 : w1.cell? ⟨w.heap.size, 0, none⟩ = some (.string ⟨k0.toArray⟩) := (hb1.cell 0)
  have c1 : w1.cell? ⟨w.heap.size, 1, none⟩ = some (.string ⟨o0.toArray⟩) := (hb1.cell 1)
  go_quiet ((go_at_call 13; refine Calls.quiet_of_same (few_any _ _)))
  have hBc : Below w.heap.size w (w1.drewN nq) := below_draws hw1 nq
  have hGc : Glob (w1.drewN nq) := (hG.belowSize hw1).drewN nq
  generalize w1.drewN nq = wc at *
  clear hw1 hs1 hb1 c0 c1 hG
  generalize fewL k0 = k at *
  generalize fewL o0 = o at *
  generalize fewL s = t at *
  generalize fewL raw = b at *
  obtain ⟨T, hT⟩ : ∃ T, T = hmac k t := ⟨_, rfl⟩
  obtain ⟨U, hU⟩ : ∃ U, U = hmac o t := ⟨_, rfl⟩
  have hTl : T.length = 32 := by rw [hT]; exact hmac_length _ _
  have HT : Hid (hmac k t = T) := hT.symm
  have HU : Hid (hmac o t = U) := hU.symm
  have HL : Hid (T.length = 32) := hTl
  have hTle : T.length ≤ 32 := by omega
  have HO1 : Hid (openV k t T = .tuple #[.string ⟨t.toArray⟩, .int .i64 0]) := openV_ok hT.symm
  obtain ⟨fv, HF⟩ : ∃ fv, fv = U := ⟨U, rfl⟩
  clear hT hU hTl
  by_cases hA : U = T
  case' pos =>
    have HO2 : Hid (openV o t T = .tuple #[.string ⟨t.toArray⟩, .int .i64 0]) := openV_ok (HU.out.trans hA)
    have hA' := hA.symm
    clear hA
    subst hA'
  case' neg =>
    have HO2 : Hid (openV o t T = .tuple #[.string ⟨#[]⟩, .int .i64 20]) := openV_bad (fun h => hA (HU.out.symm.trans h))
    have a1 : (U == T) = false := beq_eq_false_iff_ne.2 hA
    have a2 : decide (U = T) = false := decide_eq_false hA
  all_goals
    clear HF fv
    go_wp2_with (first
      | (go_at_call 18; refine (seal_any k t _ hGc (by omega) (by omega)).mono ?_; rintro e w2 ⟨rfl, hw2⟩; replace hBc := hBc.trans (hw2.mono hBc.size); replace hGc := hGc.belowSize hw2; clear hw2; rw [HT.out])
      | (go_at_call_of 19 (Value.string ⟨o.toArray⟩); refine (open_any o t T _ hGc (by omega) (by omega) HL.out).mono ?_; rintro e w2 ⟨rfl, hw2⟩; replace hBc := hBc.trans (hw2.mono hBc.size); replace hGc := hGc.belowSize hw2; clear hw2; rw [HO2.out])
      | (go_at_call_of 19 (Value.string ⟨(t ++ T).toArray⟩); refine (open_any k t T _ hGc (by omega) (by omega) HL.out).mono ?_; rintro e w2 ⟨rfl, hw2⟩; replace hBc := hBc.trans (hw2.mono hBc.size); replace hGc := hGc.belowSize hw2; clear hw2; rw [HO1.out])
      | (go_at_call 15; refine (awake_any _ hGc).mono ?_; rintro e w2 ⟨rfl, hw2⟩; replace hBc := hBc.trans (hw2.mono hBc.size); replace hGc := hGc.belowSize hw2; clear hw2)
      | (go_at_call_of 16 (Value.string ⟨k.toArray⟩); refine (rtag_any k t _ (by omega) (by omega)).mono ?_; rintro e w2 ⟨rfl, hw2⟩; replace hBc := hBc.trans (hw2.mono hBc.size); replace hGc := hGc.belowSize hw2; clear hw2; rw [HT.out])
      | (go_at_call_of 16 (Value.string ⟨o.toArray⟩); refine (rtag_any o t _ (by omega) (by omega)).mono ?_; rintro e w2 ⟨rfl, hw2⟩; replace hBc := hBc.trans (hw2.mono hBc.size); replace hGc := hGc.belowSize hw2; clear hw2; rw [HU.out]))
  all_goals
    clear HT HU HL hTle HO1 HO2
    first | clear a1 a2 hA | skip
    by_cases hb : b.length < 32
    · refine (open_cut k b _ hb).mono ?_
      rintro e w3 ⟨rfl, hw3⟩
      have hw4 := hw3.symm
      subst hw4
      clear hw3
      go_wp2_with fail
      go_ret
      exact ⟨rfl, hBc⟩
    · obtain ⟨x, tg, hx, htg⟩ : ∃ x tg : List UInt8, b = x ++ tg ∧ tg.length = 32 := ⟨b.take (b.length - 32), b.drop (b.length - 32), (List.take_append_drop _ _).symm, by rw [List.length_drop]; omega⟩
      subst hx
      rw [List.length_append] at hlr hb
      have hxl : x.length ≤ 1000 := by omega
      clear hlr hb
      refine (open_any k x tg _ hGc (by omega) (by omega) htg).mono ?_
      rintro e w3 ⟨rfl, hw3⟩
      replace hBc := hBc.trans (hw3.mono hBc.size)
      replace hGc := hGc.belowSize hw3
      clear hw3
      obtain ⟨X, hX⟩ : ∃ X, X = hmac k x := ⟨_, rfl⟩
      have HX : Hid (hmac k x = X) := hX.symm
      by_cases hC : X = tg
      · rw [openV_ok (hX.symm.trans hC)]
        clear hX
        have hC' := hC.symm
        clear hC
        subst hC'
        have hx1 := ext_left x tg
        have hx2 := ext_right x tg (x.length + 32) (by rw [htg])
        go_wp2_with fail
        refine wp_region_any (by kernel_rfl) ?_
        change wpAny _ _ _ _ _ _ _ (World.drew _)
        refine wpAny_take (i := 0) (oi := ⟨some 93, _, _, _, _, _⟩) (v := .string ⟨k.toArray⟩) rfl (by kernel_rfl) (by kernel_rfl) (by kernel_rfl) (fun _ _ _ h => h) (Or.inl ⟨by rfl, fun w => by go_simp⟩) ?_
        refine wpAny_take (i := 1) (oi := ⟨some 94, _, _, _, _, _⟩) (v := .string ⟨(x ++ tg).toArray⟩) rfl (by kernel_rfl) (by kernel_rfl) (by kernel_rfl) (fun _ _ _ h => h) (Or.inl ⟨by rfl, fun w => by go_simp⟩) ?_
        refine wpAny_take (i := 2) (oi := ⟨some 95, _, _, _, _, _⟩) (v := .int .i64 (x.length : Int)) rfl (by kernel_rfl) (by kernel_rfl) (by kernel_rfl) (fun _ _ _ h => h) (Or.inl ⟨by rfl, fun w => by go_simp⟩) ?_
        refine wpAny_take (i := 3) (oi := ⟨some 96, _, _, _, _, _⟩) (v := .string ⟨x.toArray⟩) rfl (by kernel_rfl) (by kernel_rfl) (by kernel_rfl) (fun _ _ _ h => h) (Or.inl ⟨by rfl, fun w => by go_simp; intro h; omega⟩) ?_
        refine wpAny_take (i := 5) (oi := ⟨some 98, _, _, _, _, _⟩) (v := .string ⟨(x ++ tg).toArray⟩) rfl (by kernel_rfl) (by kernel_rfl) (by kernel_rfl) (fun _ _ _ h => h) (Or.inl ⟨by rfl, fun w => by go_simp⟩) ?_
        refine wpAny_take (i := 6) (oi := ⟨some 99, _, _, _, _, _⟩) (v := .int .i64 (x.length : Int)) rfl (by kernel_rfl) (by kernel_rfl) (by kernel_rfl) (fun _ _ _ h => h) (Or.inl ⟨by rfl, fun w => by go_simp⟩) ?_
        refine wpAny_take (i := 7) (oi := ⟨some 100, _, _, _, _, _⟩) (v := .string ⟨tg.toArray⟩) rfl (by kernel_rfl) (by kernel_rfl) (by kernel_rfl) (fun _ _ _ h => h) (Or.inl ⟨by rfl, fun w => by go_simp; intro h; omega⟩) ?_
        simp only [Act.put, List.setIfInBounds_toArray, List.set_cons_zero, List.set_cons_succ]
        refine wpAny_ready (rs := [4]) (by kernel_rfl) (by simp) ?_
        refine AllReady.cons (o := ⟨some 97, .call ⟨.value (.func 16), #[.tmp 93, .tmp 96], #[9, 9]⟩, _, _, _, _⟩) rfl (fun K hK => ?_) AllReady.nil
        rw [if_pos (by rfl)]
        go_simp
        refine (rtag_any k x _ (by omega) (by omega)).mono ?_
        rintro e w4 ⟨rfl, hw4⟩
        rw [HX.out]
        refine hK _ _ ?_
        clear hK K
        refine wpAny_take (i := 8) (oi := ⟨some 101, _, _, _, _, _⟩) (v := .bool false) rfl (by kernel_rfl) (by kernel_rfl) (by kernel_rfl) (fun _ _ _ h => h) (Or.inl ⟨by rfl, fun w => by go_simp⟩) ?_
        refine wpAny_take (i := 9) (oi := ⟨some 92, _, _, _, _, _⟩) (v := .bool false) rfl (by kernel_rfl) (by kernel_rfl) (by kernel_rfl) (fun _ _ _ h => h) (Or.inl ⟨by rfl, fun w => by go_simp⟩) ?_
        refine wpAny_done (by kernel_rfl) ?_ _
        have hBd := hBc.trans (((Below.refl _ _).drew.trans hw4).mono hBc.size)
        clear hw4 hBc hGc
        simp only [Act.put, List.setIfInBounds_toArray, List.set_cons_zero, List.set_cons_succ]
        go_simp
        go_wp2_with fail
        go_ret
        exact ⟨rfl, hBd⟩
      · rw [openV_bad (fun h => hC (hX.trans h))]
        clear hX
        have e1 : (X == tg) = false := beq_eq_false_iff_ne.2 hC
        have e2 : decide (X = tg) = false := decide_eq_false hC
        have hx1 := ext_left x tg
        have hx2 := ext_right x tg (x.length + 32) (by rw [htg])
        go_wp2_with fail
        refine wp_region_any (by kernel_rfl) ?_
        change wpAny _ _ _ _ _ _ _ (World.drew _)
        refine wpAny_take (i := 0) (oi := ⟨some 93, _, _, _, _, _⟩) (v := .string ⟨k.toArray⟩) rfl (by kernel_rfl) (by kernel_rfl) (by kernel_rfl) (fun _ _ _ h => h) (Or.inl ⟨by rfl, fun w => by go_simp⟩) ?_
        refine wpAny_take (i := 1) (oi := ⟨some 94, _, _, _, _, _⟩) (v := .string ⟨(x ++ tg).toArray⟩) rfl (by kernel_rfl) (by kernel_rfl) (by kernel_rfl) (fun _ _ _ h => h) (Or.inl ⟨by rfl, fun w => by go_simp⟩) ?_
        refine wpAny_take (i := 2) (oi := ⟨some 95, _, _, _, _, _⟩) (v := .int .i64 (x.length : Int)) rfl (by kernel_rfl) (by kernel_rfl) (by kernel_rfl) (fun _ _ _ h => h) (Or.inl ⟨by rfl, fun w => by go_simp⟩) ?_
        refine wpAny_take (i := 3) (oi := ⟨some 96, _, _, _, _, _⟩) (v := .string ⟨x.toArray⟩) rfl (by kernel_rfl) (by kernel_rfl) (by kernel_rfl) (fun _ _ _ h => h) (Or.inl ⟨by rfl, fun w => by go_simp; intro h; omega⟩) ?_
        refine wpAny_take (i := 5) (oi := ⟨some 98, _, _, _, _, _⟩) (v := .string ⟨(x ++ tg).toArray⟩) rfl (by kernel_rfl) (by kernel_rfl) (by kernel_rfl) (fun _ _ _ h => h) (Or.inl ⟨by rfl, fun w => by go_simp⟩) ?_
        refine wpAny_take (i := 6) (oi := ⟨some 99, _, _, _, _, _⟩) (v := .int .i64 (x.length : Int)) rfl (by kernel_rfl) (by kernel_rfl) (by kernel_rfl) (fun _ _ _ h => h) (Or.inl ⟨by rfl, fun w => by go_simp⟩) ?_
        refine wpAny_take (i := 7) (oi := ⟨some 100, _, _, _, _, _⟩) (v := .string ⟨tg.toArray⟩) rfl (by kernel_rfl) (by kernel_rfl) (by kernel_rfl) (fun _ _ _ h => h) (Or.inl ⟨by rfl, fun w => by go_simp; intro h; omega⟩) ?_
        simp only [Act.put, List.setIfInBounds_toArray, List.set_cons_zero, List.set_cons_succ]
        refine wpAny_ready (rs := [4]) (by kernel_rfl) (by simp) ?_
        refine AllReady.cons (o := ⟨some 97, .call ⟨.value (.func 16), #[.tmp 93, .tmp 96], #[9, 9]⟩, _, _, _, _⟩) rfl (fun K hK => ?_) AllReady.nil
        rw [if_pos (by rfl)]
        go_simp
        refine (rtag_any k x _ (by omega) (by omega)).mono ?_
        rintro e w4 ⟨rfl, hw4⟩
        rw [HX.out]
        refine hK _ _ ?_
        clear hK K
        refine wpAny_take (i := 8) (oi := ⟨some 101, _, _, _, _, _⟩) (v := .bool true) rfl (by kernel_rfl) (by kernel_rfl) (by kernel_rfl) (fun _ _ _ h => h) (Or.inl ⟨by rfl, fun w => by go_simp⟩) ?_
        refine wpAny_take (i := 9) (oi := ⟨some 92, _, _, _, _, _⟩) (v := .bool true) rfl (by kernel_rfl) (by kernel_rfl) (by kernel_rfl) (fun _ _ _ h => h) (Or.inl ⟨by rfl, fun w => by go_simp⟩) ?_
        refine wpAny_done (by kernel_rfl) ?_ _
        have hBd := hBc.trans (((Below.refl _ _).drew.trans hw4).mono hBc.size)
        clear hw4 hBc hGc
        simp only [Act.put, List.setIfInBounds_toArray, List.set_cons_zero, List.set_cons_succ]
        go_simp
        go_wp2_with fail
        go_ret
        exact ⟨rfl, hBd⟩
end Go.Proofs.YtminjelnbnajhaaDoor
