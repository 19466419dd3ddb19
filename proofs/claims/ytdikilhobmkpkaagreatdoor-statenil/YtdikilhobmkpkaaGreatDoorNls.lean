/- What StateNil does. -/
import Derived.Test.YtdikilhobmkpkaaGreatDoorAws
namespace Go.Proofs.YtdikilhobmkpkaaGreatDoor
open Go Go.RowKit Go.Maps Go.Shelf
attribute [local go_sem] Oper.semAt_some
set_option maxRecDepth 100000 in
set_option maxHeartbeats 2000000 in
theorem stateNil_any (c n : Nat) (sl : Value) (key : List UInt8) (w : World) (hG : Sh.Glob w) (hc : c < 18446744073709551616) (hk : key.length ≤ 9223372036854775000) :
    Calls Tryz.prog 4 #[.agg (txc c n sl), .string ⟨key.toArray⟩] w fun e w' => e = .returned (.bool true) ∧ Below w.heap.size w w' := by
  have HW := fun w1 (hB : Below w.heap.size w w1) => awake_any w1 (hG.belowSize hB)
  have HGt := fun w1 => get_nil key w1 hk
  have HV := fun w1 => value_nil key w1 (by unfold maxLen; omega)
  have HL := fun w1 => last_nil c w1
  have HA := fun w1 => apply_nil ⟨c, n, []⟩ sl w1
  have HAl := fun w1 => all_nil w1
  dsimp only at HA
  refine (callsIn_wide (n := 6)).1 (callsIn_of_wp_marks Tryz.func4 rfl trivial ?_ rfl)
  refine wpIn_wide.2 ?_
  simp only [Tryz.ntmps4, List.size_toArray, List.length_cons, List.length_nil, Nat.reduceAdd, Nat.reduceSub, Array.replicate_succ, Array.replicate_zero, List.push_toArray, List.append_toArray, List.nil_append, List.cons_append]
  go_wp2_with (first
    | (go_at_call 6; refine (HW _ hw1).mono ?_; rintro e w2 ⟨rfl, hw2⟩; have hB2 := hw1.trans (hw2.mono hw1.size); have hb2 := hb1.belowSize hw2)
    | (go_at_call 13; refine (HGt _).mono ?_; rintro e w3 ⟨rfl, hw3⟩; have hB3 := hB2.trans (hw3.mono hB2.size); have hb3 := hb2.belowSize hw3)
    | (go_at_call 14; refine (HV _).mono ?_; rintro e w4 ⟨rfl, hw4⟩; have hB4 := hB3.trans (hw4.mono hB3.size); have hb4 := hb3.belowSize hw4; have c4 := (hb4.cell 0).trans (txc_g0 _ _ _))
    | (go_at_call 15; refine (HL _).mono ?_; rintro e w5 ⟨rfl, hw5⟩; have hB5 := hB4.trans (hw5.mono hB4.size); have hb5 := hb4.belowSize hw5)
    | (go_at_call 7; refine (HA _).mono ?_; rintro e w6 ⟨rfl, hw6⟩; have hB6 := hB5.trans (hw6.mono hB5.size); have hb6 := hb5.belowSize hw6)
    | (go_at_call 16; refine (HAl _).mono ?_; rintro e w8 ⟨⟨Bt, Bv, aT, ct, gv, rfl, l1, l2, l3, i1, i2, i3, i4⟩, hw8⟩)
    | (with_reducible refine at_list ?_; first
      | (refine wpList_boxRow (op := ⟨some 2, _, _, _, _, _⟩) rfl _ _ rfl _ rfl ?_; intro w1 hw1 hs1 hb1; replace hs1 := hs1.symm)
      | (refine wpList_loadRow (op := ⟨some 38, _, _, _, _, _⟩) rfl _ _ rfl w.heap.size rfl _ _ hb5 _ Tryz.underlying33 rfl (by rw [txc_size]; exact zTx.2) ?_)))
  have hk7 := Blk.new w6 #[.int .i64 0] 3
  have hB67 : Below w6.heap.size w6 (w6.alloc (.cells #[.int .i64 0] 3)) := (Below.refl _ _).alloc (Nat.le_refl _) _
  have hk8 := hk7.belowSize hw8
  have hb8 := (hb6.belowSize hB67).belowSize hw8
  have hB7 := hB6.trans (hB67.mono hB6.size)
  have hB8 := hB7.trans (hw8.mono hB7.size)
  have hI8 : IT w8 Bt Bv gv aT ct (unS []) := ⟨i1, i2, i3, i4⟩
  clear i1 i2 i3 i4 l1 l2 l3 hw8 hB67 hB7 hk7 hb1 hb2 hb3 hb4 hb5 hb6 hw1 hw2 hw3 hw4 hw5 hw6 hs1 hB2 hB3 hB4 hB5 c4 HW HGt HV HL HA HAl
  have l6 := hB6.size
  generalize w6.heap.size = Bk at *
  clear hB6
  refine (wpIn_wide (n := 6)).1 ?_
  refine wpIn_rangeFunc_ownG rfl (by omega) (gf := 50) (lb := #[.pointer (some ⟨Bt, 0, none⟩), .pointer (some ⟨Bv, 0, none⟩)]) rfl trivial (enters_of Tryz.func50 (by kernel_rfl) rfl)
    (all_stops 5 (by omega) Bt Bv gv aT ct [] (by simp) w8 hI8) kpI_t (kpI_b (w := w8)) (Below.refl _ _) (fun _ => rfl)
    (fun pre W => (Blk W Bk #[.int .i64 0] 3 ∧ Blk W w.heap.size (txc c n sl) 33) ∧ Below w.heap.size w W)
    (fun _ _ _ => False)
    (fun s W W' row h hg hr => ⟨⟨h.1.1.turn hg (fun r e => (hr r e).2), h.1.2.turn hg (fun r e => (hr r e).2)⟩, h.2.grown hg h.2.size (fun k e => Nat.le_trans hB8.size (hr k e).1)⟩)
    (fun _ _ _ _ _ h _ _ => h)
    ⟨⟨hk8, hb8⟩, hB8⟩
    ?a1 ?assign ?body ?done ?stop
  case assign =>
    intro l x W K hK
    refine wpIn_skip ?_
    exact hK
  case body =>
    rintro l pre x W _ hlt
    exact absurd hlt (Nat.not_lt_zero _)
  case done =>
    rintro D ys W hD rfl ⟨⟨hkW, hbW⟩, hBW⟩ hK
    have ck := hkW.one
    have c0 := (hbW.cell 0).trans (txc_g0 _ _ _)
    have HL := fun w1 => len_nil w1
    have HC := fun w1 => clone_nil w1
    have HE := fun w1 => encode_nil w1
    have HS := fun w1 => same_nil w1
    have HN := fun w1 => new_any w1
    have HS1 := fun b w1 => same_nil1 b w1
    have HK := fun w1 => keyOf_any key w1 hk
    have HK2 := fun w1 => rkeyOf_any key w1 hk
    have HO := fun w1 => nonceOf_any c w1
    have HO2 := fun w1 => rnonceOf_any c hc w1
    generalize kOf key = kk at *
    generalize nOf c = nc at *
    go_wp2_with fail
    go_region_held3 (fun w' => w'.cell? ⟨Bk, 0, none⟩ = some (.int .i64 0) ∧ w'.cell? ⟨w.heap.size, 0, none⟩ = some (.int .u64 (c : Nat))) ((go_split_ands; exact ⟨by assumption, by assumption⟩)) (first
      | (go_at_call 17; refine (HL _).mono ?_; rintro e w' ⟨rfl, hw'⟩; have hw' := hw'.symm; subst hw')
      | (go_at_call 18; refine (HC _).mono ?_; rintro e w' ⟨rfl, hw'⟩; have hw' := hw'.symm; subst hw')
      | (go_at_call 9; refine (HE _).mono ?_; rintro e w9 ⟨rfl, hw9⟩; have ck9 := cell_keep (w := W.drew) hw9 ck; have c09 := cell_keep (w := W.drew) hw9 c0)
      | (go_at_call 10; have tk := HS; refine (HS _).mono ?_; clear HS; rintro e w' ⟨rfl, hw'⟩; have hw' := hw'.symm; subst hw')
      | (go_at_call 5; refine (HN _).mono ?_; rintro e w10 ⟨rfl, hw10, _, _⟩; have ck10 := cell_keep hw10 ck9; have c010 := cell_keep hw10 c09)
      | (go_at_call 10; refine (HS1 _ _).mono ?_; rintro e w' ⟨rfl, hw'⟩; have hw' := hw'.symm; subst hw')
      | (go_at_call 19; refine (HK _).mono ?_; rintro e w' ⟨rfl, hw'⟩; have hw' := hw'.symm; subst hw')
      | (go_at_call 20; refine (HK2 _).mono ?_; rintro e w' ⟨rfl, hw'⟩; have hw' := hw'.symm; subst hw')
      | (go_at_call 21; refine (HO _).mono ?_; rintro e w11 ⟨rfl, hw11⟩; have ck11 := cell_keep hw11 ck10; have c011 := cell_keep hw11 c010)
      | (go_at_call 22; refine (HO2 _).mono ?_; rintro e w12 ⟨rfl, hw12⟩; have ck12 := cell_keep hw12 ck11; have c012 := cell_keep hw12 c011))
    have hB12 : Below W.heap.size W w12 := ((((Below.refl W.heap.size W).drew.trans hw9).trans (hw10.mono hw9.size)).trans (hw11.mono (Nat.le_trans hw9.size hw10.size))).trans (hw12.mono (Nat.le_trans (Nat.le_trans hw9.size hw10.size) hw11.size))
    have hK12 := (hB12.block D (Array.getElem?_eq_some_iff.1 hK).1).trans hK
    have hBw12 := hBW.trans (hB12.mono hBW.size)
    go_wp2_with fail
    refine ⟨by simp, .inl ⟨_, _, rfl, run_takeDeferred hK12, ?_⟩⟩
    exact ⟨_, results_tmp rfl _ _ _, rfl, hBw12.trans (belowK_b (w := w) (Nat.le_refl _) w12 D _ _ (by have := hB8.size; omega) hK12 rfl rfl)⟩
  case stop =>
    rintro D c pre W _ _ h _
    exact h.elim
end Go.Proofs.YtdikilhobmkpkaaGreatDoor
