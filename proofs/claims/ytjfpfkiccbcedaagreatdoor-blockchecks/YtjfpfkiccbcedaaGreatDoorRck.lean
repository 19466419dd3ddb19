/- What Ref does. What the plain Check does. -/
import Derived.Test.YtjfpfkiccbcedaaGreatDoorRby
import Derived.Test.YtjfpfkiccbcedaaGreatDoorPut
namespace Go.Proofs.YtjfpfkiccbcedaaGreatDoor
open Go Go.RowKit
theorem iSlR : (Tryz.prog.info? 85).map (·.size) = some 1 := by kernel_rfl
theorem keep4 {w w' : World} {p q r s : Addr} {a b c d : Value} (h : Below w.heap.size w w') (k : w.cell? p = some a ∧ w.cell? q = some b ∧ w.cell? r = some c ∧ w.cell? s = some d) : w'.cell? p = some a ∧ w'.cell? q = some b ∧ w'.cell? r = some c ∧ w'.cell? s = some d :=
  ⟨cell_keep h k.1, cell_keep h k.2.1, cell_keep h k.2.2.1, cell_keep h k.2.2.2⟩
theorem builtRtx (c n : Nat) : Tryz.prog.built 87 [(0, .int .u64 (c : Nat)), (1, .int .u64 (n : Nat))] = some (txc c n (.slice none 0 0)) := by kernel_rfl
/-- What Ref leaves. -/
def RefP (w : World) (c n : Nat) (l : List O) (e : Ending) (w' : World) : Prop := ∃ sl, e = .returned (.agg (txc c n sl)) ∧ Below w.heap.size w w' ∧ OL w' 133 w.heap.size sl l
set_option maxRecDepth 100000 in
set_option maxHeartbeats 1000000 in
theorem ref_any (c n : Nat) (l : List O) (a : Option Addr) (cap : Nat) (w : World) (h : SL w a l) : Calls Tryz.prog 39 #[.agg (txc c n (.slice a l.length cap))] w (RefP w c n (l.take 9)) := by
  obtain ⟨iop, hi, hz, hs, hby⟩ := infoRop
  go_enter Tryz.func39, Tryz.ntmps39
  go_wp2_with (with_reducible refine at_list ?_; first
    | (refine wpList_boxRow (op := ⟨some 1, _, _, _, _, _⟩) rfl _ _ rfl _ rfl ?_; intro w1 hw1 hs1 hb1; replace hs1 := hs1.symm)
    | (refine wpList_allocRow (op := ⟨some 2, _, _, _, _, _⟩) rfl _ rfl _ zRtx.1 ?_; intro w2 hw2 hs2 hz2; replace hs2 := hs2.symm; replace hb1 := hb1.belowSize hw2; have c0 := (hb1.cell 0).trans (txc_g0 _ _ _); have c1 := (hb1.cell 1).trans (txc_g1 _ _ _))
    | (refine wpList_build (o := ⟨some 9, _, _, _, _, _⟩) rfl _ _ rfl (builtRtx c n) ?_)
    | (refine wpList_allocRow (op := ⟨some 3, _, _, _, _, _⟩) rfl _ rfl _ zRtx.1 ?_; intro w3 hw3 hs3 hz3; replace hs3 := hs3.symm; replace hb1 := hb1.belowSize hw3; replace hz2 := hz2.belowSize hw3; clear c0 c1)
    | (refine wpList_storeRow (op := ⟨none, .store 87 (.tmp 3) (.tmp 9), _, _, _, _⟩) rfl _ _ _ rfl w2.heap.size (txc c n (.slice none 0 0)) rfl rfl _ _ hz3 (by simp only [txc_size]) (by rw [txc_size]; exact zRtx.2) (txc_one _ _ _ _ _) ?_; intro w4 hg4 hs4 hz4))
  have hl2 := hz2.lt
  obtain ⟨B2, hB20⟩ : ∃ B, B = w1.heap.size := ⟨_, rfl⟩
  obtain ⟨B3, hB30⟩ : ∃ B, B = w2.heap.size := ⟨_, rfl⟩
  have hB2 : w.heap.size < B2 := by omega
  have hB32 : B2 < B3 := by omega
  have hb4 := hb1.grown hg4 (by simp; omega)
  have hz5 := hz2.grown hg4 (by simp; omega)
  have hB4 : Below w.heap.size w w4 := ((hw1.trans (hw2.mono hw1.size)).trans (hw3.mono (Nat.le_trans hw1.size hw2.size))).trans (below_of_grown hg4 (Nat.le_trans hw1.size hw2.size) (Nat.le_trans (Nat.le_trans hw1.size hw2.size) hw3.size))
  rw [← hB20] at hz5 ⊢
  rw [← hB30] at hz4 ⊢
  have hB3 : w.heap.size ≤ B3 := by omega
  clear hb1 hz2 hz3 hw1 hw2 hw3 hs1 hs2 hs3 hg4 hs4 hl2 hB20 hB30
  go_loopw [4] (fun v4 wl => ∃ (i : Nat) (sl : Value), i ≤ l.length ∧ i ≤ 9 ∧ v4 = .int .i64 i ∧ Below w.heap.size w wl ∧ OL wl 133 w.heap.size sl (l.take i) ∧ Blk wl B3 (txc c n sl) 87 ∧ Blk wl w.heap.size (txc c n (.slice a l.length cap)) 60 ∧ Blk wl B2 (txc 0 0 (.slice none 0 0)) 87) (fun v4 _ => 9 - (intOf v4).toNat)
  case atStart => exact ⟨0, _, by omega, by omega, rfl, hB4, .inl ⟨rfl, rfl⟩, hz4, hb4, hz5⟩
  case round =>
    obtain ⟨i, sl, hi2, hi9, rfl, hB, hO, h3, h1, h2⟩ := hrel
    clear hz4 hz5 hb4 hB4
    have e2 := (h1.cell 2).trans (txc_g2 _ _ _)
    by_cases hlt : i < l.length ∧ i < 9
    · obtain ⟨hlt, hlt9⟩ := hlt
      obtain ⟨g, o, rfl⟩ := h.ex (by omega)
      have hr := (h.below hB).at i hlt
      have hTk : Hid (l.take (i + 1) = l.take i ++ [l[i]]) := List.take_succ_eq_append_getElem hlt
      obtain ⟨y, hy⟩ : ∃ y, l[i] = y := ⟨_, rfl⟩
      rw [hy] at hr hTk
      obtain ⟨k, key, vv⟩ := y
      have hi9b : decide ((i : Int) < 9) = true := decide_eq_true (by omega)
      have hz1 : (0 : Int) ≤ (i : Int) := by omega
      have hz2 : (i : Int) < (l.length : Int) := by omega
      go_wp2_with fail
      replace hB := hB.trans ((Below.refl w.heap.size wr).drew)
      replace h3 := h3.drew
      replace h1 := h1.drew
      replace h2 := h2.drew
      replace hO := hO.drew
      refine wp_region_held_drew (S := fun w' => w'.cell? ⟨w.heap.size, 2, none⟩ = some (.slice (some ⟨g, o, none⟩) l.length cap) ∧ w'.cell? ⟨g, o + i * 3, none⟩ = some (.int .i64 k) ∧ w'.cell? ⟨g, o + i * 3 + 1, none⟩ = some (.string ⟨key.toArray⟩) ∧ w'.cell? ⟨g, o + i * 3 + 2, none⟩ = some (.string ⟨vv.toArray⟩)) (by kernel_rfl) ⟨e2, hr 0 _ rfl, hr 1 _ rfl, hr 2 _ rfl⟩ (fun hHeld => ?_)
      clear e2 hr
      refine wpAnyH_take (i := 0) (oi := ⟨some 21, _, _, _, _, _⟩) (v := .pointer (some ⟨B3, 2, none⟩)) rfl (by kernel_rfl) (by kernel_rfl) (by kernel_rfl) (fun _ _ _ h => h) (Or.inl ⟨by rfl, fun w hSw => by obtain ⟨s1, s2, s3, s4⟩ := hSw; go_simp⟩) hHeld ?_
      refine wpAnyH_take (i := 2) (oi := ⟨some 23, _, _, _, _, _⟩) (v := .pointer (some ⟨w.heap.size, 2, none⟩)) rfl (by kernel_rfl) (by kernel_rfl) (by kernel_rfl) (fun _ _ _ h => h) (Or.inl ⟨by rfl, fun w hSw => by obtain ⟨s1, s2, s3, s4⟩ := hSw; go_simp⟩) hHeld ?_
      refine wpAnyH_take (i := 3) (oi := ⟨some 24, _, _, _, _, _⟩) (v := (.slice (some ⟨g, o, none⟩) l.length cap)) rfl (by kernel_rfl) (by kernel_rfl) (by kernel_rfl) (fun _ _ _ h => h) (Or.inl ⟨by rfl, fun w hSw => by obtain ⟨s1, s2, s3, s4⟩ := hSw; go_simp⟩) hHeld ?_
      refine wpAnyH_take (i := 4) (oi := ⟨some 25, _, _, _, _, _⟩) (v := .int .i64 (i : Nat)) rfl (by kernel_rfl) (by kernel_rfl) (by kernel_rfl) (fun _ _ _ h => h) (Or.inl ⟨by rfl, fun w hSw => by obtain ⟨s1, s2, s3, s4⟩ := hSw; go_simp⟩) hHeld ?_
      refine wpAnyH_take (i := 5) (oi := ⟨some 26, _, _, _, _, _⟩) (v := .pointer (some ⟨g, o + i * 3, none⟩)) rfl (by kernel_rfl) (by kernel_rfl) (by kernel_rfl) (fun _ _ _ h => h) (Or.inl ⟨by rfl, fun w hSw => by obtain ⟨s1, s2, s3, s4⟩ := hSw; go_simp⟩) hHeld ?_
      refine wpAnyH_take (i := 6) (oi := ⟨some 27, _, _, _, _, _⟩) (v := .pointer (some ⟨g, o + i * 3, none⟩)) rfl (by kernel_rfl) (by kernel_rfl) (by kernel_rfl) (fun _ _ _ h => h) (Or.inl ⟨by rfl, fun w hSw => by obtain ⟨s1, s2, s3, s4⟩ := hSw; go_simp⟩) hHeld ?_
      refine wpAnyH_take (i := 7) (oi := ⟨some 28, _, _, _, _, _⟩) (v := .int .i64 k) rfl (by kernel_rfl) (by kernel_rfl) (by kernel_rfl) (fun _ _ _ h => h) (Or.inl ⟨by rfl, fun w hSw => by obtain ⟨s1, s2, s3, s4⟩ := hSw; go_simp⟩) hHeld ?_
      refine wpAnyH_take (i := 8) (oi := ⟨some 29, _, _, _, _, _⟩) (v := .pointer (some ⟨w.heap.size, 2, none⟩)) rfl (by kernel_rfl) (by kernel_rfl) (by kernel_rfl) (fun _ _ _ h => h) (Or.inl ⟨by rfl, fun w hSw => by obtain ⟨s1, s2, s3, s4⟩ := hSw; go_simp⟩) hHeld ?_
      refine wpAnyH_take (i := 9) (oi := ⟨some 30, _, _, _, _, _⟩) (v := (.slice (some ⟨g, o, none⟩) l.length cap)) rfl (by kernel_rfl) (by kernel_rfl) (by kernel_rfl) (fun _ _ _ h => h) (Or.inl ⟨by rfl, fun w hSw => by obtain ⟨s1, s2, s3, s4⟩ := hSw; go_simp⟩) hHeld ?_
      refine wpAnyH_take (i := 10) (oi := ⟨some 31, _, _, _, _, _⟩) (v := .int .i64 (i : Nat)) rfl (by kernel_rfl) (by kernel_rfl) (by kernel_rfl) (fun _ _ _ h => h) (Or.inl ⟨by rfl, fun w hSw => by obtain ⟨s1, s2, s3, s4⟩ := hSw; go_simp⟩) hHeld ?_
      refine wpAnyH_take (i := 11) (oi := ⟨some 32, _, _, _, _, _⟩) (v := .pointer (some ⟨g, o + i * 3, none⟩)) rfl (by kernel_rfl) (by kernel_rfl) (by kernel_rfl) (fun _ _ _ h => h) (Or.inl ⟨by rfl, fun w hSw => by obtain ⟨s1, s2, s3, s4⟩ := hSw; go_simp⟩) hHeld ?_
      refine wpAnyH_take (i := 12) (oi := ⟨some 33, _, _, _, _, _⟩) (v := .pointer (some ⟨g, o + i * 3 + 1, none⟩)) rfl (by kernel_rfl) (by kernel_rfl) (by kernel_rfl) (fun _ _ _ h => h) (Or.inl ⟨by rfl, fun w hSw => by obtain ⟨s1, s2, s3, s4⟩ := hSw; go_simp⟩) hHeld ?_
      refine wpAnyH_take (i := 13) (oi := ⟨some 34, _, _, _, _, _⟩) (v := .string ⟨key.toArray⟩) rfl (by kernel_rfl) (by kernel_rfl) (by kernel_rfl) (fun _ _ _ h => h) (Or.inl ⟨by rfl, fun w hSw => by obtain ⟨s1, s2, s3, s4⟩ := hSw; go_simp⟩) hHeld ?_
      refine wpAnyH_take (i := 14) (oi := ⟨some 35, _, _, _, _, _⟩) (v := .pointer (some ⟨w.heap.size, 2, none⟩)) rfl (by kernel_rfl) (by kernel_rfl) (by kernel_rfl) (fun _ _ _ h => h) (Or.inl ⟨by rfl, fun w hSw => by obtain ⟨s1, s2, s3, s4⟩ := hSw; go_simp⟩) hHeld ?_
      refine wpAnyH_take (i := 15) (oi := ⟨some 36, _, _, _, _, _⟩) (v := (.slice (some ⟨g, o, none⟩) l.length cap)) rfl (by kernel_rfl) (by kernel_rfl) (by kernel_rfl) (fun _ _ _ h => h) (Or.inl ⟨by rfl, fun w hSw => by obtain ⟨s1, s2, s3, s4⟩ := hSw; go_simp⟩) hHeld ?_
      refine wpAnyH_take (i := 16) (oi := ⟨some 37, _, _, _, _, _⟩) (v := .int .i64 (i : Nat)) rfl (by kernel_rfl) (by kernel_rfl) (by kernel_rfl) (fun _ _ _ h => h) (Or.inl ⟨by rfl, fun w hSw => by obtain ⟨s1, s2, s3, s4⟩ := hSw; go_simp⟩) hHeld ?_
      refine wpAnyH_take (i := 17) (oi := ⟨some 38, _, _, _, _, _⟩) (v := .pointer (some ⟨g, o + i * 3, none⟩)) rfl (by kernel_rfl) (by kernel_rfl) (by kernel_rfl) (fun _ _ _ h => h) (Or.inl ⟨by rfl, fun w hSw => by obtain ⟨s1, s2, s3, s4⟩ := hSw; go_simp⟩) hHeld ?_
      refine wpAnyH_take (i := 18) (oi := ⟨some 39, _, _, _, _, _⟩) (v := .pointer (some ⟨g, o + i * 3 + 2, none⟩)) rfl (by kernel_rfl) (by kernel_rfl) (by kernel_rfl) (fun _ _ _ h => h) (Or.inl ⟨by rfl, fun w hSw => by obtain ⟨s1, s2, s3, s4⟩ := hSw; go_simp⟩) hHeld ?_
      refine wpAnyH_take (i := 19) (oi := ⟨some 40, _, _, _, _, _⟩) (v := .string ⟨vv.toArray⟩) rfl (by kernel_rfl) (by kernel_rfl) (by kernel_rfl) (fun _ _ _ h => h) (Or.inl ⟨by rfl, fun w hSw => by obtain ⟨s1, s2, s3, s4⟩ := hSw; go_simp⟩) hHeld ?_
      refine wpAnyH_take (i := 20) (oi := ⟨some 41, _, _, _, _, _⟩) (v := .agg (opc ⟨k, key, vv⟩)) rfl (by kernel_rfl) (by kernel_rfl) (by kernel_rfl) (fun _ _ _ h => h) (Or.inl ⟨by rfl, fun w hSw => by obtain ⟨s1, s2, s3, s4⟩ := hSw; go_simp; try rfl⟩) hHeld ?_
      simp only [Act.put, List.setIfInBounds_toArray, List.set_cons_zero, List.set_cons_succ]
      refine wpAnyH_ready (rs := [1, 21]) (by kernel_rfl) (by simp) ?_
      refine AllReadyH.cons (o := ⟨some 22, .load 85 (.tmp 21), _, _, _, _⟩) rfl (fun K hK => ?_) (AllReadyH.cons (o := ⟨some 42, .buildSlice 85 1 #[(0, .tmp 41)], _, _, _, _⟩) rfl (fun K hK => ?_) AllReadyH.nil)
      · skip
        rw [if_pos (by rfl)]
        refine wp_run _ _ (run_loadCellB _ _ rfl B3 2 rfl _ _ h3 _ Tryz.underlying85 rfl sl (txc_g2 _ _ _)) ?_
        refine hK.out _ _ hHeld (fun _ => ?_)
        clear hK K
        refine wpAnyH_ready (rs := [21]) (by kernel_rfl) (by simp) ?_
        refine AllReadyH.cons (o := ⟨some 42, .buildSlice 85 1 #[(0, .tmp 41)], _, _, _, _⟩) rfl (fun K hK => ?_) AllReadyH.nil
        rw [if_pos (by rfl)]
        refine wp_bslRop _ rfl ⟨k, key, vv⟩ rfl ?_
        intro wb hwb hsb hbb
        have hHb := keep4 hwb hHeld
        refine hK.out _ _ hHb (fun _ => ?_)
        clear hK K hsb hHeld
        have hHeld := hHb
        clear hHb
        replace h3 := h3.belowSize hwb
        replace h1 := h1.belowSize hwb
        replace h2 := h2.belowSize hwb
        replace hO := hO.below hwb
        replace hB := hB.trans (hwb.mono hB.size)
        clear hwb
        refine wpAnyH_ready (rs := [22]) (by kernel_rfl) (by simp) ?_
        refine AllReadyH.cons (o := ⟨some 43, .call ⟨.builtin .append, #[.tmp 22, .tmp 42], #[85, 85]⟩, _, _, _, _⟩) rfl (fun K hK => ?_) AllReadyH.nil
        rw [if_pos (by rfl)]
        refine wp_appendOL _ _ _ _ rfl w.heap.size sl _ hB.size rfl hO _ 1 rfl ⟨k, key, vv⟩ _ hbb _ _ Tryz.underlying85 hi hz hs hby (by rw [List.length_take]; omega) ?_
        intro wa sl1 hwa hkp hO1
        replace h3 := hkp.out _ _ _ h3 (by decide)
        replace h1 := hkp.out _ _ _ h1 (by decide)
        replace h2 := hkp.out _ _ _ h2 (by decide)
        have hBo := hB
        replace hB := hB.trans hwa
        have hra := (h.below hB).at i hlt
        rw [hy] at hra
        have hHa : wa.cell? ⟨w.heap.size, 2, none⟩ = some (.slice (some ⟨g, o, none⟩) l.length cap) ∧ wa.cell? ⟨g, o + i * 3, none⟩ = some (.int .i64 k) ∧ wa.cell? ⟨g, o + i * 3 + 1, none⟩ = some (.string ⟨key.toArray⟩) ∧ wa.cell? ⟨g, o + i * 3 + 2, none⟩ = some (.string ⟨vv.toArray⟩) := ⟨(h1.cell 2).trans (txc_g2 _ _ _), hra 0 _ rfl, hra 1 _ rfl, hra 2 _ rfl⟩
        refine hK.out _ _ hHa (fun _ => ?_)
        clear hK K hHeld hO hbb hkp hwa hBo
        have hHeld := hHa
        clear hHa
        try simp only [Act.put, List.setIfInBounds_toArray, List.set_cons_zero, List.set_cons_succ]
        refine wpAnyH_take (i := 23) (oi := ⟨some 44, _, _, _, _, _⟩) (v := .pointer (some ⟨B3, 2, none⟩)) rfl (by kernel_rfl) (by kernel_rfl) (by kernel_rfl) (fun _ _ _ h => h) (Or.inl ⟨by rfl, fun w hSw => by obtain ⟨s1, s2, s3, s4⟩ := hSw; go_simp⟩) hHeld ?_
        try simp only [Act.put, List.setIfInBounds_toArray, List.set_cons_zero, List.set_cons_succ]
        refine wpAnyH_ready (rs := [24]) (by kernel_rfl) (by simp) ?_
        refine AllReadyH.cons (o := ⟨none, .store 85 (.tmp 44) (.tmp 43), _, _, _, _⟩) rfl (fun K hK => ?_) AllReadyH.nil
        rw [if_pos (by rfl)]
        refine wp_storeCellB _ _ _ rfl B3 2 rfl sl1 rfl _ _ h3 iSlR hO1.cells.1 hO1.cells.2 (by simp [txc]) ?_
        intro ws hgs hss hbs
        rw [txc_set2] at hbs
        replace h1 := h1.grown hgs (by simp; omega)
        replace h2 := h2.grown hgs (by simp; omega)
        have hO2 := hO1.grown hgs h3 (by decide)
        replace hB := hB.trans (below_of_grown hgs hB3 hB.size)
        have hrs := (h.below hB).at i hlt
        rw [hy] at hrs
        have hHs : ws.cell? ⟨w.heap.size, 2, none⟩ = some (.slice (some ⟨g, o, none⟩) l.length cap) ∧ ws.cell? ⟨g, o + i * 3, none⟩ = some (.int .i64 k) ∧ ws.cell? ⟨g, o + i * 3 + 1, none⟩ = some (.string ⟨key.toArray⟩) ∧ ws.cell? ⟨g, o + i * 3 + 2, none⟩ = some (.string ⟨vv.toArray⟩) := ⟨(h1.cell 2).trans (txc_g2 _ _ _), hrs 0 _ rfl, hrs 1 _ rfl, hrs 2 _ rfl⟩
        refine hK.out _ _ hHs (fun _ => ?_)
        clear hK K
        refine wpAnyH_done (by kernel_rfl) ?_ _
        simp only [Act.put]
        clear hHeld hHs hra hrs h3 hgs hss hO1
        go_simp
        go_wp2_with fail
        go_roundw
        case rel => exact ⟨i + 1, sl1, by omega, by omega, by go_num, hB, by rw [hTk.out]; exact hO2, hbs, h1, h2⟩
        case measure => simp [intOf]; omega
      · skip
        rw [if_pos (by rfl)]
        refine wp_bslRop _ rfl ⟨k, key, vv⟩ rfl ?_
        intro wb hwb hsb hbb
        have hHb := keep4 hwb hHeld
        refine hK.out _ _ hHb (fun _ => ?_)
        clear hK K hsb hHeld
        have hHeld := hHb
        clear hHb
        replace h3 := h3.belowSize hwb
        replace h1 := h1.belowSize hwb
        replace h2 := h2.belowSize hwb
        replace hO := hO.below hwb
        replace hB := hB.trans (hwb.mono hB.size)
        clear hwb
        refine wpAnyH_ready (rs := [1]) (by kernel_rfl) (by simp) ?_
        refine AllReadyH.cons (o := ⟨some 22, .load 85 (.tmp 21), _, _, _, _⟩) rfl (fun K hK => ?_) AllReadyH.nil
        rw [if_pos (by rfl)]
        refine wp_run _ _ (run_loadCellB _ _ rfl B3 2 rfl _ _ h3 _ Tryz.underlying85 rfl sl (txc_g2 _ _ _)) ?_
        refine hK.out _ _ hHeld (fun _ => ?_)
        clear hK K
        refine wpAnyH_ready (rs := [22]) (by kernel_rfl) (by simp) ?_
        refine AllReadyH.cons (o := ⟨some 43, .call ⟨.builtin .append, #[.tmp 22, .tmp 42], #[85, 85]⟩, _, _, _, _⟩) rfl (fun K hK => ?_) AllReadyH.nil
        rw [if_pos (by rfl)]
        refine wp_appendOL _ _ _ _ rfl w.heap.size sl _ hB.size rfl hO _ 1 rfl ⟨k, key, vv⟩ _ hbb _ _ Tryz.underlying85 hi hz hs hby (by rw [List.length_take]; omega) ?_
        intro wa sl1 hwa hkp hO1
        replace h3 := hkp.out _ _ _ h3 (by decide)
        replace h1 := hkp.out _ _ _ h1 (by decide)
        replace h2 := hkp.out _ _ _ h2 (by decide)
        have hBo := hB
        replace hB := hB.trans hwa
        have hra := (h.below hB).at i hlt
        rw [hy] at hra
        have hHa : wa.cell? ⟨w.heap.size, 2, none⟩ = some (.slice (some ⟨g, o, none⟩) l.length cap) ∧ wa.cell? ⟨g, o + i * 3, none⟩ = some (.int .i64 k) ∧ wa.cell? ⟨g, o + i * 3 + 1, none⟩ = some (.string ⟨key.toArray⟩) ∧ wa.cell? ⟨g, o + i * 3 + 2, none⟩ = some (.string ⟨vv.toArray⟩) := ⟨(h1.cell 2).trans (txc_g2 _ _ _), hra 0 _ rfl, hra 1 _ rfl, hra 2 _ rfl⟩
        refine hK.out _ _ hHa (fun _ => ?_)
        clear hK K hHeld hO hbb hkp hwa hBo
        have hHeld := hHa
        clear hHa
        try simp only [Act.put, List.setIfInBounds_toArray, List.set_cons_zero, List.set_cons_succ]
        refine wpAnyH_take (i := 23) (oi := ⟨some 44, _, _, _, _, _⟩) (v := .pointer (some ⟨B3, 2, none⟩)) rfl (by kernel_rfl) (by kernel_rfl) (by kernel_rfl) (fun _ _ _ h => h) (Or.inl ⟨by rfl, fun w hSw => by obtain ⟨s1, s2, s3, s4⟩ := hSw; go_simp⟩) hHeld ?_
        try simp only [Act.put, List.setIfInBounds_toArray, List.set_cons_zero, List.set_cons_succ]
        refine wpAnyH_ready (rs := [24]) (by kernel_rfl) (by simp) ?_
        refine AllReadyH.cons (o := ⟨none, .store 85 (.tmp 44) (.tmp 43), _, _, _, _⟩) rfl (fun K hK => ?_) AllReadyH.nil
        rw [if_pos (by rfl)]
        refine wp_storeCellB _ _ _ rfl B3 2 rfl sl1 rfl _ _ h3 iSlR hO1.cells.1 hO1.cells.2 (by simp [txc]) ?_
        intro ws hgs hss hbs
        rw [txc_set2] at hbs
        replace h1 := h1.grown hgs (by simp; omega)
        replace h2 := h2.grown hgs (by simp; omega)
        have hO2 := hO1.grown hgs h3 (by decide)
        replace hB := hB.trans (below_of_grown hgs hB3 hB.size)
        have hrs := (h.below hB).at i hlt
        rw [hy] at hrs
        have hHs : ws.cell? ⟨w.heap.size, 2, none⟩ = some (.slice (some ⟨g, o, none⟩) l.length cap) ∧ ws.cell? ⟨g, o + i * 3, none⟩ = some (.int .i64 k) ∧ ws.cell? ⟨g, o + i * 3 + 1, none⟩ = some (.string ⟨key.toArray⟩) ∧ ws.cell? ⟨g, o + i * 3 + 2, none⟩ = some (.string ⟨vv.toArray⟩) := ⟨(h1.cell 2).trans (txc_g2 _ _ _), hrs 0 _ rfl, hrs 1 _ rfl, hrs 2 _ rfl⟩
        refine hK.out _ _ hHs (fun _ => ?_)
        clear hK K
        refine wpAnyH_done (by kernel_rfl) ?_ _
        simp only [Act.put]
        clear hHeld hHs hra hrs h3 hgs hss hO1
        go_simp
        go_wp2_with fail
        go_roundw
        case rel => exact ⟨i + 1, sl1, by omega, by omega, by go_num, hB, by rw [hTk.out]; exact hO2, hbs, h1, h2⟩
        case measure => simp [intOf]; omega
    · have hTe : Hid (l.take i = l.take 9) := by
        by_cases h9 : i = 9
        · rw [h9]; exact rfl
        · rw [List.take_of_length_le (show l.length ≤ i by omega), List.take_of_length_le (show l.length ≤ 9 by omega)]; exact rfl
      rw [hTe.out] at hO
      clear hTe
      obtain ⟨a1, cap1, rfl, hSL⟩ := hO.sl
      by_cases hlt1 : i < l.length
      · have hi9b : decide ((i : Int) < 9) = false := decide_eq_false (by omega)
        go_wp2_with (with_reducible refine at_list ?_; first
          | (refine wpList_loadRow (op := ⟨some 45, _, _, _, _, _⟩) rfl _ _ rfl B3 rfl _ _ h3 _ Tryz.underlying87 rfl (by rw [txc_size]; exact zRtx.2) ?_)
          | (refine wpList_storeRow (op := ⟨none, .store 87 (.tmp 2) (.tmp 45), _, _, _, _⟩) rfl _ _ _ rfl B2 (txc c n (.slice a1 (l.take 9).length cap1)) rfl rfl _ _ h2 (by simp only [txc_size]) (by rw [txc_size]; exact zRtx.2) (txc_one _ _ _ _ _) ?_; intro w9 hg9 hs9 hz9))
        refine bodyPost_ret (v := .agg (txc c n (.slice a1 (l.take 9).length cap1))) ?_ rfl ⟨_, rfl, hB.trans (below_of_grown hg9 (by omega) hB.size), hO.grown hg9 h2 (by decide)⟩
        exact results_cell_row rfl _ _ B2 _ _ _ _ rfl hz9.out Tryz.underlying87 rfl (by exact zRtx.2)
      · go_wp2_with (with_reducible refine at_list ?_; first
          | (refine wpList_loadRow (op := ⟨some 45, _, _, _, _, _⟩) rfl _ _ rfl B3 rfl _ _ h3 _ Tryz.underlying87 rfl (by rw [txc_size]; exact zRtx.2) ?_)
          | (refine wpList_storeRow (op := ⟨none, .store 87 (.tmp 2) (.tmp 45), _, _, _, _⟩) rfl _ _ _ rfl B2 (txc c n (.slice a1 (l.take 9).length cap1)) rfl rfl _ _ h2 (by simp only [txc_size]) (by rw [txc_size]; exact zRtx.2) (txc_one _ _ _ _ _) ?_; intro w9 hg9 hs9 hz9))
        refine bodyPost_ret (v := .agg (txc c n (.slice a1 (l.take 9).length cap1))) ?_ rfl ⟨_, rfl, hB.trans (below_of_grown hg9 (by omega) hB.size), hO.grown hg9 h2 (by decide)⟩
        exact results_cell_row rfl _ _ B2 _ _ _ _ rfl hz9.out Tryz.underlying87 rfl (by exact zRtx.2)
end Go.Proofs.YtjfpfkiccbcedaaGreatDoor
namespace Go.Proofs.YtjfpfkiccbcedaaGreatDoor
open Go Go.RowKit
set_option maxRecDepth 100000 in
set_option maxHeartbeats 1000000 in
theorem rcheck_few (c n : Nat) (l : List O) (a : Option Addr) (cap : Nat) (w : World) (h : SL w a l) (h1 : ¬ (n = 0 ∨ l.length = 0 ∨ 8 < l.length)) : Calls Tryz.prog 41 #[.agg (txc c n (.slice a l.length cap))] w fun e w' => e = .returned (.int .i64 (chk ⟨c, n, l⟩)) ∧ Below w.heap.size w w' := by
  have hb : ((n : Int) == 0) = false := by rw [beq_eq_false_iff_ne]; omega
  have hb2 : ((l.length : Int) == 0) = false := by rw [beq_eq_false_iff_ne]; omega
  have hb3 : decide (8 < (l.length : Int)) = false := decide_eq_false (by omega)
  go_enter Tryz.func41, Tryz.ntmps41
  go_wp2_with (with_reducible refine at_list ?_; first
    | (refine wpList_boxRow (op := ⟨some 1, _, _, _, _, _⟩) rfl _ _ rfl _ rfl ?_; intro w1 hw1 hs1 hb1; replace hs1 := hs1.symm; have c1 := (hb1.cell 1).trans (txc_g1 _ _ _); have c2 := (hb1.cell 2).trans (txc_g2 _ _ _)))
  clear c1 c2 hs1
  go_loopw [3] (fun v3 wl => ∃ i : Nat, i ≤ l.length ∧ v3 = .int .i64 i ∧ Below w.heap.size w wl ∧ Blk wl w.heap.size (txc c n (.slice a l.length cap)) 87 ∧ Hid ((l.take i).all okOp = true)) (fun v3 _ => l.length - (intOf v3).toNat)
  case atStart => exact ⟨0, by omega, rfl, hw1, hb1, by simp; trivial⟩
  case round =>
    obtain ⟨i, hi, rfl, hB, hM, hA⟩ := hrel
    have c2 := (hM.cell 2).trans (txc_g2 _ _ _)
    clear hb1 hw1
    by_cases hlt : i < l.length
    · obtain ⟨g, o, rfl⟩ := h.ex (by omega)
      have hr := (h.below hB).at i hlt
      have hmem := List.getElem_mem hlt
      have hT : Hid ((l.take (i + 1)).all okOp = ((l.take i).all okOp && okOp l[i])) := by
        rw [List.take_succ_eq_append_getElem hlt, List.all_append]
        simp
        trivial
      generalize l[i] = x at *
      obtain ⟨k, key, vv⟩ := x
      by_cases h0 : key.length = 0
      · have hk : key = [] := List.length_eq_zero_iff.1 h0
        subst hk
        have HE : Hid (okOp ⟨k, [], vv⟩ = false) := decide_eq_false (by simp)
        go_wp2_with (with_reducible refine at_list ?_; first
          | (refine wpList_loadOp (op := ⟨some 31, _, _, _, _, _⟩) rfl _ _ rfl g (o + i * 3) rfl (opc ⟨k, [], vv⟩) hr _ Tryz.underlying133 rfl (by rw [opc_size]; exact zRop.2) ?_)
          | (refine wpList_allocRow (op := ⟨some 4, _, _, _, _, _⟩) rfl _ rfl _ zRop.1 ?_; intro w2 hw2 hs2 hz2; replace hs2 := hs2.symm)
          | (refine wpList_storeRow (op := ⟨none, .store 133 (.tmp 4) (.tmp 31), _, _, _, _⟩) rfl _ _ _ rfl wr.heap.size (opc ⟨k, [], vv⟩) rfl rfl _ _ hz2 (by rw [opc_size, opc_size]) (by rw [opc_size]; exact zRop.2) (opc_one _) ?_; intro w4 hg4 hs4 hz4; have d0 := (hz4.cell 0).trans (opc_g0 _); have d1 := (hz4.cell 1).trans (opc_g1 _); have d2 := (hz4.cell 2).trans (opc_g2 _); dsimp only at d0 d1 d2))
        have hBl4 : Below wr.heap.size wr w4 := hw2.trans (below_of_grown hg4 (Nat.le_refl _) hw2.size)
        go_ret
        exact ⟨by rw [chk_not (fun x => by have h9 := (okTx_of x).each _ hmem; rw [HE.out] at h9; cases h9)]; rfl, hB.trans (hBl4.mono hB.size)⟩
      have hE : key.isEmpty = false := by cases key with | nil => simp at h0 | cons _ _ => rfl
      by_cases h2 : 32 < key.length
      · have hd : decide (32 < (key.length : Int)) = true := decide_eq_true (by omega)
        have HE : Hid (okOp ⟨k, key, vv⟩ = false) := decide_eq_false (by simp only; omega)
        go_wp2_with (with_reducible refine at_list ?_; first
          | (refine wpList_loadOp (op := ⟨some 31, _, _, _, _, _⟩) rfl _ _ rfl g (o + i * 3) rfl (opc ⟨k, key, vv⟩) hr _ Tryz.underlying133 rfl (by rw [opc_size]; exact zRop.2) ?_)
          | (refine wpList_allocRow (op := ⟨some 4, _, _, _, _, _⟩) rfl _ rfl _ zRop.1 ?_; intro w2 hw2 hs2 hz2; replace hs2 := hs2.symm)
          | (refine wpList_storeRow (op := ⟨none, .store 133 (.tmp 4) (.tmp 31), _, _, _, _⟩) rfl _ _ _ rfl wr.heap.size (opc ⟨k, key, vv⟩) rfl rfl _ _ hz2 (by rw [opc_size, opc_size]) (by rw [opc_size]; exact zRop.2) (opc_one _) ?_; intro w4 hg4 hs4 hz4; have d0 := (hz4.cell 0).trans (opc_g0 _); have d1 := (hz4.cell 1).trans (opc_g1 _); have d2 := (hz4.cell 2).trans (opc_g2 _); dsimp only at d0 d1 d2))
        have hBl4 : Below wr.heap.size wr w4 := hw2.trans (below_of_grown hg4 (Nat.le_refl _) hw2.size)
        go_ret
        exact ⟨by rw [chk_not (fun x => by have h9 := (okTx_of x).each _ hmem; rw [HE.out] at h9; cases h9)]; rfl, hB.trans (hBl4.mono hB.size)⟩
      have hd : decide (32 < (key.length : Int)) = false := decide_eq_false (by omega)
      by_cases h3 : 64 < vv.length
      · have hd2 : decide (64 < (vv.length : Int)) = true := decide_eq_true (by omega)
        have HE : Hid (okOp ⟨k, key, vv⟩ = false) := decide_eq_false (by simp only; omega)
        go_wp2_with (with_reducible refine at_list ?_; first
          | (refine wpList_loadOp (op := ⟨some 31, _, _, _, _, _⟩) rfl _ _ rfl g (o + i * 3) rfl (opc ⟨k, key, vv⟩) hr _ Tryz.underlying133 rfl (by rw [opc_size]; exact zRop.2) ?_)
          | (refine wpList_allocRow (op := ⟨some 4, _, _, _, _, _⟩) rfl _ rfl _ zRop.1 ?_; intro w2 hw2 hs2 hz2; replace hs2 := hs2.symm)
          | (refine wpList_storeRow (op := ⟨none, .store 133 (.tmp 4) (.tmp 31), _, _, _, _⟩) rfl _ _ _ rfl wr.heap.size (opc ⟨k, key, vv⟩) rfl rfl _ _ hz2 (by rw [opc_size, opc_size]) (by rw [opc_size]; exact zRop.2) (opc_one _) ?_; intro w4 hg4 hs4 hz4; have d0 := (hz4.cell 0).trans (opc_g0 _); have d1 := (hz4.cell 1).trans (opc_g1 _); have d2 := (hz4.cell 2).trans (opc_g2 _); dsimp only at d0 d1 d2))
        have hBl4 : Below wr.heap.size wr w4 := hw2.trans (below_of_grown hg4 (Nat.le_refl _) hw2.size)
        go_ret
        exact ⟨by rw [chk_not (fun x => by have h9 := (okTx_of x).each _ hmem; rw [HE.out] at h9; cases h9)]; rfl, hB.trans (hBl4.mono hB.size)⟩
      have hd2 : decide (64 < (vv.length : Int)) = false := decide_eq_false (by omega)
      by_cases h4 : k < 1
      · have hd3 : decide (k < 1) = true := decide_eq_true h4
        have HE : Hid (okOp ⟨k, key, vv⟩ = false) := decide_eq_false (by simp only; omega)
        go_wp2_with (with_reducible refine at_list ?_; first
          | (refine wpList_loadOp (op := ⟨some 31, _, _, _, _, _⟩) rfl _ _ rfl g (o + i * 3) rfl (opc ⟨k, key, vv⟩) hr _ Tryz.underlying133 rfl (by rw [opc_size]; exact zRop.2) ?_)
          | (refine wpList_allocRow (op := ⟨some 4, _, _, _, _, _⟩) rfl _ rfl _ zRop.1 ?_; intro w2 hw2 hs2 hz2; replace hs2 := hs2.symm)
          | (refine wpList_storeRow (op := ⟨none, .store 133 (.tmp 4) (.tmp 31), _, _, _, _⟩) rfl _ _ _ rfl wr.heap.size (opc ⟨k, key, vv⟩) rfl rfl _ _ hz2 (by rw [opc_size, opc_size]) (by rw [opc_size]; exact zRop.2) (opc_one _) ?_; intro w4 hg4 hs4 hz4; have d0 := (hz4.cell 0).trans (opc_g0 _); have d1 := (hz4.cell 1).trans (opc_g1 _); have d2 := (hz4.cell 2).trans (opc_g2 _); dsimp only at d0 d1 d2))
        have hBl4 : Below wr.heap.size wr w4 := hw2.trans (below_of_grown hg4 (Nat.le_refl _) hw2.size)
        go_ret
        exact ⟨by rw [chk_not (fun x => by have h9 := (okTx_of x).each _ hmem; rw [HE.out] at h9; cases h9)]; rfl, hB.trans (hBl4.mono hB.size)⟩
      have hd3 : decide (k < 1) = false := decide_eq_false h4
      by_cases h5 : 4 < k
      · have hd4 : decide (4 < k) = true := decide_eq_true h5
        have HE : Hid (okOp ⟨k, key, vv⟩ = false) := decide_eq_false (by simp only; omega)
        go_wp2_with (with_reducible refine at_list ?_; first
          | (refine wpList_loadOp (op := ⟨some 31, _, _, _, _, _⟩) rfl _ _ rfl g (o + i * 3) rfl (opc ⟨k, key, vv⟩) hr _ Tryz.underlying133 rfl (by rw [opc_size]; exact zRop.2) ?_)
          | (refine wpList_allocRow (op := ⟨some 4, _, _, _, _, _⟩) rfl _ rfl _ zRop.1 ?_; intro w2 hw2 hs2 hz2; replace hs2 := hs2.symm)
          | (refine wpList_storeRow (op := ⟨none, .store 133 (.tmp 4) (.tmp 31), _, _, _, _⟩) rfl _ _ _ rfl wr.heap.size (opc ⟨k, key, vv⟩) rfl rfl _ _ hz2 (by rw [opc_size, opc_size]) (by rw [opc_size]; exact zRop.2) (opc_one _) ?_; intro w4 hg4 hs4 hz4; have d0 := (hz4.cell 0).trans (opc_g0 _); have d1 := (hz4.cell 1).trans (opc_g1 _); have d2 := (hz4.cell 2).trans (opc_g2 _); dsimp only at d0 d1 d2))
        have hBl4 : Below wr.heap.size wr w4 := hw2.trans (below_of_grown hg4 (Nat.le_refl _) hw2.size)
        go_ret
        exact ⟨by rw [chk_not (fun x => by have h9 := (okTx_of x).each _ hmem; rw [HE.out] at h9; cases h9)]; rfl, hB.trans (hBl4.mono hB.size)⟩
      have hd4 : decide (4 < k) = false := decide_eq_false h5
      by_cases hk1 : k = 1
      · subst hk1
        have HE : Hid (okOp ⟨1, key, vv⟩ = true) := decide_eq_true ⟨h0, by dsimp only; omega, .inl ⟨by dsimp only; decide, by dsimp only; omega⟩⟩
        go_wp2_with (with_reducible refine at_list ?_; first
          | (refine wpList_loadOp (op := ⟨some 31, _, _, _, _, _⟩) rfl _ _ rfl g (o + i * 3) rfl (opc ⟨1, key, vv⟩) hr _ Tryz.underlying133 rfl (by rw [opc_size]; exact zRop.2) ?_)
          | (refine wpList_allocRow (op := ⟨some 4, _, _, _, _, _⟩) rfl _ rfl _ zRop.1 ?_; intro w2 hw2 hs2 hz2; replace hs2 := hs2.symm)
          | (refine wpList_storeRow (op := ⟨none, .store 133 (.tmp 4) (.tmp 31), _, _, _, _⟩) rfl _ _ _ rfl wr.heap.size (opc ⟨1, key, vv⟩) rfl rfl _ _ hz2 (by rw [opc_size, opc_size]) (by rw [opc_size]; exact zRop.2) (opc_one _) ?_; intro w4 hg4 hs4 hz4; have d0 := (hz4.cell 0).trans (opc_g0 _); have d1 := (hz4.cell 1).trans (opc_g1 _); have d2 := (hz4.cell 2).trans (opc_g2 _); dsimp only at d0 d1 d2))
        have hBl4 : Below wr.heap.size wr w4 := hw2.trans (below_of_grown hg4 (Nat.le_refl _) hw2.size)
        go_roundw
        case rel => exact ⟨i + 1, by omega, by go_num, hB.trans (hBl4.mono hB.size), hM.belowSize hBl4, (hT.out).trans (by rw [hA.out, HE.out]; rfl)⟩
        case measure => simp [intOf]; omega
      by_cases hk3 : k = 3
      · subst hk3
        have HE : Hid (okOp ⟨3, key, vv⟩ = true) := decide_eq_true ⟨h0, by dsimp only; omega, .inl ⟨by dsimp only; decide, by dsimp only; omega⟩⟩
        go_wp2_with (with_reducible refine at_list ?_; first
          | (refine wpList_loadOp (op := ⟨some 31, _, _, _, _, _⟩) rfl _ _ rfl g (o + i * 3) rfl (opc ⟨3, key, vv⟩) hr _ Tryz.underlying133 rfl (by rw [opc_size]; exact zRop.2) ?_)
          | (refine wpList_allocRow (op := ⟨some 4, _, _, _, _, _⟩) rfl _ rfl _ zRop.1 ?_; intro w2 hw2 hs2 hz2; replace hs2 := hs2.symm)
          | (refine wpList_storeRow (op := ⟨none, .store 133 (.tmp 4) (.tmp 31), _, _, _, _⟩) rfl _ _ _ rfl wr.heap.size (opc ⟨3, key, vv⟩) rfl rfl _ _ hz2 (by rw [opc_size, opc_size]) (by rw [opc_size]; exact zRop.2) (opc_one _) ?_; intro w4 hg4 hs4 hz4; have d0 := (hz4.cell 0).trans (opc_g0 _); have d1 := (hz4.cell 1).trans (opc_g1 _); have d2 := (hz4.cell 2).trans (opc_g2 _); dsimp only at d0 d1 d2))
        have hBl4 : Below wr.heap.size wr w4 := hw2.trans (below_of_grown hg4 (Nat.le_refl _) hw2.size)
        go_roundw
        case rel => exact ⟨i + 1, by omega, by go_num, hB.trans (hBl4.mono hB.size), hM.belowSize hBl4, (hT.out).trans (by rw [hA.out, HE.out]; rfl)⟩
        case measure => simp [intOf]; omega
      by_cases hk2 : k = 2
      · subst hk2
        by_cases hv : vv.length = 0
        · have hv2 : vv = [] := List.length_eq_zero_iff.1 hv
          subst hv2
          have HE : Hid (okOp ⟨2, key, []⟩ = true) := decide_eq_true ⟨h0, by dsimp only; omega, .inr ⟨by dsimp only; decide, rfl⟩⟩
          go_wp2_with (with_reducible refine at_list ?_; first
            | (refine wpList_loadOp (op := ⟨some 31, _, _, _, _, _⟩) rfl _ _ rfl g (o + i * 3) rfl (opc ⟨2, key, []⟩) hr _ Tryz.underlying133 rfl (by rw [opc_size]; exact zRop.2) ?_)
            | (refine wpList_allocRow (op := ⟨some 4, _, _, _, _, _⟩) rfl _ rfl _ zRop.1 ?_; intro w2 hw2 hs2 hz2; replace hs2 := hs2.symm)
            | (refine wpList_storeRow (op := ⟨none, .store 133 (.tmp 4) (.tmp 31), _, _, _, _⟩) rfl _ _ _ rfl wr.heap.size (opc ⟨2, key, []⟩) rfl rfl _ _ hz2 (by rw [opc_size, opc_size]) (by rw [opc_size]; exact zRop.2) (opc_one _) ?_; intro w4 hg4 hs4 hz4; have d0 := (hz4.cell 0).trans (opc_g0 _); have d1 := (hz4.cell 1).trans (opc_g1 _); have d2 := (hz4.cell 2).trans (opc_g2 _); dsimp only at d0 d1 d2))
          have hBl4 : Below wr.heap.size wr w4 := hw2.trans (below_of_grown hg4 (Nat.le_refl _) hw2.size)
          go_roundw
          case rel => exact ⟨i + 1, by omega, by go_num, hB.trans (hBl4.mono hB.size), hM.belowSize hBl4, (hT.out).trans (by rw [hA.out, HE.out]; rfl)⟩
          case measure => simp [intOf]; omega
        · have hE2 : vv.isEmpty = false := by cases vv with | nil => simp at hv | cons _ _ => rfl
          have HE : Hid (okOp ⟨2, key, vv⟩ = false) := decide_eq_false (by simp only; omega)
          go_wp2_with (with_reducible refine at_list ?_; first
            | (refine wpList_loadOp (op := ⟨some 31, _, _, _, _, _⟩) rfl _ _ rfl g (o + i * 3) rfl (opc ⟨2, key, vv⟩) hr _ Tryz.underlying133 rfl (by rw [opc_size]; exact zRop.2) ?_)
            | (refine wpList_allocRow (op := ⟨some 4, _, _, _, _, _⟩) rfl _ rfl _ zRop.1 ?_; intro w2 hw2 hs2 hz2; replace hs2 := hs2.symm)
            | (refine wpList_storeRow (op := ⟨none, .store 133 (.tmp 4) (.tmp 31), _, _, _, _⟩) rfl _ _ _ rfl wr.heap.size (opc ⟨2, key, vv⟩) rfl rfl _ _ hz2 (by rw [opc_size, opc_size]) (by rw [opc_size]; exact zRop.2) (opc_one _) ?_; intro w4 hg4 hs4 hz4; have d0 := (hz4.cell 0).trans (opc_g0 _); have d1 := (hz4.cell 1).trans (opc_g1 _); have d2 := (hz4.cell 2).trans (opc_g2 _); dsimp only at d0 d1 d2))
          have hBl4 : Below wr.heap.size wr w4 := hw2.trans (below_of_grown hg4 (Nat.le_refl _) hw2.size)
          go_ret
          exact ⟨by rw [chk_not (fun x => by have h9 := (okTx_of x).each _ hmem; rw [HE.out] at h9; cases h9)]; rfl, hB.trans (hBl4.mono hB.size)⟩
      by_cases hk4 : k = 4
      · subst hk4
        by_cases hv : vv.length = 0
        · have hv2 : vv = [] := List.length_eq_zero_iff.1 hv
          subst hv2
          have HE : Hid (okOp ⟨4, key, []⟩ = true) := decide_eq_true ⟨h0, by dsimp only; omega, .inr ⟨by dsimp only; decide, rfl⟩⟩
          go_wp2_with (with_reducible refine at_list ?_; first
            | (refine wpList_loadOp (op := ⟨some 31, _, _, _, _, _⟩) rfl _ _ rfl g (o + i * 3) rfl (opc ⟨4, key, []⟩) hr _ Tryz.underlying133 rfl (by rw [opc_size]; exact zRop.2) ?_)
            | (refine wpList_allocRow (op := ⟨some 4, _, _, _, _, _⟩) rfl _ rfl _ zRop.1 ?_; intro w2 hw2 hs2 hz2; replace hs2 := hs2.symm)
            | (refine wpList_storeRow (op := ⟨none, .store 133 (.tmp 4) (.tmp 31), _, _, _, _⟩) rfl _ _ _ rfl wr.heap.size (opc ⟨4, key, []⟩) rfl rfl _ _ hz2 (by rw [opc_size, opc_size]) (by rw [opc_size]; exact zRop.2) (opc_one _) ?_; intro w4 hg4 hs4 hz4; have d0 := (hz4.cell 0).trans (opc_g0 _); have d1 := (hz4.cell 1).trans (opc_g1 _); have d2 := (hz4.cell 2).trans (opc_g2 _); dsimp only at d0 d1 d2))
          have hBl4 : Below wr.heap.size wr w4 := hw2.trans (below_of_grown hg4 (Nat.le_refl _) hw2.size)
          go_roundw
          case rel => exact ⟨i + 1, by omega, by go_num, hB.trans (hBl4.mono hB.size), hM.belowSize hBl4, (hT.out).trans (by rw [hA.out, HE.out]; rfl)⟩
          case measure => simp [intOf]; omega
        · have hE2 : vv.isEmpty = false := by cases vv with | nil => simp at hv | cons _ _ => rfl
          have HE : Hid (okOp ⟨4, key, vv⟩ = false) := decide_eq_false (by simp only; omega)
          go_wp2_with (with_reducible refine at_list ?_; first
            | (refine wpList_loadOp (op := ⟨some 31, _, _, _, _, _⟩) rfl _ _ rfl g (o + i * 3) rfl (opc ⟨4, key, vv⟩) hr _ Tryz.underlying133 rfl (by rw [opc_size]; exact zRop.2) ?_)
            | (refine wpList_allocRow (op := ⟨some 4, _, _, _, _, _⟩) rfl _ rfl _ zRop.1 ?_; intro w2 hw2 hs2 hz2; replace hs2 := hs2.symm)
            | (refine wpList_storeRow (op := ⟨none, .store 133 (.tmp 4) (.tmp 31), _, _, _, _⟩) rfl _ _ _ rfl wr.heap.size (opc ⟨4, key, vv⟩) rfl rfl _ _ hz2 (by rw [opc_size, opc_size]) (by rw [opc_size]; exact zRop.2) (opc_one _) ?_; intro w4 hg4 hs4 hz4; have d0 := (hz4.cell 0).trans (opc_g0 _); have d1 := (hz4.cell 1).trans (opc_g1 _); have d2 := (hz4.cell 2).trans (opc_g2 _); dsimp only at d0 d1 d2))
          have hBl4 : Below wr.heap.size wr w4 := hw2.trans (below_of_grown hg4 (Nat.le_refl _) hw2.size)
          go_ret
          exact ⟨by rw [chk_not (fun x => by have h9 := (okTx_of x).each _ hmem; rw [HE.out] at h9; cases h9)]; rfl, hB.trans (hBl4.mono hB.size)⟩
      omega
    · have HE : Hid (chk ⟨c, n, l⟩ = 0) := by
        have := hA.out
        rw [List.take_of_length_le (by omega)] at this
        unfold chk okTx
        rw [show decide ((⟨c, n, l⟩ : TX).nonce ≠ 0 ∧ (⟨c, n, l⟩ : TX).ops.length ≠ 0 ∧ (⟨c, n, l⟩ : TX).ops.length ≤ 8) = true from decide_eq_true (by dsimp only; omega), Bool.true_and, this]
        exact rfl
      go_wp2_with fail
      go_ret
      exact ⟨by rw [HE.out]; rfl, hB⟩
set_option maxRecDepth 100000 in
set_option maxHeartbeats 400000 in
theorem rcheck_any (t : TX) (a : Option Addr) (cap : Nat) (w : World) (h : SL w a t.ops) : Calls Tryz.prog 41 #[.agg (txc t.client t.nonce (.slice a t.ops.length cap))] w fun e w' => e = .returned (.int .i64 (chk t)) ∧ Below w.heap.size w w' := by
  obtain ⟨c, n, l⟩ := t
  by_cases h1 : n = 0 ∨ l.length = 0 ∨ 8 < l.length
  · have HE : Hid (chk ⟨c, n, l⟩ = 40) := chk_not (fun x => by have := okTx_of x; have h2 := this.nonce; have h3 := this.len0; have h4 := this.len1; simp only at h2 h3 h4; omega)
    rw [HE.out]
    dsimp only at h ⊢
    by_cases hn : n = 0
    · subst hn
      go_enter Tryz.func41, Tryz.ntmps41
      go_wp2_with (with_reducible refine at_list ?_; first
      | (refine wpList_boxRow (op := ⟨some 1, _, _, _, _, _⟩) rfl _ _ rfl _ rfl ?_; intro w1 hw1 hs1 hb1; replace hs1 := hs1.symm; have c1 := (hb1.cell 1).trans (txc_g1 _ _ _); have c2 := (hb1.cell 2).trans (txc_g2 _ _ _)))
      go_ret
      exact ⟨rfl, hw1⟩
    · have hb : ((n : Int) == 0) = false := by rw [beq_eq_false_iff_ne]; omega
      by_cases hl0 : l.length = 0
      · have hl : l = [] := List.length_eq_zero_iff.1 hl0
        subst hl
        go_enter Tryz.func41, Tryz.ntmps41
        go_wp2_with (with_reducible refine at_list ?_; first
      | (refine wpList_boxRow (op := ⟨some 1, _, _, _, _, _⟩) rfl _ _ rfl _ rfl ?_; intro w1 hw1 hs1 hb1; replace hs1 := hs1.symm; have c1 := (hb1.cell 1).trans (txc_g1 _ _ _); have c2 := (hb1.cell 2).trans (txc_g2 _ _ _)))
        go_ret
        exact ⟨rfl, hw1⟩
      · have hb2 : ((l.length : Int) == 0) = false := by rw [beq_eq_false_iff_ne]; omega
        have hb3 : decide (8 < (l.length : Int)) = true := decide_eq_true (by omega)
        go_enter Tryz.func41, Tryz.ntmps41
        go_wp2_with (with_reducible refine at_list ?_; first
      | (refine wpList_boxRow (op := ⟨some 1, _, _, _, _, _⟩) rfl _ _ rfl _ rfl ?_; intro w1 hw1 hs1 hb1; replace hs1 := hs1.symm; have c1 := (hb1.cell 1).trans (txc_g1 _ _ _); have c2 := (hb1.cell 2).trans (txc_g2 _ _ _)))
        go_ret
        exact ⟨rfl, hw1⟩
  · exact rcheck_few c n l a cap w h h1
end Go.Proofs.YtjfpfkiccbcedaaGreatDoor
