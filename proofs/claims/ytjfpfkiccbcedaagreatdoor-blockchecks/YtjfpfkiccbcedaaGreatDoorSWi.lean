/- What the plain digest does. -/
import Derived.Test.YtjfpfkiccbcedaaGreatDoorSRs
import Derived.Deep.RegionHeld3
namespace Go.Proofs.YtjfpfkiccbcedaaGreatDoor.Sh
open Go.RowKit
attribute [local go_sem] n32_add n32_wadd bits_xor32 bits_and32 bits_or32 bits_not32 bits_notmax sub_not32 n32_shr n32_shl n8_wrap n32_shl8 n32_shl16 n32_shl24 n32_shr3 n32_shr10 n32_wshl8 n32_wshl16 n32_wshl24 n32_mod conv0 wconv0 n32_shr24 n32_shr16 n32_shr8
set_option maxRecDepth 100000 in
set_option maxHeartbeats 4000000 in
theorem rsum_any (s : List UInt8) (w : World) (hs : s.length ≤ 549755813888) :
    Calls Tryz.prog 105 #[.string ⟨s.toArray⟩] w fun e w' => e = .returned (.string ⟨(digest s).toArray⟩) ∧ Below w.heap.size w w' := by
  obtain ⟨i5', hi5, hz5, hs5, hb5⟩ := info5
  go_enter Tryz.func105, Tryz.ntmps105
  go_wp2_with (first
    | (go_at_call 139; refine (table_any _).mono ?_; rintro e w1 ⟨rfl, hw1⟩)
    | (with_reducible refine at_list ?_; first
      | (refine wpList_allocRow (op := ⟨some 3, _, _, _, _, _⟩) rfl _ rfl _ z39.1 ?_; intro w2 hw2 hs2 hb2; replace hs2 := hs2.symm)
      | (refine wpList_allocRow (op := ⟨some 4, _, _, _, _, _⟩) rfl _ rfl _ z40.1 ?_; intro w3 hw3 hs3 hb3; replace hs3 := hs3.symm)
      | (refine wpList_storeRow (op := ⟨none, .store 198 (.tmp 3) (.tmp 26), _, _, _, _⟩) rfl _ _ _ rfl w1.heap.size (row32 Kt 64) rfl rfl _ _ (hb2.belowSize hw3) (by rw [row32_size, row32_size]) (by rw [row32_size]; exact z39.2) (row32_one _ _) ?_; intro w4 hg4 hs4 hb4; replace hs4 := hs4.symm)
      | (refine wpList_storeRow (op := ⟨none, .store 188 (.tmp 4) (.tmp 27), _, _, _, _⟩) rfl _ _ _ rfl w2.heap.size (row32 H0.at 8) rfl rfl _ _ (hb3.grown hg4 (by simp; omega)) (by rw [row32_size, row32_size]) (by rw [row32_size]; exact z40.2) (row32_one _ _) ?_; intro w5 hg5 hs5' hb5'; replace hs5' := hs5'.symm)
      | (refine wpList_strBytes rfl _ _ _ rfl s rfl _ Tryz.underlying9 Tryz.underlying57 Tryz.underlying5 ?_; intro w6 cap6 hw6 hs6 hb6; replace hs6 := hs6.symm)
      | (refine wpList_bsl1 (op := ⟨some 31, _, _, _, _, _⟩) rfl _ rfl 128 rfl ?_; intro w7 hw7 hs7 hb7; replace hs7 := hs7.symm)
      | (refine wpList_appendBS (op := ⟨some 32, _, _, _, _, _⟩) rfl _ _ _ rfl w5.heap.size cap6 s _ rfl rfl (hb6.belowSize hw7) w6.heap.size 1 1 rfl _ _ hb7 _ Tryz.underlying57 hi5 hz5 hs5 hb5 (by omega) ?_; intro v8 g8 cap8 hg8' hg8 hb8; rw [padZ_zero] at hb8)))
  have hr8 : RS w1.heap.size w2.heap.size w v8 H0.at g8 cap8 (padZ s 0) := by
    have hB4 : Below w.heap.size w w4 := ((hw1.trans (hw2.mono hw1.size)).trans (hw3.mono (by have := hw1.size; omega))).trans (below_of_grown hg4 hw1.size (by have := hw1.size; omega))
    have hB5 : Below w.heap.size w w5 := hB4.trans (below_of_grown hg5 (by have := hw1.size; omega) hB4.size)
    have r5 : RS w1.heap.size w2.heap.size w w6 H0.at w5.heap.size cap6 s :=
      ⟨hB5.trans (hw6.mono hB5.size), hw1.size, by omega, by omega, (hb4.grown hg5 (by simp; omega)).belowSize hw6, hb5'.belowSize hw6, hb6⟩
    exact (r5.later hw7).app hg8 hg8' hb8
  generalize w1.heap.size = A at *
  generalize w2.heap.size = B at *
  clear hw1 hw2 hw3 hw6 hw7 hg4 hg5 hg8 hg8' hb2 hb3 hb4 hb5' hb6 hb7 hb8 hs2 hs3 hs4 hs5' hs6 hs7
  go_loopw [5] (fun v wl => ∃ g cap z : Nat, z ≤ noughts s.length ∧ v = .slice (some ⟨g, 0, none⟩) (s.length + 1 + z) cap ∧ RS A B w wl H0.at g cap (padZ s z)) (fun v _ => s.length + 65 - slLen v)
  case atStart => exact ⟨g8, cap8, 0, Nat.zero_le _, rfl, hr8⟩
  case round =>
    clear hr8
    obtain ⟨g, cap, z, hz, rfl, hr⟩ := hrel
    have hns := nought_stop s.length z hz
    have hn64 : noughts s.length < 64 := by unfold noughts; omega
    by_cases hlt : (s.length + 1 + z) % 64 = 56
    · have hne : (((s.length : Int) + 1 + (z : Int)) % 64 != 56) = false := by rw [bne_eq_false_iff_eq]; omega
      have hr' : RS A B w wr H0.at g cap (padZ s (noughts s.length) ++ (be (8 * s.length) 8).take 0) := by rw [← hns.1 hlt, List.take_zero, List.append_nil]; exact hr
      have hzz : Hid (z = noughts s.length) := hns.1 hlt
      clear hr hns hlt
      go_wp2_with fail
      clear hne
      go_loopw [5, 7] (fun v5 v7 wl => ∃ g cap k : Nat, k ≤ 8 ∧ v7 = .int .i64 (7 - (k : Int)) ∧ v5 = .slice (some ⟨g, 0, none⟩) (s.length + 1 + noughts s.length + k) cap ∧ RS A B w wl H0.at g cap (padZ s (noughts s.length) ++ (be (8 * s.length) 8).take k)) (fun _ v7 _ => (intOf v7 + 1).toNat)
      case atStart => exact ⟨g, cap, 0, by omega, rfl, by rw [hzz.out]; rfl, hr'⟩
      case round =>
        clear hr' hzz
        obtain ⟨g, cap, k, hk, rfl, rfl, hr⟩ := hrel
        by_cases hlt : k < 8
        · go_wp2_with (first
            | (with_reducible refine at_list ?_; first
              | (refine wpList_bsl1 (op := ⟨some 55, _, _, _, _, _⟩) rfl _ rfl (byteAt (8 * s.length) 8 k) ?_ ?_; (next => (go_simp; try rw [len_byte])); intro w9 hw9 hs9 hb9; replace hs9 := hs9.symm)
              | (refine wpList_appendBS (op := ⟨some 56, _, _, _, _, _⟩) rfl _ _ _ rfl g cap (padZ s (noughts s.length) ++ (be (8 * s.length) 8).take k) _ (padK_length s k hk).symm rfl (hr.t.belowSize hw9) wr.heap.size 1 1 rfl _ _ hb9 _ Tryz.underlying57 hi5 hz5 hs5 hb5 (by rw [padK_length s k hk]; omega) ?_; intro w10 g10 cap10 hg10' hg10 hb10; rw [padK_succ s k hlt] at hb10)))
          go_roundw
          case rel => exact ⟨g10, cap10, k + 1, by omega, by go_num, by rw [Nat.add_assoc (s.length + 1 + noughts s.length)], (hr.later hw9).app hg10 hg10' hb10⟩
          case measure => simp [intOf]; omega
        · obtain ⟨M, hM⟩ : ∃ M, M = s ++ padL s.length := ⟨_, rfl⟩
          have hMl : M.length = s.length + 9 + noughts s.length := by rw [hM]; simp [padL, be_length]; omega
          have hr3 : RS A B w wr (hashTo M 0).at g cap M := by
            rw [show k = 8 from by omega, padK_all, ← hM] at hr
            exact hr
          obtain ⟨nb, hnb⟩ : ∃ nb, M.length = 64 * nb := ⟨M.length / 64, by rw [hMl]; unfold noughts; omega⟩
          have HM : Hid (M = s ++ padL s.length) := hM
          rw [show s.length + 1 + noughts s.length + k = 64 * nb from by omega]
          have hnb2 : 64 * nb ≤ 1099511627776 := by omega
          have HL : Hid (M.length = 64 * nb) := hnb
          have hdk : decide ((k : Int) ≤ 7) = false := by simp; omega
          clear hM hMl hnb hr
          go_wp2_with fail
          clear hdk
          go_loopw [8] (fun v8 wl => ∃ kb : Nat, kb ≤ nb ∧ v8 = .int .i64 (64 * (kb : Int)) ∧ RS A B w wl (hashTo M kb).at g cap M) (fun v8 _ => 64 * nb - (intOf v8).toNat)
          case atStart => exact ⟨0, by omega, rfl, hr3⟩
          case round =>
            clear hr3
            obtain ⟨kb, hkb, rfl, hr⟩ := hrel
            by_cases hlt3 : kb < nb
            · go_wp2_with (with_reducible refine at_list ?_; first
                | (refine wpList_build0 (op := ⟨some 63, _, _, _, _, _⟩) rfl _ rfl _ built39 ?_)
                | (refine wpList_allocRow (op := ⟨some 9, _, _, _, _, _⟩) rfl _ rfl _ z39.1 ?_; intro w9 hw9 hs9 hb9; replace hs9 := hs9.symm)
                | (refine wpList_storeRow (op := ⟨none, .store 198 (.tmp 9) (.tmp 63), _, _, _, _⟩) rfl _ _ _ rfl wr.heap.size (row32 (fun _ => 0) 64) rfl rfl _ _ hb9 rfl (by rw [row32_size]; exact z39.2) (row32_one _ _) ?_; intro w10 hg10 hs10 hb10; replace hs10 := hs10.symm))
              have hr10 := (hr.later hw9).other hg10 hr.t.lt
              have hgW := hr.t.lt
              generalize wr.heap.size = W at *
              clear hr hw9 hs9 hb9 hg10 hs10
              go_loopw [10] (fun v10 wl => ∃ i : Nat, i ≤ 64 ∧ v10 = .int .i64 i ∧ RS A B w wl (hashTo M kb).at g cap M ∧ Blk wl W (row32 (wfill (blkAt M kb) i) 64) 198) (fun v10 _ => 64 - (intOf v10).toNat)
              case atStart => exact ⟨0, by omega, rfl, hr10, by rw [wfill_zero]; exact hb10⟩
              case round =>
                clear hr10 hb10
                obtain ⟨i, hi, rfl, hr, hbw⟩ := hrel
                by_cases h16 : i < 16
                · as_aux_lemma =>
                    have hcap : 64 * nb ≤ cap := by have := hr.t.len; rw [HL.out] at this; exact this
                    obtain ⟨b0, hb0⟩ : ∃ b0, b0 = M.getD (64 * kb + 4 * i) 0 := ⟨_, rfl⟩
                    obtain ⟨b1, hb1⟩ : ∃ b1, b1 = M.getD (64 * kb + 4 * i + 1) 0 := ⟨_, rfl⟩
                    obtain ⟨b2, hb2⟩ : ∃ b2, b2 = M.getD (64 * kb + 4 * i + 2) 0 := ⟨_, rfl⟩
                    obtain ⟨b3, hb3⟩ : ∃ b3, b3 = M.getD (64 * kb + 4 * i + 3) 0 := ⟨_, rfl⟩
                    have hq0 := hr.t.cell (64 * kb + 4 * i) (by rw [HL.out]; omega)
                    have hq1 := hr.t.cell (64 * kb + 4 * i + 1) (by rw [HL.out]; omega)
                    have hq2 := hr.t.cell (64 * kb + 4 * i + 2) (by rw [HL.out]; omega)
                    have hq3 := hr.t.cell (64 * kb + 4 * i + 3) (by rw [HL.out]; omega)
                    rw [← hb0] at hq0
                    rw [← hb1] at hq1
                    rw [← hb2] at hq2
                    rw [← hb3] at hq3
                    have HW : Hid (wordOf (blkAt M kb) i = or32 (or32 (or32 (shl32 (w8 b0) 24) (shl32 (w8 b1) 16)) (shl32 (w8 b2) 8)) (w8 b3)) := by
                      rw [word4, hb0, hb1, hb2, hb3]; rfl
                    clear hb0 hb1 hb2 hb3
                    go_wp2_with (with_reducible refine at_list ?_; first
                      | (refine wpList_sliceSl (op := ⟨some 80, _, _, _, _, _⟩) rfl _ _ _ _ rfl g (64 * nb) cap rfl _ _ rfl rfl (64 * kb + 4 * i) 4 (by omega) (by omega) (by omega) (by omega) _ Tryz.underlying57 i5 ?_))
                    have hqw := (hbw.cell i).trans (row32_get _ _ _ (by omega))
                    have hqf := hbw.frozen i
                    have hne : ¬ g = W := by omega
                    go_region_held3 (fun w' => w'.cell? ⟨g, 64 * kb + 4 * i, none⟩ = some (.int .u8 (n8 b0)) ∧ w'.cell? ⟨g, 64 * kb + 4 * i + 1, none⟩ = some (.int .u8 (n8 b1)) ∧ w'.cell? ⟨g, 64 * kb + 4 * i + 2, none⟩ = some (.int .u8 (n8 b2)) ∧ w'.cell? ⟨g, 64 * kb + 4 * i + 3, none⟩ = some (.int .u8 (n8 b3)))
                      (first | (go_keep; done) | exact keep4 hgW hq0 hq1 hq2 hq3) (fail)
                    clear hq0 hq1 hq2 hq3 hqw hqf
                    go_wp2_with fail
                    go_roundw
                    case rel => exact ⟨i + 1, by omega, by go_num, hr.setW hgW, by rw [← wfill_low _ _ h16, HW.out]; exact hbw.setW _⟩
                    case measure => simp [intOf]; omega
                · by_cases h64 : i < 64
                  · as_aux_lemma =>
                      have q15 := (hbw.cell (i - 15)).trans (row32_get _ _ _ (by omega))
                      go_wp2_with fail
                      go_quiet ((go_at_call 140; exact Calls.quiet_of_same (turn_any _ _ _ (by omega) (by omega))))
                      have hr2 := hr.drewN nq
                      have hbw2 := hbw.drewN nq
                      clear q15 hr hbw
                      generalize wr.drewN nq = wz at *
                      have q2 := (hbw2.cell (i - 2)).trans (row32_get _ _ _ (by omega))
                      go_wp2_with fail
                      go_quiet ((go_at_call 140; exact Calls.quiet_of_same (turn_any _ _ _ (by omega) (by omega))))
                      have hr3 := hr2.drewN nq
                      have hbw3 := hbw2.drewN nq
                      clear q2 hr2 hbw2
                      generalize wz.drewN nq = wy at *
                      have q16 := (hbw3.cell (i - 16)).trans (row32_get _ _ _ (by omega))
                      have q7 := (hbw3.cell (i - 7)).trans (row32_get _ _ _ (by omega))
                      have qi := (hbw3.cell i).trans (row32_get _ _ _ h64)
                      have qf := hbw3.frozen i
                      go_wp2_with fail
                      go_region
                      clear q16 q7 qi qf
                      go_wp2_with fail
                      go_roundw
                      case rel => exact ⟨i + 1, by omega, by go_num, hr3.setW hgW, by rw [← wfill_next _ _ (by omega)]; exact hbw3.setW _⟩
                      case measure => simp [intOf]; omega
                  · as_aux_lemma =>
                      have hb5w : Blk wr W (row32 (wt (blkAt M kb)) 64) 198 := by
                        rw [show i = 64 from by omega, wfill_all] at hbw
                        exact hbw
                      have hi64 : decide ((i : Int) < 64) = false := by simp; omega
                      clear hbw
                      go_wp2_with (with_reducible refine at_list ?_; first
                        | (refine wpList_loadRow (op := ⟨some 154, _, _, _, _, _⟩) rfl _ _ rfl B rfl _ _ hr.h _ Tryz.underlying188 rfl (by rw [row32_size]; exact z40.2) ?_)
                        | (refine wpList_allocRow (op := ⟨some 14, _, _, _, _, _⟩) rfl _ rfl _ z40.1 ?_; intro w9 hw9 hs9 hb9; replace hs9 := hs9.symm)
                        | (refine wpList_storeRow (op := ⟨none, .store 188 (.tmp 14) (.tmp 154), _, _, _, _⟩) rfl _ _ _ rfl wr.heap.size (row32 (hashTo M kb).at 8) rfl rfl _ _ hb9 (by rw [row32_size, row32_size]) (by rw [row32_size]; exact z40.2) (row32_one _ _) ?_; intro w10 hg10 hs10 hb10; replace hs10 := hs10.symm))
                      have hWV : W < wr.heap.size := hb5w.lt
                      have hr10 := (hr.later hw9).other hg10 hr.t.lt
                      have hw10 := (hb5w.belowSize hw9).grown hg10 (by simp; omega)
                      generalize wr.heap.size = V at *
                      clear hr hw9 hs9 hb9 hg10 hs10 hb5w hi64
                      go_loopw [15] (fun v15 wl => ∃ (i : Nat) (st : S8), i ≤ 64 ∧ v15 = .int .i64 i ∧ st = rnds Kt (wt (blkAt M kb)) (hashTo M kb) i ∧ RS A B w wl (hashTo M kb).at g cap M ∧ Blk wl W (row32 (wt (blkAt M kb)) 64) 198 ∧ Blk wl V (row32 st.at 8) 188) (fun v15 _ => 64 - (intOf v15).toNat)
                      case atStart => exact ⟨0, hashTo M kb, by omega, rfl, rfl, hr10, hw10, hb10⟩
                      case round =>
                        clear hr10 hw10 hb10
                        obtain ⟨j, st, hj, rfl, hst, hr, hbw, hbv⟩ := hrel
                        have HST : Hid (st = rnds Kt (wt (blkAt M kb)) (hashTo M kb) j) := hst
                        clear hst
                        by_cases hj64 : j < 64
                        · as_aux_lemma =>
                            have hdj1 : decide ((j : Int) < 64) = true := by simp; omega
                            have c4 : wr.cell? ⟨V, 4, none⟩ = some (.int .u32 (n32 st.e)) := (hbv.cell 4).trans (row32_get _ _ _ (by omega))
                            go_wp2_with fail
                            go_quiet ((go_at_call 140; exact Calls.quiet_of_same (turn_any _ _ _ (by omega) (by omega))))
                            have hr2 := hr.drewN nq
                            have hbw2 := hbw.drewN nq
                            have hbv2 := hbv.drewN nq
                            clear c4 hr hbw hbv hdj1
                            generalize wr.drewN nq = wz at *
                            have d4 : wz.cell? ⟨V, 4, none⟩ = some (.int .u32 (n32 st.e)) := (hbv2.cell 4).trans (row32_get _ _ _ (by omega))
                            have d5 : wz.cell? ⟨V, 5, none⟩ = some (.int .u32 (n32 st.f)) := (hbv2.cell 5).trans (row32_get _ _ _ (by omega))
                            have d6 : wz.cell? ⟨V, 6, none⟩ = some (.int .u32 (n32 st.g)) := (hbv2.cell 6).trans (row32_get _ _ _ (by omega))
                            have d7 : wz.cell? ⟨V, 7, none⟩ = some (.int .u32 (n32 st.h)) := (hbv2.cell 7).trans (row32_get _ _ _ (by omega))
                            have dk := (hr2.k.cell j).trans (row32_get _ _ _ hj64)
                            have dw := (hbw2.cell j).trans (row32_get _ _ _ hj64)
                            go_wp2_with fail
                            go_quiet (fail)
                            clear d4 d5 d6 d7 dk dw
                            have hr3 := hr2.drewN nq
                            have hbw3 := hbw2.drewN nq
                            have hbv3 := hbv2.drewN nq
                            clear hr2 hbw2 hbv2
                            generalize wz.drewN nq = wy at *
                            have e0 : wy.cell? ⟨V, 0, none⟩ = some (.int .u32 (n32 st.a)) := (hbv3.cell 0).trans (row32_get _ _ _ (by omega))
                            go_wp2_with fail
                            go_quiet ((go_at_call 140; exact Calls.quiet_of_same (turn_any _ _ _ (by omega) (by omega))))
                            have hr4 := hr3.drewN nq
                            have hbw4 := hbw3.drewN nq
                            have hbv4 := hbv3.drewN nq
                            clear e0 hr3 hbw3 hbv3
                            generalize wy.drewN nq = wx at *
                            have f0 : wx.cell? ⟨V, 0, none⟩ = some (.int .u32 (n32 st.a)) := (hbv4.cell 0).trans (row32_get _ _ _ (by omega))
                            have f1 : wx.cell? ⟨V, 1, none⟩ = some (.int .u32 (n32 st.b)) := (hbv4.cell 1).trans (row32_get _ _ _ (by omega))
                            have f2 : wx.cell? ⟨V, 2, none⟩ = some (.int .u32 (n32 st.c)) := (hbv4.cell 2).trans (row32_get _ _ _ (by omega))
                            go_wp2_with fail
                            clear f0 f1 f2
                            simp only [Int.reduceToNat, n32_mod]
                            go_loopw [20] (fun v20 wl => ∃ n : Nat, n ≤ 7 ∧ v20 = .int .i64 n ∧ RS A B w wl (hashTo M kb).at g cap M ∧ Blk wl W (row32 (wt (blkAt M kb)) 64) 198 ∧ Blk wl V (row32 (shiftTo st n) 8) 188) (fun v20 _ => (intOf v20).toNat)
                            case atStart => exact ⟨7, by omega, rfl, hr4, hbw4, by rw [shiftTo_seven]; exact hbv4⟩
                            case round =>
                              clear hr4 hbw4 hbv4
                              obtain ⟨n, hn, rfl, hr, hbw, hbv⟩ := hrel
                              by_cases hn0 : n = 0
                              · as_aux_lemma =>
                                  have hn0' : decide (0 < (n : Int)) = false := by simp; omega
                                  have HN : Hid (n = 0) := hn0
                                  have hn00 : n ≤ 0 := by omega
                                  clear hn0
                                  have g4 := (hbv.cell 4).trans (row32_get _ _ _ (by omega))
                                  have g0 := (hbv.cell 0).trans (row32_get _ _ _ (by omega))
                                  have gf4 := hbv.frozen 4
                                  have gf0 := hbv.frozen 0
                                  go_wp2_with fail
                                  clear g4 g0 gf4 gf0
                                  go_roundw
                                  case rel =>
                                    refine ⟨j + 1, step (Kt j) (wt (blkAt M kb) j) st, by omega, by go_num, by rw [rnds, ← HST.out], (hr.other (grown_setCell V _ 4 wr) (by omega)).other (grown_setCell V _ 0 _) (by omega), (hbw.grown (grown_setCell V _ 4 wr) (by simp; omega)).grown (grown_setCell V _ 0 _) (by simp; omega), ?_⟩
                                    rw [← shift_step]
                                    rw [HN.out] at hbv ⊢
                                    rw [← row32_set, ← row32_set]
                                    exact (hbv.setCell 4 _).setCell 0 _
                                  case measure => simp [intOf]; omega
                              · as_aux_lemma =>
                                  obtain ⟨p, rfl⟩ : ∃ p, n = p + 1 := ⟨n - 1, by omega⟩
                                  clear hn0
                                  go_wp2_with (with_reducible refine at_list ?_; first
                                    | (refine wpList_addrW (op := ⟨some 232, _, _, _, _, _⟩) rfl _ _ _ rfl V rfl .i64 _ rfl p _ _ Tryz.underlying188 i38 (by omega) (by omega) ?_)
                                    | (refine wpList_addrW (op := ⟨some 234, _, _, _, _, _⟩) rfl _ _ _ rfl V rfl .i64 _ rfl (p + 1) _ _ Tryz.underlying188 i38 (by omega) (by omega) ?_)
                                    | (refine wpList_loadW (op := ⟨some 233, _, _, _, _, _⟩) rfl _ _ rfl V p rfl _ _ _ hbv _ Tryz.underlying187 rfl (by omega) ?_)
                                    | (refine wpList_storeW (op := ⟨none, .store 187 (.tmp 234) (.tmp 233), _, _, _, _⟩) rfl _ _ _ rfl V (p + 1) rfl _ rfl _ _ _ hbv i38 (by omega) ?_; intro w11 hg11 hs11 hb11; replace hs11 := hs11.symm; rw [shiftTo_pred] at hb11))
                                  go_roundw
                                  case rel => exact ⟨p, by omega, by go_num, hr.other hg11 (by omega), hbw.grown hg11 (by simp; omega), hb11⟩
                                  case measure => simp [intOf]
                        · as_aux_lemma =>
                            have HMX : Hid ((hashTo M kb).add st = hashTo M (kb + 1)) := by
                              have := HST.out
                              rw [show j = 64 from by omega] at this
                              rw [hashTo, mixS, ← this]
                              rfl
                            have hdj : decide ((j : Int) < 64) = false := by simp; omega
                            have hr5 : RS A B w wr (addTo (hashTo M kb) st 0) g cap M := by rw [addTo_zero]; exact hr
                            clear HST hr
                            go_wp2_with fail
                            clear hdj
                            go_loopw [21] (fun v21 wl => ∃ n : Nat, n ≤ 8 ∧ v21 = .int .i64 n ∧ RS A B w wl (addTo (hashTo M kb) st n) g cap M ∧ Blk wl V (row32 st.at 8) 188) (fun v21 _ => 8 - (intOf v21).toNat)
                            case atStart => exact ⟨0, by omega, rfl, hr5, hbv⟩
                            case round =>
                              clear hr5 hbv hbw
                              obtain ⟨n, hn, rfl, hr, hbv⟩ := hrel
                              have hBV : B < V := by have := hr.bg; omega
                              by_cases hn8 : n < 8
                              · as_aux_lemma =>
                                  have q1 := (hr.h.cell n).trans (row32_get _ _ _ hn8)
                                  have q2 := (hbv.cell n).trans (row32_get _ _ _ hn8)
                                  have qf := hr.h.frozen n
                                  go_wp2_with fail
                                  go_region
                                  clear q1 q2 qf
                                  go_wp2_with fail
                                  go_roundw
                                  case rel =>
                                    refine ⟨n + 1, by omega, by go_num, ?_, (hbv.setCell_other _ (by simp; omega) _).drew⟩
                                    have hb9 := hr.h.setCell n (.int .u32 (n32 (add32 (addTo (hashTo M kb) st n n) (st.at n))))
                                    rw [row32_set, addTo_succ] at hb9
                                    exact (hr.seth (grown_setCell B _ n wr) hb9).drewN 1
                                  case measure => simp [intOf]; omega
                              · as_aux_lemma =>
                                  have hr6 : RS A B w wr (hashTo M (kb + 1)).at g cap M := by
                                    rw [← HMX.out]
                                    rw [show n = 8 from by omega] at hr
                                    exact hr.congr (addTo_all _ _)
                                  clear hr
                                  go_wp2_with fail
                                  go_roundw
                                  case rel => exact ⟨kb + 1, by omega, by go_num, hr6⟩
                                  case measure => simp [intOf]; omega
            · as_aux_lemma =>
                have hr7 : RS A B w wr (hashAll s).at g cap M := by
                  have e : hashTo M nb = hashAll s := by
                    unfold hashAll
                    rw [← HM.out, HL.out, Nat.mul_div_cancel_left nb (by omega)]
                  rw [show kb = nb from by omega, e] at hr
                  exact hr
                have hdk3 : decide (64 * (kb : Int) < 64 * (nb : Int)) = false := by simp; omega
                clear hr
                go_wp2_with (with_reducible refine at_list ?_; first
                  | (refine wpList_bsl0 (op := ⟨some 256, _, _, _, _, _⟩) rfl rfl ?_; intro w9 hw9 hs9 hb9; replace hs9 := hs9.symm))
                have hr9 := hr7.later hw9
                have hgO : B < wr.heap.size := hr7.h.lt
                generalize wr.heap.size = G at *
                clear hr7 hw9 hs9 hdk3
                go_loopw [22, 23] (fun v22 v23 wl => ∃ g2 cap2 n : Nat, n ≤ 8 ∧ v23 = .int .i64 n ∧ v22 = .slice (some ⟨g2, 0, none⟩) (4 * n) cap2 ∧ B < g2 ∧ w.heap.size ≤ B ∧ Below w.heap.size w wl ∧ Blk wl B (row32 (hashAll s).at 8) 188 ∧ BS wl g2 cap2 (digTo s n)) (fun _ v23 _ => 8 - (intOf v23).toNat)
                case atStart => exact ⟨G, 0, 0, by omega, rfl, rfl, hgO, by have := hr9.a; have := hr9.ab; omega, hr9.below, hr9.h, hb9⟩
                case round =>
                  clear hr9 hb9 hgO
                  obtain ⟨g2, cap2, n, hn, rfl, rfl, hBg, hNB, hB, hbh, hbo⟩ := hrel
                  by_cases hn8 : n < 8
                  · as_aux_lemma =>
                      have q1 := (hbh.cell n).trans (row32_get _ _ _ hn8)
                      obtain ⟨x, hx⟩ : ∃ x, x = (hashAll s).at n := ⟨_, rfl⟩
                      rw [← hx] at q1
                      have HX : Hid (x = (hashAll s).at n) := hx
                      clear hx
                      go_wp2_with fail
                      go_region_held3 (fun w' => w'.cell? ⟨B, n, none⟩ = some (.int .u32 (n32 x))) (first | assumption | (go_keep; done))
                        (first
                          | (rw [if_pos (by rfl)]
                             refine wp_appendBS (.tmp 261) (.tmp 281) 57 rfl g2 cap2 (digTo s n) _ (digTo_length s n).symm rfl ((hbo.belowSize ((Below.refl wr.heap.size wr).alloc (Nat.le_refl _) _)).drew) wr.heap.size 4 4 rfl (byteAt x.toNat 4) 5 (Blk4 x wr) _ Tryz.underlying57 hi5 hz5 hs5 hb5 (by rw [digTo_length]; omega) ?_
                             intro w10 g10 cap10 hg10' hg10 hb10
                             have hS10 : w10.cell? ⟨B, n, none⟩ = some (.int .u32 (n32 x)) := by rw [HX.out]; exact (((hbh.alloc _).drew.grown hg10 (by simp; omega)).cell n).trans (row32_get _ _ _ hn8)))
                      rw [HX.out, digTo_succ] at hb10
                      have hg11 : B < g10 := by
                        have h9 := hbh.lt
                        rcases hg10' with h | h
                        · omega
                        · have h10 : wr.heap.size + 1 ≤ g10 := by simpa using h
                          omega
                      clear q1 hS10
                      go_wp2_with fail
                      go_roundw
                      case rel =>
                        exact ⟨g10, cap10, n + 1, by omega, by go_num, by rw [show 4 * (n + 1) = 4 * n + 4 from by omega], hg11, hNB, (hB.trans (((Below.refl wr.heap.size wr).alloc (Nat.le_refl _) _).drew.mono hB.size)).trans (below_of_grown hg10 (by omega) (by have := hbh.lt; simp; omega)), (hbh.alloc _).drew.grown hg10 (by simp; omega), hb10⟩
                      case measure => simp [intOf]; omega
                  · go_wp2_with (with_reducible refine at_list ?_; first
                      | (refine wpList_bytesStrBS rfl _ _ _ rfl g2 (4 * n) cap2 rfl _ Tryz.underlying57 Tryz.underlying5 Tryz.underlying9 (digTo s n) (digTo_length s n).symm hbo ?_))
                    go_ret
                    refine ⟨?_, hB⟩
                    show Ending.returned (.string ⟨(digTo s n).toArray⟩) = _
                    rw [show n = 8 from by omega, digTo_all]
    · have hzl : z < noughts s.length := by omega
      have hne : (((s.length : Int) + 1 + (z : Int)) % 64 != 56) = true := by rw [bne_iff_ne]; omega
      clear hns hlt
      go_wp2_with (first
        | (with_reducible refine at_list ?_; first
          | (refine wpList_bsl1 (op := ⟨some 38, _, _, _, _, _⟩) rfl _ rfl 0 rfl ?_; intro w9 hw9 hs9 hb9; replace hs9 := hs9.symm)
          | (refine wpList_appendBS (op := ⟨some 39, _, _, _, _, _⟩) rfl _ _ _ rfl g cap (padZ s z) _ (padZ_length _ _).symm rfl (hr.t.belowSize hw9) wr.heap.size 1 1 rfl _ _ hb9 _ Tryz.underlying57 hi5 hz5 hs5 hb5 (by rw [padZ_length]; omega) ?_; intro w10 g10 cap10 hg10' hg10 hb10; rw [padZ_succ] at hb10)))
      go_roundw
      case rel => exact ⟨g10, cap10, z + 1, by omega, by rw [Nat.add_assoc (s.length + 1)], (hr.later hw9).app hg10 hg10' hb10⟩
      case measure => simp only [slLen]; omega
end Go.Proofs.YtjfpfkiccbcedaaGreatDoor.Sh
