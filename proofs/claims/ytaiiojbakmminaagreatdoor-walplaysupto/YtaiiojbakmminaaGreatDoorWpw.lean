/- What WalPlays tells: records stand behind a snapshot, and are there again when it is opened, behind any crash, too. -/
import Derived.Test.YtaiiojbakmminaaGreatDoorWpl
namespace Go.Proofs.YtaiiojbakmminaaGreatDoor
open Go Go.RowKit
set_option maxRecDepth 100000 in
set_option maxHeartbeats 16000000 in
theorem walPlays_any (z : Int) (acts : List AC) (ad : Option Addr) (cap : Nat) (w : World) (hG : Gw w) (hA : AA w ad acts) (hS : ∀ x ∈ acts, x.s.length ≤ 1048576) :
    Calls Tryz.prog 3 #[.int .i64 z, .slice ad acts.length cap] w fun e w' => e = .returned (.bool true) ∧ Below w.heap.size w w' := by
  obtain ⟨cc, hcc⟩ : ∃ cc : Bool, Hid (cc = decide (z < 1)) := ⟨_, rfl⟩
  obtain ⟨M, hM⟩ : ∃ M : Int, Hid (M = if cc = true then 1 else z) := ⟨_, rfl⟩
  have hM1 : 1 ≤ M := by
    have h1 := hM.out
    have h2 := hcc.out
    rw [h1]
    split
    · decide
    · rename_i h3
      rw [h2] at h3
      simp at h3
      omega
  have h2g := hG.two
  have HN := newD w
  go_enter Tryz.func3, Tryz.ntmps3
  go_upto_region 1 with fail
  go_cut [14] from 13 to 14 (fun s14 wx => s14 = .bool cc ∧ wx = w)
  case first =>
    by_cases h1 : z < 1
    · have e : cc = true := by rw [hcc.out, decide_eq_true h1]
      subst e
      go_wp2_with fail
      go_meet
      case rel => exact ⟨rfl, rfl⟩
    · have e : cc = false := by rw [hcc.out, decide_eq_false h1]
      subst e
      go_wp2_with fail
      go_meet
      case rel => exact ⟨rfl, rfl⟩
  case rest =>
    obtain ⟨e14, hwx⟩ := hcut
    subst e14
    have hwx2 := hwx.symm; subst hwx2; clear hwx
    go_upto_if 14 with fail
    go_cut [0] from 13 to 14 (fun s0 wx => s0 = .int .i64 M ∧ wx = w)
    case first =>
      cases cc with
      | true =>
        have e : M = 1 := hM.out
        subst e
        go_wp2_with fail
        go_meet
        case rel => exact ⟨rfl, rfl⟩
      | false =>
        have e : M = z := hM.out
        subst e
        go_wp2_with fail
        go_meet
        case rel => exact ⟨rfl, rfl⟩
    case rest =>
      obtain ⟨e0, hwx⟩ := hcut
      subst e0
      have hwx2 := hwx.symm; subst hwx2; clear hwx
      clear hcc hM
      go_upto_region 7 with (first
        | (go_at_call 9; refine HN.mono ?_; rintro e w1 ⟨rfl, hw1, hD1⟩; obtain ⟨ch1, hch1, HO1⟩ := open_new w.heap.size M hM1 w1 hD1 h2g (hG.below hw1))
        | (go_at_call 10; refine HO1.mono ?_; intro e w2 hop; obtain ⟨q, b2, rb2, rfl, hq, hW2, hK2⟩ := op_ok hop; clear hop HO1; have hGs2 := gs_first hw1 (Nat.le_refl _) hq hW2 hK2; have HA2 := awakeW w2 (hG.below hGs2.bel))
        | (go_at_call 11; refine HA2.mono ?_; rintro e w3 ⟨rfl, hw3⟩; have hGs3 := hGs2.below hw3))
      have hPy1 := py_reset ⟨M, 0, [], [], 0, 0⟩ [] [] (by show 0 < 99; omega)
      change Py ⟨M, 1, [], [], 0, 0⟩ [(baseN 1, frs [[]] ++ frs [])] [] [] at hPy1
      have hu1 : usedP [(baseN 1, frs [[]] ++ frs [])] ≤ 100 := by
        have e2 : frs [] = [] := rfl
        rw [e2, frs_one]
        simp [usedP, frame_len]
      have hB0 : Below w3.heap.size w3 (w3.alloc (.cells #[] 9)) := (Below.refl _ _).alloc (Nat.le_refl _) _
      have hT0 : TS (w3.alloc (.cells #[] 9)) (.slice (some ⟨w3.heap.size, 0, none⟩) 0 0) (some w3.heap.size) [] := ⟨.inr ⟨w3.heap.size, 0, 0, #[], rfl, rfl, (Blk.new _ _ _).out, by simp, by simp, fun j x hx => by simp at hx⟩⟩
      have hGs4 := hGs3.other hB0 (fc := some w3.heap.size) (fun i e => ⟨by cases e; exact .inr (Nat.le_refl _), hT0.sb i e⟩)
      have hI0 : PlL w (w3.alloc (.cells #[] 9)) q w.heap.size M (some w3.heap.size) [] [] 0 := ⟨⟨_, _, [], [], ch1, hPy1, rfl, rfl, rfl, by show 1 ≤ 0 + 1; omega, Nat.le_refl _, by omega, by omega, hGs4⟩, fun i e => by cases e; exact hGs3.bel.size, Nat.le_refl _⟩
      clear HN HA2 hGs4 hGs3 hw3 hGs2 hW2 hK2 hD1 hPy1 hu1
      go_wp2_with fail
      go_loopw [6, 7, 8, 9, 10, 11] (fun v6 _ _ v9 v10 v11 wl => ∃ (i q : Nat) (fb : Option Nat) (s : B) (k : List B), i ≤ acts.length ∧ i ≤ 30 ∧ v6 = .pointer (some ⟨q, 0, none⟩) ∧ v9 = .string ⟨s.toArray⟩ ∧ v11 = .int .i64 i ∧ PlL w wl q w.heap.size M fb s k i ∧ TS wl v10 fb k) (fun _ _ _ _ _ v11 _ => 30 - (intOf v11).toNat)
      case atStart => exact ⟨0, q, some w3.heap.size, [], [], by omega, by omega, rfl, rfl, rfl, hI0, hT0⟩
      case round =>
        clear hI0 hB0 hT0
        obtain ⟨i, q, fb, s, k, hil, hi30, rfl, rfl, rfl, hI, hU⟩ := hrel
        have hkl := hI.len
        obtain ⟨ak, ck, e10, _, _⟩ := hU.sl
        subst e10
        by_cases hlt : i < acts.length ∧ i < 30
        · obtain ⟨hlt1, hlt2⟩ := hlt
          have hz1 : (i : Int) < (acts.length : Int) := by omega
          have hz2 : (i : Int) < (30 : Int) := by omega
          obtain ⟨x, hx⟩ : ∃ x, acts[i]? = some x := ⟨_, List.getElem?_eq_getElem hlt1⟩
          obtain ⟨g, o, rfl, hrg0, hxa, hxc⟩ := hA.out i x hx
          have hxs := hS x (List.mem_of_getElem? hx)
          have hrg := range_below hrg0 hI.bel
          obtain ⟨c, HC, hcl, hcx⟩ : ∃ c : List B, (∀ wx, XA wx x.la x.l → Calls Tryz.prog 13 #[.slice x.la x.l.length x.lc] wx fun e w' => ∃ v rb, e = .returned v ∧ Below wx.heap.size wx w' ∧ TS w' v rb c ∧ ∀ k, rb = some k → wx.heap.size ≤ k) ∧ c.length ≤ 6 ∧ ∀ y ∈ c, y.length ≤ 200 := ⟨cutL x.l, fun wx h => cut_any x.l x.la x.lc wx h hxc, cutL_len _, fun y hy => cutL_x hy⟩
          go_upto_region 12 with (first
            | ((with_reducible (refine at_list ?_; refine wpList_run (op := ⟨some 51, _, _, _, _, _⟩) rfl _ _ (run_loadMid 34 _ rfl g (o + i * 6) rfl (aC x) hrg _ Tryz.underlying34 rfl (iAct x)) ?_)))
            | ((with_reducible (refine at_list ?_; refine wpList_allocRow (op := ⟨some 12, _, _, _, _, _⟩) rfl _ rfl _ zAct.1 ?_)); intro w2 hw2 hs2 h12; clear hs2)
            | ((with_reducible (refine at_list ?_; refine wpList_storeRow (op := ⟨none, .store 34 (.tmp 12) (.tmp 51), _, _, _, _⟩) rfl _ _ _ rfl wr.heap.size (aC x) rfl rfl _ _ h12 rfl (iAct _) (aC_one _) ?_)); intro w3 hg3 hs3 h12b; clear hs3))
          have hB3 := hw2.trans (below_of_grown hg3 (Nat.le_refl _) hw2.size)
          have hL3 := hI.below hB3
          have hU3 := hU.below hB3
          clear hI hU hrg hw2 hg3 h12 hB3
          by_cases hk3 : x.kind = 3
          · go_upto_region 17 with ((with_reducible (refine at_list ?_; refine wpList_loadCell (op := ⟨some 53, _, _, _, _, _⟩) rfl _ _ rfl wr.heap.size 0 rfl _ _ h12b _ Tryz.underlying3 rfl _ (aC_g0 _) ?_)))
            have hd3 := Below.drewS w3
            have hL3d := hL3.below hd3
            have HC3 := HC w3.drew (hxa.below hL3d.bel)
            refine wp_region_held_drew (S := fun w' : World => Blk w' wr.heap.size (aC x) 34) (by kernel_rfl) (h12b.drew) (fun hH => ?_)
            try go_frame
            refine wpAnyH_take (i := 0) (oi := ⟨some 67, _, _, _, _, _⟩) (v := .pointer (some ⟨q, 0, none⟩)) rfl (by kernel_rfl) (by kernel_rfl) (by kernel_rfl) (fun _ _ _ h => h) (Or.inl ⟨by rfl, fun w hSw => by go_simp⟩) hH ?_
            try simp only [Act.put, List.setIfInBounds_toArray, List.set_cons_zero, List.set_cons_succ]
            refine wpAnyH_take (i := 1) (oi := ⟨some 68, _, _, _, _, _⟩) (v := .pointer (some ⟨wr.heap.size, 1, none⟩)) rfl (by kernel_rfl) (by kernel_rfl) (by kernel_rfl) (fun _ _ _ h => h) (Or.inl ⟨by rfl, fun w hSw => by go_simp⟩) hH ?_
            try simp only [Act.put, List.setIfInBounds_toArray, List.set_cons_zero, List.set_cons_succ]
            refine wpAnyH_take (i := 2) (oi := ⟨some 69, _, _, _, _, _⟩) (v := .string ⟨x.s.toArray⟩) rfl (by kernel_rfl) (by kernel_rfl) (by kernel_rfl) (fun _ _ _ h => h) (Or.inl ⟨by rfl, fun w hSw => run_loadCellB _ _ rfl _ 1 rfl _ _ hSw _ Tryz.underlying9 rfl _ (aC_g1 _)⟩) hH ?_
            try simp only [Act.put, List.setIfInBounds_toArray, List.set_cons_zero, List.set_cons_succ]
            refine wpAnyH_take (i := 3) (oi := ⟨some 70, _, _, _, _, _⟩) (v := .pointer (some ⟨wr.heap.size, 2, none⟩)) rfl (by kernel_rfl) (by kernel_rfl) (by kernel_rfl) (fun _ _ _ h => h) (Or.inl ⟨by rfl, fun w hSw => by go_simp⟩) hH ?_
            try simp only [Act.put, List.setIfInBounds_toArray, List.set_cons_zero, List.set_cons_succ]
            refine wpAnyH_take (i := 4) (oi := ⟨some 71, _, _, _, _, _⟩) (v := .slice x.la x.l.length x.lc) rfl (by kernel_rfl) (by kernel_rfl) (by kernel_rfl) (fun _ _ _ h => h) (Or.inl ⟨by rfl, fun w hSw => run_loadCellB _ _ rfl _ 2 rfl _ _ hSw _ Tryz.underlying30 rfl _ (aC_g2 _)⟩) hH ?_
            try simp only [Act.put, List.setIfInBounds_toArray, List.set_cons_zero, List.set_cons_succ]
            refine wpAnyH_solo (i := 5) (o := ⟨some 72, _, _, _, _, _⟩) rfl (by kernel_rfl) (fun K hK => ?_)
            refine wpList_callR Tryz.func13 (by kernel_rfl) (by kernel_rfl) rfl _ _ rfl #[.slice x.la x.l.length x.lc] (args1 rfl) _ (HC3) ?_
            rintro e w4 ⟨v4, rb4, rfl, hw4, hT4, hn4⟩
            clear HC3
            obtain ⟨a4, c4, e4, _, _⟩ := hT4.sl
            subst e4
            have hH4 := hH.belowSize hw4
            have HR4 := pl_reset hL3d hG (by omega) hw4 x.s c a4 c4 hT4.ta (fun a e => .inr (hn4 _ (ts_blk hT4 a e))) hxs hcl hcx
            refine ⟨_, rfl, ?_⟩
            refine hK _ _ hH4 ?_
            clear hK K
            try simp only [Act.put, List.setIfInBounds_toArray, List.set_cons_zero, List.set_cons_succ]
            refine wpAnyH_solo (i := 6) (o := ⟨some 73, _, _, _, _, _⟩) rfl (by kernel_rfl) (fun K hK => ?_)
            refine wpList_callR Tryz.func12 (by kernel_rfl) (by kernel_rfl) rfl _ _ rfl #[.pointer (some ⟨q, 0, none⟩), .string ⟨x.s.toArray⟩, .slice a4 c.length c4] (args3 rfl rfl rfl) _ (HR4) ?_
            rintro e w5 ⟨rfl, hL5, hKp5⟩
            clear HR4
            have h12d := hKp5.blk _ _ _ hH (by decide) (by decide) (by decide) (by decide)
            refine ⟨_, rfl, ?_⟩
            refine hK _ _ h12d ?_
            clear hK K
            try simp only [Act.put, List.setIfInBounds_toArray, List.set_cons_zero, List.set_cons_succ]
            refine wpAnyH_solo (i := 7) (o := ⟨some 74, _, _, _, _, _⟩) rfl (by kernel_rfl) (fun K hK => ?_)
            refine wpList_pure rfl (.bool false) (by go_simp) ?_
            refine hK _ _ h12d ?_
            clear hK K
            try simp only [Act.put, List.setIfInBounds_toArray, List.set_cons_zero, List.set_cons_succ]
            refine wpAnyH_done (by kernel_rfl) ?_ _
            try simp only [Act.put]
            try go_simp
            go_upto_region 19 with fail
            have hd5 := Below.drewS w5
            have hL5d := hL5.below hd5
            have HC5 := HC w5.drew (hxa.below hL5d.bel)
            refine wp_region_held_drew (S := fun w' : World => Blk w' wr.heap.size (aC x) 34) (by kernel_rfl) (h12d.drew) (fun hH => ?_)
            try go_frame
            refine wpAnyH_take (i := 0) (oi := ⟨some 75, _, _, _, _, _⟩) (v := .pointer (some ⟨wr.heap.size, 1, none⟩)) rfl (by kernel_rfl) (by kernel_rfl) (by kernel_rfl) (fun _ _ _ h => h) (Or.inl ⟨by rfl, fun w hSw => by go_simp⟩) hH ?_
            try simp only [Act.put, List.setIfInBounds_toArray, List.set_cons_zero, List.set_cons_succ]
            refine wpAnyH_take (i := 1) (oi := ⟨some 76, _, _, _, _, _⟩) (v := .string ⟨x.s.toArray⟩) rfl (by kernel_rfl) (by kernel_rfl) (by kernel_rfl) (fun _ _ _ h => h) (Or.inl ⟨by rfl, fun w hSw => run_loadCellB _ _ rfl _ 1 rfl _ _ hSw _ Tryz.underlying9 rfl _ (aC_g1 _)⟩) hH ?_
            try simp only [Act.put, List.setIfInBounds_toArray, List.set_cons_zero, List.set_cons_succ]
            refine wpAnyH_take (i := 2) (oi := ⟨some 77, _, _, _, _, _⟩) (v := .pointer (some ⟨wr.heap.size, 2, none⟩)) rfl (by kernel_rfl) (by kernel_rfl) (by kernel_rfl) (fun _ _ _ h => h) (Or.inl ⟨by rfl, fun w hSw => by go_simp⟩) hH ?_
            try simp only [Act.put, List.setIfInBounds_toArray, List.set_cons_zero, List.set_cons_succ]
            refine wpAnyH_take (i := 3) (oi := ⟨some 78, _, _, _, _, _⟩) (v := .slice x.la x.l.length x.lc) rfl (by kernel_rfl) (by kernel_rfl) (by kernel_rfl) (fun _ _ _ h => h) (Or.inl ⟨by rfl, fun w hSw => run_loadCellB _ _ rfl _ 2 rfl _ _ hSw _ Tryz.underlying30 rfl _ (aC_g2 _)⟩) hH ?_
            try simp only [Act.put, List.setIfInBounds_toArray, List.set_cons_zero, List.set_cons_succ]
            refine wpAnyH_solo (i := 4) (o := ⟨some 79, _, _, _, _, _⟩) rfl (by kernel_rfl) (fun K hK => ?_)
            refine wpList_callR Tryz.func13 (by kernel_rfl) (by kernel_rfl) rfl _ _ rfl #[.slice x.la x.l.length x.lc] (args1 rfl) _ (HC5) ?_
            rintro e w6 ⟨v6, rb6, rfl, hw6, hT6, hn6⟩
            clear HC5
            obtain ⟨a6, c6, e6, _, _⟩ := hT6.sl
            subst e6
            have hH6 := hH.belowSize hw6
            refine ⟨_, rfl, ?_⟩
            refine hK _ _ hH6 ?_
            clear hK K
            try simp only [Act.put, List.setIfInBounds_toArray, List.set_cons_zero, List.set_cons_succ]
            refine wpAnyH_solo (i := 5) (o := ⟨some 9, _, _, _, _, _⟩) rfl (by kernel_rfl) (fun K hK => ?_)
            refine wpList_pure rfl (.string ⟨x.s.toArray⟩) (by go_simp) ?_
            refine hK _ _ hH6 ?_
            clear hK K
            try simp only [Act.put, List.setIfInBounds_toArray, List.set_cons_zero, List.set_cons_succ]
            refine wpAnyH_solo (i := 6) (o := ⟨some 10, _, _, _, _, _⟩) rfl (by kernel_rfl) (fun K hK => ?_)
            refine wpList_pure rfl (.slice a6 c.length c6) (by go_simp) ?_
            refine hK _ _ hH6 ?_
            clear hK K
            try simp only [Act.put, List.setIfInBounds_toArray, List.set_cons_zero, List.set_cons_succ]
            refine wpAnyH_done (by kernel_rfl) ?_ _
            try simp only [Act.put]
            try go_simp
            have hL7 := hL5d.other hw6 (fc := rb6) (fun i e => ⟨hn6 i e, hT6.sb i e⟩)
            obtain ⟨HSn, HLe, HAl⟩ := hL7.tell (by omega)
            have hc1 : c.length ≤ 1000 := by omega
            go_wp2_with (first
                | (go_at_call 17; refine HSn.mono ?_; rintro e wx ⟨rfl, hwx⟩; have hwx2 := hwx.symm; subst hwx2; clear hwx; clear HSn)
                | (go_at_call 18; refine HLe.mono ?_; rintro e wx ⟨rfl, hwx⟩; have hwx2 := hwx.symm; subst hwx2; clear hwx; clear HLe)
                | (go_at_call 20; refine HAl.mono ?_; rintro e w8 ⟨a8, c8, rfl, hw8, hT8⟩; clear HAl; have hL8 := hL7.below hw8; have hU8 := hT6.below hw8; have HE8 := same_true _ a8 a6 c8 c6 w8 hT8 hU8.ta (by omega))
                | (go_at_call 19; refine HE8.mono ?_; rintro e w9 ⟨rfl, hw9⟩; clear HE8; have hL9 := hL8.below hw9; have hU9 := hU8.below hw9))
            go_roundw
            case rel => exact ⟨i + 1, q, rb6, x.s, c, by omega, by omega, rfl, rfl, by go_num, hL9, hU9⟩
            case measure => simp [intOf]; omega
          · by_cases hk4 : x.kind = 4
            · have HO := pl_open hL3 hG (by omega) hM1
              go_wp2_with (first
                  | ((with_reducible (refine at_list ?_; refine wpList_loadCell (op := ⟨some 53, _, _, _, _, _⟩) rfl _ _ rfl wr.heap.size 0 rfl _ _ h12b _ Tryz.underlying3 rfl _ (aC_g0 _) ?_)))
                  | ((with_reducible (refine at_list ?_; refine wpList_loadCell (op := ⟨some 84, _, _, _, _, _⟩) rfl _ _ rfl wr.heap.size 0 rfl _ _ h12b _ Tryz.underlying3 rfl _ (aC_g0 _) ?_)))
                  | (go_at_call 10; refine HO.mono ?_; rintro e w7 ⟨q7, rfl, hL7, hKp7⟩; clear HO; have hU7 := hKp7.ts hU3; obtain ⟨HSn, HLe, HAl⟩ := hL7.tell (by omega))
                  | (go_at_call 17; refine HSn.mono ?_; rintro e wx ⟨rfl, hwx⟩; have hwx2 := hwx.symm; subst hwx2; clear hwx; clear HSn)
                  | (go_at_call 18; refine HLe.mono ?_; rintro e wx ⟨rfl, hwx⟩; have hwx2 := hwx.symm; subst hwx2; clear hwx; clear HLe)
                  | (go_at_call 20; refine HAl.mono ?_; rintro e w8 ⟨a8, c8, rfl, hw8, hT8⟩; clear HAl; have hL8 := hL7.below hw8; have hU8 := hU7.below hw8; have HE8 := same_true _ a8 ak c8 ck w8 hT8 hU8.ta (by omega))
                  | (go_at_call 19; refine HE8.mono ?_; rintro e w9 ⟨rfl, hw9⟩; clear HE8; have hL9 := hL8.below hw9; have hU9 := hU8.below hw9))
              go_roundw
              case rel => exact ⟨i + 1, q7, fb, s, k, by omega, by omega, rfl, rfl, by go_num, hL9, hU9⟩
              case measure => simp [intOf]; omega
            · by_cases hk5 : x.kind = 5
              · go_wp2_with (first
                    | ((with_reducible (refine at_list ?_; refine wpList_loadCell (op := ⟨some 53, _, _, _, _, _⟩) rfl _ _ rfl wr.heap.size 0 rfl _ _ h12b _ Tryz.underlying3 rfl _ (aC_g0 _) ?_)))
                    | ((with_reducible (refine at_list ?_; refine wpList_loadCell (op := ⟨some 84, _, _, _, _, _⟩) rfl _ _ rfl wr.heap.size 0 rfl _ _ h12b _ Tryz.underlying3 rfl _ (aC_g0 _) ?_)))
                    | ((with_reducible (refine at_list ?_; refine wpList_loadCell (op := ⟨some 89, _, _, _, _, _⟩) rfl _ _ rfl wr.heap.size 4 rfl _ _ h12b _ Tryz.underlying3 rfl _ (aC_g4 _) ?_)))
                    | ((with_reducible (refine at_list ?_; refine wpList_loadCell (op := ⟨some 92, _, _, _, _, _⟩) rfl _ _ rfl wr.heap.size 5 rfl _ _ h12b _ Tryz.underlying3 rfl _ (aC_g5 _) ?_)))
                    | (go_at_call 14; refine (pl_crash hL3 hG (by omega) _ _).mono ?_; rintro e w4 ⟨rfl, hD4, hKp4⟩; have hU4 := hKp4.ts hU3; have HUp := pl_up hD4 hG)
                    | (go_at_call 15; refine HUp.mono ?_; rintro e w5 ⟨rfl, hL5, hKp5⟩; clear HUp; have hU5 := hKp5.ts hU4; have HO := pl_open hL5 hG (by omega) hM1)
                    | (go_at_call 10; refine HO.mono ?_; rintro e w7 ⟨q7, rfl, hL7, hKp7⟩; clear HO; have hU7 := hKp7.ts hU5; obtain ⟨HSn, HLe, HAl⟩ := hL7.tell (by omega))
                    | (go_at_call 17; refine HSn.mono ?_; rintro e wx ⟨rfl, hwx⟩; have hwx2 := hwx.symm; subst hwx2; clear hwx; clear HSn)
                    | (go_at_call 18; refine HLe.mono ?_; rintro e wx ⟨rfl, hwx⟩; have hwx2 := hwx.symm; subst hwx2; clear hwx; clear HLe)
                    | (go_at_call 20; refine HAl.mono ?_; rintro e w8 ⟨a8, c8, rfl, hw8, hT8⟩; clear HAl; have hL8 := hL7.below hw8; have hU8 := hU7.below hw8; have HE8 := same_true _ a8 ak c8 ck w8 hT8 hU8.ta (by omega))
                    | (go_at_call 19; refine HE8.mono ?_; rintro e w9 ⟨rfl, hw9⟩; clear HE8; have hL9 := hL8.below hw9; have hU9 := hU8.below hw9))
                go_roundw
                case rel => exact ⟨i + 1, q7, fb, s, k, by omega, by omega, rfl, rfl, by go_num, hL9, hU9⟩
                case measure => simp [intOf]; omega
              · obtain ⟨k', hk2⟩ : ∃ k', Hid (k ++ c = k') := ⟨_, rfl⟩
                have hkl2 : k'.length ≤ 1000 := by rw [← hk2.out, List.length_append]; omega
                have hka : k.length + c.length ≤ 1000000 := by omega
                have HC3 := HC w3 (hxa.below hL3.bel)
                go_wp2_with (first
                    | ((with_reducible (refine at_list ?_; refine wpList_loadCell (op := ⟨some 53, _, _, _, _, _⟩) rfl _ _ rfl wr.heap.size 0 rfl _ _ h12b _ Tryz.underlying3 rfl _ (aC_g0 _) ?_)))
                    | ((with_reducible (refine at_list ?_; refine wpList_loadCell (op := ⟨some 56, _, _, _, _, _⟩) rfl _ _ rfl wr.heap.size 2 rfl _ _ h12b _ Tryz.underlying30 rfl _ (aC_g2 _) ?_)))
                    | (go_at_call 13; refine HC3.mono ?_; rintro e w4 ⟨v4, rb4, rfl, hw4, hT4, hn4⟩; clear HC3; obtain ⟨a4, c4, e4, _, _⟩ := hT4.sl; subst e4; have HA4 := pl_add hL3 hG (by omega) hw4 c a4 c4 hT4.ta (fun a e => .inr (hn4 _ (ts_blk hT4 a e))) hcl hcx; rw [hk2.out] at HA4)
                    | (go_at_call 16; refine HA4.mono ?_; rintro e w5 ⟨rfl, hL5, hKp5⟩; clear HA4; have h12d := hKp5.blk _ _ _ h12b (by decide) (by decide) (by decide) (by decide); have hU5 := hKp5.ts hU3; have HC5 := HC w5 (hxa.below hL5.bel))
                    | ((with_reducible (refine at_list ?_; refine wpList_loadCell (op := ⟨some 62, _, _, _, _, _⟩) rfl _ _ rfl wr.heap.size 2 rfl _ _ h12d _ Tryz.underlying30 rfl _ (aC_g2 _) ?_)))
                    | (go_at_call 13; refine HC5.mono ?_; rintro e w6 ⟨v6, rb6, rfl, hw6, hT6, hn6⟩; clear HC5; obtain ⟨a6, c6, e6, _, _⟩ := hT6.sl; subst e6; have hU6 := hU5.below hw6; have hX6 := hT6.ta)
                    | ((with_reducible (refine at_list ?_; refine wpList_appTS (op := ⟨some 64, _, _, _, _, _⟩) rfl _ _ rfl (.slice ak k.length ck) fb _ hU6 rfl a6 c6 c hX6 rfl hka ?_)); intro w7 v7 fb7 hg7 hn7 hT7; rw [hk2.out] at hT7; have hL7 := hL5.row hw6 hg7 (fun i e => ⟨hn7 i e, hT7.sb i e⟩); obtain ⟨a7, c7, e7, _, _⟩ := hT7.sl; subst e7; obtain ⟨HSn, HLe, HAl⟩ := hL7.tell (by omega))
                    | (go_at_call 17; refine HSn.mono ?_; rintro e wx ⟨rfl, hwx⟩; have hwx2 := hwx.symm; subst hwx2; clear hwx; clear HSn)
                    | (go_at_call 18; refine HLe.mono ?_; rintro e wx ⟨rfl, hwx⟩; have hwx2 := hwx.symm; subst hwx2; clear hwx; clear HLe)
                    | (go_at_call 20; refine HAl.mono ?_; rintro e w8 ⟨a8, c8, rfl, hw8, hT8⟩; clear HAl; have hL8 := hL7.below hw8; have hU8 := hT7.below hw8; have HE8 := same_true _ a8 a7 c8 c7 w8 hT8 hU8.ta (by omega))
                    | (go_at_call 19; refine HE8.mono ?_; rintro e w9 ⟨rfl, hw9⟩; clear HE8; have hL9 := hL8.below hw9; have hU9 := hU8.below hw9))
                go_roundw
                case rel => exact ⟨i + 1, q, fb7, s, k', by omega, by omega, rfl, rfl, by go_num, hL9, hU9⟩
                case measure => simp [intOf]; omega
        · have hend : (¬ (i : Int) < (acts.length : Int)) ∨ ((i : Int) < (acts.length : Int) ∧ ¬ (i : Int) < 30) := by omega
          go_upto_region 9 with fail
          go_cut [45] from 38 to 130 (fun c wx => c = .bool false ∧ wx = wr)
          case first =>
            clear hlt
            rcases hend with hz1 | ⟨hz1, hz2⟩
            · go_wp2_with fail
              go_meet
              case rel => exact ⟨rfl, rfl⟩
            · go_wp2_with fail
              go_meet
              case rel => exact ⟨rfl, rfl⟩
          case rest =>
            obtain ⟨e45, hwx⟩ := hcut
            subst e45
            have hwx2 := hwx.symm; subst hwx2; clear hwx
            go_wp2_with fail
            go_ret
            exact ⟨rfl, hI.bel⟩
end Go.Proofs.YtaiiojbakmminaaGreatDoor
