/- Behind a loss of power: the statement DiskApart walked. -/
import Derived.Test.YtgkkpmliociieaaApm
import Derived.Test.YtgkkpmliociieaaEqu
import Derived.Deep.CutRange
namespace Go.Proofs.Ytgkkpmliociieaa
open Go Go.RowKit
theorem pC_g2 (p : Nat) (m : RD) (x y : Value) : (pC p m x y)[2]? = some y := rfl
theorem falC_g1 (x y z : Int) : (falC x y z)[1]? = some (.int .i64 y) := rfl
theorem falC_g2 (x y z : Int) : (falC x y z)[2]? = some (.int .i64 z) := rfl
theorem inv1 : Inv dm1 rd1 0 := ⟨sam_begun, ⟨List.Pairwise.nil, fun f hf => (by cases hf), fun f hf => (by cases hf)⟩, Nat.le_refl _, Nat.le_refl _, Nat.le_refl _, rfl, fun e => (by cases e), by decide⟩
/-- What stands while things are done. -/
structure ApS (w : World) (P7 PF p : Nat) (fx fy fz : Int) (wl : World) (i : Nat) (d : DM) (m : RD) (x y : Value) (b : Option Nat) : Prop where
  pair : Blk wl P7 (pC p m x y) 29
  fall : Blk wl PF (falC fx fy fz) 34
  dk : DK wl p b d
  now : RL wl 0 x m.now
  sure : RL wl 0 y m.sure
  inv : Inv d m i
  us : usedR m.sure ≤ 50 * i
  below : Below w.heap.size w wl
  lo : ∀ r, b = some r → w.heap.size ≤ r
theorem ApS.more {w wl : World} {P7 PF p i j : Nat} {fx fy fz : Int} {d : DM} {m : RD} {x y : Value} {b : Option Nat} (h : ApS w P7 PF p fx fy fz wl i d m x y b) (hj : i ≤ j) : ApS w P7 PF p fx fy fz wl j d m x y b := ⟨h.pair, h.fall, h.dk, h.now, h.sure, h.inv.more hj, by have := h.us; omega, h.below, h.lo⟩
theorem XL.chg {w w' : World} {p lo : Nat} {b b' : Option Nat} {d : DM} {sl : Value} {l : List B} (h : XL w lo sl l) (hD : DK w p b d) (hC : Chg w w' p b b') : XL w' lo sl l := by
  refine ⟨h.1, ?_⟩
  rcases h.2 with k | ⟨g, cap, k4, rfl, k5⟩
  · exact .inl k
  · obtain ⟨cur, k6, k7⟩ := k5.out
    have hb : Blk w g cur 9 := ⟨k6⟩
    exact .inr ⟨g, cap, k4, rfl, ⟨cur, (hC.blk hD hb (by decide) (by decide)).out, k7⟩⟩
def ac5 : AC := ⟨5, [], [], [], 0, 0, 0, 0⟩
set_option maxRecDepth 100000 in
set_option maxHeartbeats 16000000 in
theorem diskApart_any (l0 : List AC) (ad0 : Option Addr) (cap0 : Nat) (l1 : List AC) (ad1 : Option Addr) (cap1 : Nat) (fx fy fz : Int) (w : World) (hA0 : AA w ad0 l0) (hA1 : AA w ad1 l1) (hl0 : l0.length ≤ maxLen) (hl1 : l1.length ≤ maxLen) (ok0 : ∀ x ∈ l0, AcOk x) (ok1 : ∀ x ∈ l1, AcOk x) :
    Calls Try.prog 4 #[.slice ad0 l0.length cap0, .slice ad1 l1.length cap1, .agg (falC fx fy fz)] w fun e w' => e = .returned (.bool true) ∧ Below w.heap.size w w' := by
  have HB := fun w1 => begun_any w1
  have HW := fun w1 => awake_any w1
  have hl06 : l0.length ≤ 9223372036854775807 := hl0
  have hl16 : l1.length ≤ 9223372036854775807 := hl1
  clear hl0 hl1
  go_enter Try.func4, Try.ntmps4
  go_wp2_with (first
    | (go_at_call 7; refine (HB _).mono ?_; rintro e w1 ⟨p, rfl, hw1, hD1, hpl⟩; clear HB; have hB1 := hw0.trans (hw1.mono hw0.size); have hF1 := hF0.belowSize hw1)
    | (with_reducible refine at_list ?_; first
      | (refine wpList_boxRow (op := ⟨some 5, _, _, _, _, _⟩) rfl _ _ rfl _ rfl ?_; intro w0 hw0 hs0 hF0; clear hs0)
      | (refine wpList_allocRow (op := ⟨some 7, _, _, _, _, _⟩) rfl _ rfl _ zPr.1 ?_; intro w2 hw2 hs2 h7; clear hs2; have hB2 := hB1.trans (hw2.mono hB1.size); have hD2 := hD1.below hw2; have hF1l := hF1.lt; have hF2 := hF1.belowSize hw2)
      | (refine wpList_storeRow (op := ⟨none, .store 29 (.tmp 7) (.tmp 27), _, _, _, _⟩) rfl _ _ _ rfl w1.heap.size (pC p rd1 (.slice none 0 0) (.slice none 0 0)) rfl rfl _ _ h7 rfl (iPr _ _ _ _) (pC_one _ _ _ _ rfl rfl) ?_; intro w3 hg3 hs3 h7b; clear hs3)))
  have hB3 := hB2.trans (below_of_grown hg3 hB1.size hB2.size)
  have hpw : w.heap.size ≤ p := Nat.le_trans hw0.size hpl
  have hst : ApS w w1.heap.size w.heap.size p fx fy fz w3 0 dm1 rd1 (.slice none 0 0) (.slice none 0 0) none := ⟨h7b, hF2.grown hg3 (fun e => by have := Option.some.inj e; omega), hD2.own hg3 h7 (by decide) (by decide), RL.nil _ _, RL.nil _ _, inv1, Nat.zero_le _, hB3, fun r e => nomatch e⟩
  have hP7 := hB1.size
  obtain ⟨P7, hPe⟩ : ∃ k, Hid (k = w1.heap.size) := ⟨_, rfl⟩
  have hFP : Hid (w.heap.size ≠ P7) := fun e => by
    rw [hPe.out] at e
    omega
  rw [← hPe.out] at hst hP7 ⊢
  have hst2 := hst
  clear hst hPe h7b hg3 h7 hF2 hD2 hB2 hB3 hw2 hF1 hF1l hB1 hD1 hw1 hpl hF0 hw0
  go_loopw [8] (fun v8 wl => ∃ (i : Nat) (d : DM) (m : RD) (x y : Value) (b : Option Nat), i ≤ l0.length ∧ i ≤ 25 ∧ v8 = .int .i64 i ∧ ApS w P7 w.heap.size p fx fy fz wl (i + 0) d m x y b) (fun v8 _ => 25 - (intOf v8).toNat)
  case atStart => exact ⟨0, dm1, rd1, (.slice none 0 0), (.slice none 0 0), none, Nat.zero_le _, Nat.zero_le _, rfl, hst2⟩
  case round =>
    obtain ⟨i, d, m, x, y, b, hil, hi40, rfl, hS⟩ := hrel
    clear hst2
    by_cases hlt : i < l0.length ∧ i < 25
    · obtain ⟨hlt, h40⟩ := hlt
      have hz1 : (i : Int) < (l0.length : Int) := by omega
      have hz2 : (i : Int) < 25 := by omega
      have hin : Hid (Inv d m (i + 0)) := hS.inv
      have hBr := hS.below
      obtain ⟨g, o, rfl, hr⟩ := (hA0.below hBr) i hlt
      have hac : AcOk l0[i] := ok0 _ (List.getElem_mem hlt)
      have hgw : g < w.heap.size := by
        obtain ⟨g2, o2, e2, hr2⟩ := hA0 i hlt
        cases e2
        exact World.block_lt_of_cell? _ _ (hr2 0 _ (aC_g0 _))
      obtain ⟨a, ha⟩ : ∃ a, Hid (a = l0[i]) := ⟨l0[i], rfl⟩
      rw [← ha.out] at hr hac
      clear ha
      have c0 : wr.cell? ⟨g, o + i * 8, none⟩ = some (.int .i64 a.kind) := hr 0 _ (aC_g0 a)
      by_cases k12 : 0 ≤ a.kind ∧ a.kind < 6
      · obtain ⟨k1, k2⟩ := k12
        go_wp2_with fail
        clear c0
        have hx1 := hS.now.cells.2
        have hy1 := hS.sure.cells.2
        have hDd := hS.dk.drew
        have hxd := hS.now.drew
        have hyd := hS.sure.drew
        have hBd := hBr.drew
        have hFd := hS.fall.drew
        have hPd := hS.pair.drew
        have hHd := rangeAt_drew hr
        have hIn := Inv.step hin.out a (by omega)
        have hUs := sure_step hin.out hS.us a
        have HD := fun w1 (hD1 : DK w1 p b d) (hx1 : RL w1 0 x m.now) (hy1 : RL w1 0 y m.sure) => do_step p b d m x y a (i + 0) w1 hD1 hx1 hy1 hin.out (by omega) (by omega) hac.name hac.to
        generalize stD d a = d' at *
        generalize stR m a = m' at *
        have hlo := hS.lo
        clear hin hr hac
        refine wp_region_held_drew (S := fun w' : World => w'.rangeAt g (o + i * 8) (aC a).toList) (by kernel_rfl) hHd (fun hH => ?_)
        try go_frame
        refine wpAnyH_take (i := 1) (oi := ⟨some 54, _, _, _, _, _⟩) (v := .slice (some ⟨g, o, none⟩) l0.length cap0) rfl (by kernel_rfl) (by kernel_rfl) (by kernel_rfl) (fun _ _ _ h => h) (Or.inl ⟨by rfl, fun w hSw => by go_simp⟩) hH ?_
        try simp only [Act.put, List.setIfInBounds_toArray, List.set_cons_zero, List.set_cons_succ]
        refine wpAnyH_take (i := 2) (oi := ⟨some 55, _, _, _, _, _⟩) (v := .int .i64 i) rfl (by kernel_rfl) (by kernel_rfl) (by kernel_rfl) (fun _ _ _ h => h) (Or.inl ⟨by rfl, fun w hSw => by go_simp⟩) hH ?_
        try simp only [Act.put, List.setIfInBounds_toArray, List.set_cons_zero, List.set_cons_succ]
        refine wpAnyH_take (i := 3) (oi := ⟨some 56, _, _, _, _, _⟩) (v := .pointer (some ⟨g, o + i * 8, none⟩)) rfl (by kernel_rfl) (by kernel_rfl) (by kernel_rfl) (fun _ _ _ h => h) (Or.inl ⟨by rfl, fun w hSw => by go_simp⟩) hH ?_
        try simp only [Act.put, List.setIfInBounds_toArray, List.set_cons_zero, List.set_cons_succ]
        refine wpAnyH_take (i := 4) (oi := ⟨some 57, _, _, _, _, _⟩) (v := .agg (aC a)) rfl (by kernel_rfl) (by kernel_rfl) (by kernel_rfl) (fun _ _ _ h => h) (Or.inl ⟨by rfl, fun w hSw => run_loadMid _ _ rfl _ _ rfl _ hSw _ Try.underlying36 rfl (iAct _)⟩) hH ?_
        try simp only [Act.put, List.setIfInBounds_toArray, List.set_cons_zero, List.set_cons_succ]
        refine wpAnyH_solo (i := 0) (o := ⟨some 53, _, _, _, _, _⟩) rfl (by kernel_rfl) (fun K hK => ?_)
        refine wpList_loadRow rfl _ _ rfl P7 rfl _ _ hPd _ Try.underlying29 rfl (iPr _ _ _ _) ?_
        refine hK _ _ hH ?_
        clear hK K
        try simp only [Act.put, List.setIfInBounds_toArray, List.set_cons_zero, List.set_cons_succ]
        refine wpAnyH_solo (i := 5) (o := ⟨some 58, _, _, _, _, _⟩) rfl (by kernel_rfl) (fun K hK => ?_)
        refine wpList_callR Try.func8 (by kernel_rfl) (by kernel_rfl) rfl _ _ rfl #[.agg (pC p m x y), .agg (aC a)] (args2 rfl rfl) _ (HD _ hDd hxd hyd) ?_
        rintro e w8 ⟨x', y', b', rfl, hC8, hD8, hx8, hy8⟩
        refine ⟨_, rfl, ?_⟩
        have hlo' := hC8.lo hlo hBd.size
        have hT8 := hC8.to hpw hlo hBd.size
        have hB8 := hBd.trans hT8
        have hx91 := hx8.cells.2
        have hy91 := hy8.cells.2
        have hF8 := hC8.blk hDd hFd (by decide) (by decide)
        have hP8 := hC8.blk hDd hPd (by decide) (by decide)
        have hH8 := rangeAt_below hH hT8 hgw
        refine hK _ _ hH8 ?_
        clear hK K
        try simp only [Act.put, List.setIfInBounds_toArray, List.set_cons_zero, List.set_cons_succ]
        refine wpAnyH_take (i := 6) (oi := ⟨some 52, _, _, _, _, _⟩) (v := .tuple #[.agg (pC p m' x' y'), .bool true]) rfl (by kernel_rfl) (by kernel_rfl) (by kernel_rfl) (fun _ _ _ h => h) (Or.inl ⟨by rfl, fun w hSw => by go_simp⟩) hH8 ?_
        try simp only [Act.put, List.setIfInBounds_toArray, List.set_cons_zero, List.set_cons_succ]
        refine wpAnyH_take (i := 7) (oi := ⟨some 59, _, _, _, _, _⟩) (v := .agg (pC p m' x' y')) rfl (by kernel_rfl) (by kernel_rfl) (by kernel_rfl) (fun _ _ _ h => h) (Or.inl ⟨by rfl, fun w hSw => run_extract _ _ rfl _ rfl _ rfl⟩) hH8 ?_
        try simp only [Act.put, List.setIfInBounds_toArray, List.set_cons_zero, List.set_cons_succ]
        refine wpAnyH_take (i := 8) (oi := ⟨some 60, _, _, _, _, _⟩) (v := .bool true) rfl (by kernel_rfl) (by kernel_rfl) (by kernel_rfl) (fun _ _ _ h => h) (Or.inl ⟨by rfl, fun w hSw => run_extract _ _ rfl _ rfl _ rfl⟩) hH8 ?_
        try simp only [Act.put, List.setIfInBounds_toArray, List.set_cons_zero, List.set_cons_succ]
        refine wpAnyH_solo (i := 9) (o := ⟨none, _, _, _, _, _⟩) rfl (by kernel_rfl) (fun K hK => ?_)
        refine wpList_storeRow rfl _ _ _ rfl P7 (pC p m' x' y') rfl rfl _ _ hP8 rfl (iPr _ _ _ _) (pC_one _ _ _ _ hx91 hy91) ?_
        intro wb hgb hsb h7b
        clear hsb
        have hFb := hF8.grown hgb (fun e => hFP.out (Option.some.inj e))
        have hDb := hD8.own hgb hP8 (by decide) (by decide)
        have hxb := hx8.other hgb hP8 (.inl (by decide))
        have hyb := hy8.other hgb hP8 (.inl (by decide))
        have hBb := hB8.trans (below_of_grown hgb hP7 hB8.size)
        have hHb := rangeAt_below hH8 (below_of_grown hgb hP7 hB8.size) hgw
        have hst3 : Hid (ApS w P7 w.heap.size p fx fy fz wb (i + 0 + 1) d' m' x' y' b') := ⟨h7b, hFb, hDb, hxb, hyb, hIn, hUs, hBb, hlo'⟩
        refine hK _ _ hHb ?_
        clear hK K
        try simp only [Act.put]
        refine wpAnyH_done (by kernel_rfl) ?_ _
        go_simp
        go_wp2_with fail
        go_roundw
        case rel => exact ⟨i + 1, d', m', x', y', b', by omega, by omega, by go_num, by rw [Nat.add_right_comm]; exact hst3.out⟩
        case measure => simp [intOf]; omega
      · by_cases k1 : 0 ≤ a.kind
        · have k2 : ¬ a.kind < 6 := fun k => k12 ⟨k1, k⟩
          clear k12
          go_wp2_with fail
          go_roundw
          case rel => exact ⟨i + 1, d, m, x, y, b, by omega, by omega, by go_num, hS.more (by omega)⟩
          case measure => simp [intOf]; omega
        · clear k12
          go_wp2_with fail
          go_roundw
          case rel => exact ⟨i + 1, d, m, x, y, b, by omega, by omega, by go_num, hS.more (by omega)⟩
          case measure => simp [intOf]; omega
    · have hend : (¬ (i : Int) < (l0.length : Int)) ∨ ((i : Int) < (l0.length : Int) ∧ ¬ (i : Int) < 25) := by omega
      go_upto_region 3 with fail
      go_cut [35] from 28 to 60 (fun c wx => c = .bool false ∧ wx = wr)
      case first =>
        rcases hend with hz1 | ⟨hz1, hz2⟩
        · clear hlt
          go_wp2_with fail
          go_meet
          case rel => exact ⟨rfl, rfl⟩
        · clear hlt
          go_wp2_with fail
          go_meet
          case rel => exact ⟨rfl, rfl⟩
      case rest =>
        obtain ⟨rfl, rfl⟩ := hcut
        clear hend hlt hil
        have hin : Hid (Inv d m (i + 0)) := hS.inv
        have hml := hS.inv.len
        have hnl := hS.inv.nowLen
        have hBr := hS.below
        have hlo := hS.lo
        have hDr := hS.dk
        have hq := hS.inv.dead
        have hPr := hS.pair
        have hFr := hS.fall
        have hxr := hS.now
        have hyr := hS.sure
        have hof : m.off = false := hS.inv.sam.off.trans hq
        have hIn := Inv.step hS.inv ac5 ⟨by decide, by decide⟩
        have hUs := sure_step hS.inv hS.us ac5
        have HG := sync_any p b d wc hDr (by omega)
        have HC := fun w1 (hx1 : RL w1 0 x m.now) (hy1 : RL w1 0 y m.sure) => rsync_any m x y (.agg (rdC m x y)) w1 ⟨rfl, hx1, hy1⟩ (by omega)
        have e1 : (if d.dead = true then (d, 7) else ({ d with l := settleL d.l }, 0)) = (stD d ac5, 0) := by rw [if_neg (by rw [hq]; decide)]; rfl
        have e2 : (if m.off = true then m else syD m) = stR m ac5 := by rw [hof]; rfl
        have e3 : (if m.off = true then (7 : Int) else 0) = 0 := by rw [hof]; rfl
        rw [e1] at HG
        rw [e2, e3] at HC
        clear e1 e2 e3 hof hq hml hnl hin
        generalize stD d ac5 = d' at *
        generalize stR m ac5 = m' at *
        have c70 := (hPr.cell 0).trans (pC_g0 _ _ _ _)
        unfold DskP at HC
        unfold ChP at HG
        clear hS
        go_wp2_with (first
          | (go_at_call 11; refine HG.mono ?_; rintro e w4 ⟨rfl, b', hC4, hD4⟩; clear HG c70; have hP4 := hC4.blk hDr hPr (by decide) (by decide); have hF4 := hC4.blk hDr hFr (by decide) (by decide); have hx4 := hxr.chg hDr hC4; have hy4 := hyr.chg hDr hC4; have hlo4 := hC4.lo hlo hBr.size; have hB4 := hBr.trans (hC4.to hpw hlo hBr.size))
          | (go_at_call 12; refine (HC _ hx4 hy4).mono ?_; rintro e w5 ⟨v5, x', y', rfl, hR5, hw5⟩; obtain ⟨rfl, hx5, hy5⟩ := hR5; clear HC; have hP5 := hP4.belowSize hw5; have hF5 := hF4.belowSize hw5; have hD5 := hD4.below hw5; have hB5 := hB4.trans (hw5.mono hB4.size); have hx51 := hx5.cells.2; have hy51 := hy5.cells.2)
          | (with_reducible refine at_list ?_; first
            | (refine wpList_loadAt (op := ⟨some 67, _, _, _, _, _⟩) rfl _ _ rfl P7 1 rfl (rdC m x y) (pC_disk hP4) _ Try.underlying27 rfl (iRd _ _ _) ?_)
            | (refine wpList_storePart (op := ⟨none, .store 27 (.tmp 71) (.tmp 69), _, _, _, _⟩) rfl _ _ _ rfl P7 1 (rdC m' x' y') rfl rfl _ _ hP5 (by rw [rdC_size, pC_size]; decide) (iRd _ _ _) (rdC_one _ _ _ hx51 hy51) ?_; intro w6 hg6 hs6 hP6; clear hs6; rw [pC_spl] at hP6)))
        have hF6 := hF5.grown hg6 (fun e => hFP.out (Option.some.inj e))
        have hD6 := hD5.own hg6 hP5 (by decide) (by decide)
        have hx6 := hx5.other hg6 hP5 (.inl (by decide))
        have hy6 := hy5.other hg6 hP5 (.inl (by decide))
        have hB6 := hB5.trans (below_of_grown hg6 hP7 hB5.size)
        have hst2 : ApS w P7 w.heap.size p fx fy fz w6 (0 + 26) d' m' x' y' b' := ApS.more ⟨hP6, hF6, hD6, hx6, hy6, hIn, hUs, hB6, hlo4⟩ (by omega)
        clear hP6 hF6 hD6 hx6 hy6 hIn hUs hB6 hlo4 hB5 hD5 hF5 hP5 hx5 hy5 hx51 hy51 hw5 hB4 hx4 hy4 hF4 hP4 hC4 hD4 hPr hFr hxr hyr hDr hlo hBr hg6 hi40
        go_loopw [9] (fun v9 wl => ∃ (i : Nat) (d : DM) (m : RD) (x y : Value) (b : Option Nat), i ≤ l1.length ∧ i ≤ 25 ∧ v9 = .int .i64 i ∧ ApS w P7 w.heap.size p fx fy fz wl (i + 26) d m x y b) (fun v9 _ => 25 - (intOf v9).toNat)
        case atStart => exact ⟨0, d', m', x', y', b', Nat.zero_le _, Nat.zero_le _, rfl, hst2⟩
        case round =>
          obtain ⟨i, d, m, x, y, b, hil, hi40, rfl, hS⟩ := hrel
          clear hst2
          by_cases hlt : i < l1.length ∧ i < 25
          · obtain ⟨hlt, h40⟩ := hlt
            have hz1 : (i : Int) < (l1.length : Int) := by omega
            have hz2 : (i : Int) < 25 := by omega
            have hin : Hid (Inv d m (i + 26)) := hS.inv
            have hBr := hS.below
            obtain ⟨g, o, rfl, hr⟩ := (hA1.below hBr) i hlt
            have hac : AcOk l1[i] := ok1 _ (List.getElem_mem hlt)
            have hgw : g < w.heap.size := by
              obtain ⟨g2, o2, e2, hr2⟩ := hA1 i hlt
              cases e2
              exact World.block_lt_of_cell? _ _ (hr2 0 _ (aC_g0 _))
            obtain ⟨a, ha⟩ : ∃ a, Hid (a = l1[i]) := ⟨l1[i], rfl⟩
            rw [← ha.out] at hr hac
            clear ha
            have c0 : wr.cell? ⟨g, o + i * 8, none⟩ = some (.int .i64 a.kind) := hr 0 _ (aC_g0 a)
            by_cases k12 : 0 ≤ a.kind ∧ a.kind < 5
            · obtain ⟨k1, k2⟩ := k12
              go_wp2_with fail
              clear c0
              have hx1 := hS.now.cells.2
              have hy1 := hS.sure.cells.2
              have hDd := hS.dk.drew
              have hxd := hS.now.drew
              have hyd := hS.sure.drew
              have hBd := hBr.drew
              have hFd := hS.fall.drew
              have hPd := hS.pair.drew
              have hHd := rangeAt_drew hr
              have hIn := Inv.step hin.out a (by omega)
              have hUs := sure_step hin.out hS.us a
              have HD := fun w1 (hD1 : DK w1 p b d) (hx1 : RL w1 0 x m.now) (hy1 : RL w1 0 y m.sure) => do_step p b d m x y a (i + 26) w1 hD1 hx1 hy1 hin.out (by omega) (by omega) hac.name hac.to
              generalize stD d a = d' at *
              generalize stR m a = m' at *
              have hlo := hS.lo
              clear hin hr hac
              refine wp_region_held_drew (S := fun w' : World => w'.rangeAt g (o + i * 8) (aC a).toList) (by kernel_rfl) hHd (fun hH => ?_)
              try go_frame
              refine wpAnyH_take (i := 1) (oi := ⟨some 98, _, _, _, _, _⟩) (v := .slice (some ⟨g, o, none⟩) l1.length cap1) rfl (by kernel_rfl) (by kernel_rfl) (by kernel_rfl) (fun _ _ _ h => h) (Or.inl ⟨by rfl, fun w hSw => by go_simp⟩) hH ?_
              try simp only [Act.put, List.setIfInBounds_toArray, List.set_cons_zero, List.set_cons_succ]
              refine wpAnyH_take (i := 2) (oi := ⟨some 99, _, _, _, _, _⟩) (v := .int .i64 i) rfl (by kernel_rfl) (by kernel_rfl) (by kernel_rfl) (fun _ _ _ h => h) (Or.inl ⟨by rfl, fun w hSw => by go_simp⟩) hH ?_
              try simp only [Act.put, List.setIfInBounds_toArray, List.set_cons_zero, List.set_cons_succ]
              refine wpAnyH_take (i := 3) (oi := ⟨some 100, _, _, _, _, _⟩) (v := .pointer (some ⟨g, o + i * 8, none⟩)) rfl (by kernel_rfl) (by kernel_rfl) (by kernel_rfl) (fun _ _ _ h => h) (Or.inl ⟨by rfl, fun w hSw => by go_simp⟩) hH ?_
              try simp only [Act.put, List.setIfInBounds_toArray, List.set_cons_zero, List.set_cons_succ]
              refine wpAnyH_take (i := 4) (oi := ⟨some 101, _, _, _, _, _⟩) (v := .agg (aC a)) rfl (by kernel_rfl) (by kernel_rfl) (by kernel_rfl) (fun _ _ _ h => h) (Or.inl ⟨by rfl, fun w hSw => run_loadMid _ _ rfl _ _ rfl _ hSw _ Try.underlying36 rfl (iAct _)⟩) hH ?_
              try simp only [Act.put, List.setIfInBounds_toArray, List.set_cons_zero, List.set_cons_succ]
              refine wpAnyH_solo (i := 0) (o := ⟨some 97, _, _, _, _, _⟩) rfl (by kernel_rfl) (fun K hK => ?_)
              refine wpList_loadRow rfl _ _ rfl P7 rfl _ _ hPd _ Try.underlying29 rfl (iPr _ _ _ _) ?_
              refine hK _ _ hH ?_
              clear hK K
              try simp only [Act.put, List.setIfInBounds_toArray, List.set_cons_zero, List.set_cons_succ]
              refine wpAnyH_solo (i := 5) (o := ⟨some 102, _, _, _, _, _⟩) rfl (by kernel_rfl) (fun K hK => ?_)
              refine wpList_callR Try.func8 (by kernel_rfl) (by kernel_rfl) rfl _ _ rfl #[.agg (pC p m x y), .agg (aC a)] (args2 rfl rfl) _ (HD _ hDd hxd hyd) ?_
              rintro e w8 ⟨x', y', b', rfl, hC8, hD8, hx8, hy8⟩
              refine ⟨_, rfl, ?_⟩
              have hlo' := hC8.lo hlo hBd.size
              have hT8 := hC8.to hpw hlo hBd.size
              have hB8 := hBd.trans hT8
              have hx91 := hx8.cells.2
              have hy91 := hy8.cells.2
              have hF8 := hC8.blk hDd hFd (by decide) (by decide)
              have hP8 := hC8.blk hDd hPd (by decide) (by decide)
              have hH8 := rangeAt_below hH hT8 hgw
              refine hK _ _ hH8 ?_
              clear hK K
              try simp only [Act.put, List.setIfInBounds_toArray, List.set_cons_zero, List.set_cons_succ]
              refine wpAnyH_take (i := 6) (oi := ⟨some 96, _, _, _, _, _⟩) (v := .tuple #[.agg (pC p m' x' y'), .bool true]) rfl (by kernel_rfl) (by kernel_rfl) (by kernel_rfl) (fun _ _ _ h => h) (Or.inl ⟨by rfl, fun w hSw => by go_simp⟩) hH8 ?_
              try simp only [Act.put, List.setIfInBounds_toArray, List.set_cons_zero, List.set_cons_succ]
              refine wpAnyH_take (i := 7) (oi := ⟨some 103, _, _, _, _, _⟩) (v := .agg (pC p m' x' y')) rfl (by kernel_rfl) (by kernel_rfl) (by kernel_rfl) (fun _ _ _ h => h) (Or.inl ⟨by rfl, fun w hSw => run_extract _ _ rfl _ rfl _ rfl⟩) hH8 ?_
              try simp only [Act.put, List.setIfInBounds_toArray, List.set_cons_zero, List.set_cons_succ]
              refine wpAnyH_take (i := 8) (oi := ⟨some 104, _, _, _, _, _⟩) (v := .bool true) rfl (by kernel_rfl) (by kernel_rfl) (by kernel_rfl) (fun _ _ _ h => h) (Or.inl ⟨by rfl, fun w hSw => run_extract _ _ rfl _ rfl _ rfl⟩) hH8 ?_
              try simp only [Act.put, List.setIfInBounds_toArray, List.set_cons_zero, List.set_cons_succ]
              refine wpAnyH_solo (i := 9) (o := ⟨none, _, _, _, _, _⟩) rfl (by kernel_rfl) (fun K hK => ?_)
              refine wpList_storeRow rfl _ _ _ rfl P7 (pC p m' x' y') rfl rfl _ _ hP8 rfl (iPr _ _ _ _) (pC_one _ _ _ _ hx91 hy91) ?_
              intro wb hgb hsb h7b
              clear hsb
              have hFb := hF8.grown hgb (fun e => hFP.out (Option.some.inj e))
              have hDb := hD8.own hgb hP8 (by decide) (by decide)
              have hxb := hx8.other hgb hP8 (.inl (by decide))
              have hyb := hy8.other hgb hP8 (.inl (by decide))
              have hBb := hB8.trans (below_of_grown hgb hP7 hB8.size)
              have hHb := rangeAt_below hH8 (below_of_grown hgb hP7 hB8.size) hgw
              have hst3 : Hid (ApS w P7 w.heap.size p fx fy fz wb (i + 26 + 1) d' m' x' y' b') := ⟨h7b, hFb, hDb, hxb, hyb, hIn, hUs, hBb, hlo'⟩
              refine hK _ _ hHb ?_
              clear hK K
              try simp only [Act.put]
              refine wpAnyH_done (by kernel_rfl) ?_ _
              go_simp
              go_wp2_with fail
              go_roundw
              case rel => exact ⟨i + 1, d', m', x', y', b', by omega, by omega, by go_num, by rw [Nat.add_right_comm]; exact hst3.out⟩
              case measure => simp [intOf]; omega
            · by_cases k1 : 0 ≤ a.kind
              · have k2 : ¬ a.kind < 5 := fun k => k12 ⟨k1, k⟩
                clear k12
                go_wp2_with fail
                go_roundw
                case rel => exact ⟨i + 1, d, m, x, y, b, by omega, by omega, by go_num, hS.more (by omega)⟩
                case measure => simp [intOf]; omega
              · clear k12
                go_wp2_with fail
                go_roundw
                case rel => exact ⟨i + 1, d, m, x, y, b, by omega, by omega, by go_num, hS.more (by omega)⟩
                case measure => simp [intOf]; omega
          · have hend : (¬ (i : Int) < (l1.length : Int)) ∨ ((i : Int) < (l1.length : Int) ∧ ¬ (i : Int) < 25) := by omega
            go_upto_region 11 with fail
            go_cut [79] from 72 to 104 (fun c wx => c = .bool false ∧ wx = wr)
            case first =>
              rcases hend with hz1 | ⟨hz1, hz2⟩
              · clear hlt
                go_wp2_with fail
                go_meet
                case rel => exact ⟨rfl, rfl⟩
              · clear hlt
                go_wp2_with fail
                go_meet
                case rel => exact ⟨rfl, rfl⟩
            case rest =>
              obtain ⟨rfl, rfl⟩ := hcut
              clear hend hlt hil
              have hin := hS.inv
              have hus := hS.us
              have hml := hin.len
              have hnl := hin.nowLen
              have hsl := hin.sureLen
              have hBr := hS.below
              have hlo := hS.lo
              have hDr := hS.dk
              have hq := hin.dead
              have hPr := hS.pair
              have hFr := hS.fall
              have hxr := hS.now
              have hyr := hS.sure
              clear hS
              obtain ⟨ax, cx, rfl⟩ := hxr.sl
              obtain ⟨ay, cy, rfl⟩ := hyr.sl
              have hok := hin.ok
              have hsam := hin.sam
              have hr := hok.ris
              have hby := inv_bytes hin hus (by omega)
              have HCr := fun w1 (hD1 : DK w1 p b d) => crash_any p b d fy fz w1 hD1 (by omega) hby
              have hcra : craD d fy fz = { dmU d fy fz with dead := true } := by
                unfold craD
                rw [if_neg (by rw [hq]; decide)]
                rfl
              rw [hcra] at HCr
              have HUp : ∀ w1 b1, DK w1 p b1 { dmU d fy fz with dead := true } → Calls Try.prog 15 #[.pointer (some ⟨p, 0, none⟩)] w1 fun e w' => e = .returned (.bool true) ∧ Chg w1 w' p b1 b1 ∧ DK w' p b1 (dmU d fy fz) := fun w1 b1 h => up_any p b1 _ w1 h
              have HRl : ∀ w1, RL w1 0 (.slice ax m.now.length cx) m.now → RL w1 0 (.slice ay m.sure.length cy) m.sure → Calls Try.prog 13 #[.agg (rdC m (.slice ax m.now.length cx) (.slice ay m.sure.length cy))] w1 fun e w' => ∃ a cap, e = .returned (.slice a ((d.l.filter isLoose).map (·.name)).length cap) ∧ Below w1.heap.size w1 w' ∧ XL w' w1.heap.size (.slice a ((d.l.filter isLoose).map (·.name)).length cap) ((d.l.filter isLoose).map (·.name)) := fun w1 hx1 hy1 => by
                refine (rloose_any m _ _ _ w1 ⟨rfl, hx1, hy1⟩ (by omega)).mono ?_
                rintro e w' ⟨sl, rfl, k1, k2⟩
                rw [sam_loose hsam hok] at k2
                obtain ⟨a, cap, rfl⟩ := k2.sl
                exact ⟨a, cap, rfl, k1, k2⟩
              have hLl : ((d.l.filter isLoose).map (·.name)).length ≤ 1000 := by
                rw [List.length_map]
                have := List.length_filter_le isLoose d.l
                omega
              have HRd : ∀ n, okN n = true → ∀ w1 b1, DK w1 p b1 (dmU d fy fz) → Calls Try.prog 16 #[.pointer (some ⟨p, 0, none⟩), .string ⟨n.toArray⟩] w1 fun e w' => e = .returned (.tuple #[.string ⟨(byt (nC fy fz d.l n)).toArray⟩, .int .i64 (if (nC fy fz d.l n).isSome = true then 0 else 2)]) ∧ Below w1.heap.size w1 w' := fun n hn w1 b1 hD1 => by
                obtain ⟨k1, k2, k3⟩ := up_read (z := fy) (k := fz) hok hn
                have hul := up_len d fy fz
                refine (read_any p b1 (dmU d fy fz) n w1 hD1 k1 (by omega) (okN_len hn)).mono ?_
                rintro e w' ⟨rfl, hw⟩
                rw [k2, k3]
                refine ⟨?_, hw⟩
                split <;> rfl
              have HFn := fun n w1 (hx1 : RL w1 0 (.slice ax m.now.length cx) m.now) => find_any m.now n _ 0 w1 hx1 (by omega)
              have HFs := fun n w1 (hx1 : RL w1 0 (.slice ay m.sure.length cy) m.sure) => find_any m.sure n _ 0 w1 hx1 (by omega)
              have hfn1 : ∀ n, (findR m.now n).isSome = (nA d.l n).isSome := fun n => by rw [pr_some, hsam.now]; rfl
              have hfn2 : ∀ n, ((findR m.now n).getD rf0).s = byt (nA d.l n) := fun n => by rw [pr_s, hsam.now]; rfl
              have hfs1 : ∀ n, (findR m.sure n).isSome = (nB d.l n).isSome := fun n => by rw [pr_some, hsam.sure]; rfl
              have hfs2 : ∀ n, ((findR m.sure n).getD rf0).s = byt (nB d.l n) := fun n => by rw [pr_s, hsam.sure]; rfl
              have hLok : Hid (∀ n ∈ (d.l.filter isLoose).map (·.name), okN n = true) := fun n hn => loose_ok hok hn
              have hSok : Hid (∀ f ∈ m.sure, okN f.name = true ∧ (nA d.l f.name = some f.s → nC fy fz d.l f.name = some f.s)) := fun f hf => by
                have h1 : (f.name, f.s) ∈ sureL d.l := by
                  rw [← hsam.sure]
                  exact List.mem_map.2 ⟨f, hf, rfl⟩
                exact ⟨sure_ok hok h1, sure_keep hr h1⟩
              have hbn : Hid ((((d.l.filter isLoose).map (·.name)).filter (badN fy fz d.l)).length ≤ (if 0 < fz then 1 else 0)) := bad_names fy fz d.l hr
              have hbd : Hid (∀ n, badN fy fz d.l n = (unl (nC fy fz d.l n) (nA d.l n) && unl (nC fy fz d.l n) (nB d.l n))) := fun n => rfl
              clear hcra hby hus hin hok hsam hr hml hnl hq
              generalize dmU d fy fz = dU at *
              generalize nC fy fz d.l = fC' at *
              generalize nA d.l = fA at *
              generalize nB d.l = fB at *
              generalize badN fy fz d.l = bd at *
              generalize (d.l.filter isLoose).map (·.name) = LN at *
              have hPd := hPr.drew
              have hDd := hDr.drew
              have hFd := hFr.drew
              have hxd := hxr.drew
              have hyd := hyr.drew
              have hBd := hBr.drew
              obtain ⟨nx, hnx⟩ : ∃ k, Hid (k = m.now.length) := ⟨_, rfl⟩
              obtain ⟨ny, hny⟩ : ∃ k, Hid (k = m.sure.length) := ⟨_, rfl⟩
              obtain ⟨L, hL⟩ : ∃ k, Hid (k = LN.length) := ⟨_, rfl⟩
              have hLg : Hid (∀ i, i < L → ∃ n, LN[i]? = some n) := fun i h => ⟨_, List.getElem?_eq_getElem (by rw [← hL.out]; exact h)⟩
              have hYg : Hid (∀ i, i < ny → ∃ f, m.sure[i]? = some f) := fun i h => ⟨_, List.getElem?_eq_getElem (by rw [← hny.out]; exact h)⟩
              have hLt : Hid (LN.take L = LN) := List.take_of_length_le (Nat.le_of_eq hL.out.symm)
              have hny6 : ny ≤ 1000 := by rw [hny.out]; omega
              rw [← hnx.out] at hPd hxd hxr hPr HFn
              rw [← hny.out] at hPd hyd hyr hPr HFs
              rw [← hnx.out, ← hny.out] at HRl
              rw [← hL.out] at HRl hLl
              skip
              go_wp2_with fail
              refine wp_region_held_drew (S := fun w' : World => Blk w' P7 (pC p m (.slice ax nx cx) (.slice ay ny cy)) 29) (by kernel_rfl) hPd (fun hH => ?_)
              try go_frame
              refine wpAnyH_take (i := 0) (oi := ⟨some 105, _, _, _, _, _⟩) (v := .pointer (some ⟨P7, 1, none⟩)) rfl (by kernel_rfl) (by kernel_rfl) (by kernel_rfl) (fun _ _ _ h => h) (Or.inl ⟨by rfl, fun w hSw => by go_simp⟩) hH ?_
              try simp only [Act.put, List.setIfInBounds_toArray, List.set_cons_zero, List.set_cons_succ]
              refine wpAnyH_take (i := 1) (oi := ⟨some 106, _, _, _, _, _⟩) (v := .pointer (some ⟨P7, 1, none⟩)) rfl (by kernel_rfl) (by kernel_rfl) (by kernel_rfl) (fun _ _ _ h => h) (Or.inl ⟨by rfl, fun w hSw => by go_simp⟩) hH ?_
              try simp only [Act.put, List.setIfInBounds_toArray, List.set_cons_zero, List.set_cons_succ]
              refine wpAnyH_take (i := 2) (oi := ⟨some 107, _, _, _, _, _⟩) (v := (.slice ax nx cx)) rfl (by kernel_rfl) (by kernel_rfl) (by kernel_rfl) (fun _ _ _ h => h) (Or.inl ⟨by rfl, fun w hSw => run_loadCellB _ _ rfl _ 1 rfl _ _ hSw _ Try.underlying24 rfl _ (pC_g1 _ _ _ _)⟩) hH ?_
              try simp only [Act.put, List.setIfInBounds_toArray, List.set_cons_zero, List.set_cons_succ]
              refine wpAnyH_take (i := 3) (oi := ⟨some 108, _, _, _, _, _⟩) (v := .pointer (some ⟨P7, 1, none⟩)) rfl (by kernel_rfl) (by kernel_rfl) (by kernel_rfl) (fun _ _ _ h => h) (Or.inl ⟨by rfl, fun w hSw => by go_simp⟩) hH ?_
              try simp only [Act.put, List.setIfInBounds_toArray, List.set_cons_zero, List.set_cons_succ]
              refine wpAnyH_take (i := 4) (oi := ⟨some 109, _, _, _, _, _⟩) (v := .pointer (some ⟨P7, 2, none⟩)) rfl (by kernel_rfl) (by kernel_rfl) (by kernel_rfl) (fun _ _ _ h => h) (Or.inl ⟨by rfl, fun w hSw => by go_simp⟩) hH ?_
              try simp only [Act.put, List.setIfInBounds_toArray, List.set_cons_zero, List.set_cons_succ]
              refine wpAnyH_take (i := 5) (oi := ⟨some 110, _, _, _, _, _⟩) (v := (.slice ay ny cy)) rfl (by kernel_rfl) (by kernel_rfl) (by kernel_rfl) (fun _ _ _ h => h) (Or.inl ⟨by rfl, fun w hSw => run_loadCellB _ _ rfl _ 2 rfl _ _ hSw _ Try.underlying24 rfl _ (pC_g2 _ _ _ _)⟩) hH ?_
              try simp only [Act.put, List.setIfInBounds_toArray, List.set_cons_zero, List.set_cons_succ]
              refine wpAnyH_take (i := 6) (oi := ⟨some 111, _, _, _, _, _⟩) (v := .pointer (some ⟨P7, 1, none⟩)) rfl (by kernel_rfl) (by kernel_rfl) (by kernel_rfl) (fun _ _ _ h => h) (Or.inl ⟨by rfl, fun w hSw => by go_simp⟩) hH ?_
              try simp only [Act.put, List.setIfInBounds_toArray, List.set_cons_zero, List.set_cons_succ]
              refine wpAnyH_take (i := 7) (oi := ⟨some 112, _, _, _, _, _⟩) (v := .agg (rdC m (.slice ax nx cx) (.slice ay ny cy))) rfl (by kernel_rfl) (by kernel_rfl) (by kernel_rfl) (fun _ _ _ h => h) (Or.inl ⟨by rfl, fun w hSw => run_loadMid _ _ rfl _ 1 rfl _ (pC_disk hSw) _ Try.underlying27 rfl (iRd _ _ _)⟩) hH ?_
              try simp only [Act.put, List.setIfInBounds_toArray, List.set_cons_zero, List.set_cons_succ]
              refine wpAnyH_solo (i := 8) (o := ⟨some 113, _, _, _, _, _⟩) rfl (by kernel_rfl) (fun K hK => ?_)
              refine wpList_callR Try.func13 (by kernel_rfl) (by kernel_rfl) rfl _ _ rfl #[.agg (rdC m (.slice ax nx cx) (.slice ay ny cy))] (args1 rfl) _ (HRl _ hxd hyd) ?_
              rintro e w2 ⟨a3, c3, rfl, hw2, hX2⟩
              refine ⟨_, rfl, ?_⟩
              have hB2 := hBd.trans (hw2.mono hBd.size)
              have hH2 := hH.belowSize hw2
              have hF2 := hFd.belowSize hw2
              have hD2 := hDd.below hw2
              have hx2 := hxd.below hw2
              have hy2 := hyd.below hw2
              replace hX2 := XL.lo hX2 hBd.size
              refine hK _ _ hH2 ?_
              clear hK K HRl
              try simp only [Act.put, List.setIfInBounds_toArray, List.set_cons_zero, List.set_cons_succ]
              refine wpAnyH_take (i := 9) (oi := ⟨some 10, _, _, _, _, _⟩) (v := (.slice ax nx cx)) rfl (by kernel_rfl) (by kernel_rfl) (by kernel_rfl) (fun _ _ _ h => h) (Or.inl ⟨by rfl, fun w hSw => by go_simp⟩) hH2 ?_
              try simp only [Act.put, List.setIfInBounds_toArray, List.set_cons_zero, List.set_cons_succ]
              refine wpAnyH_take (i := 10) (oi := ⟨some 11, _, _, _, _, _⟩) (v := (.slice ay ny cy)) rfl (by kernel_rfl) (by kernel_rfl) (by kernel_rfl) (fun _ _ _ h => h) (Or.inl ⟨by rfl, fun w hSw => by go_simp⟩) hH2 ?_
              try simp only [Act.put, List.setIfInBounds_toArray, List.set_cons_zero, List.set_cons_succ]
              refine wpAnyH_take (i := 11) (oi := ⟨some 12, _, _, _, _, _⟩) (v := (.slice a3 L c3)) rfl (by kernel_rfl) (by kernel_rfl) (by kernel_rfl) (fun _ _ _ h => h) (Or.inl ⟨by rfl, fun w hSw => by go_simp⟩) hH2 ?_
              try simp only [Act.put, List.setIfInBounds_toArray, List.set_cons_zero, List.set_cons_succ]
              refine wpAnyH_done (by kernel_rfl) ?_ _
              go_simp
              have c70 := (hH2.cell 0).trans (pC_g0 _ _ _ _)
              have cF1 := (hF2.cell 1).trans (falC_g1 _ _ _)
              have cF2 := (hF2.cell 2).trans (falC_g2 _ _ _)
              have hX2k := fun r e => (GL.lt hX2 r e)
              clear hPr hDr hFr hxr hyr hBr hPd hDd hFd hxd hyd hBd hH
              go_wp2_with (first
                | (go_at_call 14; refine (HCr _ hD2).mono ?_; rintro e w4 ⟨rfl, b4, hC4, hD4⟩; clear HCr c70 cF1 cF2; have hP4 := hC4.blk hD2 hH2 (by decide) (by decide); have hF4 := hC4.blk hD2 hF2 (by decide) (by decide); have hx4 := hx2.chg hD2 hC4; have hy4 := hy2.chg hD2 hC4; have hX4 := hX2.chg hD2 hC4; have hlo4 := hC4.lo hlo hB2.size; have hB4 := hB2.trans (hC4.to hpw hlo hB2.size); have c70 := (hP4.cell 0).trans (pC_g0 _ _ _ _))
                | (go_at_call 15; refine (HUp _ _ hD4).mono ?_; rintro e w5 ⟨rfl, hC5, hD5⟩; clear HUp c70; have hP5 := hC5.blk hD4 hP4 (by decide) (by decide); have hF5 := hC5.blk hD4 hF4 (by decide) (by decide); have hx5 := hx4.chg hD4 hC5; have hy5 := hy4.chg hD4 hC5; have hX5 := hX4.chg hD4 hC5; have hB5 := hB4.trans (hC5.to hpw hlo4 hB4.size)))
              clear hP4 hF4 hx4 hy4 hX4 hB4 hC4 hD4 hC5 hlo4 hH2 hF2 hx2 hy2 hX2 hX2k hB2 hD2 hw2 hlo hi40
              have hXl := fun r e => (GL.lt hX5 r e).2
              have hxl := fun r e => (GL.lt hx5 r e).2
              have hyl := fun r e => (GL.lt hy5 r e).2
              have hPl := hP5.lt
              go_loopw [13, 14, 15, 16, 17, 18, 19, 20, 21] (fun v13 v14 _ _ _ _ _ _ _ wl => ∃ i T : Nat, i ≤ L ∧ Hid (T = ((LN.take i).filter bd).length) ∧ T ≤ i ∧ v13 = .int .i64 T ∧ v14 = .int .i64 i ∧ Below w5.heap.size w5 wl) (fun _ v14 _ _ _ _ _ _ _ _ => L - (intOf v14).toNat)
              case atStart => exact ⟨0, 0, Nat.zero_le _, rfl, Nat.le_refl _, rfl, rfl, Below.refl _ _⟩
              case round =>
                obtain ⟨i, T, hil, hT, hTi, rfl, rfl, hB⟩ := hrel
                by_cases hlt : i < L
                · have hz1 : (i : Int) < (L : Int) := by omega
                  obtain ⟨n, hn⟩ := hLg.out i hlt
                  have hnok := hLok.out n (List.mem_of_getElem? hn)
                  obtain ⟨gn, rfl, hgn⟩ := hX5.at i n hn
                  have gnl5 : gn < w5.heap.size := hXl gn rfl
                  have HRr := HRd n hnok
                  have HFA := HFn n
                  have HFB := HFs n
                  have hstep : Hid (((LN.take (i + 1)).filter bd).length = ((LN.take i).filter bd).length + (if bd n = true then 1 else 0)) := by
                    obtain ⟨hi2, e⟩ := List.getElem?_eq_some_iff.1 hn
                    show ((LN.take (i + 1)).filter bd).length = _
                    rw [List.take_succ_eq_append_getElem hi2, e, List.filter_append, List.length_append, List.filter_cons]
                    split <;> rfl
                  have hb2 : bd n = ((((fC' n).isSome != (findR m.now n).isSome) || ((fC' n).isSome && (byt (fC' n) != ((findR m.now n).getD rf0).s))) && (((fC' n).isSome != (findR m.sure n).isSome) || ((fC' n).isSome && (byt (fC' n) != ((findR m.sure n).getD rf0).s)))) := by
                    rw [hbd.out, hfn1, hfn2, hfs1, hfs2]
                    rfl
                  clear HRd HFn HFs hfn1 hfn2 hfs1 hfs2 hbd hbn hSok hLok hLg hYg hn hnok hLt
                  generalize (findR m.now n).isSome = uA at *
                  generalize (findR m.now n).getD rf0 = FA at *
                  generalize (findR m.sure n).isSome = vB at *
                  generalize (findR m.sure n).getD rf0 = FB at *
                  generalize (fC' n).isSome = tC at *
                  generalize byt (fC' n) = sC at *
                  have hE : decide ((if tC = true then (0 : Int) else 2) = 0) = tC := by cases tC <;> rfl
                  generalize (if tC = true then (0 : Int) else 2) = EC at *
                  have hb3 : Hid _ := hb2
                  clear hb2
                  generalize bd n = bn at *
                  have hTn : Hid (∀ v : Bool, bn = v → T + (if v = true then 1 else 0) = ((LN.take (i + 1)).filter bd).length) := fun v e => by
                    rw [hstep.out, ← hT.out, e]
                  clear hstep
                  have hsz := hB.size
                  have hHr : Blk wr.drew P7 (pC p m (.slice ax nx cx) (.slice ay ny cy)) 29 ∧ wr.drew.cell? ⟨gn, i, none⟩ = some (.string ⟨n.toArray⟩) := ⟨(hP5.belowSize hB).drew, (hB.cell gnl5).trans hgn⟩
                  have hDr := (hD5.below hB).drew
                  have hBd := hB.drew
                  have gnl : gn < wr.heap.size := by omega
                  clear hgn
                  go_wp2_with fail
                  refine wp_region_held_drew (S := fun w' : World => Blk w' P7 (pC p m (.slice ax nx cx) (.slice ay ny cy)) 29 ∧ w'.cell? ⟨gn, i, none⟩ = some (.string ⟨n.toArray⟩)) (by kernel_rfl) hHr (fun hH => ?_)
                  try go_frame
                  refine wpAnyH_take (i := 0) (oi := ⟨some 131, _, _, _, _, _⟩) (v := .pointer (some ⟨P7, 0, none⟩)) rfl (by kernel_rfl) (by kernel_rfl) (by kernel_rfl) (fun _ _ _ h => h) (Or.inl ⟨by rfl, fun w hSw => by go_simp⟩) hH ?_
                  try simp only [Act.put, List.setIfInBounds_toArray, List.set_cons_zero, List.set_cons_succ]
                  refine wpAnyH_take (i := 1) (oi := ⟨some 132, _, _, _, _, _⟩) (v := .pointer (some ⟨p, 0, none⟩)) rfl (by kernel_rfl) (by kernel_rfl) (by kernel_rfl) (fun _ _ _ h => h) (Or.inl ⟨by rfl, fun w hSw => run_loadCellB _ _ rfl _ 0 rfl _ _ hSw.1 _ Try.underlying23 rfl _ (pC_g0 _ _ _ _)⟩) hH ?_
                  try simp only [Act.put, List.setIfInBounds_toArray, List.set_cons_zero, List.set_cons_succ]
                  refine wpAnyH_take (i := 2) (oi := ⟨some 133, _, _, _, _, _⟩) (v := (.slice (some ⟨gn, 0, none⟩) L c3)) rfl (by kernel_rfl) (by kernel_rfl) (by kernel_rfl) (fun _ _ _ h => h) (Or.inl ⟨by rfl, fun w hSw => by go_simp⟩) hH ?_
                  try simp only [Act.put, List.setIfInBounds_toArray, List.set_cons_zero, List.set_cons_succ]
                  refine wpAnyH_take (i := 3) (oi := ⟨some 134, _, _, _, _, _⟩) (v := .int .i64 i) rfl (by kernel_rfl) (by kernel_rfl) (by kernel_rfl) (fun _ _ _ h => h) (Or.inl ⟨by rfl, fun w hSw => by go_simp⟩) hH ?_
                  try simp only [Act.put, List.setIfInBounds_toArray, List.set_cons_zero, List.set_cons_succ]
                  refine wpAnyH_take (i := 4) (oi := ⟨some 135, _, _, _, _, _⟩) (v := .pointer (some ⟨gn, i, none⟩)) rfl (by kernel_rfl) (by kernel_rfl) (by kernel_rfl) (fun _ _ _ h => h) (Or.inl ⟨by rfl, fun w hSw => by go_simp⟩) hH ?_
                  try simp only [Act.put, List.setIfInBounds_toArray, List.set_cons_zero, List.set_cons_succ]
                  refine wpAnyH_take (i := 5) (oi := ⟨some 136, _, _, _, _, _⟩) (v := .string ⟨n.toArray⟩) rfl (by kernel_rfl) (by kernel_rfl) (by kernel_rfl) (fun _ _ _ h => h) (Or.inl ⟨by rfl, fun w hSw => run_loadC _ _ rfl _ _ rfl _ Try.underlying9 rfl _ hSw.2⟩) hH ?_
                  try simp only [Act.put, List.setIfInBounds_toArray, List.set_cons_zero, List.set_cons_succ]
                  refine wpAnyH_solo (i := 6) (o := ⟨some 137, _, _, _, _, _⟩) rfl (by kernel_rfl) (fun K hK => ?_)
                  refine wpList_callR Try.func16 (by kernel_rfl) (by kernel_rfl) rfl _ _ rfl #[.pointer (some ⟨p, 0, none⟩), .string ⟨n.toArray⟩] (args2 rfl rfl) _ (HRr _ _ hDr) ?_
                  rintro e w9 ⟨rfl, hw9⟩
                  refine ⟨_, rfl, ?_⟩
                  have hB9 := hBd.trans (hw9.mono hBd.size)
                  have hH9 := And.intro (hH.1.belowSize hw9) ((hw9.cell gnl).trans hH.2)
                  refine hK _ _ hH9 ?_
                  clear hK K HRr
                  try simp only [Act.put, List.setIfInBounds_toArray, List.set_cons_zero, List.set_cons_succ]
                  refine wpAnyH_take (i := 7) (oi := ⟨some 130, _, _, _, _, _⟩) (v := .tuple #[.string ⟨sC.toArray⟩, .int .i64 EC]) rfl (by kernel_rfl) (by kernel_rfl) (by kernel_rfl) (fun _ _ _ h => h) (Or.inl ⟨by rfl, fun w hSw => by go_simp⟩) hH9 ?_
                  try simp only [Act.put, List.setIfInBounds_toArray, List.set_cons_zero, List.set_cons_succ]
                  refine wpAnyH_take (i := 8) (oi := ⟨some 138, _, _, _, _, _⟩) (v := .string ⟨sC.toArray⟩) rfl (by kernel_rfl) (by kernel_rfl) (by kernel_rfl) (fun _ _ _ h => h) (Or.inl ⟨by rfl, fun w hSw => run_extract _ _ rfl _ rfl _ rfl⟩) hH9 ?_
                  try simp only [Act.put, List.setIfInBounds_toArray, List.set_cons_zero, List.set_cons_succ]
                  refine wpAnyH_take (i := 9) (oi := ⟨some 139, _, _, _, _, _⟩) (v := .int .i64 EC) rfl (by kernel_rfl) (by kernel_rfl) (by kernel_rfl) (fun _ _ _ h => h) (Or.inl ⟨by rfl, fun w hSw => run_extract _ _ rfl _ rfl _ rfl⟩) hH9 ?_
                  try simp only [Act.put, List.setIfInBounds_toArray, List.set_cons_zero, List.set_cons_succ]
                  refine wpAnyH_take (i := 10) (oi := ⟨some 15, _, _, _, _, _⟩) (v := .string ⟨sC.toArray⟩) rfl (by kernel_rfl) (by kernel_rfl) (by kernel_rfl) (fun _ _ _ h => h) (Or.inl ⟨by rfl, fun w hSw => by go_simp⟩) hH9 ?_
                  try simp only [Act.put, List.setIfInBounds_toArray, List.set_cons_zero, List.set_cons_succ]
                  refine wpAnyH_take (i := 11) (oi := ⟨some 16, _, _, _, _, _⟩) (v := .int .i64 EC) rfl (by kernel_rfl) (by kernel_rfl) (by kernel_rfl) (fun _ _ _ h => h) (Or.inl ⟨by rfl, fun w hSw => by go_simp⟩) hH9 ?_
                  try simp only [Act.put, List.setIfInBounds_toArray, List.set_cons_zero, List.set_cons_succ]
                  refine wpAnyH_done (by kernel_rfl) ?_ _
                  go_simp
                  have c9 := hH9.2
                  have hx9 := hx5.below hB9
                  have hgl9 : gn < w9.heap.size := Nat.lt_of_lt_of_le gnl5 hB9.size
                  clear hH hHr hH9 hDr hBd hw9
                  go_upto_region 26 with (first
                    | (go_at_call 17; refine (HFA _ hx9).mono ?_; rintro e w10 ⟨rfl, hw10⟩; clear HFA; have hB10 := hB9.trans (hw10.mono hB9.size); have c10 := (hw10.cell hgl9).trans c9; clear c9)
                    | (go_at_call 17; refine (HFB _ hy12).mono ?_; rintro e w13 ⟨rfl, hw13⟩; clear HFB c12; have hB13 := hB12.trans (hw13.mono hB12.size); have h17c := h17b.belowSize hw13)
                    | (with_reducible refine at_list ?_; first
                      | (refine wpList_allocRow (op := ⟨some 17, _, _, _, _, _⟩) rfl _ rfl _ zRf.1 ?_; intro w11 hw11 hs11 h17; clear hs11; have hB11 := hB10.trans (hw11.mono hB10.size); have c11 := (hw11.cell (Nat.lt_of_lt_of_le hgl9 hw10.size)).trans c10; clear c10)
                      | (refine wpList_storeRow (op := ⟨none, .store 49 (.tmp 17) (.tmp 147), _, _, _, _⟩) rfl _ _ _ rfl w10.heap.size (rC FA) rfl rfl _ _ h17 rfl (iRf _) (rC_one _) ?_; intro w12 hg12 hs12 h17b; clear hs12; have hB12 := hB11.trans (below_of_grown hg12 hB10.size hB11.size); have c12 := ((below_of_grown hg12 (Nat.le_refl _) hw11.size).cell (Nat.lt_of_lt_of_le hgl9 hw10.size)).trans c11; clear c11; have hy12 := hy5.below hB12)
                      | (refine wpList_allocRow (op := ⟨some 19, _, _, _, _, _⟩) rfl _ rfl _ zRf.1 ?_; intro w14 hw14 hs14 h19; clear hs14; have hB14 := hB13.trans (hw14.mono hB13.size); have h17l := h17c.lt; have h17d := h17c.belowSize hw14)
                      | (refine wpList_storeRow (op := ⟨none, .store 49 (.tmp 19) (.tmp 156), _, _, _, _⟩) rfl _ _ _ rfl w13.heap.size (rC FB) rfl rfl _ _ h19 rfl (iRf _) (rC_one _) ?_; intro w15 hg15 hs15 h19b; clear hs15; have hB15 := hB14.trans (below_of_grown hg15 hB13.size hB14.size); have h17e := h17d.grown hg15 (fun e => by have := Option.some.inj e; omega))))
                  have cA := (h17e.cell 1).trans (rC_g1 FA)
                  have cB := (h19b.cell 1).trans (rC_g1 FB)
                  clear h17 h17b h17c h17d h17e h19 h19b hg12 hg15 hw10 hw11 hw13 hw14 hx9 hy12 hB9 hB10 hB11 hB12 hB13 hB14 h17l hgl9
                  cases tC
                  · have hE2 : ¬ EC = 0 := of_decide_eq_false hE
                    clear hE
                    cases uA
                    · have hbv : Hid (T + 0 = ((LN.take (i + 1)).filter bd).length) := hTn.out false (by rw [hb3.out]; rfl)
                      clear hTn hb3
                      go_wp2_with fail
                      go_roundw
                      case rel => exact ⟨i + 1, T + 0, by omega, hbv, by omega, rfl, by go_num, hB15⟩
                      case measure => simp [intOf]; omega
                    · cases vB
                      · have hbv : Hid (T + 0 = ((LN.take (i + 1)).filter bd).length) := hTn.out false (by rw [hb3.out]; rfl)
                        clear hTn hb3
                        go_wp2_with fail
                        go_roundw
                        case rel => exact ⟨i + 1, T + 0, by omega, hbv, by omega, rfl, by go_num, hB15⟩
                        case measure => simp [intOf]; omega
                      · have hbv : Hid (T + 1 = ((LN.take (i + 1)).filter bd).length) := hTn.out true (by rw [hb3.out]; rfl)
                        clear hTn hb3
                        go_wp2_with fail
                        go_roundw
                        case rel => exact ⟨i + 1, T + 1, by omega, hbv, by omega, by go_num, by go_num, hB15⟩
                        case measure => simp [intOf]; omega
                  · have hE2 : EC = 0 := of_decide_eq_true hE
                    subst hE2
                    clear hE
                    cases uA
                    · cases vB
                      · have hbv : Hid (T + 1 = ((LN.take (i + 1)).filter bd).length) := hTn.out true (by rw [hb3.out]; rfl)
                        clear hTn hb3
                        go_wp2_with fail
                        go_roundw
                        case rel => exact ⟨i + 1, T + 1, by omega, hbv, by omega, by go_num, by go_num, hB15⟩
                        case measure => simp [intOf]; omega
                      · cases hq2 : sC == FB.s
                        · have hbv : Hid (T + 1 = ((LN.take (i + 1)).filter bd).length) := hTn.out true (by rw [hb3.out]; simp [bne, hq2])
                          clear hTn hb3
                          go_wp2_with fail
                          go_roundw
                          case rel => exact ⟨i + 1, T + 1, by omega, hbv, by omega, by go_num, by go_num, hB15⟩
                          case measure => simp [intOf]; omega
                        · have hbv : Hid (T + 0 = ((LN.take (i + 1)).filter bd).length) := hTn.out false (by rw [hb3.out]; simp [bne, hq2])
                          clear hTn hb3
                          go_wp2_with fail
                          go_roundw
                          case rel => exact ⟨i + 1, T + 0, by omega, hbv, by omega, rfl, by go_num, hB15⟩
                          case measure => simp [intOf]; omega
                    · cases hq1 : sC == FA.s
                      · cases vB
                        · have hbv : Hid (T + 1 = ((LN.take (i + 1)).filter bd).length) := hTn.out true (by rw [hb3.out]; simp [bne, hq1])
                          clear hTn hb3
                          go_wp2_with fail
                          go_roundw
                          case rel => exact ⟨i + 1, T + 1, by omega, hbv, by omega, by go_num, by go_num, hB15⟩
                          case measure => simp [intOf]; omega
                        · cases hq2 : sC == FB.s
                          · have hbv : Hid (T + 1 = ((LN.take (i + 1)).filter bd).length) := hTn.out true (by rw [hb3.out]; simp [bne, hq1, hq2])
                            clear hTn hb3
                            go_wp2_with fail
                            go_roundw
                            case rel => exact ⟨i + 1, T + 1, by omega, hbv, by omega, by go_num, by go_num, hB15⟩
                            case measure => simp [intOf]; omega
                          · have hbv : Hid (T + 0 = ((LN.take (i + 1)).filter bd).length) := hTn.out false (by rw [hb3.out]; simp [bne, hq1, hq2])
                            clear hTn hb3
                            go_wp2_with fail
                            go_roundw
                            case rel => exact ⟨i + 1, T + 0, by omega, hbv, by omega, rfl, by go_num, hB15⟩
                            case measure => simp [intOf]; omega
                      · have hbv : Hid (T + 0 = ((LN.take (i + 1)).filter bd).length) := hTn.out false (by rw [hb3.out]; simp [bne, hq1])
                        clear hTn hb3
                        go_wp2_with fail
                        go_roundw
                        case rel => exact ⟨i + 1, T + 0, by omega, hbv, by omega, rfl, by go_num, hB15⟩
                        case measure => simp [intOf]; omega
                · have hiL : i = L := by omega
                  have hT2 : T ≤ (if 0 < fz then 1 else 0) := by
                    rw [hT.out, hiL, hLt.out]
                    exact hbn.out
                  have hTz : ¬ 0 < fz → T = 0 := fun h => by
                    rw [if_neg h] at hT2
                    omega
                  have hT1 : T ≤ 1 := by
                    split at hT2 <;> omega
                  have hz1 : ¬ (i : Int) < (L : Int) := by omega
                  clear hiL hT2 hT hbn hLt hLg hLok hbd hfs1 hfs2 HFs hil hTi hlt
                  have hTzh : Hid (¬ 0 < fz → T = 0) := hTz
                  clear hTz
                  go_wp2_with fail
                  clear hz1
                  go_loopw [22, 23, 24, 25, 26] (fun v22 _ _ _ _ wl => ∃ i : Nat, i ≤ ny ∧ v22 = .int .i64 i ∧ Below w5.heap.size w5 wl) (fun v22 _ _ _ _ _ => ny - (intOf v22).toNat)
                  case atStart => exact ⟨0, Nat.zero_le _, rfl, hB⟩
                  case round =>
                    clear hB
                    obtain ⟨i, hil, rfl, hB⟩ := hrel
                    by_cases hlt : i < ny
                    · have hz1 : (i : Int) < (ny : Int) := by omega
                      obtain ⟨f, hf⟩ := hYg.out i hlt
                      obtain ⟨hfok, hkeep⟩ := hSok.out f (List.mem_of_getElem? hf)
                      obtain ⟨gy, rfl, hgy, _, _⟩ := hy5.at i f hf
                      have gyl5 : gy < w5.heap.size := hyl gy rfl
                      have HRr := HRd f.name hfok
                      have HFA := HFn f.name
                      have hkey : (findR m.now f.name).isSome = true → ((findR m.now f.name).getD rf0).s = f.s → byt (fC' f.name) = f.s ∧ (if (fC' f.name).isSome = true then (0 : Int) else 2) = 0 := fun h1 h2 => by
                        rw [hfn1] at h1
                        rw [hfn2] at h2
                        have h3 : fA f.name = some f.s := by
                          cases hq : fA f.name with
                          | none => rw [hq] at h1; cases h1
                          | some x => rw [hq] at h2; exact congrArg some h2
                        rw [hkeep h3]
                        exact ⟨rfl, rfl⟩
                      clear HRd HFn hfn1 hfn2 hSok hYg hf hfok hkeep
                      generalize (findR m.now f.name).isSome = uA at *
                      generalize (findR m.now f.name).getD rf0 = FA at *
                      generalize byt (fC' f.name) = sC at *
                      generalize (if (fC' f.name).isSome = true then (0 : Int) else 2) = EC at *
                      have hkh : Hid _ := hkey
                      clear hkey
                      have hgyr := rangeAt_below hgy hB gyl5
                      have c0 := rL_nm hgyr
                      have hxr := hx5.below hB
                      have hsz := hB.size
                      have gyl : gy < wr.heap.size := by omega
                      have hPr := hP5.belowSize hB
                      have hPlr := hPr.lt
                      go_wp2_with (first
                        | (go_at_call 17; refine (HFA _ hxr).mono ?_; rintro e w10 ⟨rfl, hw10⟩; clear HFA c0; have hB10 := hB.trans (hw10.mono hB.size); have hr10 := rangeAt_below hgyr hw10 gyl; have hP10 := hPr.belowSize hw10; have hP10l := hP10.lt; have gyl10 : gy < w10.heap.size := Nat.lt_of_lt_of_le gyl hw10.size)
                        | (with_reducible refine at_list ?_; first
                          | (refine wpList_allocRow (op := ⟨some 23, _, _, _, _, _⟩) rfl _ rfl _ zRf.1 ?_; intro w11 hw11 hs11 h23; clear hs11; have hB11 := hB10.trans (hw11.mono hB10.size); have hr11 := rangeAt_below hr10 hw11 gyl10; have hP11 := hP10.belowSize hw11)
                          | (refine wpList_storeRow (op := ⟨none, .store 49 (.tmp 23) (.tmp 202), _, _, _, _⟩) rfl _ _ _ rfl w10.heap.size (rC FA) rfl rfl _ _ h23 rfl (iRf _) (rC_one _) ?_; intro w12 hg12 hs12 h23b; clear hs12; have hB12 := hB11.trans (below_of_grown hg12 hB10.size hB11.size); have hr12 := rangeAt_below hr11 (below_of_grown hg12 (Nat.le_refl _) hw11.size) gyl10; have hP12 := hP11.grown hg12 (fun e => by have := Option.some.inj e; omega))))
                      obtain ⟨Q23, hQe⟩ : ∃ k, Hid (k = w10.heap.size) := ⟨_, rfl⟩
                      have gy12 : gy < w12.heap.size := Nat.lt_of_lt_of_le gyl5 hB12.size
                      rw [← hQe.out] at h23b ⊢
                      have hQl := h23b.lt
                      have hHr : Blk w12.drew P7 (pC p m (.slice ax nx cx) (.slice (some ⟨gy, 0, none⟩) ny cy)) 29 ∧ w12.drew.rangeAt gy (i * 3) (rL f) ∧ Blk w12.drew Q23 (rC FA) 49 := ⟨hP12.drew, rangeAt_drew hr12, h23b.drew⟩
                      have hDr := (hD5.below hB12).drew
                      have hBd := hB12.drew
                      clear h23 hg12 hw10 hw11 hB10 hB11 hr10 hr11 hP10 hP11 hP10l gyl10 hxr hgyr hPr hPlr hQe hB hgy hr12 hP12 h23b gyl hsz
                      refine wp_region_held_drew (S := fun w' : World => Blk w' P7 (pC p m (.slice ax nx cx) (.slice (some ⟨gy, 0, none⟩) ny cy)) 29 ∧ w'.rangeAt gy (i * 3) (rL f) ∧ Blk w' Q23 (rC FA) 49) (by kernel_rfl) hHr (fun hH => ?_)
                      try go_frame
                      refine wpAnyH_take (i := 0) (oi := ⟨some 205, _, _, _, _, _⟩) (v := .pointer (some ⟨P7, 0, none⟩)) rfl (by kernel_rfl) (by kernel_rfl) (by kernel_rfl) (fun _ _ _ h => h) (Or.inl ⟨by rfl, fun w hSw => by go_simp⟩) hH ?_
                      try simp only [Act.put, List.setIfInBounds_toArray, List.set_cons_zero, List.set_cons_succ]
                      refine wpAnyH_take (i := 1) (oi := ⟨some 206, _, _, _, _, _⟩) (v := .pointer (some ⟨p, 0, none⟩)) rfl (by kernel_rfl) (by kernel_rfl) (by kernel_rfl) (fun _ _ _ h => h) (Or.inl ⟨by rfl, fun w hSw => run_loadCellB _ _ rfl _ 0 rfl _ _ hSw.1 _ Try.underlying23 rfl _ (pC_g0 _ _ _ _)⟩) hH ?_
                      try simp only [Act.put, List.setIfInBounds_toArray, List.set_cons_zero, List.set_cons_succ]
                      refine wpAnyH_take (i := 2) (oi := ⟨some 207, _, _, _, _, _⟩) (v := (.slice (some ⟨gy, 0, none⟩) ny cy)) rfl (by kernel_rfl) (by kernel_rfl) (by kernel_rfl) (fun _ _ _ h => h) (Or.inl ⟨by rfl, fun w hSw => by go_simp⟩) hH ?_
                      try simp only [Act.put, List.setIfInBounds_toArray, List.set_cons_zero, List.set_cons_succ]
                      refine wpAnyH_take (i := 3) (oi := ⟨some 208, _, _, _, _, _⟩) (v := .int .i64 i) rfl (by kernel_rfl) (by kernel_rfl) (by kernel_rfl) (fun _ _ _ h => h) (Or.inl ⟨by rfl, fun w hSw => by go_simp⟩) hH ?_
                      try simp only [Act.put, List.setIfInBounds_toArray, List.set_cons_zero, List.set_cons_succ]
                      refine wpAnyH_take (i := 4) (oi := ⟨some 209, _, _, _, _, _⟩) (v := .pointer (some ⟨gy, i * 3, none⟩)) rfl (by kernel_rfl) (by kernel_rfl) (by kernel_rfl) (fun _ _ _ h => h) (Or.inl ⟨by rfl, fun w hSw => by go_simp⟩) hH ?_
                      try simp only [Act.put, List.setIfInBounds_toArray, List.set_cons_zero, List.set_cons_succ]
                      refine wpAnyH_take (i := 5) (oi := ⟨some 210, _, _, _, _, _⟩) (v := .pointer (some ⟨gy, i * 3, none⟩)) rfl (by kernel_rfl) (by kernel_rfl) (by kernel_rfl) (fun _ _ _ h => h) (Or.inl ⟨by rfl, fun w hSw => by go_simp⟩) hH ?_
                      try simp only [Act.put, List.setIfInBounds_toArray, List.set_cons_zero, List.set_cons_succ]
                      refine wpAnyH_take (i := 6) (oi := ⟨some 211, _, _, _, _, _⟩) (v := .string ⟨f.name.toArray⟩) rfl (by kernel_rfl) (by kernel_rfl) (by kernel_rfl) (fun _ _ _ h => h) (Or.inl ⟨by rfl, fun w hSw => run_loadC _ _ rfl _ _ rfl _ Try.underlying9 rfl _ (rL_nm hSw.2.1)⟩) hH ?_
                      try simp only [Act.put, List.setIfInBounds_toArray, List.set_cons_zero, List.set_cons_succ]
                      refine wpAnyH_solo (i := 7) (o := ⟨some 212, _, _, _, _, _⟩) rfl (by kernel_rfl) (fun K hK => ?_)
                      refine wpList_callR Try.func16 (by kernel_rfl) (by kernel_rfl) rfl _ _ rfl #[.pointer (some ⟨p, 0, none⟩), .string ⟨f.name.toArray⟩] (args2 rfl rfl) _ (HRr _ _ hDr) ?_
                      rintro e w13 ⟨rfl, hw13⟩
                      refine ⟨_, rfl, ?_⟩
                      have hB13 := hBd.trans (hw13.mono hBd.size)
                      have hH13 := And.intro (hH.1.belowSize hw13) (And.intro (rangeAt_below hH.2.1 hw13 gy12) (hH.2.2.belowSize hw13))
                      refine hK _ _ hH13 ?_
                      clear hK K HRr
                      try simp only [Act.put, List.setIfInBounds_toArray, List.set_cons_zero, List.set_cons_succ]
                      refine wpAnyH_take (i := 8) (oi := ⟨some 204, _, _, _, _, _⟩) (v := .tuple #[.string ⟨sC.toArray⟩, .int .i64 EC]) rfl (by kernel_rfl) (by kernel_rfl) (by kernel_rfl) (fun _ _ _ h => h) (Or.inl ⟨by rfl, fun w hSw => by go_simp⟩) hH13 ?_
                      try simp only [Act.put, List.setIfInBounds_toArray, List.set_cons_zero, List.set_cons_succ]
                      refine wpAnyH_take (i := 9) (oi := ⟨some 213, _, _, _, _, _⟩) (v := .string ⟨sC.toArray⟩) rfl (by kernel_rfl) (by kernel_rfl) (by kernel_rfl) (fun _ _ _ h => h) (Or.inl ⟨by rfl, fun w hSw => run_extract _ _ rfl _ rfl _ rfl⟩) hH13 ?_
                      try simp only [Act.put, List.setIfInBounds_toArray, List.set_cons_zero, List.set_cons_succ]
                      refine wpAnyH_take (i := 10) (oi := ⟨some 214, _, _, _, _, _⟩) (v := .int .i64 EC) rfl (by kernel_rfl) (by kernel_rfl) (by kernel_rfl) (fun _ _ _ h => h) (Or.inl ⟨by rfl, fun w hSw => run_extract _ _ rfl _ rfl _ rfl⟩) hH13 ?_
                      try simp only [Act.put, List.setIfInBounds_toArray, List.set_cons_zero, List.set_cons_succ]
                      refine wpAnyH_take (i := 11) (oi := ⟨some 25, _, _, _, _, _⟩) (v := .string ⟨sC.toArray⟩) rfl (by kernel_rfl) (by kernel_rfl) (by kernel_rfl) (fun _ _ _ h => h) (Or.inl ⟨by rfl, fun w hSw => by go_simp⟩) hH13 ?_
                      try simp only [Act.put, List.setIfInBounds_toArray, List.set_cons_zero, List.set_cons_succ]
                      refine wpAnyH_take (i := 12) (oi := ⟨some 26, _, _, _, _, _⟩) (v := .int .i64 EC) rfl (by kernel_rfl) (by kernel_rfl) (by kernel_rfl) (fun _ _ _ h => h) (Or.inl ⟨by rfl, fun w hSw => by go_simp⟩) hH13 ?_
                      try simp only [Act.put, List.setIfInBounds_toArray, List.set_cons_zero, List.set_cons_succ]
                      refine wpAnyH_done (by kernel_rfl) ?_ _
                      go_simp
                      have hHe : Blk w13.drew P7 (pC p m (.slice ax nx cx) (.slice (some ⟨gy, 0, none⟩) ny cy)) 29 ∧ w13.drew.rangeAt gy (i * 3) (rL f) ∧ Blk w13.drew Q23 (rC FA) 49 := ⟨hH13.1.drew, rangeAt_drew hH13.2.1, hH13.2.2.drew⟩
                      have hBe := hB13.drew
                      clear hH hHr hH13 hDr hBd hw13 hB12 hB13
                      go_wp2_with fail
                      cases uA
                      · clear hkh
                        refine wp_region_held_drew (S := fun w' : World => Blk w' P7 (pC p m (.slice ax nx cx) (.slice (some ⟨gy, 0, none⟩) ny cy)) 29 ∧ w'.rangeAt gy (i * 3) (rL f) ∧ Blk w' Q23 (rC FA) 49) (by kernel_rfl) hHe (fun hH => ?_)
                        try go_frame
                        refine wpAnyH_take (i := 0) (oi := ⟨some 215, _, _, _, _, _⟩) (v := .bool false) rfl (by kernel_rfl) (by kernel_rfl) (by kernel_rfl) (fun _ _ _ h => h) (Or.inl ⟨by rfl, fun w hSw => by go_simp⟩) hH ?_
                        try simp only [Act.put, List.setIfInBounds_toArray, List.set_cons_zero, List.set_cons_succ]
                        refine wpAnyH_take (i := 1) (oi := ⟨some 216, _, _, _, _, _⟩) (v := .bool false) rfl (by kernel_rfl) (by kernel_rfl) (by kernel_rfl) (fun _ _ _ h => h) (Or.inl ⟨by rfl, fun w hSw => by go_simp⟩) hH ?_
                        try simp only [Act.put, List.setIfInBounds_toArray, List.set_cons_zero, List.set_cons_succ]
                        refine wpAnyH_take (i := 2) (oi := ⟨some 217, _, _, _, _, _⟩) (v := undef) rfl (by kernel_rfl) (by kernel_rfl) (by kernel_rfl) (fun _ _ _ h => h) (Or.inr ⟨by rfl, rfl⟩) hH ?_
                        try simp only [Act.put, List.setIfInBounds_toArray, List.set_cons_zero, List.set_cons_succ]
                        refine wpAnyH_take (i := 3) (oi := ⟨some 218, _, _, _, _, _⟩) (v := undef) rfl (by kernel_rfl) (by kernel_rfl) (by kernel_rfl) (fun _ _ _ h => h) (Or.inr ⟨by rfl, rfl⟩) hH ?_
                        try simp only [Act.put, List.setIfInBounds_toArray, List.set_cons_zero, List.set_cons_succ]
                        refine wpAnyH_take (i := 4) (oi := ⟨some 219, _, _, _, _, _⟩) (v := undef) rfl (by kernel_rfl) (by kernel_rfl) (by kernel_rfl) (fun _ _ _ h => h) (Or.inr ⟨by rfl, rfl⟩) hH ?_
                        try simp only [Act.put, List.setIfInBounds_toArray, List.set_cons_zero, List.set_cons_succ]
                        refine wpAnyH_take (i := 5) (oi := ⟨some 220, _, _, _, _, _⟩) (v := undef) rfl (by kernel_rfl) (by kernel_rfl) (by kernel_rfl) (fun _ _ _ h => h) (Or.inr ⟨by rfl, rfl⟩) hH ?_
                        try simp only [Act.put, List.setIfInBounds_toArray, List.set_cons_zero, List.set_cons_succ]
                        refine wpAnyH_take (i := 6) (oi := ⟨some 221, _, _, _, _, _⟩) (v := undef) rfl (by kernel_rfl) (by kernel_rfl) (by kernel_rfl) (fun _ _ _ h => h) (Or.inr ⟨by rfl, rfl⟩) hH ?_
                        try simp only [Act.put, List.setIfInBounds_toArray, List.set_cons_zero, List.set_cons_succ]
                        refine wpAnyH_take (i := 7) (oi := ⟨some 222, _, _, _, _, _⟩) (v := undef) rfl (by kernel_rfl) (by kernel_rfl) (by kernel_rfl) (fun _ _ _ h => h) (Or.inr ⟨by rfl, rfl⟩) hH ?_
                        try simp only [Act.put, List.setIfInBounds_toArray, List.set_cons_zero, List.set_cons_succ]
                        refine wpAnyH_take (i := 8) (oi := ⟨some 223, _, _, _, _, _⟩) (v := undef) rfl (by kernel_rfl) (by kernel_rfl) (by kernel_rfl) (fun _ _ _ h => h) (Or.inr ⟨by rfl, rfl⟩) hH ?_
                        try simp only [Act.put, List.setIfInBounds_toArray, List.set_cons_zero, List.set_cons_succ]
                        refine wpAnyH_take (i := 9) (oi := ⟨some 224, _, _, _, _, _⟩) (v := undef) rfl (by kernel_rfl) (by kernel_rfl) (by kernel_rfl) (fun _ _ _ h => h) (Or.inr ⟨by rfl, rfl⟩) hH ?_
                        try simp only [Act.put, List.setIfInBounds_toArray, List.set_cons_zero, List.set_cons_succ]
                        refine wpAnyH_take (i := 10) (oi := ⟨some 225, _, _, _, _, _⟩) (v := .bool false) rfl (by kernel_rfl) (by kernel_rfl) (by kernel_rfl) (fun _ _ _ h => h) (Or.inl ⟨by rfl, fun w hSw => by go_simp⟩) hH ?_
                        try simp only [Act.put, List.setIfInBounds_toArray, List.set_cons_zero, List.set_cons_succ]
                        refine wpAnyH_take (i := 11) (oi := ⟨some 226, _, _, _, _, _⟩) (v := .bool false) rfl (by kernel_rfl) (by kernel_rfl) (by kernel_rfl) (fun _ _ _ h => h) (Or.inl ⟨by rfl, fun w hSw => by go_simp⟩) hH ?_
                        try simp only [Act.put, List.setIfInBounds_toArray, List.set_cons_zero, List.set_cons_succ]
                        refine wpAnyH_take (i := 12) (oi := ⟨some 227, _, _, _, _, _⟩) (v := undef) rfl (by kernel_rfl) (by kernel_rfl) (by kernel_rfl) (fun _ _ _ h => h) (Or.inr ⟨by rfl, rfl⟩) hH ?_
                        try simp only [Act.put, List.setIfInBounds_toArray, List.set_cons_zero, List.set_cons_succ]
                        refine wpAnyH_take (i := 13) (oi := ⟨some 228, _, _, _, _, _⟩) (v := undef) rfl (by kernel_rfl) (by kernel_rfl) (by kernel_rfl) (fun _ _ _ h => h) (Or.inr ⟨by rfl, rfl⟩) hH ?_
                        try simp only [Act.put, List.setIfInBounds_toArray, List.set_cons_zero, List.set_cons_succ]
                        refine wpAnyH_take (i := 14) (oi := ⟨some 229, _, _, _, _, _⟩) (v := undef) rfl (by kernel_rfl) (by kernel_rfl) (by kernel_rfl) (fun _ _ _ h => h) (Or.inr ⟨by rfl, rfl⟩) hH ?_
                        try simp only [Act.put, List.setIfInBounds_toArray, List.set_cons_zero, List.set_cons_succ]
                        refine wpAnyH_take (i := 15) (oi := ⟨some 230, _, _, _, _, _⟩) (v := undef) rfl (by kernel_rfl) (by kernel_rfl) (by kernel_rfl) (fun _ _ _ h => h) (Or.inr ⟨by rfl, rfl⟩) hH ?_
                        try simp only [Act.put, List.setIfInBounds_toArray, List.set_cons_zero, List.set_cons_succ]
                        refine wpAnyH_take (i := 16) (oi := ⟨some 231, _, _, _, _, _⟩) (v := undef) rfl (by kernel_rfl) (by kernel_rfl) (by kernel_rfl) (fun _ _ _ h => h) (Or.inr ⟨by rfl, rfl⟩) hH ?_
                        try simp only [Act.put, List.setIfInBounds_toArray, List.set_cons_zero, List.set_cons_succ]
                        refine wpAnyH_take (i := 17) (oi := ⟨some 232, _, _, _, _, _⟩) (v := undef) rfl (by kernel_rfl) (by kernel_rfl) (by kernel_rfl) (fun _ _ _ h => h) (Or.inr ⟨by rfl, rfl⟩) hH ?_
                        try simp only [Act.put, List.setIfInBounds_toArray, List.set_cons_zero, List.set_cons_succ]
                        refine wpAnyH_take (i := 18) (oi := ⟨some 233, _, _, _, _, _⟩) (v := undef) rfl (by kernel_rfl) (by kernel_rfl) (by kernel_rfl) (fun _ _ _ h => h) (Or.inr ⟨by rfl, rfl⟩) hH ?_
                        try simp only [Act.put, List.setIfInBounds_toArray, List.set_cons_zero, List.set_cons_succ]
                        refine wpAnyH_take (i := 19) (oi := ⟨some 234, _, _, _, _, _⟩) (v := undef) rfl (by kernel_rfl) (by kernel_rfl) (by kernel_rfl) (fun _ _ _ h => h) (Or.inr ⟨by rfl, rfl⟩) hH ?_
                        try simp only [Act.put, List.setIfInBounds_toArray, List.set_cons_zero, List.set_cons_succ]
                        refine wpAnyH_take (i := 20) (oi := ⟨some 235, _, _, _, _, _⟩) (v := .bool false) rfl (by kernel_rfl) (by kernel_rfl) (by kernel_rfl) (fun _ _ _ h => h) (Or.inl ⟨by rfl, fun w hSw => by go_simp⟩) hH ?_
                        try simp only [Act.put, List.setIfInBounds_toArray, List.set_cons_zero, List.set_cons_succ]
                        refine wpAnyH_done (by kernel_rfl) ?_ _
                        go_simp
                        go_wp2_with fail
                        go_roundw
                        case rel => exact ⟨i + 1, by omega, by go_num, hBe⟩
                        case measure => simp [intOf]; omega
                      · cases hq : FA.s == f.s
                        · clear hkh
                          refine wp_region_held_drew (S := fun w' : World => Blk w' P7 (pC p m (.slice ax nx cx) (.slice (some ⟨gy, 0, none⟩) ny cy)) 29 ∧ w'.rangeAt gy (i * 3) (rL f) ∧ Blk w' Q23 (rC FA) 49) (by kernel_rfl) hHe (fun hH => ?_)
                          try go_frame
                          refine wpAnyH_take (i := 0) (oi := ⟨some 215, _, _, _, _, _⟩) (v := .bool true) rfl (by kernel_rfl) (by kernel_rfl) (by kernel_rfl) (fun _ _ _ h => h) (Or.inl ⟨by rfl, fun w hSw => by go_simp⟩) hH ?_
                          try simp only [Act.put, List.setIfInBounds_toArray, List.set_cons_zero, List.set_cons_succ]
                          refine wpAnyH_take (i := 1) (oi := ⟨some 216, _, _, _, _, _⟩) (v := .bool true) rfl (by kernel_rfl) (by kernel_rfl) (by kernel_rfl) (fun _ _ _ h => h) (Or.inl ⟨by rfl, fun w hSw => by go_simp⟩) hH ?_
                          try simp only [Act.put, List.setIfInBounds_toArray, List.set_cons_zero, List.set_cons_succ]
                          refine wpAnyH_take (i := 2) (oi := ⟨some 217, _, _, _, _, _⟩) (v := .pointer (some ⟨Q23, 1, none⟩)) rfl (by kernel_rfl) (by kernel_rfl) (by kernel_rfl) (fun _ _ _ h => h) (Or.inl ⟨by rfl, fun w hSw => by go_simp⟩) hH ?_
                          try simp only [Act.put, List.setIfInBounds_toArray, List.set_cons_zero, List.set_cons_succ]
                          refine wpAnyH_take (i := 3) (oi := ⟨some 218, _, _, _, _, _⟩) (v := .string ⟨FA.s.toArray⟩) rfl (by kernel_rfl) (by kernel_rfl) (by kernel_rfl) (fun _ _ _ h => h) (Or.inl ⟨by rfl, fun w hSw => run_loadCellB _ _ rfl _ 1 rfl _ _ hSw.2.2 _ Try.underlying9 rfl _ (rC_g1 FA)⟩) hH ?_
                          try simp only [Act.put, List.setIfInBounds_toArray, List.set_cons_zero, List.set_cons_succ]
                          refine wpAnyH_take (i := 4) (oi := ⟨some 219, _, _, _, _, _⟩) (v := (.slice (some ⟨gy, 0, none⟩) ny cy)) rfl (by kernel_rfl) (by kernel_rfl) (by kernel_rfl) (fun _ _ _ h => h) (Or.inl ⟨by rfl, fun w hSw => by go_simp⟩) hH ?_
                          try simp only [Act.put, List.setIfInBounds_toArray, List.set_cons_zero, List.set_cons_succ]
                          refine wpAnyH_take (i := 5) (oi := ⟨some 220, _, _, _, _, _⟩) (v := .int .i64 i) rfl (by kernel_rfl) (by kernel_rfl) (by kernel_rfl) (fun _ _ _ h => h) (Or.inl ⟨by rfl, fun w hSw => by go_simp⟩) hH ?_
                          try simp only [Act.put, List.setIfInBounds_toArray, List.set_cons_zero, List.set_cons_succ]
                          refine wpAnyH_take (i := 6) (oi := ⟨some 221, _, _, _, _, _⟩) (v := .pointer (some ⟨gy, i * 3, none⟩)) rfl (by kernel_rfl) (by kernel_rfl) (by kernel_rfl) (fun _ _ _ h => h) (Or.inl ⟨by rfl, fun w hSw => by go_simp⟩) hH ?_
                          try simp only [Act.put, List.setIfInBounds_toArray, List.set_cons_zero, List.set_cons_succ]
                          refine wpAnyH_take (i := 7) (oi := ⟨some 222, _, _, _, _, _⟩) (v := .pointer (some ⟨gy, i * 3 + 1, none⟩)) rfl (by kernel_rfl) (by kernel_rfl) (by kernel_rfl) (fun _ _ _ h => h) (Or.inl ⟨by rfl, fun w hSw => by go_simp⟩) hH ?_
                          try simp only [Act.put, List.setIfInBounds_toArray, List.set_cons_zero, List.set_cons_succ]
                          refine wpAnyH_take (i := 8) (oi := ⟨some 223, _, _, _, _, _⟩) (v := .string ⟨f.s.toArray⟩) rfl (by kernel_rfl) (by kernel_rfl) (by kernel_rfl) (fun _ _ _ h => h) (Or.inl ⟨by rfl, fun w hSw => run_loadC _ _ rfl _ _ rfl _ Try.underlying9 rfl _ (rL_s hSw.2.1)⟩) hH ?_
                          try simp only [Act.put, List.setIfInBounds_toArray, List.set_cons_zero, List.set_cons_succ]
                          refine wpAnyH_take (i := 9) (oi := ⟨some 224, _, _, _, _, _⟩) (v := .bool false) rfl (by kernel_rfl) (by kernel_rfl) (by kernel_rfl) (fun _ _ _ h => h) (Or.inl ⟨by rfl, fun w hSw => by go_simp⟩) hH ?_
                          try simp only [Act.put, List.setIfInBounds_toArray, List.set_cons_zero, List.set_cons_succ]
                          refine wpAnyH_take (i := 10) (oi := ⟨some 225, _, _, _, _, _⟩) (v := .bool false) rfl (by kernel_rfl) (by kernel_rfl) (by kernel_rfl) (fun _ _ _ h => h) (Or.inl ⟨by rfl, fun w hSw => by go_simp⟩) hH ?_
                          try simp only [Act.put, List.setIfInBounds_toArray, List.set_cons_zero, List.set_cons_succ]
                          refine wpAnyH_take (i := 11) (oi := ⟨some 226, _, _, _, _, _⟩) (v := .bool false) rfl (by kernel_rfl) (by kernel_rfl) (by kernel_rfl) (fun _ _ _ h => h) (Or.inl ⟨by rfl, fun w hSw => by go_simp⟩) hH ?_
                          try simp only [Act.put, List.setIfInBounds_toArray, List.set_cons_zero, List.set_cons_succ]
                          refine wpAnyH_take (i := 12) (oi := ⟨some 227, _, _, _, _, _⟩) (v := undef) rfl (by kernel_rfl) (by kernel_rfl) (by kernel_rfl) (fun _ _ _ h => h) (Or.inr ⟨by rfl, rfl⟩) hH ?_
                          try simp only [Act.put, List.setIfInBounds_toArray, List.set_cons_zero, List.set_cons_succ]
                          refine wpAnyH_take (i := 13) (oi := ⟨some 228, _, _, _, _, _⟩) (v := undef) rfl (by kernel_rfl) (by kernel_rfl) (by kernel_rfl) (fun _ _ _ h => h) (Or.inr ⟨by rfl, rfl⟩) hH ?_
                          try simp only [Act.put, List.setIfInBounds_toArray, List.set_cons_zero, List.set_cons_succ]
                          refine wpAnyH_take (i := 14) (oi := ⟨some 229, _, _, _, _, _⟩) (v := undef) rfl (by kernel_rfl) (by kernel_rfl) (by kernel_rfl) (fun _ _ _ h => h) (Or.inr ⟨by rfl, rfl⟩) hH ?_
                          try simp only [Act.put, List.setIfInBounds_toArray, List.set_cons_zero, List.set_cons_succ]
                          refine wpAnyH_take (i := 15) (oi := ⟨some 230, _, _, _, _, _⟩) (v := undef) rfl (by kernel_rfl) (by kernel_rfl) (by kernel_rfl) (fun _ _ _ h => h) (Or.inr ⟨by rfl, rfl⟩) hH ?_
                          try simp only [Act.put, List.setIfInBounds_toArray, List.set_cons_zero, List.set_cons_succ]
                          refine wpAnyH_take (i := 16) (oi := ⟨some 231, _, _, _, _, _⟩) (v := undef) rfl (by kernel_rfl) (by kernel_rfl) (by kernel_rfl) (fun _ _ _ h => h) (Or.inr ⟨by rfl, rfl⟩) hH ?_
                          try simp only [Act.put, List.setIfInBounds_toArray, List.set_cons_zero, List.set_cons_succ]
                          refine wpAnyH_take (i := 17) (oi := ⟨some 232, _, _, _, _, _⟩) (v := undef) rfl (by kernel_rfl) (by kernel_rfl) (by kernel_rfl) (fun _ _ _ h => h) (Or.inr ⟨by rfl, rfl⟩) hH ?_
                          try simp only [Act.put, List.setIfInBounds_toArray, List.set_cons_zero, List.set_cons_succ]
                          refine wpAnyH_take (i := 18) (oi := ⟨some 233, _, _, _, _, _⟩) (v := undef) rfl (by kernel_rfl) (by kernel_rfl) (by kernel_rfl) (fun _ _ _ h => h) (Or.inr ⟨by rfl, rfl⟩) hH ?_
                          try simp only [Act.put, List.setIfInBounds_toArray, List.set_cons_zero, List.set_cons_succ]
                          refine wpAnyH_take (i := 19) (oi := ⟨some 234, _, _, _, _, _⟩) (v := undef) rfl (by kernel_rfl) (by kernel_rfl) (by kernel_rfl) (fun _ _ _ h => h) (Or.inr ⟨by rfl, rfl⟩) hH ?_
                          try simp only [Act.put, List.setIfInBounds_toArray, List.set_cons_zero, List.set_cons_succ]
                          refine wpAnyH_take (i := 20) (oi := ⟨some 235, _, _, _, _, _⟩) (v := .bool false) rfl (by kernel_rfl) (by kernel_rfl) (by kernel_rfl) (fun _ _ _ h => h) (Or.inl ⟨by rfl, fun w hSw => by go_simp⟩) hH ?_
                          try simp only [Act.put, List.setIfInBounds_toArray, List.set_cons_zero, List.set_cons_succ]
                          refine wpAnyH_done (by kernel_rfl) ?_ _
                          go_simp
                          go_wp2_with fail
                          go_roundw
                          case rel => exact ⟨i + 1, by omega, by go_num, hBe⟩
                          case measure => simp [intOf]; omega
                        · have hq3 : FA.s = f.s := by simpa using hq
                          obtain ⟨rfl, rfl⟩ := hkh.out rfl hq3
                          have hg1 : (rC FA)[1]? = some (.string ⟨f.s.toArray⟩) := by
                            rw [← hq3]
                            exact rC_g1 FA
                          clear hkh hq hq3
                          refine wp_region_held_drew (S := fun w' : World => Blk w' P7 (pC p m (.slice ax nx cx) (.slice (some ⟨gy, 0, none⟩) ny cy)) 29 ∧ w'.rangeAt gy (i * 3) (rL f) ∧ Blk w' Q23 (rC FA) 49) (by kernel_rfl) hHe (fun hH => ?_)
                          try go_frame
                          refine wpAnyH_take (i := 0) (oi := ⟨some 215, _, _, _, _, _⟩) (v := .bool true) rfl (by kernel_rfl) (by kernel_rfl) (by kernel_rfl) (fun _ _ _ h => h) (Or.inl ⟨by rfl, fun w hSw => by go_simp⟩) hH ?_
                          try simp only [Act.put, List.setIfInBounds_toArray, List.set_cons_zero, List.set_cons_succ]
                          refine wpAnyH_take (i := 1) (oi := ⟨some 216, _, _, _, _, _⟩) (v := .bool true) rfl (by kernel_rfl) (by kernel_rfl) (by kernel_rfl) (fun _ _ _ h => h) (Or.inl ⟨by rfl, fun w hSw => by go_simp⟩) hH ?_
                          try simp only [Act.put, List.setIfInBounds_toArray, List.set_cons_zero, List.set_cons_succ]
                          refine wpAnyH_take (i := 2) (oi := ⟨some 217, _, _, _, _, _⟩) (v := .pointer (some ⟨Q23, 1, none⟩)) rfl (by kernel_rfl) (by kernel_rfl) (by kernel_rfl) (fun _ _ _ h => h) (Or.inl ⟨by rfl, fun w hSw => by go_simp⟩) hH ?_
                          try simp only [Act.put, List.setIfInBounds_toArray, List.set_cons_zero, List.set_cons_succ]
                          refine wpAnyH_take (i := 3) (oi := ⟨some 218, _, _, _, _, _⟩) (v := .string ⟨f.s.toArray⟩) rfl (by kernel_rfl) (by kernel_rfl) (by kernel_rfl) (fun _ _ _ h => h) (Or.inl ⟨by rfl, fun w hSw => run_loadCellB _ _ rfl _ 1 rfl _ _ hSw.2.2 _ Try.underlying9 rfl _ (hg1)⟩) hH ?_
                          try simp only [Act.put, List.setIfInBounds_toArray, List.set_cons_zero, List.set_cons_succ]
                          refine wpAnyH_take (i := 4) (oi := ⟨some 219, _, _, _, _, _⟩) (v := (.slice (some ⟨gy, 0, none⟩) ny cy)) rfl (by kernel_rfl) (by kernel_rfl) (by kernel_rfl) (fun _ _ _ h => h) (Or.inl ⟨by rfl, fun w hSw => by go_simp⟩) hH ?_
                          try simp only [Act.put, List.setIfInBounds_toArray, List.set_cons_zero, List.set_cons_succ]
                          refine wpAnyH_take (i := 5) (oi := ⟨some 220, _, _, _, _, _⟩) (v := .int .i64 i) rfl (by kernel_rfl) (by kernel_rfl) (by kernel_rfl) (fun _ _ _ h => h) (Or.inl ⟨by rfl, fun w hSw => by go_simp⟩) hH ?_
                          try simp only [Act.put, List.setIfInBounds_toArray, List.set_cons_zero, List.set_cons_succ]
                          refine wpAnyH_take (i := 6) (oi := ⟨some 221, _, _, _, _, _⟩) (v := .pointer (some ⟨gy, i * 3, none⟩)) rfl (by kernel_rfl) (by kernel_rfl) (by kernel_rfl) (fun _ _ _ h => h) (Or.inl ⟨by rfl, fun w hSw => by go_simp⟩) hH ?_
                          try simp only [Act.put, List.setIfInBounds_toArray, List.set_cons_zero, List.set_cons_succ]
                          refine wpAnyH_take (i := 7) (oi := ⟨some 222, _, _, _, _, _⟩) (v := .pointer (some ⟨gy, i * 3 + 1, none⟩)) rfl (by kernel_rfl) (by kernel_rfl) (by kernel_rfl) (fun _ _ _ h => h) (Or.inl ⟨by rfl, fun w hSw => by go_simp⟩) hH ?_
                          try simp only [Act.put, List.setIfInBounds_toArray, List.set_cons_zero, List.set_cons_succ]
                          refine wpAnyH_take (i := 8) (oi := ⟨some 223, _, _, _, _, _⟩) (v := .string ⟨f.s.toArray⟩) rfl (by kernel_rfl) (by kernel_rfl) (by kernel_rfl) (fun _ _ _ h => h) (Or.inl ⟨by rfl, fun w hSw => run_loadC _ _ rfl _ _ rfl _ Try.underlying9 rfl _ (rL_s hSw.2.1)⟩) hH ?_
                          try simp only [Act.put, List.setIfInBounds_toArray, List.set_cons_zero, List.set_cons_succ]
                          refine wpAnyH_take (i := 9) (oi := ⟨some 224, _, _, _, _, _⟩) (v := .bool true) rfl (by kernel_rfl) (by kernel_rfl) (by kernel_rfl) (fun _ _ _ h => h) (Or.inl ⟨by rfl, fun w hSw => by go_simp⟩) hH ?_
                          try simp only [Act.put, List.setIfInBounds_toArray, List.set_cons_zero, List.set_cons_succ]
                          refine wpAnyH_take (i := 10) (oi := ⟨some 225, _, _, _, _, _⟩) (v := .bool true) rfl (by kernel_rfl) (by kernel_rfl) (by kernel_rfl) (fun _ _ _ h => h) (Or.inl ⟨by rfl, fun w hSw => by go_simp⟩) hH ?_
                          try simp only [Act.put, List.setIfInBounds_toArray, List.set_cons_zero, List.set_cons_succ]
                          refine wpAnyH_take (i := 11) (oi := ⟨some 226, _, _, _, _, _⟩) (v := .bool true) rfl (by kernel_rfl) (by kernel_rfl) (by kernel_rfl) (fun _ _ _ h => h) (Or.inl ⟨by rfl, fun w hSw => by go_simp⟩) hH ?_
                          try simp only [Act.put, List.setIfInBounds_toArray, List.set_cons_zero, List.set_cons_succ]
                          refine wpAnyH_take (i := 12) (oi := ⟨some 227, _, _, _, _, _⟩) (v := .int .i64 0) rfl (by kernel_rfl) (by kernel_rfl) (by kernel_rfl) (fun _ _ _ h => h) (Or.inl ⟨by rfl, fun w hSw => by go_simp⟩) hH ?_
                          try simp only [Act.put, List.setIfInBounds_toArray, List.set_cons_zero, List.set_cons_succ]
                          refine wpAnyH_take (i := 13) (oi := ⟨some 228, _, _, _, _, _⟩) (v := .bool false) rfl (by kernel_rfl) (by kernel_rfl) (by kernel_rfl) (fun _ _ _ h => h) (Or.inl ⟨by rfl, fun w hSw => by go_simp⟩) hH ?_
                          try simp only [Act.put, List.setIfInBounds_toArray, List.set_cons_zero, List.set_cons_succ]
                          refine wpAnyH_take (i := 14) (oi := ⟨some 229, _, _, _, _, _⟩) (v := .bool false) rfl (by kernel_rfl) (by kernel_rfl) (by kernel_rfl) (fun _ _ _ h => h) (Or.inl ⟨by rfl, fun w hSw => by go_simp⟩) hH ?_
                          try simp only [Act.put, List.setIfInBounds_toArray, List.set_cons_zero, List.set_cons_succ]
                          refine wpAnyH_take (i := 15) (oi := ⟨some 230, _, _, _, _, _⟩) (v := .string ⟨f.s.toArray⟩) rfl (by kernel_rfl) (by kernel_rfl) (by kernel_rfl) (fun _ _ _ h => h) (Or.inl ⟨by rfl, fun w hSw => by go_simp⟩) hH ?_
                          try simp only [Act.put, List.setIfInBounds_toArray, List.set_cons_zero, List.set_cons_succ]
                          refine wpAnyH_take (i := 16) (oi := ⟨some 231, _, _, _, _, _⟩) (v := .pointer (some ⟨Q23, 1, none⟩)) rfl (by kernel_rfl) (by kernel_rfl) (by kernel_rfl) (fun _ _ _ h => h) (Or.inl ⟨by rfl, fun w hSw => by go_simp⟩) hH ?_
                          try simp only [Act.put, List.setIfInBounds_toArray, List.set_cons_zero, List.set_cons_succ]
                          refine wpAnyH_take (i := 17) (oi := ⟨some 232, _, _, _, _, _⟩) (v := .string ⟨f.s.toArray⟩) rfl (by kernel_rfl) (by kernel_rfl) (by kernel_rfl) (fun _ _ _ h => h) (Or.inl ⟨by rfl, fun w hSw => run_loadCellB _ _ rfl _ 1 rfl _ _ hSw.2.2 _ Try.underlying9 rfl _ (hg1)⟩) hH ?_
                          try simp only [Act.put, List.setIfInBounds_toArray, List.set_cons_zero, List.set_cons_succ]
                          refine wpAnyH_take (i := 18) (oi := ⟨some 233, _, _, _, _, _⟩) (v := .bool false) rfl (by kernel_rfl) (by kernel_rfl) (by kernel_rfl) (fun _ _ _ h => h) (Or.inl ⟨by rfl, fun w hSw => by go_simp⟩) hH ?_
                          try simp only [Act.put, List.setIfInBounds_toArray, List.set_cons_zero, List.set_cons_succ]
                          refine wpAnyH_take (i := 19) (oi := ⟨some 234, _, _, _, _, _⟩) (v := .bool false) rfl (by kernel_rfl) (by kernel_rfl) (by kernel_rfl) (fun _ _ _ h => h) (Or.inl ⟨by rfl, fun w hSw => by go_simp⟩) hH ?_
                          try simp only [Act.put, List.setIfInBounds_toArray, List.set_cons_zero, List.set_cons_succ]
                          refine wpAnyH_take (i := 20) (oi := ⟨some 235, _, _, _, _, _⟩) (v := .bool false) rfl (by kernel_rfl) (by kernel_rfl) (by kernel_rfl) (fun _ _ _ h => h) (Or.inl ⟨by rfl, fun w hSw => by go_simp⟩) hH ?_
                          try simp only [Act.put, List.setIfInBounds_toArray, List.set_cons_zero, List.set_cons_succ]
                          refine wpAnyH_done (by kernel_rfl) ?_ _
                          go_simp
                          go_wp2_with fail
                          go_roundw
                          case rel => exact ⟨i + 1, by omega, by go_num, hBe⟩
                          case measure => simp [intOf]; omega
                    · have hz1 : ¬ (i : Int) < (ny : Int) := by omega
                      have hFr := hF5.belowSize hB
                      have hBw := hB5.trans (hB.mono hB5.size)
                      have hT1i : (T : Int) ≤ 1 := by omega
                      by_cases hfz : 0 < fz
                      · clear hTzh
                        go_wp2_with (go_at_call 10; refine (HW _).mono ?_; rintro e w9 ⟨rfl, hw9⟩; have cF2 := ((hFr.belowSize hw9).cell 2).trans (falC_g2 _ _ _))
                        go_ret
                        exact ⟨rfl, hBw.trans (hw9.mono hBw.size)⟩
                      · have hT0 := hTzh.out (by omega)
                        subst hT0
                        clear hTzh
                        go_wp2_with (go_at_call 10; refine (HW _).mono ?_; rintro e w9 ⟨rfl, hw9⟩; have cF2 := ((hFr.belowSize hw9).cell 2).trans (falC_g2 _ _ _))
                        go_ret
                        exact ⟨rfl, hBw.trans (hw9.mono hBw.size)⟩
end Go.Proofs.Ytgkkpmliociieaa
