/- What BlockSplits does. -/
import Derived.Test.YtjfpfkiccbcedaaGreatDoorSpl
import Derived.Test.YtjfpfkiccbcedaaGreatDoorNlb
import Derived.Deep.CutRange
namespace Go.Proofs.YtjfpfkiccbcedaaGreatDoor
open Go Go.RowKit
theorem chkB_of {l : List TX} (h : ∀ x ∈ l, okTx x = true) (hl : l.length ≤ 16) : chkB ⟨l, false, []⟩ = 0 := by
  rw [chkB_ag]
  have e1 : agB ⟨l, false, []⟩ = true := rfl
  rw [if_pos e1, if_neg (by dsimp only; omega), if_pos (List.all_eq_true.2 h)]
section
attribute [local go_sem] Oper.semAt_some
set_option maxRecDepth 100000 in
set_option maxHeartbeats 8000000 in
theorem blockSplits_in (b0 : BT) (a a2 : Option Addr) (cap cap2 : Nat) (z1 : Int) (w : World) (hG : Sh.Glob w) (hT : TA w a b0.txs) (hI : IA w a2 b0.mem) (hc : b0.txs.length ≤ cap) (hc2 : b0.mem.length ≤ cap2) :
    Calls Tryz.prog 31 #[.agg (bc (.slice a b0.txs.length cap) b0.conf (.slice a2 b0.mem.length cap2)), .int .i64 z1] w fun e w' => e = .returned (.bool true) ∧ Below w.heap.size w w' := by
  have HS := fun w1 (hT : TA w1 a b0.txs) (hI : IA w1 a2 b0.mem) => small_bt b0 a a2 cap cap2 w1 hT hI hc hc2
  have hl17 : (sml b0).txs.length ≤ 17 := by rw [sml_len]; omega
  have hcap : (sml b0).txs.length ≤ cap := by rw [sml_len]; omega
  have hTs := hT.sml
  have h2w := hG.two
  generalize (sml b0).txs = l at *
  generalize (sml b0).conf = c1 at *
  generalize (sml b0).mem = m1 at *
  have HB := fun w1 (h : TA w1 a l) => batch_any l false a none cap 0 0 w1 h
  have HK := fun xa xc w1 (hT : TA w1 xa (rb17 l)) => batch_chk ⟨l, false, []⟩ hl17 xa none xc 0 w1 (fun i x hx => by cases hx) hT
  unfold BatP at HB
  dsimp only at HK
  have HA := fun w1 (h : Sh.Glob w1) => awakeB_any w1 h
  have HZ := fun w1 => zeros9_any w1
  have hzl : zr.length = 32 := rfl
  generalize zr = z at *
  generalize rb17 l = L17 at *
  clear hc hc2 hl17
  have hG0 := hG
  go_enter Tryz.func31, Tryz.ntmps31
  go_upto_region 3 with (first
    | (go_at_call 10; refine (HS _ (hT.below hw1) (hI.below hw1)).mono ?_; rintro e w2 ⟨rfl, hw2⟩; clear HS; have hB := hw1.trans (hw2.mono hw1.size))
    | (with_reducible refine at_list ?_; first
      | (refine wpList_boxRow (op := ⟨some 2, _, _, _, _, _⟩) rfl _ _ rfl _ rfl ?_; intro w1 hw1 hs1 h2; clear hs1)
      | (refine wpList_loadRow (op := ⟨some 20, _, _, _, _, _⟩) rfl _ _ rfl w.heap.size rfl _ _ h2 _ Tryz.underlying30 rfl (bc_info _ _ _) ?_)
      | (refine wpList_allocRow (op := ⟨some 5, _, _, _, _, _⟩) rfl _ rfl _ zB.1 ?_; intro w3 hw3 hs3 h5; clear hs3)
      | (refine wpList_storeRow (op := ⟨none, .store 30 (.tmp 5) (.tmp 21), _, _, _, _⟩) rfl _ _ _ rfl w2.heap.size (bc (.slice a l.length cap) c1 (.slice a2 m1.length cap2)) rfl rfl _ _ h5 (by simp only [bc_size]) (bc_info _ _ _) (bc_one _ _ _ _ _ _ _) ?_; intro w4 hg4 hs4 h5b; clear hs4; have hB3 := hB.trans (hw3.mono hB.size); have hB4 := hB3.trans (below_of_grown hg4 hB.size hB3.size); clear hg4 h5 hw3 hB3 h2)
      | (refine wpList_storeCell (op := ⟨none, .store 4 (.tmp 22) _, _, _, _, _⟩) rfl _ _ _ rfl w2.heap.size 1 rfl (.bool false) rfl _ _ h5b iBool rfl rfl (by rw [bc_size]; decide) ?_; intro w5 hg5 hs5 h5c; rw [bc_set1] at h5c; clear hs5; have hB5 := hB4.trans (below_of_grown hg5 hB.size hB4.size); clear hg5 h5b hB4)
      | (refine wpList_storeCell (op := ⟨none, .store 23 (.tmp 23) _, _, _, _, _⟩) rfl _ _ _ rfl w2.heap.size 2 rfl (.slice none 0 0) rfl _ _ h5c iSlI rfl rfl (by rw [bc_size]; decide) ?_; intro w6 hg6 hs6 h5; rw [bc_set2] at h5; clear hs6; have hB6 := hB5.trans (below_of_grown hg6 hB.size hB5.size); clear hg6 h5c hB5)))
  obtain ⟨B5, hB5⟩ : ∃ y, y = w2.heap.size := ⟨_, rfl⟩
  rw [← hB5] at h5 ⊢
  have hB5w : w.heap.size ≤ B5 := by rw [hB5]; exact hB.size
  clear hB5 hB hw1 hw2 hT hI
  replace hTs := hTs.below hB6
  replace hG := hG.belowSize hB6
  go_upto_if 27 with (first
    | (go_at_call 12; refine (HB _ hTs).mono ?_; rintro e w7 ⟨xa, xc, rfl, hT7, hw7⟩; clear HB; replace hTs := hTs.below hw7; replace hG := hG.belowSize hw7; replace hB6 := hB6.trans (hw7.mono hB6.size); replace h5 := h5.belowSize hw7; clear hw7)
    | (go_at_call 11; refine (HK _ _ _ hT7).mono ?_; rintro e w8 ⟨rfl, hw8⟩; clear HK hT7; replace hTs := hTs.below hw8; replace hG := hG.belowSize hw8; replace hB6 := hB6.trans (hw8.mono hB6.size); replace h5 := h5.belowSize hw8; clear hw8)
    | (with_reducible refine at_list ?_; first
      | (refine wpList_loadRow (op := ⟨some 24, _, _, _, _, _⟩) rfl _ _ rfl B5 rfl _ _ h5 _ Tryz.underlying30 rfl (bc_info _ _ _) ?_)))
  by_cases hk : chkB ⟨l, false, []⟩ = 0
  · rw [hk, show ((0 : Int) != 0) = false from rfl]
    obtain ⟨hok, hl16, _, _⟩ := chkB_zero hk
    dsimp only at hok hl16
    have hcT : Hid (chkB ⟨l, false, []⟩ = 0) := hk
    have hc0 := (h5.cell 0).trans (bc_g0 _ _ _)
    clear hk
    go_upto_if 32 with fail
    go_cut [6] from 32 to 45 (fun s6 wx => ∃ k : Nat, s6 = .int .i64 (k : Nat) ∧ k ≤ l.length ∧ Below w8.heap.size w8 wx)
    case first =>
      by_cases hp : 0 < l.length
      · have hp2 : decide (0 < (l.length : Int)) = true := decide_eq_true (by omega)
        obtain ⟨k, hk1, hk3, hk4, hk5⟩ := into_range z1 l.length hp (by omega)
        have hne : ¬ (l.length : Int) = 0 := by omega
        have hne2 : ¬ l.length = 0 := by omega
        have hwr : IntKind.i64.wrap (z1.tmod (l.length : Int) + (l.length : Int)) = z1.tmod (l.length : Int) + (l.length : Int) := by rw [IntKind.wrap_i64]; omega
        have hwr1 : IntKind.i64.wrap (z1.tmod (l.length : Int)) = z1.tmod (l.length : Int) := by rw [IntKind.wrap_i64]; omega
        have hwr2 : IntKind.i64.wrap ((z1.tmod (l.length : Int) + (l.length : Int)).tmod (l.length : Int)) = (k : Nat) := by rw [IntKind.wrap_i64, hk3]; omega
        clear HA HZ
        go_wp2_with fail
        go_quiet (fail)
        go_wp2_with fail
        go_meet
        case rel => exact ⟨k, rfl, by omega, below_draws (Below.refl _ _) _⟩
      · have hp2 : decide (0 < (l.length : Int)) = false := decide_eq_false (by omega)
        clear HA HZ
        go_wp2_with fail
        go_meet
        case rel => exact ⟨0, rfl, by omega, Below.refl _ _⟩
    case rest =>
      obtain ⟨k, rfl, hkl, hBc⟩ := hcut
      replace hTs := hTs.below hBc
      replace hG := hG.belowSize hBc
      replace h5 := h5.belowSize hBc
      replace hB6 := hB6.trans (hBc.mono hB6.size)
      clear hBc hc0
      have hB5l := h5.lt
      go_upto_region 9 with (first
        | (go_at_call 14; first
          | (refine (new_any wc).mono ?_; rintro e wd ⟨rfl, hwd, hS1, hs1⟩; replace hs1 := hs1.symm)
          | (refine (new_any we).mono ?_; rintro e wf ⟨rfl, hwf, hS2, hs2⟩; replace hs2 := hs2.symm))
        | (go_at_call 15; first
          | (refine (Sh.tnew_any wd).mono ?_; rintro e we ⟨rfl, hb1, hwe⟩)
          | (refine (Sh.tnew_any wf).mono ?_; rintro e wg ⟨rfl, hb2, hwg⟩)))
      have hwcs : w.heap.size ≤ wc.heap.size := hB6.size
      have hz1 := hwd.size
      have hz2 := hwe.size
      have hz3 := hwf.size
      have hne1 : we.heap.size + 1 ≠ wc.heap.size + 1 := by omega
      have hne2 : wf.heap.size ≠ wd.heap.size := by omega
      have hBg := (((hB6.trans (hwd.mono hwcs)).trans (hwe.mono (Nat.le_trans hwcs hz1))).trans (hwf.mono (by omega))).trans (hwg.mono (by omega))
      have hE1 : EX wg (wc.heap.size + 1) wd.heap.size [] .emp := EX.new ((((hS1.below hwe).below hwf).below hwg)) ((hb1.belowSize hwf).belowSize hwg) ((((hG.belowSize hwd).belowSize hwe).belowSize hwf).belowSize hwg) ⟨by omega, by omega⟩
      have hE2 : EX wg (we.heap.size + 1) wf.heap.size [] .emp := EX.new (hS2.below hwg) hb2 hE1.glob ⟨by omega, by omega⟩
      have hl1 : w.heap.size ≤ wc.heap.size + 1 := by omega
      have hl2 : w.heap.size ≤ wd.heap.size := by omega
      have hl3 : w.heap.size ≤ we.heap.size + 1 := by omega
      have hl4 : w.heap.size ≤ wf.heap.size := by omega
      replace h5 := (((h5.belowSize hwd).belowSize hwe).belowSize hwf).belowSize hwg
      replace hTs := (((hTs.below hwd).below hwe).below hwf).below hwg
      clear hS1 hS2 hb1 hb2 hG hs1 hs2 hz1 hz2 hz3 hwd hwe hwf hwg hB6 hB5l hG0
      generalize wc.heap.size + 1 = bs at *
      generalize wd.heap.size = bt at *
      generalize we.heap.size + 1 = bu at *
      generalize wf.heap.size = bv at *
      clear hwcs
      have hNil : ∀ wx : World, IA wx none [] := fun wx i x hx => by cases hx
      have hcT1 : Hid (chkB ⟨l.take k, false, []⟩ = 0) := chkB_of (fun x hx => hok x (List.mem_of_mem_take hx)) (by rw [List.length_take]; omega)
      have hcT2 : Hid (chkB ⟨l.drop k, false, []⟩ = 0) := chkB_of (fun x hx => hok x (List.mem_of_mem_drop hx)) (by rw [List.length_drop]; omega)
      obtain ⟨hCn, hcn⟩ := exR_ok (m := []) (t := .emp) (l := l.take k) (fun x hx => hok x (List.mem_of_mem_take hx)) trivial
      have hcn2 : (exR [] .emp (l.take k)).cnt ≤ 800 := by
        rw [List.length_take] at hcn
        have : Tr.cnt .emp = 0 := rfl
        omega
      have HM10 : ∀ gb wx, EX wx bu bv [] .emp → TA wx a l → IA wx (some ⟨gb, 0, none⟩) [0] → Calls Tryz.prog 16 #[.string ⟨z.toArray⟩, .int .u64 1, .slice (some ⟨gb, 0, none⟩) 1 1, .pointer (some ⟨bu, 0, none⟩), .pointer (some ⟨bv, 0, none⟩), .agg (bc (.slice a k cap) false (.slice none 0 0))] wx (MkP wx bu bv [] .emp 1 z (l.take k) [0]) := fun gb wx h1 h2 h3 => by
        have h := make_txs (l.take k) (fun x hx => hok x (List.mem_of_mem_take hx)) (by rw [List.length_take]; omega) z hzl 1 (by decide) [0] [] (by decide) hcT1.out (some ⟨gb, 0, none⟩) none 1 0 bu bv [] .emp a cap wx h1 Sz.nil trivial (by decide) (h2.take k) h3 (hNil wx)
        rw [List.length_take, Nat.min_eq_left hkl] at h
        exact h
      have HM11 : ∀ gb wx, EX wx bu bv (exS [] (l.take k)) (exR [] .emp (l.take k)) → TA wx a l → IA wx (some ⟨gb, 0, none⟩) [0] → Calls Tryz.prog 16 #[.string ⟨z.toArray⟩, .int .u64 2, .slice (some ⟨gb, 0, none⟩) 1 1, .pointer (some ⟨bu, 0, none⟩), .pointer (some ⟨bv, 0, none⟩), .agg (bc (.slice (fromA a cap k) (l.length - k) (cap - k)) false (.slice none 0 0))] wx (MkP wx bu bv (exS [] (l.take k)) (exR [] .emp (l.take k)) 2 z (l.drop k) [0]) := fun gb wx h1 h2 h3 => by
        have h := make_txs (l.drop k) (fun x hx => hok x (List.mem_of_mem_drop hx)) (by rw [List.length_drop]; omega) z hzl 2 (by decide) [0] [] (by decide) hcT2.out (some ⟨gb, 0, none⟩) none 1 0 bu bv _ _ (fromA a cap k) (cap - k) wx h1 (Sz.nil.exS _) hCn hcn2 (h2.drop hkl hcap) h3 (hNil wx)
        rw [List.length_drop] at h
        exact h
      have hS12 : Hid (exS (exS [] (l.take k)) (l.drop k) = exS [] l) := by show _ = _; rw [← exS_app, List.take_append_drop]
      have hR12 : Hid ((exR (exS [] (l.take k)) (exR [] .emp (l.take k)) (l.drop k)).hash Sh.TgD = (exR [] .emp l).hash Sh.TgD) := by show _ = _; rw [← exR_app, List.take_append_drop]
      have hD12 : Hid ((exD [] l).length = (exD [] (l.take k)).length + (exD (exS [] (l.take k)) (l.drop k)).length) := by show _ = _; rw [← List.length_append, ← exD_app, List.take_append_drop]
      have hDl : Hid ((exD [] l).length ≤ 16) := Nat.le_trans (exD_len [] l) hl16
      have h2g := hE1.glob.two
      clear hcT1 hcT2 hCn hcn hcn2
      refine wp_region_made (by kernel_rfl) (KE wg.heap.size 1 5 11 (fun v w => MkQ wg.drew bs bt [] .emp 1 z l [0] v w)) (KP wg.heap.size 10 11 7 (fun i vs v => (i = 0 → v = .string ⟨z.toArray⟩) ∧ (i = 2 → v = .pointer (some ⟨bs, 0, none⟩)) ∧ (i = 3 → v = .pointer (some ⟨bt, 0, none⟩)) ∧ (i = 4 → v = .agg (bc (.slice a l.length cap) false (.slice none 0 0))) ∧ (i = 6 → v = vs 5) ∧ (i = 7 → (∀ x y u, vs 6 = .tuple #[x, y, u] → v = x)) ∧ (i = 8 → (∀ x y u, vs 6 = .tuple #[x, y, u] → v = y)) ∧ (i = 9 → (∀ x y u, vs 6 = .tuple #[x, y, u] → v = u)) ∧ (i = 12 → v = vs 8) ∧ (i = 13 → v = vs 9))) (KG wg.heap.size wg.drew 1 5 (fun v w => MkQ wg.drew bs bt [] .emp 1 z l [0] v w)) (by kernel_rfl) ⟨Nat.le_refl _, fun _ => ⟨Below.refl _ _, fun e => (by cases e)⟩, fun e => (by cases e)⟩ (fun L i w w' vs v _ _ hw hg hE _ => hg.step (fun _ _ _ h hb => h.below hb) (fun _ _ _ _ _ h h1 h2 h3 => h.store h1 h2 h3) (fun e => hw 5 (by subst e; kernel_rfl)) hE) (fun i vs vs' w v hv h => ?_) (fun i j vs w w' u v hij hwf hE h => h.stay hE hij (fun e e2 => (by subst e; subst e2; exact absurd ((show waitsB _ 11 5 = true from by kernel_rfl).symm.trans hwf) (by decide)))) (fun i o ho ac vs wx hk K hK => ?_) (fun vs wx hPr hGn => ?_)
      · obtain ⟨h1, h2, h3⟩ := h
        refine ⟨h1, fun e => ?_, ?_⟩
        · obtain ⟨g, c, k1, k2, k3⟩ := h2 e
          subst e
          exact ⟨g, c, (hv 10 (by kernel_rfl)).symm.trans k1, (hv 7 (by kernel_rfl)).symm.trans k2, k3⟩
        · exact ⟨h3.1, h3.2.1, h3.2.2.1, h3.2.2.2.1, fun e => (by subst e; exact (h3.2.2.2.2.1 rfl).trans (hv 5 (by kernel_rfl))), fun e => (by subst e; exact fun x y u k => (h3.2.2.2.2.2.1 rfl) x y u ((hv 6 (by kernel_rfl)).trans k)), fun e => (by subst e; exact fun x y u k => (h3.2.2.2.2.2.2.1 rfl) x y u ((hv 6 (by kernel_rfl)).trans k)), fun e => (by subst e; exact fun x y u k => (h3.2.2.2.2.2.2.2.1 rfl) x y u ((hv 6 (by kernel_rfl)).trans k)), fun e => (by subst e; exact (h3.2.2.2.2.2.2.2.2.1 rfl).trans (hv 8 (by kernel_rfl))), fun e => (by subst e; exact (h3.2.2.2.2.2.2.2.2.2 rfl).trans (hv 9 (by kernel_rfl)))⟩
      · obtain ⟨L, hL1, hL2, hL3, hg1, hg2, hg3⟩ := hk.gen
        have hi : i < 14 := (Array.getElem?_eq_some_iff.1 ho).1
        rcases (show i = 0 ∨ i = 1 ∨ i = 2 ∨ i = 3 ∨ i = 4 ∨ i = 5 ∨ i = 6 ∨ i = 7 ∨ i = 8 ∨ i = 9 ∨ i = 10 ∨ i = 11 ∨ i = 12 ∨ i = 13 by omega) with rfl | rfl | rfl | rfl | rfl | rfl | rfl | rfl | rfl | rfl | rfl | rfl | rfl | rfl
        · obtain rfl := Option.some.inj ho
          have hm : L 5 = false := (by cases hq : L 5 with | false => rfl | true => exact absurd ((hL3 5 0 hq (by kernel_rfl)).symm.trans hL1) (by decide))
          have hBw : Below wg.heap.size wg wx := ((Below.refl wg.heap.size wg).drew).trans (hg2 hm).1
          refine wpList_callR Tryz.func17 (by kernel_rfl) (by kernel_rfl) rfl _ _ rfl #[] (by simp) _ (HZ wx) ?_
          rintro e w1 ⟨rfl, hw1⟩
          have hw2 := hw1.symm
          subst hw2
          exact ⟨_, rfl, hK _ _ ⟨fun _ _ => Below.refl _ _, fun e => absurd e (by decide), Keep46.below (Below.refl _ _), fun e => absurd e (by decide), fun e => absurd e (by decide), Nat.le_refl _⟩ ⟨fun e => absurd e (by decide), fun e => absurd e (by decide), ⟨fun _ => rfl, fun e => absurd e (by decide), fun e => absurd e (by decide), fun e => absurd e (by decide), fun e => absurd e (by decide), fun e => absurd e (by decide), fun e => absurd e (by decide), fun e => absurd e (by decide), fun e => absurd e (by decide), fun e => absurd e (by decide)⟩⟩⟩
        · obtain rfl := Option.some.inj ho
          have hm : L 5 = false := (by cases hq : L 5 with | false => rfl | true => exact absurd ((hL3 5 1 hq (by kernel_rfl)).symm.trans hL1) (by decide))
          have hBw : Below wg.heap.size wg wx := ((Below.refl wg.heap.size wg).drew).trans (hg2 hm).1
          refine wpList_bsl1I rfl _ rfl 0 rfl ?_
          intro w1 hw1 _ hb1
          exact hK _ _ ⟨fun _ _ => hw1, fun e => absurd e (by decide), Keep46.below hw1, fun _ => ⟨_, rfl, hb1⟩, fun e => absurd e (by decide), hw1.size⟩ ⟨fun e => absurd e (by decide), fun e => absurd e (by decide), ⟨fun e => absurd e (by decide), fun e => absurd e (by decide), fun e => absurd e (by decide), fun e => absurd e (by decide), fun e => absurd e (by decide), fun e => absurd e (by decide), fun e => absurd e (by decide), fun e => absurd e (by decide), fun e => absurd e (by decide), fun e => absurd e (by decide)⟩⟩
        · obtain rfl := Option.some.inj ho
          have hm : L 5 = false := (by cases hq : L 5 with | false => rfl | true => exact absurd ((hL3 5 2 hq (by kernel_rfl)).symm.trans hL1) (by decide))
          have hBw : Below wg.heap.size wg wx := ((Below.refl wg.heap.size wg).drew).trans (hg2 hm).1
          refine wpList_pure rfl _ (run_move _ rfl) (hK _ _ ⟨fun _ _ => Below.refl _ _, fun e => absurd e (by decide), Keep46.below (Below.refl _ _), fun e => absurd e (by decide), fun e => absurd e (by decide), Nat.le_refl _⟩ ⟨fun e => absurd e (by decide), fun e => absurd e (by decide), ⟨fun e => absurd e (by decide), fun _ => hk.old 7 (by kernel_rfl), fun e => absurd e (by decide), fun e => absurd e (by decide), fun e => absurd e (by decide), fun e => absurd e (by decide), fun e => absurd e (by decide), fun e => absurd e (by decide), fun e => absurd e (by decide), fun e => absurd e (by decide)⟩⟩)
        · obtain rfl := Option.some.inj ho
          have hm : L 5 = false := (by cases hq : L 5 with | false => rfl | true => exact absurd ((hL3 5 3 hq (by kernel_rfl)).symm.trans hL1) (by decide))
          have hBw : Below wg.heap.size wg wx := ((Below.refl wg.heap.size wg).drew).trans (hg2 hm).1
          refine wpList_pure rfl _ (run_move _ rfl) (hK _ _ ⟨fun _ _ => Below.refl _ _, fun e => absurd e (by decide), Keep46.below (Below.refl _ _), fun e => absurd e (by decide), fun e => absurd e (by decide), Nat.le_refl _⟩ ⟨fun e => absurd e (by decide), fun e => absurd e (by decide), ⟨fun e => absurd e (by decide), fun e => absurd e (by decide), fun _ => hk.old 8 (by kernel_rfl), fun e => absurd e (by decide), fun e => absurd e (by decide), fun e => absurd e (by decide), fun e => absurd e (by decide), fun e => absurd e (by decide), fun e => absurd e (by decide), fun e => absurd e (by decide)⟩⟩)
        · obtain rfl := Option.some.inj ho
          have hm : L 5 = false := (by cases hq : L 5 with | false => rfl | true => exact absurd ((hL3 5 4 hq (by kernel_rfl)).symm.trans hL1) (by decide))
          have hBw : Below wg.heap.size wg wx := ((Below.refl wg.heap.size wg).drew).trans (hg2 hm).1
          refine wpList_loadRow rfl _ _ rfl B5 (hk.old 5 (by kernel_rfl)) _ _ (h5.belowSize hBw) _ Tryz.underlying30 rfl (bc_info _ _ _) (hK _ _ ⟨fun _ _ => Below.refl _ _, fun e => absurd e (by decide), Keep46.below (Below.refl _ _), fun e => absurd e (by decide), fun e => absurd e (by decide), Nat.le_refl _⟩ ⟨fun e => absurd e (by decide), fun e => absurd e (by decide), ⟨fun e => absurd e (by decide), fun e => absurd e (by decide), fun e => absurd e (by decide), fun _ => rfl, fun e => absurd e (by decide), fun e => absurd e (by decide), fun e => absurd e (by decide), fun e => absurd e (by decide), fun e => absurd e (by decide), fun e => absurd e (by decide)⟩⟩)
        · obtain rfl := Option.some.inj ho
          have s0 := hk.slot 0 51 (by kernel_rfl) rfl
          have s1 := hk.slot 1 52 (by kernel_rfl) rfl
          have s2 := hk.slot 2 53 (by kernel_rfl) rfl
          have s3 := hk.slot 3 54 (by kernel_rfl) rfl
          have s4 := hk.slot 4 55 (by kernel_rfl) rfl
          obtain ⟨gb, eb, hb⟩ := (hg2 hL1).2 (hL2 1 (by kernel_rfl))
          rw [((hk.dep 0 (by kernel_rfl)).2.2.1 rfl)] at s0
          rw [eb] at s1
          rw [((hk.dep 2 (by kernel_rfl)).2.2.2.1 rfl)] at s2
          rw [((hk.dep 3 (by kernel_rfl)).2.2.2.2.1 rfl)] at s3
          rw [((hk.dep 4 (by kernel_rfl)).2.2.2.2.2.1 rfl)] at s4
          have hBw : Below wg.heap.size wg wx := ((Below.refl wg.heap.size wg).drew).trans (hg2 hL1).1
          have hBd : Below wg.drew.heap.size wg.drew wx := (hg2 hL1).1
          have hEx := hE1.below hBw
          have hW2 : 2 ≤ wg.drew.heap.size := h2g
          refine wpList_callR Tryz.func16 (by kernel_rfl) (by kernel_rfl) rfl _ _ rfl _ (by simp only [List.map_toArray, List.map_cons, List.map_nil, Act.eval, s0, s1, s2, s3, s4] <;> rfl) _ (make_txs l hok hl16 z hzl 1 (by decide) [0] [] (by decide) hcT.out (some ⟨gb, 0, none⟩) none 1 0 bs bt [] .emp a cap wx hEx Sz.nil trivial (by decide) (hTs.below hBw) hb.ia1 (hNil wx)) ?_
          intro e w1 hP
          obtain ⟨hk1, hk2⟩ := hP.keep hEx
          obtain ⟨v, rfl, hv⟩ := hP.mkQ hBd hW2
          exact ⟨_, rfl, hK _ _ ⟨fun e => absurd rfl e, fun e => absurd e (by decide), hk1, fun e => absurd e (by decide), fun _ => hv, hk2⟩ ⟨fun e => absurd e (by decide), fun e => absurd e (by decide), ⟨fun e => absurd e (by decide), fun e => absurd e (by decide), fun e => absurd e (by decide), fun e => absurd e (by decide), fun e => absurd e (by decide), fun e => absurd e (by decide), fun e => absurd e (by decide), fun e => absurd e (by decide), fun e => absurd e (by decide), fun e => absurd e (by decide)⟩⟩⟩
        · obtain rfl := Option.some.inj ho
          refine wpList_pure rfl _ (run_move _ rfl) (hK _ _ ⟨fun _ _ => Below.refl _ _, fun e => absurd e (by decide), Keep46.below (Below.refl _ _), fun e => absurd e (by decide), fun e => absurd e (by decide), Nat.le_refl _⟩ ⟨fun e => absurd e (by decide), fun e => absurd e (by decide), ⟨fun e => absurd e (by decide), fun e => absurd e (by decide), fun e => absurd e (by decide), fun e => absurd e (by decide), fun _ => (show ac.eval (.tmp 56) = vs 5 from hk.slot 5 56 (by kernel_rfl) rfl), fun e => absurd e (by decide), fun e => absurd e (by decide), fun e => absurd e (by decide), fun e => absurd e (by decide), fun e => absurd e (by decide)⟩⟩)
        · obtain rfl := Option.some.inj ho
          have hm : L 5 = true := hL3 6 5 (hL2 6 (by kernel_rfl)) (by kernel_rfl)
          obtain ⟨_, _, _, _, _, _, _, ev, _⟩ := hg3 hm
          have sm := (show ac.eval (.tmp 50) = vs 6 from hk.slot 6 50 (by kernel_rfl) rfl)
          have em := ((hk.dep 6 (by kernel_rfl)).2.2.2.2.2.2.1 rfl)
          refine wpList_pure rfl _ (run_extract _ _ rfl _ (sm.trans (em.trans ev)) _ rfl) (hK _ _ ⟨fun _ _ => Below.refl _ _, fun e => absurd e (by decide), Keep46.below (Below.refl _ _), fun e => absurd e (by decide), fun e => absurd e (by decide), Nat.le_refl _⟩ ⟨fun e => absurd e (by decide), fun e => absurd e (by decide), ⟨fun e => absurd e (by decide), fun e => absurd e (by decide), fun e => absurd e (by decide), fun e => absurd e (by decide), fun e => absurd e (by decide), fun _ => fun x y u k => (by have k2 := (em.trans ev).symm.trans k; cases k2; rfl), fun e => absurd e (by decide), fun e => absurd e (by decide), fun e => absurd e (by decide), fun e => absurd e (by decide)⟩⟩)
        · obtain rfl := Option.some.inj ho
          have hm : L 5 = true := hL3 6 5 (hL2 6 (by kernel_rfl)) (by kernel_rfl)
          obtain ⟨_, _, _, _, _, _, _, ev, _⟩ := hg3 hm
          have sm := (show ac.eval (.tmp 50) = vs 6 from hk.slot 6 50 (by kernel_rfl) rfl)
          have em := ((hk.dep 6 (by kernel_rfl)).2.2.2.2.2.2.1 rfl)
          refine wpList_pure rfl _ (run_extract _ _ rfl _ (sm.trans (em.trans ev)) _ rfl) (hK _ _ ⟨fun _ _ => Below.refl _ _, fun e => absurd e (by decide), Keep46.below (Below.refl _ _), fun e => absurd e (by decide), fun e => absurd e (by decide), Nat.le_refl _⟩ ⟨fun e => absurd e (by decide), fun e => absurd e (by decide), ⟨fun e => absurd e (by decide), fun e => absurd e (by decide), fun e => absurd e (by decide), fun e => absurd e (by decide), fun e => absurd e (by decide), fun e => absurd e (by decide), fun _ => fun x y u k => (by have k2 := (em.trans ev).symm.trans k; cases k2; rfl), fun e => absurd e (by decide), fun e => absurd e (by decide), fun e => absurd e (by decide)⟩⟩)
        · obtain rfl := Option.some.inj ho
          have hm : L 5 = true := hL3 6 5 (hL2 6 (by kernel_rfl)) (by kernel_rfl)
          obtain ⟨_, _, _, _, _, _, _, ev, _⟩ := hg3 hm
          have sm := (show ac.eval (.tmp 50) = vs 6 from hk.slot 6 50 (by kernel_rfl) rfl)
          have em := ((hk.dep 6 (by kernel_rfl)).2.2.2.2.2.2.1 rfl)
          refine wpList_pure rfl _ (run_extract _ _ rfl _ (sm.trans (em.trans ev)) _ rfl) (hK _ _ ⟨fun _ _ => Below.refl _ _, fun e => absurd e (by decide), Keep46.below (Below.refl _ _), fun e => absurd e (by decide), fun e => absurd e (by decide), Nat.le_refl _⟩ ⟨fun e => absurd e (by decide), fun e => absurd e (by decide), ⟨fun e => absurd e (by decide), fun e => absurd e (by decide), fun e => absurd e (by decide), fun e => absurd e (by decide), fun e => absurd e (by decide), fun e => absurd e (by decide), fun e => absurd e (by decide), fun _ => fun x y u k => (by have k2 := (em.trans ev).symm.trans k; cases k2; rfl), fun e => absurd e (by decide), fun e => absurd e (by decide)⟩⟩)
        · obtain rfl := Option.some.inj ho
          refine wpList_allocRow rfl _ rfl _ zBlk.1 ?_
          intro w1 hw1 _ hb1
          exact hK _ _ ⟨fun _ _ => hw1, fun e => absurd e (by decide), Keep46.below hw1, fun e => absurd e (by decide), fun e => absurd e (by decide), hw1.size⟩ ⟨fun _ => ⟨_, _, rfl, hg1, hb1, rfl⟩, fun e => absurd e (by decide), ⟨fun e => absurd e (by decide), fun e => absurd e (by decide), fun e => absurd e (by decide), fun e => absurd e (by decide), fun e => absurd e (by decide), fun e => absurd e (by decide), fun e => absurd e (by decide), fun e => absurd e (by decide), fun e => absurd e (by decide), fun e => absurd e (by decide)⟩⟩
        · obtain rfl := Option.some.inj ho
          have hm : L 5 = true := hL2 5 (by kernel_rfl)
          obtain ⟨_, _, _, _, _, _, _, ev, _⟩ := hg3 hm
          obtain ⟨g, c, ea, hgN, hb, hcs⟩ := (hk.dep 10 (by kernel_rfl)).1 rfl
          have em := ((hk.dep 6 (by kernel_rfl)).2.2.2.2.2.2.1 rfl)
          have e0 := ((hk.dep 7 (by kernel_rfl)).2.2.2.2.2.2.2.1 rfl) _ _ _ (em.trans ev)
          refine wpList_storeRow rfl _ _ _ rfl g _ ((show ac.eval (.tmp 11) = vs 10 from hk.slot 10 11 (by kernel_rfl) rfl).trans ea) ((show ac.eval (.tmp 57) = vs 7 from hk.slot 7 57 (by kernel_rfl) rfl).trans e0) _ _ hb (by rw [hcs]; rfl) (bk_info _ _ _ _ _ _) (bk_one _ _ _ _ _ _ _ _ _ _) ?_
          intro w1 hgr hsz hb1
          exact hK _ _ ⟨fun _ e => absurd rfl e, fun _ => ⟨g, c, hgN, hb, hgr⟩, Keep46.store hgr hb1 rfl, fun e => absurd e (by decide), fun e => absurd e (by decide), hgr.size⟩ ⟨fun e => absurd e (by decide), fun _ => ⟨g, _, ea, e0, hgN, hb1⟩, ⟨fun e => absurd e (by decide), fun e => absurd e (by decide), fun e => absurd e (by decide), fun e => absurd e (by decide), fun e => absurd e (by decide), fun e => absurd e (by decide), fun e => absurd e (by decide), fun e => absurd e (by decide), fun e => absurd e (by decide), fun e => absurd e (by decide)⟩⟩
        · obtain rfl := Option.some.inj ho
          refine wpList_pure rfl _ (run_assign _ rfl) (hK _ _ ⟨fun _ _ => Below.refl _ _, fun e => absurd e (by decide), Keep46.below (Below.refl _ _), fun e => absurd e (by decide), fun e => absurd e (by decide), Nat.le_refl _⟩ ⟨fun e => absurd e (by decide), fun e => absurd e (by decide), ⟨fun e => absurd e (by decide), fun e => absurd e (by decide), fun e => absurd e (by decide), fun e => absurd e (by decide), fun e => absurd e (by decide), fun e => absurd e (by decide), fun e => absurd e (by decide), fun e => absurd e (by decide), fun _ => (show ac.eval (.tmp 58) = vs 8 from hk.slot 8 58 (by kernel_rfl) rfl), fun e => absurd e (by decide)⟩⟩)
        · obtain rfl := Option.some.inj ho
          refine wpList_pure rfl _ (run_assign _ rfl) (hK _ _ ⟨fun _ _ => Below.refl _ _, fun e => absurd e (by decide), Keep46.below (Below.refl _ _), fun e => absurd e (by decide), fun e => absurd e (by decide), Nat.le_refl _⟩ ⟨fun e => absurd e (by decide), fun e => absurd e (by decide), ⟨fun e => absurd e (by decide), fun e => absurd e (by decide), fun e => absurd e (by decide), fun e => absurd e (by decide), fun e => absurd e (by decide), fun e => absurd e (by decide), fun e => absurd e (by decide), fun e => absurd e (by decide), fun e => absurd e (by decide), fun _ => (show ac.eval (.tmp 59) = vs 9 from hk.slot 9 59 (by kernel_rfl) rfl)⟩⟩)
      obtain ⟨Lx, hLx, -, -, hQ⟩ := hGn
      obtain ⟨lo9, a9, cap9, st9, dls9, gm9, cm9, ev9, hD9, hCB9, hgm9⟩ := hQ (hLx 5 (show 5 < 14 by decide))
      have em9 := ((hPr 6 (show 6 < 14 by decide)).2.2.2.2.2.2.1 rfl).trans ev9
      have x09 := ((hPr 7 (show 7 < 14 by decide)).2.2.2.2.2.2.2.1 rfl) _ _ _ em9
      have x29 := ((hPr 13 (show 13 < 14 by decide)).2.2.2.2.2.2.2.2.2.2.2 rfl).trans (((hPr 9 (show 9 < 14 by decide)).2.2.2.2.2.2.2.2.2.1 rfl) _ _ _ em9)
      obtain ⟨g9, c9, eg9, ec9, hgN9, hb9⟩ := (hPr 11 (show 11 < 14 by decide)).2.1 rfl
      have ec29 := x09.symm.trans ec9
      simp only [Value.agg.injEq] at ec29
      subst ec29
      clear hPr hQ hLx Lx ec9 x09 em9 ev9
      simp only [dstsR, List.map_cons, List.map_nil, puts, Nat.reduceAdd, Act.put, List.setIfInBounds_toArray, List.set_cons_zero, List.set_cons_succ, x29, eg9]
      clear x29 eg9
      have dr9 : Below wg.heap.size wg wg.drew := (Below.refl _ _).drew
      have st9' := (hE1.below dr9).st.out
      obtain ⟨mb9, hs9, -⟩ := st9'
      obtain ⟨q9, ht9, -⟩ := (hE1.below dr9).tr
      replace hE2 := (hE2.below dr9).apart (hE1.below dr9) hD9.two hne1 hne2
      replace hTs := (hTs.below dr9).two hD9.two (hE1.below dr9)
      replace h5 := (h5.belowSize dr9).two hD9.two ((h5.belowSize dr9).neT hs9 (by decide)) ((h5.belowSize dr9).neT (Blk.of_sh ht9) (by decide))
      replace hBg := (hBg.trans (dr9.mono hBg.size)).trans (hD9.two.to_below hl1 hl2 (Nat.le_trans hBg.size dr9.size))
      replace hE1 := hD9.ex
      clear hD9 hCB9 hgm9 hgN9 hs9 ht9 dr9 lo9 dls9 h2g
      have h2g := hE1.glob.two
      obtain ⟨wh, hywh⟩ : ∃ y, y = wx := ⟨_, rfl⟩
      rw [← hywh] at hE1 hE2 hTs h5 hb9 hBg h2g ⊢
      clear hywh wx
      go_simp
      go_upto_region 10 with fail
      refine wp_region_made (by kernel_rfl) (KE wh.heap.size 1 9 15 (fun v w => MkQ wh.drew bu bv [] .emp 1 z (l.take k) [0] v w)) (KP wh.heap.size 14 15 11 (fun i vs v => (i = 0 → v = .string ⟨z.toArray⟩) ∧ (i = 2 → v = .pointer (some ⟨bu, 0, none⟩)) ∧ (i = 3 → v = .pointer (some ⟨bv, 0, none⟩)) ∧ (i = 4 → v = .pointer (some ⟨B5, 0, none⟩)) ∧ (i = 5 → v = .slice a l.length cap) ∧ (i = 6 → v = .int .i64 (k : Nat)) ∧ (i = 7 → v = .slice a k cap) ∧ (i = 8 → v = .agg (bc (.slice a k cap) false (.slice none 0 0))) ∧ (i = 10 → v = vs 9) ∧ (i = 11 → (∀ x y u, vs 10 = .tuple #[x, y, u] → v = x)) ∧ (i = 12 → (∀ x y u, vs 10 = .tuple #[x, y, u] → v = y)) ∧ (i = 13 → (∀ x y u, vs 10 = .tuple #[x, y, u] → v = u)) ∧ (i = 16 → v = vs 12) ∧ (i = 17 → v = vs 13))) (KG wh.heap.size wh.drew 1 9 (fun v w => MkQ wh.drew bu bv [] .emp 1 z (l.take k) [0] v w)) (by kernel_rfl) ⟨Nat.le_refl _, fun _ => ⟨Below.refl _ _, fun e => (by cases e)⟩, fun e => (by cases e)⟩ (fun L i w w' vs v _ _ hw hg hE _ => hg.step (fun _ _ _ h hb => h.below hb) (fun _ _ _ _ _ h h1 h2 h3 => h.store h1 h2 h3) (fun e => hw 9 (by subst e; kernel_rfl)) hE) (fun i vs vs' w v hv h => ?_) (fun i j vs w w' u v hij hwf hE h => h.stay hE hij (fun e e2 => (by subst e; subst e2; exact absurd ((show waitsB _ 15 9 = true from by kernel_rfl).symm.trans hwf) (by decide)))) (fun i o ho ac vs wx hk K hK => ?_) (fun vs wx hPr hGn => ?_)
      · obtain ⟨h1, h2, h3⟩ := h
        refine ⟨h1, fun e => ?_, ?_⟩
        · obtain ⟨g, c, k1, k2, k3⟩ := h2 e
          subst e
          exact ⟨g, c, (hv 14 (by kernel_rfl)).symm.trans k1, (hv 11 (by kernel_rfl)).symm.trans k2, k3⟩
        · exact ⟨h3.1, h3.2.1, h3.2.2.1, h3.2.2.2.1, h3.2.2.2.2.1, h3.2.2.2.2.2.1, h3.2.2.2.2.2.2.1, h3.2.2.2.2.2.2.2.1, fun e => (by subst e; exact (h3.2.2.2.2.2.2.2.2.1 rfl).trans (hv 9 (by kernel_rfl))), fun e => (by subst e; exact fun x y u k => (h3.2.2.2.2.2.2.2.2.2.1 rfl) x y u ((hv 10 (by kernel_rfl)).trans k)), fun e => (by subst e; exact fun x y u k => (h3.2.2.2.2.2.2.2.2.2.2.1 rfl) x y u ((hv 10 (by kernel_rfl)).trans k)), fun e => (by subst e; exact fun x y u k => (h3.2.2.2.2.2.2.2.2.2.2.2.1 rfl) x y u ((hv 10 (by kernel_rfl)).trans k)), fun e => (by subst e; exact (h3.2.2.2.2.2.2.2.2.2.2.2.2.1 rfl).trans (hv 12 (by kernel_rfl))), fun e => (by subst e; exact (h3.2.2.2.2.2.2.2.2.2.2.2.2.2 rfl).trans (hv 13 (by kernel_rfl)))⟩
      · obtain ⟨L, hL1, hL2, hL3, hg1, hg2, hg3⟩ := hk.gen
        have hi : i < 18 := (Array.getElem?_eq_some_iff.1 ho).1
        rcases (show i = 0 ∨ i = 1 ∨ i = 2 ∨ i = 3 ∨ i = 4 ∨ i = 5 ∨ i = 6 ∨ i = 7 ∨ i = 8 ∨ i = 9 ∨ i = 10 ∨ i = 11 ∨ i = 12 ∨ i = 13 ∨ i = 14 ∨ i = 15 ∨ i = 16 ∨ i = 17 by omega) with rfl | rfl | rfl | rfl | rfl | rfl | rfl | rfl | rfl | rfl | rfl | rfl | rfl | rfl | rfl | rfl | rfl | rfl
        · obtain rfl := Option.some.inj ho
          have hm : L 9 = false := (by cases hq : L 9 with | false => rfl | true => exact absurd ((hL3 9 0 hq (by kernel_rfl)).symm.trans hL1) (by decide))
          have hBw : Below wh.heap.size wh wx := ((Below.refl wh.heap.size wh).drew).trans (hg2 hm).1
          refine wpList_callR Tryz.func17 (by kernel_rfl) (by kernel_rfl) rfl _ _ rfl #[] (by simp) _ (HZ wx) ?_
          rintro e w1 ⟨rfl, hw1⟩
          have hw2 := hw1.symm
          subst hw2
          exact ⟨_, rfl, hK _ _ ⟨fun _ _ => Below.refl _ _, fun e => absurd e (by decide), Keep46.below (Below.refl _ _), fun e => absurd e (by decide), fun e => absurd e (by decide), Nat.le_refl _⟩ ⟨fun e => absurd e (by decide), fun e => absurd e (by decide), ⟨fun _ => rfl, fun e => absurd e (by decide), fun e => absurd e (by decide), fun e => absurd e (by decide), fun e => absurd e (by decide), fun e => absurd e (by decide), fun e => absurd e (by decide), fun e => absurd e (by decide), fun e => absurd e (by decide), fun e => absurd e (by decide), fun e => absurd e (by decide), fun e => absurd e (by decide), fun e => absurd e (by decide), fun e => absurd e (by decide)⟩⟩⟩
        · obtain rfl := Option.some.inj ho
          have hm : L 9 = false := (by cases hq : L 9 with | false => rfl | true => exact absurd ((hL3 9 1 hq (by kernel_rfl)).symm.trans hL1) (by decide))
          have hBw : Below wh.heap.size wh wx := ((Below.refl wh.heap.size wh).drew).trans (hg2 hm).1
          refine wpList_bsl1I rfl _ rfl 0 rfl ?_
          intro w1 hw1 _ hb1
          exact hK _ _ ⟨fun _ _ => hw1, fun e => absurd e (by decide), Keep46.below hw1, fun _ => ⟨_, rfl, hb1⟩, fun e => absurd e (by decide), hw1.size⟩ ⟨fun e => absurd e (by decide), fun e => absurd e (by decide), ⟨fun e => absurd e (by decide), fun e => absurd e (by decide), fun e => absurd e (by decide), fun e => absurd e (by decide), fun e => absurd e (by decide), fun e => absurd e (by decide), fun e => absurd e (by decide), fun e => absurd e (by decide), fun e => absurd e (by decide), fun e => absurd e (by decide), fun e => absurd e (by decide), fun e => absurd e (by decide), fun e => absurd e (by decide), fun e => absurd e (by decide)⟩⟩
        · obtain rfl := Option.some.inj ho
          have hm : L 9 = false := (by cases hq : L 9 with | false => rfl | true => exact absurd ((hL3 9 2 hq (by kernel_rfl)).symm.trans hL1) (by decide))
          have hBw : Below wh.heap.size wh wx := ((Below.refl wh.heap.size wh).drew).trans (hg2 hm).1
          refine wpList_pure rfl _ (run_move _ rfl) (hK _ _ ⟨fun _ _ => Below.refl _ _, fun e => absurd e (by decide), Keep46.below (Below.refl _ _), fun e => absurd e (by decide), fun e => absurd e (by decide), Nat.le_refl _⟩ ⟨fun e => absurd e (by decide), fun e => absurd e (by decide), ⟨fun e => absurd e (by decide), fun _ => hk.old 9 (by kernel_rfl), fun e => absurd e (by decide), fun e => absurd e (by decide), fun e => absurd e (by decide), fun e => absurd e (by decide), fun e => absurd e (by decide), fun e => absurd e (by decide), fun e => absurd e (by decide), fun e => absurd e (by decide), fun e => absurd e (by decide), fun e => absurd e (by decide), fun e => absurd e (by decide), fun e => absurd e (by decide)⟩⟩)
        · obtain rfl := Option.some.inj ho
          have hm : L 9 = false := (by cases hq : L 9 with | false => rfl | true => exact absurd ((hL3 9 3 hq (by kernel_rfl)).symm.trans hL1) (by decide))
          have hBw : Below wh.heap.size wh wx := ((Below.refl wh.heap.size wh).drew).trans (hg2 hm).1
          refine wpList_pure rfl _ (run_move _ rfl) (hK _ _ ⟨fun _ _ => Below.refl _ _, fun e => absurd e (by decide), Keep46.below (Below.refl _ _), fun e => absurd e (by decide), fun e => absurd e (by decide), Nat.le_refl _⟩ ⟨fun e => absurd e (by decide), fun e => absurd e (by decide), ⟨fun e => absurd e (by decide), fun e => absurd e (by decide), fun _ => hk.old 10 (by kernel_rfl), fun e => absurd e (by decide), fun e => absurd e (by decide), fun e => absurd e (by decide), fun e => absurd e (by decide), fun e => absurd e (by decide), fun e => absurd e (by decide), fun e => absurd e (by decide), fun e => absurd e (by decide), fun e => absurd e (by decide), fun e => absurd e (by decide), fun e => absurd e (by decide)⟩⟩)
        · obtain rfl := Option.some.inj ho
          have hm : L 9 = false := (by cases hq : L 9 with | false => rfl | true => exact absurd ((hL3 5 4 (hL3 7 5 (hL3 8 7 (hL3 9 8 hq (by kernel_rfl)) (by kernel_rfl)) (by kernel_rfl)) (by kernel_rfl)).symm.trans hL1) (by decide))
          have hBw : Below wh.heap.size wh wx := ((Below.refl wh.heap.size wh).drew).trans (hg2 hm).1
          refine wpList_pure rfl _ (run_fieldAddr _ _ _ rfl (.pointer (some ⟨B5, 0, none⟩)) _ (show ac.eval (.tmp 5) = .pointer (some ⟨B5, 0, none⟩) from hk.old 5 (by kernel_rfl)) (fieldB0 _ _)) (hK _ _ ⟨fun _ _ => Below.refl _ _, fun e => absurd e (by decide), Keep46.below (Below.refl _ _), fun e => absurd e (by decide), fun e => absurd e (by decide), Nat.le_refl _⟩ ⟨fun e => absurd e (by decide), fun e => absurd e (by decide), ⟨fun e => absurd e (by decide), fun e => absurd e (by decide), fun e => absurd e (by decide), fun _ => rfl, fun e => absurd e (by decide), fun e => absurd e (by decide), fun e => absurd e (by decide), fun e => absurd e (by decide), fun e => absurd e (by decide), fun e => absurd e (by decide), fun e => absurd e (by decide), fun e => absurd e (by decide), fun e => absurd e (by decide), fun e => absurd e (by decide)⟩⟩)
        · obtain rfl := Option.some.inj ho
          have hm : L 9 = false := (by cases hq : L 9 with | false => rfl | true => exact absurd ((hL3 7 5 (hL3 8 7 (hL3 9 8 hq (by kernel_rfl)) (by kernel_rfl)) (by kernel_rfl)).symm.trans hL1) (by decide))
          have hBw : Below wh.heap.size wh wx := ((Below.refl wh.heap.size wh).drew).trans (hg2 hm).1
          refine wpList_pure rfl _ (run_loadCellB _ _ rfl B5 0 ((show ac.eval (.tmp 65) = vs 4 from hk.slot 4 65 (by kernel_rfl) rfl).trans ((hk.dep 4 (by kernel_rfl)).2.2.2.2.2.1 rfl)) _ _ (h5.belowSize hBw) _ Tryz.underlying28 rfl (.slice a l.length cap) (bc_g0 _ _ _)) (hK _ _ ⟨fun _ _ => Below.refl _ _, fun e => absurd e (by decide), Keep46.below (Below.refl _ _), fun e => absurd e (by decide), fun e => absurd e (by decide), Nat.le_refl _⟩ ⟨fun e => absurd e (by decide), fun e => absurd e (by decide), ⟨fun e => absurd e (by decide), fun e => absurd e (by decide), fun e => absurd e (by decide), fun e => absurd e (by decide), fun _ => rfl, fun e => absurd e (by decide), fun e => absurd e (by decide), fun e => absurd e (by decide), fun e => absurd e (by decide), fun e => absurd e (by decide), fun e => absurd e (by decide), fun e => absurd e (by decide), fun e => absurd e (by decide), fun e => absurd e (by decide)⟩⟩)
        · obtain rfl := Option.some.inj ho
          have hm : L 9 = false := (by cases hq : L 9 with | false => rfl | true => exact absurd ((hL3 7 6 (hL3 8 7 (hL3 9 8 hq (by kernel_rfl)) (by kernel_rfl)) (by kernel_rfl)).symm.trans hL1) (by decide))
          have hBw : Below wh.heap.size wh wx := ((Below.refl wh.heap.size wh).drew).trans (hg2 hm).1
          refine wpList_pure rfl _ (run_move _ rfl) (hK _ _ ⟨fun _ _ => Below.refl _ _, fun e => absurd e (by decide), Keep46.below (Below.refl _ _), fun e => absurd e (by decide), fun e => absurd e (by decide), Nat.le_refl _⟩ ⟨fun e => absurd e (by decide), fun e => absurd e (by decide), ⟨fun e => absurd e (by decide), fun e => absurd e (by decide), fun e => absurd e (by decide), fun e => absurd e (by decide), fun e => absurd e (by decide), fun _ => hk.old 6 (by kernel_rfl), fun e => absurd e (by decide), fun e => absurd e (by decide), fun e => absurd e (by decide), fun e => absurd e (by decide), fun e => absurd e (by decide), fun e => absurd e (by decide), fun e => absurd e (by decide), fun e => absurd e (by decide)⟩⟩)
        · obtain rfl := Option.some.inj ho
          have hm : L 9 = false := (by cases hq : L 9 with | false => rfl | true => exact absurd ((hL3 8 7 (hL3 9 8 hq (by kernel_rfl)) (by kernel_rfl)).symm.trans hL1) (by decide))
          have hBw : Below wh.heap.size wh wx := ((Below.refl wh.heap.size wh).drew).trans (hg2 hm).1
          refine wpList_pure rfl _ (run_sliceTo _ _ rfl a l.length cap k ((show ac.eval (.tmp 66) = vs 5 from hk.slot 5 66 (by kernel_rfl) rfl).trans ((hk.dep 5 (by kernel_rfl)).2.2.2.2.2.2.1 rfl)) ((show ac.eval (.tmp 67) = vs 6 from hk.slot 6 67 (by kernel_rfl) rfl).trans ((hk.dep 6 (by kernel_rfl)).2.2.2.2.2.2.2.1 rfl)) (Nat.le_trans hkl hcap)) (hK _ _ ⟨fun _ _ => Below.refl _ _, fun e => absurd e (by decide), Keep46.below (Below.refl _ _), fun e => absurd e (by decide), fun e => absurd e (by decide), Nat.le_refl _⟩ ⟨fun e => absurd e (by decide), fun e => absurd e (by decide), ⟨fun e => absurd e (by decide), fun e => absurd e (by decide), fun e => absurd e (by decide), fun e => absurd e (by decide), fun e => absurd e (by decide), fun e => absurd e (by decide), fun _ => rfl, fun e => absurd e (by decide), fun e => absurd e (by decide), fun e => absurd e (by decide), fun e => absurd e (by decide), fun e => absurd e (by decide), fun e => absurd e (by decide), fun e => absurd e (by decide)⟩⟩)
        · obtain rfl := Option.some.inj ho
          have hm : L 9 = false := (by cases hq : L 9 with | false => rfl | true => exact absurd ((hL3 9 8 hq (by kernel_rfl)).symm.trans hL1) (by decide))
          have hBw : Below wh.heap.size wh wx := ((Below.refl wh.heap.size wh).drew).trans (hg2 hm).1
          refine wpList_pure rfl _ (run_built1 _ _ _ rfl _ ((show ac.eval (.tmp 68) = vs 7 from hk.slot 7 68 (by kernel_rfl) rfl).trans ((hk.dep 7 (by kernel_rfl)).2.2.2.2.2.2.2.2.1 rfl)) _ (builtB a k cap)) (hK _ _ ⟨fun _ _ => Below.refl _ _, fun e => absurd e (by decide), Keep46.below (Below.refl _ _), fun e => absurd e (by decide), fun e => absurd e (by decide), Nat.le_refl _⟩ ⟨fun e => absurd e (by decide), fun e => absurd e (by decide), ⟨fun e => absurd e (by decide), fun e => absurd e (by decide), fun e => absurd e (by decide), fun e => absurd e (by decide), fun e => absurd e (by decide), fun e => absurd e (by decide), fun e => absurd e (by decide), fun _ => rfl, fun e => absurd e (by decide), fun e => absurd e (by decide), fun e => absurd e (by decide), fun e => absurd e (by decide), fun e => absurd e (by decide), fun e => absurd e (by decide)⟩⟩)
        · obtain rfl := Option.some.inj ho
          have s0 := hk.slot 0 61 (by kernel_rfl) rfl
          have s1 := hk.slot 1 62 (by kernel_rfl) rfl
          have s2 := hk.slot 2 63 (by kernel_rfl) rfl
          have s3 := hk.slot 3 64 (by kernel_rfl) rfl
          have s8 := hk.slot 8 69 (by kernel_rfl) rfl
          obtain ⟨gb, eb, hb⟩ := (hg2 hL1).2 (hL2 1 (by kernel_rfl))
          rw [((hk.dep 0 (by kernel_rfl)).2.2.1 rfl)] at s0
          rw [eb] at s1
          rw [((hk.dep 2 (by kernel_rfl)).2.2.2.1 rfl)] at s2
          rw [((hk.dep 3 (by kernel_rfl)).2.2.2.2.1 rfl)] at s3
          rw [((hk.dep 8 (by kernel_rfl)).2.2.2.2.2.2.2.2.2.1 rfl)] at s8
          have hBw : Below wh.heap.size wh wx := ((Below.refl wh.heap.size wh).drew).trans (hg2 hL1).1
          have hBd : Below wh.drew.heap.size wh.drew wx := (hg2 hL1).1
          have hEx := hE2.below hBw
          have hW2 : 2 ≤ wh.drew.heap.size := h2g
          refine wpList_callR Tryz.func16 (by kernel_rfl) (by kernel_rfl) rfl _ _ rfl _ (by simp only [List.map_toArray, List.map_cons, List.map_nil, Act.eval, s0, s1, s2, s3, s8] <;> rfl) _ (HM10 gb wx hEx (hTs.below hBw) hb.ia1) ?_
          intro e w1 hP
          obtain ⟨hk1, hk2⟩ := hP.keep hEx
          obtain ⟨v, rfl, hv⟩ := hP.mkQ hBd hW2
          exact ⟨_, rfl, hK _ _ ⟨fun e => absurd rfl e, fun e => absurd e (by decide), hk1, fun e => absurd e (by decide), fun _ => hv, hk2⟩ ⟨fun e => absurd e (by decide), fun e => absurd e (by decide), ⟨fun e => absurd e (by decide), fun e => absurd e (by decide), fun e => absurd e (by decide), fun e => absurd e (by decide), fun e => absurd e (by decide), fun e => absurd e (by decide), fun e => absurd e (by decide), fun e => absurd e (by decide), fun e => absurd e (by decide), fun e => absurd e (by decide), fun e => absurd e (by decide), fun e => absurd e (by decide), fun e => absurd e (by decide), fun e => absurd e (by decide)⟩⟩⟩
        · obtain rfl := Option.some.inj ho
          refine wpList_pure rfl _ (run_move _ rfl) (hK _ _ ⟨fun _ _ => Below.refl _ _, fun e => absurd e (by decide), Keep46.below (Below.refl _ _), fun e => absurd e (by decide), fun e => absurd e (by decide), Nat.le_refl _⟩ ⟨fun e => absurd e (by decide), fun e => absurd e (by decide), ⟨fun e => absurd e (by decide), fun e => absurd e (by decide), fun e => absurd e (by decide), fun e => absurd e (by decide), fun e => absurd e (by decide), fun e => absurd e (by decide), fun e => absurd e (by decide), fun e => absurd e (by decide), fun _ => (show ac.eval (.tmp 70) = vs 9 from hk.slot 9 70 (by kernel_rfl) rfl), fun e => absurd e (by decide), fun e => absurd e (by decide), fun e => absurd e (by decide), fun e => absurd e (by decide), fun e => absurd e (by decide)⟩⟩)
        · obtain rfl := Option.some.inj ho
          have hm : L 9 = true := hL3 10 9 (hL2 10 (by kernel_rfl)) (by kernel_rfl)
          obtain ⟨_, _, _, _, _, _, _, ev, _⟩ := hg3 hm
          have sm := (show ac.eval (.tmp 60) = vs 10 from hk.slot 10 60 (by kernel_rfl) rfl)
          have em := ((hk.dep 10 (by kernel_rfl)).2.2.2.2.2.2.2.2.2.2.1 rfl)
          refine wpList_pure rfl _ (run_extract _ _ rfl _ (sm.trans (em.trans ev)) _ rfl) (hK _ _ ⟨fun _ _ => Below.refl _ _, fun e => absurd e (by decide), Keep46.below (Below.refl _ _), fun e => absurd e (by decide), fun e => absurd e (by decide), Nat.le_refl _⟩ ⟨fun e => absurd e (by decide), fun e => absurd e (by decide), ⟨fun e => absurd e (by decide), fun e => absurd e (by decide), fun e => absurd e (by decide), fun e => absurd e (by decide), fun e => absurd e (by decide), fun e => absurd e (by decide), fun e => absurd e (by decide), fun e => absurd e (by decide), fun e => absurd e (by decide), fun _ => fun x y u k => (by have k2 := (em.trans ev).symm.trans k; cases k2; rfl), fun e => absurd e (by decide), fun e => absurd e (by decide), fun e => absurd e (by decide), fun e => absurd e (by decide)⟩⟩)
        · obtain rfl := Option.some.inj ho
          have hm : L 9 = true := hL3 10 9 (hL2 10 (by kernel_rfl)) (by kernel_rfl)
          obtain ⟨_, _, _, _, _, _, _, ev, _⟩ := hg3 hm
          have sm := (show ac.eval (.tmp 60) = vs 10 from hk.slot 10 60 (by kernel_rfl) rfl)
          have em := ((hk.dep 10 (by kernel_rfl)).2.2.2.2.2.2.2.2.2.2.1 rfl)
          refine wpList_pure rfl _ (run_extract _ _ rfl _ (sm.trans (em.trans ev)) _ rfl) (hK _ _ ⟨fun _ _ => Below.refl _ _, fun e => absurd e (by decide), Keep46.below (Below.refl _ _), fun e => absurd e (by decide), fun e => absurd e (by decide), Nat.le_refl _⟩ ⟨fun e => absurd e (by decide), fun e => absurd e (by decide), ⟨fun e => absurd e (by decide), fun e => absurd e (by decide), fun e => absurd e (by decide), fun e => absurd e (by decide), fun e => absurd e (by decide), fun e => absurd e (by decide), fun e => absurd e (by decide), fun e => absurd e (by decide), fun e => absurd e (by decide), fun e => absurd e (by decide), fun _ => fun x y u k => (by have k2 := (em.trans ev).symm.trans k; cases k2; rfl), fun e => absurd e (by decide), fun e => absurd e (by decide), fun e => absurd e (by decide)⟩⟩)
        · obtain rfl := Option.some.inj ho
          have hm : L 9 = true := hL3 10 9 (hL2 10 (by kernel_rfl)) (by kernel_rfl)
          obtain ⟨_, _, _, _, _, _, _, ev, _⟩ := hg3 hm
          have sm := (show ac.eval (.tmp 60) = vs 10 from hk.slot 10 60 (by kernel_rfl) rfl)
          have em := ((hk.dep 10 (by kernel_rfl)).2.2.2.2.2.2.2.2.2.2.1 rfl)
          refine wpList_pure rfl _ (run_extract _ _ rfl _ (sm.trans (em.trans ev)) _ rfl) (hK _ _ ⟨fun _ _ => Below.refl _ _, fun e => absurd e (by decide), Keep46.below (Below.refl _ _), fun e => absurd e (by decide), fun e => absurd e (by decide), Nat.le_refl _⟩ ⟨fun e => absurd e (by decide), fun e => absurd e (by decide), ⟨fun e => absurd e (by decide), fun e => absurd e (by decide), fun e => absurd e (by decide), fun e => absurd e (by decide), fun e => absurd e (by decide), fun e => absurd e (by decide), fun e => absurd e (by decide), fun e => absurd e (by decide), fun e => absurd e (by decide), fun e => absurd e (by decide), fun e => absurd e (by decide), fun _ => fun x y u k => (by have k2 := (em.trans ev).symm.trans k; cases k2; rfl), fun e => absurd e (by decide), fun e => absurd e (by decide)⟩⟩)
        · obtain rfl := Option.some.inj ho
          refine wpList_allocRow rfl _ rfl _ zBlk.1 ?_
          intro w1 hw1 _ hb1
          exact hK _ _ ⟨fun _ _ => hw1, fun e => absurd e (by decide), Keep46.below hw1, fun e => absurd e (by decide), fun e => absurd e (by decide), hw1.size⟩ ⟨fun _ => ⟨_, _, rfl, hg1, hb1, rfl⟩, fun e => absurd e (by decide), ⟨fun e => absurd e (by decide), fun e => absurd e (by decide), fun e => absurd e (by decide), fun e => absurd e (by decide), fun e => absurd e (by decide), fun e => absurd e (by decide), fun e => absurd e (by decide), fun e => absurd e (by decide), fun e => absurd e (by decide), fun e => absurd e (by decide), fun e => absurd e (by decide), fun e => absurd e (by decide), fun e => absurd e (by decide), fun e => absurd e (by decide)⟩⟩
        · obtain rfl := Option.some.inj ho
          have hm : L 9 = true := hL2 9 (by kernel_rfl)
          obtain ⟨_, _, _, _, _, _, _, ev, _⟩ := hg3 hm
          obtain ⟨g, c, ea, hgN, hb, hcs⟩ := (hk.dep 14 (by kernel_rfl)).1 rfl
          have em := ((hk.dep 10 (by kernel_rfl)).2.2.2.2.2.2.2.2.2.2.1 rfl)
          have e0 := ((hk.dep 11 (by kernel_rfl)).2.2.2.2.2.2.2.2.2.2.2.1 rfl) _ _ _ (em.trans ev)
          refine wpList_storeRow rfl _ _ _ rfl g _ ((show ac.eval (.tmp 14) = vs 14 from hk.slot 14 14 (by kernel_rfl) rfl).trans ea) ((show ac.eval (.tmp 71) = vs 11 from hk.slot 11 71 (by kernel_rfl) rfl).trans e0) _ _ hb (by rw [hcs]; rfl) (bk_info _ _ _ _ _ _) (bk_one _ _ _ _ _ _ _ _ _ _) ?_
          intro w1 hgr hsz hb1
          exact hK _ _ ⟨fun _ e => absurd rfl e, fun _ => ⟨g, c, hgN, hb, hgr⟩, Keep46.store hgr hb1 rfl, fun e => absurd e (by decide), fun e => absurd e (by decide), hgr.size⟩ ⟨fun e => absurd e (by decide), fun _ => ⟨g, _, ea, e0, hgN, hb1⟩, ⟨fun e => absurd e (by decide), fun e => absurd e (by decide), fun e => absurd e (by decide), fun e => absurd e (by decide), fun e => absurd e (by decide), fun e => absurd e (by decide), fun e => absurd e (by decide), fun e => absurd e (by decide), fun e => absurd e (by decide), fun e => absurd e (by decide), fun e => absurd e (by decide), fun e => absurd e (by decide), fun e => absurd e (by decide), fun e => absurd e (by decide)⟩⟩
        · obtain rfl := Option.some.inj ho
          refine wpList_pure rfl _ (run_assign _ rfl) (hK _ _ ⟨fun _ _ => Below.refl _ _, fun e => absurd e (by decide), Keep46.below (Below.refl _ _), fun e => absurd e (by decide), fun e => absurd e (by decide), Nat.le_refl _⟩ ⟨fun e => absurd e (by decide), fun e => absurd e (by decide), ⟨fun e => absurd e (by decide), fun e => absurd e (by decide), fun e => absurd e (by decide), fun e => absurd e (by decide), fun e => absurd e (by decide), fun e => absurd e (by decide), fun e => absurd e (by decide), fun e => absurd e (by decide), fun e => absurd e (by decide), fun e => absurd e (by decide), fun e => absurd e (by decide), fun e => absurd e (by decide), fun _ => (show ac.eval (.tmp 72) = vs 12 from hk.slot 12 72 (by kernel_rfl) rfl), fun e => absurd e (by decide)⟩⟩)
        · obtain rfl := Option.some.inj ho
          refine wpList_pure rfl _ (run_assign _ rfl) (hK _ _ ⟨fun _ _ => Below.refl _ _, fun e => absurd e (by decide), Keep46.below (Below.refl _ _), fun e => absurd e (by decide), fun e => absurd e (by decide), Nat.le_refl _⟩ ⟨fun e => absurd e (by decide), fun e => absurd e (by decide), ⟨fun e => absurd e (by decide), fun e => absurd e (by decide), fun e => absurd e (by decide), fun e => absurd e (by decide), fun e => absurd e (by decide), fun e => absurd e (by decide), fun e => absurd e (by decide), fun e => absurd e (by decide), fun e => absurd e (by decide), fun e => absurd e (by decide), fun e => absurd e (by decide), fun e => absurd e (by decide), fun e => absurd e (by decide), fun _ => (show ac.eval (.tmp 73) = vs 13 from hk.slot 13 73 (by kernel_rfl) rfl)⟩⟩)
      obtain ⟨Lx, hLx, -, -, hQ⟩ := hGn
      obtain ⟨lo10, a10, cap10, st10, dls10, gm10, cm10, ev10, hD10, hCB10, hgm10⟩ := hQ (hLx 9 (show 9 < 18 by decide))
      have em10 := ((hPr 10 (show 10 < 18 by decide)).2.2.2.2.2.2.2.2.2.2.1 rfl).trans ev10
      have x010 := ((hPr 11 (show 11 < 18 by decide)).2.2.2.2.2.2.2.2.2.2.2.1 rfl) _ _ _ em10
      have x210 := ((hPr 17 (show 17 < 18 by decide)).2.2.2.2.2.2.2.2.2.2.2.2.2.2.2 rfl).trans (((hPr 13 (show 13 < 18 by decide)).2.2.2.2.2.2.2.2.2.2.2.2.2.1 rfl) _ _ _ em10)
      obtain ⟨g10, c10, eg10, ec10, hgN10, hb10⟩ := (hPr 15 (show 15 < 18 by decide)).2.1 rfl
      have ec210 := x010.symm.trans ec10
      simp only [Value.agg.injEq] at ec210
      subst ec210
      clear hPr hQ hLx Lx ec10 x010 em10 ev10
      simp only [dstsR, List.map_cons, List.map_nil, puts, Nat.reduceAdd, Act.put, List.setIfInBounds_toArray, List.set_cons_zero, List.set_cons_succ, x210, eg10]
      clear x210 eg10
      have dr10 : Below wh.heap.size wh wh.drew := (Below.refl _ _).drew
      have st10' := (hE2.below dr10).st.out
      obtain ⟨mb10, hs10, -⟩ := st10'
      obtain ⟨q10, ht10, -⟩ := (hE2.below dr10).tr
      replace hE1 := (hE1.below dr10).apart (hE2.below dr10) hD10.two (Ne.symm hne1) (Ne.symm hne2)
      replace hTs := (hTs.below dr10).two hD10.two (hE2.below dr10)
      replace h5 := (h5.belowSize dr10).two hD10.two ((h5.belowSize dr10).neT hs10 (by decide)) ((h5.belowSize dr10).neT (Blk.of_sh ht10) (by decide))
      replace hb9 := (hb9.belowSize dr10).two hD10.two ((hb9.belowSize dr10).neT hs10 (by decide)) ((hb9.belowSize dr10).neT (Blk.of_sh ht10) (by decide))
      replace hBg := (hBg.trans (dr10.mono hBg.size)).trans (hD10.two.to_below hl3 hl4 (Nat.le_trans hBg.size dr10.size))
      replace hE2 := hD10.ex
      clear hD10 hCB10 hgm10 hgN10 hs10 ht10 dr10 lo10 dls10 h2g
      have h2g := hE2.glob.two
      obtain ⟨wi, hywi⟩ : ∃ y, y = wx := ⟨_, rfl⟩
      rw [← hywi] at hE1 hE2 hTs h5 hb9 hb10 hBg h2g ⊢
      clear hywi wx
      go_simp
      go_upto_region 11 with fail
      refine wp_region_made (by kernel_rfl) (KE wi.heap.size 1 9 15 (fun v w => MkQ wi.drew bu bv (exS [] (l.take k)) (exR [] .emp (l.take k)) 2 z (l.drop k) [0] v w)) (KP wi.heap.size 14 15 11 (fun i vs v => (i = 0 → v = .string ⟨z.toArray⟩) ∧ (i = 2 → v = .pointer (some ⟨bu, 0, none⟩)) ∧ (i = 3 → v = .pointer (some ⟨bv, 0, none⟩)) ∧ (i = 4 → v = .pointer (some ⟨B5, 0, none⟩)) ∧ (i = 5 → v = .slice a l.length cap) ∧ (i = 6 → v = .int .i64 (k : Nat)) ∧ (i = 7 → v = .slice (fromA a cap k) (l.length - k) (cap - k)) ∧ (i = 8 → v = .agg (bc (.slice (fromA a cap k) (l.length - k) (cap - k)) false (.slice none 0 0))) ∧ (i = 10 → v = vs 9) ∧ (i = 11 → (∀ x y u, vs 10 = .tuple #[x, y, u] → v = x)) ∧ (i = 12 → (∀ x y u, vs 10 = .tuple #[x, y, u] → v = y)) ∧ (i = 13 → (∀ x y u, vs 10 = .tuple #[x, y, u] → v = u)) ∧ (i = 16 → v = vs 12) ∧ (i = 17 → v = vs 13))) (KG wi.heap.size wi.drew 1 9 (fun v w => MkQ wi.drew bu bv (exS [] (l.take k)) (exR [] .emp (l.take k)) 2 z (l.drop k) [0] v w)) (by kernel_rfl) ⟨Nat.le_refl _, fun _ => ⟨Below.refl _ _, fun e => (by cases e)⟩, fun e => (by cases e)⟩ (fun L i w w' vs v _ _ hw hg hE _ => hg.step (fun _ _ _ h hb => h.below hb) (fun _ _ _ _ _ h h1 h2 h3 => h.store h1 h2 h3) (fun e => hw 9 (by subst e; kernel_rfl)) hE) (fun i vs vs' w v hv h => ?_) (fun i j vs w w' u v hij hwf hE h => h.stay hE hij (fun e e2 => (by subst e; subst e2; exact absurd ((show waitsB _ 15 9 = true from by kernel_rfl).symm.trans hwf) (by decide)))) (fun i o ho ac vs wx hk K hK => ?_) (fun vs wx hPr hGn => ?_)
      · obtain ⟨h1, h2, h3⟩ := h
        refine ⟨h1, fun e => ?_, ?_⟩
        · obtain ⟨g, c, k1, k2, k3⟩ := h2 e
          subst e
          exact ⟨g, c, (hv 14 (by kernel_rfl)).symm.trans k1, (hv 11 (by kernel_rfl)).symm.trans k2, k3⟩
        · exact ⟨h3.1, h3.2.1, h3.2.2.1, h3.2.2.2.1, h3.2.2.2.2.1, h3.2.2.2.2.2.1, h3.2.2.2.2.2.2.1, h3.2.2.2.2.2.2.2.1, fun e => (by subst e; exact (h3.2.2.2.2.2.2.2.2.1 rfl).trans (hv 9 (by kernel_rfl))), fun e => (by subst e; exact fun x y u k => (h3.2.2.2.2.2.2.2.2.2.1 rfl) x y u ((hv 10 (by kernel_rfl)).trans k)), fun e => (by subst e; exact fun x y u k => (h3.2.2.2.2.2.2.2.2.2.2.1 rfl) x y u ((hv 10 (by kernel_rfl)).trans k)), fun e => (by subst e; exact fun x y u k => (h3.2.2.2.2.2.2.2.2.2.2.2.1 rfl) x y u ((hv 10 (by kernel_rfl)).trans k)), fun e => (by subst e; exact (h3.2.2.2.2.2.2.2.2.2.2.2.2.1 rfl).trans (hv 12 (by kernel_rfl))), fun e => (by subst e; exact (h3.2.2.2.2.2.2.2.2.2.2.2.2.2 rfl).trans (hv 13 (by kernel_rfl)))⟩
      · obtain ⟨L, hL1, hL2, hL3, hg1, hg2, hg3⟩ := hk.gen
        have hi : i < 18 := (Array.getElem?_eq_some_iff.1 ho).1
        rcases (show i = 0 ∨ i = 1 ∨ i = 2 ∨ i = 3 ∨ i = 4 ∨ i = 5 ∨ i = 6 ∨ i = 7 ∨ i = 8 ∨ i = 9 ∨ i = 10 ∨ i = 11 ∨ i = 12 ∨ i = 13 ∨ i = 14 ∨ i = 15 ∨ i = 16 ∨ i = 17 by omega) with rfl | rfl | rfl | rfl | rfl | rfl | rfl | rfl | rfl | rfl | rfl | rfl | rfl | rfl | rfl | rfl | rfl | rfl
        · obtain rfl := Option.some.inj ho
          have hm : L 9 = false := (by cases hq : L 9 with | false => rfl | true => exact absurd ((hL3 9 0 hq (by kernel_rfl)).symm.trans hL1) (by decide))
          have hBw : Below wi.heap.size wi wx := ((Below.refl wi.heap.size wi).drew).trans (hg2 hm).1
          refine wpList_callR Tryz.func17 (by kernel_rfl) (by kernel_rfl) rfl _ _ rfl #[] (by simp) _ (HZ wx) ?_
          rintro e w1 ⟨rfl, hw1⟩
          have hw2 := hw1.symm
          subst hw2
          exact ⟨_, rfl, hK _ _ ⟨fun _ _ => Below.refl _ _, fun e => absurd e (by decide), Keep46.below (Below.refl _ _), fun e => absurd e (by decide), fun e => absurd e (by decide), Nat.le_refl _⟩ ⟨fun e => absurd e (by decide), fun e => absurd e (by decide), ⟨fun _ => rfl, fun e => absurd e (by decide), fun e => absurd e (by decide), fun e => absurd e (by decide), fun e => absurd e (by decide), fun e => absurd e (by decide), fun e => absurd e (by decide), fun e => absurd e (by decide), fun e => absurd e (by decide), fun e => absurd e (by decide), fun e => absurd e (by decide), fun e => absurd e (by decide), fun e => absurd e (by decide), fun e => absurd e (by decide)⟩⟩⟩
        · obtain rfl := Option.some.inj ho
          have hm : L 9 = false := (by cases hq : L 9 with | false => rfl | true => exact absurd ((hL3 9 1 hq (by kernel_rfl)).symm.trans hL1) (by decide))
          have hBw : Below wi.heap.size wi wx := ((Below.refl wi.heap.size wi).drew).trans (hg2 hm).1
          refine wpList_bsl1I rfl _ rfl 0 rfl ?_
          intro w1 hw1 _ hb1
          exact hK _ _ ⟨fun _ _ => hw1, fun e => absurd e (by decide), Keep46.below hw1, fun _ => ⟨_, rfl, hb1⟩, fun e => absurd e (by decide), hw1.size⟩ ⟨fun e => absurd e (by decide), fun e => absurd e (by decide), ⟨fun e => absurd e (by decide), fun e => absurd e (by decide), fun e => absurd e (by decide), fun e => absurd e (by decide), fun e => absurd e (by decide), fun e => absurd e (by decide), fun e => absurd e (by decide), fun e => absurd e (by decide), fun e => absurd e (by decide), fun e => absurd e (by decide), fun e => absurd e (by decide), fun e => absurd e (by decide), fun e => absurd e (by decide), fun e => absurd e (by decide)⟩⟩
        · obtain rfl := Option.some.inj ho
          have hm : L 9 = false := (by cases hq : L 9 with | false => rfl | true => exact absurd ((hL3 9 2 hq (by kernel_rfl)).symm.trans hL1) (by decide))
          have hBw : Below wi.heap.size wi wx := ((Below.refl wi.heap.size wi).drew).trans (hg2 hm).1
          refine wpList_pure rfl _ (run_move _ rfl) (hK _ _ ⟨fun _ _ => Below.refl _ _, fun e => absurd e (by decide), Keep46.below (Below.refl _ _), fun e => absurd e (by decide), fun e => absurd e (by decide), Nat.le_refl _⟩ ⟨fun e => absurd e (by decide), fun e => absurd e (by decide), ⟨fun e => absurd e (by decide), fun _ => hk.old 9 (by kernel_rfl), fun e => absurd e (by decide), fun e => absurd e (by decide), fun e => absurd e (by decide), fun e => absurd e (by decide), fun e => absurd e (by decide), fun e => absurd e (by decide), fun e => absurd e (by decide), fun e => absurd e (by decide), fun e => absurd e (by decide), fun e => absurd e (by decide), fun e => absurd e (by decide), fun e => absurd e (by decide)⟩⟩)
        · obtain rfl := Option.some.inj ho
          have hm : L 9 = false := (by cases hq : L 9 with | false => rfl | true => exact absurd ((hL3 9 3 hq (by kernel_rfl)).symm.trans hL1) (by decide))
          have hBw : Below wi.heap.size wi wx := ((Below.refl wi.heap.size wi).drew).trans (hg2 hm).1
          refine wpList_pure rfl _ (run_move _ rfl) (hK _ _ ⟨fun _ _ => Below.refl _ _, fun e => absurd e (by decide), Keep46.below (Below.refl _ _), fun e => absurd e (by decide), fun e => absurd e (by decide), Nat.le_refl _⟩ ⟨fun e => absurd e (by decide), fun e => absurd e (by decide), ⟨fun e => absurd e (by decide), fun e => absurd e (by decide), fun _ => hk.old 10 (by kernel_rfl), fun e => absurd e (by decide), fun e => absurd e (by decide), fun e => absurd e (by decide), fun e => absurd e (by decide), fun e => absurd e (by decide), fun e => absurd e (by decide), fun e => absurd e (by decide), fun e => absurd e (by decide), fun e => absurd e (by decide), fun e => absurd e (by decide), fun e => absurd e (by decide)⟩⟩)
        · obtain rfl := Option.some.inj ho
          have hm : L 9 = false := (by cases hq : L 9 with | false => rfl | true => exact absurd ((hL3 5 4 (hL3 7 5 (hL3 8 7 (hL3 9 8 hq (by kernel_rfl)) (by kernel_rfl)) (by kernel_rfl)) (by kernel_rfl)).symm.trans hL1) (by decide))
          have hBw : Below wi.heap.size wi wx := ((Below.refl wi.heap.size wi).drew).trans (hg2 hm).1
          refine wpList_pure rfl _ (run_fieldAddr _ _ _ rfl (.pointer (some ⟨B5, 0, none⟩)) _ (show ac.eval (.tmp 5) = .pointer (some ⟨B5, 0, none⟩) from hk.old 5 (by kernel_rfl)) (fieldB0 _ _)) (hK _ _ ⟨fun _ _ => Below.refl _ _, fun e => absurd e (by decide), Keep46.below (Below.refl _ _), fun e => absurd e (by decide), fun e => absurd e (by decide), Nat.le_refl _⟩ ⟨fun e => absurd e (by decide), fun e => absurd e (by decide), ⟨fun e => absurd e (by decide), fun e => absurd e (by decide), fun e => absurd e (by decide), fun _ => rfl, fun e => absurd e (by decide), fun e => absurd e (by decide), fun e => absurd e (by decide), fun e => absurd e (by decide), fun e => absurd e (by decide), fun e => absurd e (by decide), fun e => absurd e (by decide), fun e => absurd e (by decide), fun e => absurd e (by decide), fun e => absurd e (by decide)⟩⟩)
        · obtain rfl := Option.some.inj ho
          have hm : L 9 = false := (by cases hq : L 9 with | false => rfl | true => exact absurd ((hL3 7 5 (hL3 8 7 (hL3 9 8 hq (by kernel_rfl)) (by kernel_rfl)) (by kernel_rfl)).symm.trans hL1) (by decide))
          have hBw : Below wi.heap.size wi wx := ((Below.refl wi.heap.size wi).drew).trans (hg2 hm).1
          refine wpList_pure rfl _ (run_loadCellB _ _ rfl B5 0 ((show ac.eval (.tmp 79) = vs 4 from hk.slot 4 79 (by kernel_rfl) rfl).trans ((hk.dep 4 (by kernel_rfl)).2.2.2.2.2.1 rfl)) _ _ (h5.belowSize hBw) _ Tryz.underlying28 rfl (.slice a l.length cap) (bc_g0 _ _ _)) (hK _ _ ⟨fun _ _ => Below.refl _ _, fun e => absurd e (by decide), Keep46.below (Below.refl _ _), fun e => absurd e (by decide), fun e => absurd e (by decide), Nat.le_refl _⟩ ⟨fun e => absurd e (by decide), fun e => absurd e (by decide), ⟨fun e => absurd e (by decide), fun e => absurd e (by decide), fun e => absurd e (by decide), fun e => absurd e (by decide), fun _ => rfl, fun e => absurd e (by decide), fun e => absurd e (by decide), fun e => absurd e (by decide), fun e => absurd e (by decide), fun e => absurd e (by decide), fun e => absurd e (by decide), fun e => absurd e (by decide), fun e => absurd e (by decide), fun e => absurd e (by decide)⟩⟩)
        · obtain rfl := Option.some.inj ho
          have hm : L 9 = false := (by cases hq : L 9 with | false => rfl | true => exact absurd ((hL3 7 6 (hL3 8 7 (hL3 9 8 hq (by kernel_rfl)) (by kernel_rfl)) (by kernel_rfl)).symm.trans hL1) (by decide))
          have hBw : Below wi.heap.size wi wx := ((Below.refl wi.heap.size wi).drew).trans (hg2 hm).1
          refine wpList_pure rfl _ (run_move _ rfl) (hK _ _ ⟨fun _ _ => Below.refl _ _, fun e => absurd e (by decide), Keep46.below (Below.refl _ _), fun e => absurd e (by decide), fun e => absurd e (by decide), Nat.le_refl _⟩ ⟨fun e => absurd e (by decide), fun e => absurd e (by decide), ⟨fun e => absurd e (by decide), fun e => absurd e (by decide), fun e => absurd e (by decide), fun e => absurd e (by decide), fun e => absurd e (by decide), fun _ => hk.old 6 (by kernel_rfl), fun e => absurd e (by decide), fun e => absurd e (by decide), fun e => absurd e (by decide), fun e => absurd e (by decide), fun e => absurd e (by decide), fun e => absurd e (by decide), fun e => absurd e (by decide), fun e => absurd e (by decide)⟩⟩)
        · obtain rfl := Option.some.inj ho
          have hm : L 9 = false := (by cases hq : L 9 with | false => rfl | true => exact absurd ((hL3 8 7 (hL3 9 8 hq (by kernel_rfl)) (by kernel_rfl)).symm.trans hL1) (by decide))
          have hBw : Below wi.heap.size wi wx := ((Below.refl wi.heap.size wi).drew).trans (hg2 hm).1
          refine wpList_pure rfl _ (run_sliceFrom _ _ rfl a l.length cap k ((show ac.eval (.tmp 80) = vs 5 from hk.slot 5 80 (by kernel_rfl) rfl).trans ((hk.dep 5 (by kernel_rfl)).2.2.2.2.2.2.1 rfl)) ((show ac.eval (.tmp 81) = vs 6 from hk.slot 6 81 (by kernel_rfl) rfl).trans ((hk.dep 6 (by kernel_rfl)).2.2.2.2.2.2.2.1 rfl)) hkl) (hK _ _ ⟨fun _ _ => Below.refl _ _, fun e => absurd e (by decide), Keep46.below (Below.refl _ _), fun e => absurd e (by decide), fun e => absurd e (by decide), Nat.le_refl _⟩ ⟨fun e => absurd e (by decide), fun e => absurd e (by decide), ⟨fun e => absurd e (by decide), fun e => absurd e (by decide), fun e => absurd e (by decide), fun e => absurd e (by decide), fun e => absurd e (by decide), fun e => absurd e (by decide), fun _ => rfl, fun e => absurd e (by decide), fun e => absurd e (by decide), fun e => absurd e (by decide), fun e => absurd e (by decide), fun e => absurd e (by decide), fun e => absurd e (by decide), fun e => absurd e (by decide)⟩⟩)
        · obtain rfl := Option.some.inj ho
          have hm : L 9 = false := (by cases hq : L 9 with | false => rfl | true => exact absurd ((hL3 9 8 hq (by kernel_rfl)).symm.trans hL1) (by decide))
          have hBw : Below wi.heap.size wi wx := ((Below.refl wi.heap.size wi).drew).trans (hg2 hm).1
          refine wpList_pure rfl _ (run_built1 _ _ _ rfl _ ((show ac.eval (.tmp 82) = vs 7 from hk.slot 7 82 (by kernel_rfl) rfl).trans ((hk.dep 7 (by kernel_rfl)).2.2.2.2.2.2.2.2.1 rfl)) _ (builtB (fromA a cap k) (l.length - k) (cap - k))) (hK _ _ ⟨fun _ _ => Below.refl _ _, fun e => absurd e (by decide), Keep46.below (Below.refl _ _), fun e => absurd e (by decide), fun e => absurd e (by decide), Nat.le_refl _⟩ ⟨fun e => absurd e (by decide), fun e => absurd e (by decide), ⟨fun e => absurd e (by decide), fun e => absurd e (by decide), fun e => absurd e (by decide), fun e => absurd e (by decide), fun e => absurd e (by decide), fun e => absurd e (by decide), fun e => absurd e (by decide), fun _ => rfl, fun e => absurd e (by decide), fun e => absurd e (by decide), fun e => absurd e (by decide), fun e => absurd e (by decide), fun e => absurd e (by decide), fun e => absurd e (by decide)⟩⟩)
        · obtain rfl := Option.some.inj ho
          have s0 := hk.slot 0 75 (by kernel_rfl) rfl
          have s1 := hk.slot 1 76 (by kernel_rfl) rfl
          have s2 := hk.slot 2 77 (by kernel_rfl) rfl
          have s3 := hk.slot 3 78 (by kernel_rfl) rfl
          have s8 := hk.slot 8 83 (by kernel_rfl) rfl
          obtain ⟨gb, eb, hb⟩ := (hg2 hL1).2 (hL2 1 (by kernel_rfl))
          rw [((hk.dep 0 (by kernel_rfl)).2.2.1 rfl)] at s0
          rw [eb] at s1
          rw [((hk.dep 2 (by kernel_rfl)).2.2.2.1 rfl)] at s2
          rw [((hk.dep 3 (by kernel_rfl)).2.2.2.2.1 rfl)] at s3
          rw [((hk.dep 8 (by kernel_rfl)).2.2.2.2.2.2.2.2.2.1 rfl)] at s8
          have hBw : Below wi.heap.size wi wx := ((Below.refl wi.heap.size wi).drew).trans (hg2 hL1).1
          have hBd : Below wi.drew.heap.size wi.drew wx := (hg2 hL1).1
          have hEx := hE2.below hBw
          have hW2 : 2 ≤ wi.drew.heap.size := h2g
          refine wpList_callR Tryz.func16 (by kernel_rfl) (by kernel_rfl) rfl _ _ rfl _ (by simp only [List.map_toArray, List.map_cons, List.map_nil, Act.eval, s0, s1, s2, s3, s8] <;> rfl) _ (HM11 gb wx hEx (hTs.below hBw) hb.ia1) ?_
          intro e w1 hP
          obtain ⟨hk1, hk2⟩ := hP.keep hEx
          obtain ⟨v, rfl, hv⟩ := hP.mkQ hBd hW2
          exact ⟨_, rfl, hK _ _ ⟨fun e => absurd rfl e, fun e => absurd e (by decide), hk1, fun e => absurd e (by decide), fun _ => hv, hk2⟩ ⟨fun e => absurd e (by decide), fun e => absurd e (by decide), ⟨fun e => absurd e (by decide), fun e => absurd e (by decide), fun e => absurd e (by decide), fun e => absurd e (by decide), fun e => absurd e (by decide), fun e => absurd e (by decide), fun e => absurd e (by decide), fun e => absurd e (by decide), fun e => absurd e (by decide), fun e => absurd e (by decide), fun e => absurd e (by decide), fun e => absurd e (by decide), fun e => absurd e (by decide), fun e => absurd e (by decide)⟩⟩⟩
        · obtain rfl := Option.some.inj ho
          refine wpList_pure rfl _ (run_move _ rfl) (hK _ _ ⟨fun _ _ => Below.refl _ _, fun e => absurd e (by decide), Keep46.below (Below.refl _ _), fun e => absurd e (by decide), fun e => absurd e (by decide), Nat.le_refl _⟩ ⟨fun e => absurd e (by decide), fun e => absurd e (by decide), ⟨fun e => absurd e (by decide), fun e => absurd e (by decide), fun e => absurd e (by decide), fun e => absurd e (by decide), fun e => absurd e (by decide), fun e => absurd e (by decide), fun e => absurd e (by decide), fun e => absurd e (by decide), fun _ => (show ac.eval (.tmp 84) = vs 9 from hk.slot 9 84 (by kernel_rfl) rfl), fun e => absurd e (by decide), fun e => absurd e (by decide), fun e => absurd e (by decide), fun e => absurd e (by decide), fun e => absurd e (by decide)⟩⟩)
        · obtain rfl := Option.some.inj ho
          have hm : L 9 = true := hL3 10 9 (hL2 10 (by kernel_rfl)) (by kernel_rfl)
          obtain ⟨_, _, _, _, _, _, _, ev, _⟩ := hg3 hm
          have sm := (show ac.eval (.tmp 74) = vs 10 from hk.slot 10 74 (by kernel_rfl) rfl)
          have em := ((hk.dep 10 (by kernel_rfl)).2.2.2.2.2.2.2.2.2.2.1 rfl)
          refine wpList_pure rfl _ (run_extract _ _ rfl _ (sm.trans (em.trans ev)) _ rfl) (hK _ _ ⟨fun _ _ => Below.refl _ _, fun e => absurd e (by decide), Keep46.below (Below.refl _ _), fun e => absurd e (by decide), fun e => absurd e (by decide), Nat.le_refl _⟩ ⟨fun e => absurd e (by decide), fun e => absurd e (by decide), ⟨fun e => absurd e (by decide), fun e => absurd e (by decide), fun e => absurd e (by decide), fun e => absurd e (by decide), fun e => absurd e (by decide), fun e => absurd e (by decide), fun e => absurd e (by decide), fun e => absurd e (by decide), fun e => absurd e (by decide), fun _ => fun x y u k => (by have k2 := (em.trans ev).symm.trans k; cases k2; rfl), fun e => absurd e (by decide), fun e => absurd e (by decide), fun e => absurd e (by decide), fun e => absurd e (by decide)⟩⟩)
        · obtain rfl := Option.some.inj ho
          have hm : L 9 = true := hL3 10 9 (hL2 10 (by kernel_rfl)) (by kernel_rfl)
          obtain ⟨_, _, _, _, _, _, _, ev, _⟩ := hg3 hm
          have sm := (show ac.eval (.tmp 74) = vs 10 from hk.slot 10 74 (by kernel_rfl) rfl)
          have em := ((hk.dep 10 (by kernel_rfl)).2.2.2.2.2.2.2.2.2.2.1 rfl)
          refine wpList_pure rfl _ (run_extract _ _ rfl _ (sm.trans (em.trans ev)) _ rfl) (hK _ _ ⟨fun _ _ => Below.refl _ _, fun e => absurd e (by decide), Keep46.below (Below.refl _ _), fun e => absurd e (by decide), fun e => absurd e (by decide), Nat.le_refl _⟩ ⟨fun e => absurd e (by decide), fun e => absurd e (by decide), ⟨fun e => absurd e (by decide), fun e => absurd e (by decide), fun e => absurd e (by decide), fun e => absurd e (by decide), fun e => absurd e (by decide), fun e => absurd e (by decide), fun e => absurd e (by decide), fun e => absurd e (by decide), fun e => absurd e (by decide), fun e => absurd e (by decide), fun _ => fun x y u k => (by have k2 := (em.trans ev).symm.trans k; cases k2; rfl), fun e => absurd e (by decide), fun e => absurd e (by decide), fun e => absurd e (by decide)⟩⟩)
        · obtain rfl := Option.some.inj ho
          have hm : L 9 = true := hL3 10 9 (hL2 10 (by kernel_rfl)) (by kernel_rfl)
          obtain ⟨_, _, _, _, _, _, _, ev, _⟩ := hg3 hm
          have sm := (show ac.eval (.tmp 74) = vs 10 from hk.slot 10 74 (by kernel_rfl) rfl)
          have em := ((hk.dep 10 (by kernel_rfl)).2.2.2.2.2.2.2.2.2.2.1 rfl)
          refine wpList_pure rfl _ (run_extract _ _ rfl _ (sm.trans (em.trans ev)) _ rfl) (hK _ _ ⟨fun _ _ => Below.refl _ _, fun e => absurd e (by decide), Keep46.below (Below.refl _ _), fun e => absurd e (by decide), fun e => absurd e (by decide), Nat.le_refl _⟩ ⟨fun e => absurd e (by decide), fun e => absurd e (by decide), ⟨fun e => absurd e (by decide), fun e => absurd e (by decide), fun e => absurd e (by decide), fun e => absurd e (by decide), fun e => absurd e (by decide), fun e => absurd e (by decide), fun e => absurd e (by decide), fun e => absurd e (by decide), fun e => absurd e (by decide), fun e => absurd e (by decide), fun e => absurd e (by decide), fun _ => fun x y u k => (by have k2 := (em.trans ev).symm.trans k; cases k2; rfl), fun e => absurd e (by decide), fun e => absurd e (by decide)⟩⟩)
        · obtain rfl := Option.some.inj ho
          refine wpList_allocRow rfl _ rfl _ zBlk.1 ?_
          intro w1 hw1 _ hb1
          exact hK _ _ ⟨fun _ _ => hw1, fun e => absurd e (by decide), Keep46.below hw1, fun e => absurd e (by decide), fun e => absurd e (by decide), hw1.size⟩ ⟨fun _ => ⟨_, _, rfl, hg1, hb1, rfl⟩, fun e => absurd e (by decide), ⟨fun e => absurd e (by decide), fun e => absurd e (by decide), fun e => absurd e (by decide), fun e => absurd e (by decide), fun e => absurd e (by decide), fun e => absurd e (by decide), fun e => absurd e (by decide), fun e => absurd e (by decide), fun e => absurd e (by decide), fun e => absurd e (by decide), fun e => absurd e (by decide), fun e => absurd e (by decide), fun e => absurd e (by decide), fun e => absurd e (by decide)⟩⟩
        · obtain rfl := Option.some.inj ho
          have hm : L 9 = true := hL2 9 (by kernel_rfl)
          obtain ⟨_, _, _, _, _, _, _, ev, _⟩ := hg3 hm
          obtain ⟨g, c, ea, hgN, hb, hcs⟩ := (hk.dep 14 (by kernel_rfl)).1 rfl
          have em := ((hk.dep 10 (by kernel_rfl)).2.2.2.2.2.2.2.2.2.2.1 rfl)
          have e0 := ((hk.dep 11 (by kernel_rfl)).2.2.2.2.2.2.2.2.2.2.2.1 rfl) _ _ _ (em.trans ev)
          refine wpList_storeRow rfl _ _ _ rfl g _ ((show ac.eval (.tmp 17) = vs 14 from hk.slot 14 17 (by kernel_rfl) rfl).trans ea) ((show ac.eval (.tmp 85) = vs 11 from hk.slot 11 85 (by kernel_rfl) rfl).trans e0) _ _ hb (by rw [hcs]; rfl) (bk_info _ _ _ _ _ _) (bk_one _ _ _ _ _ _ _ _ _ _) ?_
          intro w1 hgr hsz hb1
          exact hK _ _ ⟨fun _ e => absurd rfl e, fun _ => ⟨g, c, hgN, hb, hgr⟩, Keep46.store hgr hb1 rfl, fun e => absurd e (by decide), fun e => absurd e (by decide), hgr.size⟩ ⟨fun e => absurd e (by decide), fun _ => ⟨g, _, ea, e0, hgN, hb1⟩, ⟨fun e => absurd e (by decide), fun e => absurd e (by decide), fun e => absurd e (by decide), fun e => absurd e (by decide), fun e => absurd e (by decide), fun e => absurd e (by decide), fun e => absurd e (by decide), fun e => absurd e (by decide), fun e => absurd e (by decide), fun e => absurd e (by decide), fun e => absurd e (by decide), fun e => absurd e (by decide), fun e => absurd e (by decide), fun e => absurd e (by decide)⟩⟩
        · obtain rfl := Option.some.inj ho
          refine wpList_pure rfl _ (run_assign _ rfl) (hK _ _ ⟨fun _ _ => Below.refl _ _, fun e => absurd e (by decide), Keep46.below (Below.refl _ _), fun e => absurd e (by decide), fun e => absurd e (by decide), Nat.le_refl _⟩ ⟨fun e => absurd e (by decide), fun e => absurd e (by decide), ⟨fun e => absurd e (by decide), fun e => absurd e (by decide), fun e => absurd e (by decide), fun e => absurd e (by decide), fun e => absurd e (by decide), fun e => absurd e (by decide), fun e => absurd e (by decide), fun e => absurd e (by decide), fun e => absurd e (by decide), fun e => absurd e (by decide), fun e => absurd e (by decide), fun e => absurd e (by decide), fun _ => (show ac.eval (.tmp 86) = vs 12 from hk.slot 12 86 (by kernel_rfl) rfl), fun e => absurd e (by decide)⟩⟩)
        · obtain rfl := Option.some.inj ho
          refine wpList_pure rfl _ (run_assign _ rfl) (hK _ _ ⟨fun _ _ => Below.refl _ _, fun e => absurd e (by decide), Keep46.below (Below.refl _ _), fun e => absurd e (by decide), fun e => absurd e (by decide), Nat.le_refl _⟩ ⟨fun e => absurd e (by decide), fun e => absurd e (by decide), ⟨fun e => absurd e (by decide), fun e => absurd e (by decide), fun e => absurd e (by decide), fun e => absurd e (by decide), fun e => absurd e (by decide), fun e => absurd e (by decide), fun e => absurd e (by decide), fun e => absurd e (by decide), fun e => absurd e (by decide), fun e => absurd e (by decide), fun e => absurd e (by decide), fun e => absurd e (by decide), fun e => absurd e (by decide), fun _ => (show ac.eval (.tmp 87) = vs 13 from hk.slot 13 87 (by kernel_rfl) rfl)⟩⟩)
      obtain ⟨Lx, hLx, -, -, hQ⟩ := hGn
      obtain ⟨lo11, a11, cap11, st11, dls11, gm11, cm11, ev11, hD11, hCB11, hgm11⟩ := hQ (hLx 9 (show 9 < 18 by decide))
      have em11 := ((hPr 10 (show 10 < 18 by decide)).2.2.2.2.2.2.2.2.2.2.1 rfl).trans ev11
      have x011 := ((hPr 11 (show 11 < 18 by decide)).2.2.2.2.2.2.2.2.2.2.2.1 rfl) _ _ _ em11
      have x211 := ((hPr 17 (show 17 < 18 by decide)).2.2.2.2.2.2.2.2.2.2.2.2.2.2.2 rfl).trans (((hPr 13 (show 13 < 18 by decide)).2.2.2.2.2.2.2.2.2.2.2.2.2.1 rfl) _ _ _ em11)
      obtain ⟨g11, c11, eg11, ec11, hgN11, hb11⟩ := (hPr 15 (show 15 < 18 by decide)).2.1 rfl
      have ec211 := x011.symm.trans ec11
      simp only [Value.agg.injEq] at ec211
      subst ec211
      clear hPr hQ hLx Lx ec11 x011 em11 ev11
      simp only [dstsR, List.map_cons, List.map_nil, puts, Nat.reduceAdd, Act.put, List.setIfInBounds_toArray, List.set_cons_zero, List.set_cons_succ, x211, eg11]
      clear x211 eg11
      have dr11 : Below wi.heap.size wi wi.drew := (Below.refl _ _).drew
      have st11' := (hE2.below dr11).st.out
      obtain ⟨mb11, hs11, -⟩ := st11'
      obtain ⟨q11, ht11, -⟩ := (hE2.below dr11).tr
      replace hE1 := (hE1.below dr11).apart (hE2.below dr11) hD11.two (Ne.symm hne1) (Ne.symm hne2)
      replace hTs := (hTs.below dr11).two hD11.two (hE2.below dr11)
      replace h5 := (h5.belowSize dr11).two hD11.two ((h5.belowSize dr11).neT hs11 (by decide)) ((h5.belowSize dr11).neT (Blk.of_sh ht11) (by decide))
      replace hb9 := (hb9.belowSize dr11).two hD11.two ((hb9.belowSize dr11).neT hs11 (by decide)) ((hb9.belowSize dr11).neT (Blk.of_sh ht11) (by decide))
      replace hb10 := (hb10.belowSize dr11).two hD11.two ((hb10.belowSize dr11).neT hs11 (by decide)) ((hb10.belowSize dr11).neT (Blk.of_sh ht11) (by decide))
      replace hBg := (hBg.trans (dr11.mono hBg.size)).trans (hD11.two.to_below hl3 hl4 (Nat.le_trans hBg.size dr11.size))
      replace hE2 := hD11.ex
      clear hD11 hCB11 hgm11 hgN11 hs11 ht11 dr11 lo11 dls11 h2g
      have h2g := hE2.glob.two
      obtain ⟨wj, hywj⟩ : ∃ y, y = wx := ⟨_, rfl⟩
      rw [← hywj] at hE1 hE2 hTs h5 hb9 hb10 hb11 hBg h2g ⊢
      clear hywj wx
      go_simp
      have c9a := (hb9.cell 3).trans (show _ = some (.string ⟨((exR [] .emp l).hash Sh.TgD).toArray⟩) from rfl)
      have c9b := (hb9.cell 5).trans (bk_g5 _ _ _ _ _ _)
      have c10 := (hb10.cell 5).trans (bk_g5 _ _ _ _ _ _)
      have c11a := (hb11.cell 3).trans (show _ = some (.string ⟨((exR (exS [] (l.take k)) (exR [] .emp (l.take k)) (l.drop k)).hash Sh.TgD).toArray⟩) from rfl)
      have c11b := (hb11.cell 5).trans (bk_g5 _ _ _ _ _ _)
      rw [hR12.out] at c11a
      have hX1 := hE1.st
      have hX2 := hE2.st
      rw [hS12.out] at hX2
      have HSm := fun w1 (h1 : ST w1 bs (exS [] l)) (h2 : ST w1 bu (exS [] l)) => same_st bs bu _ _ w1 h1 h2
      have hGj := hE1.glob
      have hD12' := hD12.out
      have hDl' := hDl.out
      clear hE1 hE2 hTs h5 hb9 hb10 hb11 HM10 HM11 hR12 hS12 hD12 hDl
      generalize ((exR [] .emp l).hash Sh.TgD) = Rt at *
      generalize exS [] l = Sx at *
      generalize (exD [] l).length = n1 at *
      generalize (exD [] (l.take k)).length = n2 at *
      generalize (exD (exS [] (l.take k)) (l.drop k)).length = n3 at *
      have hwr : IntKind.i64.wrap ((n2 : Int) + (n3 : Int)) = (n2 : Int) + (n3 : Int) := by rw [IntKind.wrap_i64]; omega
      have hqe : ((n1 : Int) == (n2 : Int) + (n3 : Int)) = true := by rw [beq_iff_eq]; omega
      clear hD12' hDl'
      rw [show decide (Sx = Sx) = true from decide_eq_true rfl] at HSm
      go_wp2_with (first
        | (go_at_call 13; refine (HA _ hGj).mono ?_; rintro e wk ⟨rfl, hwk⟩; clear HA; replace hBg := hBg.trans (hwk.mono hBg.size); replace c9a := cell_keep hwk c9a; replace c9b := cell_keep hwk c9b; replace c10 := cell_keep hwk c10; replace c11a := cell_keep hwk c11a; replace c11b := cell_keep hwk c11b; replace hX1 := hX1.below hwk; replace hX2 := hX2.below hwk; clear hwk)
        | (go_at_call 68; refine (HSm _ hX1 hX2).mono ?_; rintro e wl ⟨rfl, hwl⟩; clear HSm; replace hBg := hBg.trans (hwl.mono hBg.size); replace c9a := cell_keep hwl c9a; replace c9b := cell_keep hwl c9b; replace c10 := cell_keep hwl c10; replace c11a := cell_keep hwl c11a; replace c11b := cell_keep hwl c11b; clear hwl))
      go_ret
      exact ⟨rfl, hBg⟩
  · have hk2 : (chkB ⟨l, false, []⟩ != 0) = true := by simpa using hk
    go_wp2_with (go_at_call 13; refine (HA _ hG).mono ?_; rintro e w9 ⟨rfl, hw9⟩; clear HA)
    go_ret
    exact ⟨rfl, hB6.trans (hw9.mono hB6.size)⟩
end
section
attribute [local go_sem] Oper.semAt_some
set_option maxRecDepth 100000 in
theorem blockSplits_any (b0 : BT) (a a2 : Option Addr) (cap cap2 : Nat) (z1 : Int) (w : World) (hG : Sh.Glob w) (hT : TA w a b0.txs) (hI : IA w a2 b0.mem) (hc : b0.txs.length ≤ cap) (hc2 : b0.mem.length ≤ cap2) :
    Calls Tryz.prog 6 #[.agg (bc (.slice a b0.txs.length cap) b0.conf (.slice a2 b0.mem.length cap2)), .int .i64 z1] w fun e w' => e = .returned (.bool true) ∧ Below w.heap.size w w' := by
  have HB := fun w1 (h1 : Sh.Glob w1) (h2 : TA w1 a b0.txs) (h3 : IA w1 a2 b0.mem) => blockSplits_in b0 a a2 cap cap2 z1 w1 h1 h2 h3 hc hc2
  go_enter Tryz.func6, Tryz.ntmps6
  go_wp2_with (first
    | (go_at_call 31; refine (HB _ (hG.belowSize hw1) (hT.below hw1) (hI.below hw1)).mono ?_; rintro e w2 ⟨rfl, hw2⟩; clear HB)
    | (with_reducible refine at_list ?_; first
      | (refine wpList_boxRow (op := ⟨some 2, _, _, _, _, _⟩) rfl _ _ rfl _ rfl ?_; intro w1 hw1 hs1 h2; clear hs1)
      | (refine wpList_loadRow (op := ⟨some 5, _, _, _, _, _⟩) rfl _ _ rfl w.heap.size rfl _ _ h2 _ Tryz.underlying30 rfl (bc_info _ _ _) ?_)))
  go_ret
  exact ⟨rfl, hw1.trans (hw2.mono hw1.size)⟩
end
end Go.Proofs.YtjfpfkiccbcedaaGreatDoor
