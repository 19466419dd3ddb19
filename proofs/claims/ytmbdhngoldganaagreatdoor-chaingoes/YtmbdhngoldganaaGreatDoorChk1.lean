/- What batchOf does. What Check does, with the batch of the block at hand. -/
import Derived.Test.YtmbdhngoldganaaGreatDoorSab
import Derived.Test.YtmbdhngoldganaaGreatDoorExm
namespace Go.Proofs.YtmbdhngoldganaaGreatDoor
open Go Go.RowKit
section
attribute [local go_sem] Oper.semAt_some
set_option maxRecDepth 100000 in
set_option maxHeartbeats 2000000 in
theorem batchOf_any (ht : Nat) (p tx s : List UInt8) (hm mem : List Int) (hl : hm.length ≤ 1000000) (ah am : Option Addr) (ch cm : Nat) (a : Option Addr) (n cap : Nat) (w : World) (h : IA w ah hm) (h2 : IA w am mem) :
    Calls Tryz.prog 118 #[.agg (bk ht p tx s (.slice ah hm.length ch) (.slice a n cap)), .slice am mem.length cm] w (boP w hm mem a ah n cap ch) := by
  have HE := fun w1 (h : IA w1 ah hm) (h2 : IA w1 am mem) => equalI_any ah am hm mem ch cm w1 h h2 hl
  unfold EqP at HE
  by_cases hxy : hm = mem
  · have HE1 : ∀ w1, IA w1 ah hm → IA w1 am mem → Calls Tryz.prog 100 #[.slice ah hm.length ch, .slice am mem.length cm] w1 (fun e w' => e = .returned (.bool true) ∧ Below w1.heap.size w1 w') := fun w1 k1 k2 => (HE w1 k1 k2).mono fun e w' ⟨yb, he, hy, hb⟩ => by rw [hy.2 hxy] at he; exact ⟨he, hb⟩
    have hxy2 : Hid (hm = mem) := hxy
    clear HE hxy
    go_enter Tryz.func118, Tryz.ntmps118
    go_wp2_with (first
      | (go_at_call 100; refine (HE1 _ (h.below hB) (h2.below hB)).mono ?_; rintro e w3 ⟨rfl, hw3⟩; clear HE1 c4; replace hb1 := hb1.belowSize hw3; replace hb2 := hb2.belowSize hw3; replace hB := hB.trans (hw3.mono hB.size); clear hw3; have c4 := (hb1.cell 4).trans (show _ = some (.slice ah hm.length ch) from rfl); have c5 := (hb1.cell 5).trans (bk_g5 _ _ _ _ _ _))
      | (with_reducible refine at_list ?_; first
        | (refine wpList_boxRow (op := ⟨some 2, _, _, _, _, _⟩) rfl _ _ rfl _ rfl ?_; intro w1 hw1 hs1 hb1; replace hs1 := hs1.symm)
        | (refine wpList_allocRow (op := ⟨some 4, _, _, _, _, _⟩) rfl _ rfl _ zB.1 ?_; intro w2 hw2 hs2 hb2; replace hs2 := hs2.symm; replace hb1 := hb1.belowSize hw2; have hB := hw1.trans (hw2.mono hw1.size); have c4 := (hb1.cell 4).trans (show _ = some (.slice ah hm.length ch) from rfl))
        | (refine wpList_run (op := ⟨some 13, _, _, _, _, _⟩) rfl _ _ (run_built1 _ _ _ rfl _ rfl _ (builtB a n cap)) ?_)
        | (refine wpList_storeRow (op := ⟨none, .store 58 (.tmp 4) (.tmp 13), _, _, _, _⟩) rfl _ _ _ rfl w1.heap.size (bc (.slice a n cap) false (.slice none 0 0)) rfl rfl _ _ hb2 (by simp only [bc_size]) (bc_info _ _ _) (bc_one _ _ _ _ _ _ _) ?_; intro w4 hg4 hs4 hb4; clear hs4; have hB4 := hB.trans (below_of_grown hg4 hw1.size hB.size))))
    refine bodyPost_ret (v := .tuple #[.agg (bc (.slice a n cap) false (.slice none 0 0)), .bool true]) ?_ rfl (by unfold boP; exact ⟨hB4, .inl ⟨hxy2.out, rfl⟩⟩)
    exact res_cv rfl _ _ w1.heap.size _ _ _ _ rfl rfl hb4 Tryz.underlying58 rfl (bc_info _ _ _)
  · have HE1 : ∀ w1, IA w1 ah hm → IA w1 am mem → Calls Tryz.prog 100 #[.slice ah hm.length ch, .slice am mem.length cm] w1 (fun e w' => e = .returned (.bool false) ∧ Below w1.heap.size w1 w') := fun w1 k1 k2 => (HE w1 k1 k2).mono fun e w' ⟨yb, he, hy, hb⟩ => by
      cases yb
      · exact ⟨he, hb⟩
      · exact absurd (hy.1 rfl) hxy
    have hxy2 : Hid (hm ≠ mem) := hxy
    clear HE hxy
    by_cases hn : 0 < n
    · have hd : decide (0 < (n : Int)) = true := decide_eq_true (by omega)
      have hn2 : Hid (0 < n) := hn
      clear hn
      go_enter Tryz.func118, Tryz.ntmps118
      go_wp2_with (first
      | (go_at_call 100; refine (HE1 _ (h.below hB) (h2.below hB)).mono ?_; rintro e w3 ⟨rfl, hw3⟩; clear HE1 c4; replace hb1 := hb1.belowSize hw3; replace hb2 := hb2.belowSize hw3; replace hB := hB.trans (hw3.mono hB.size); clear hw3; have c4 := (hb1.cell 4).trans (show _ = some (.slice ah hm.length ch) from rfl); have c5 := (hb1.cell 5).trans (bk_g5 _ _ _ _ _ _))
      | (with_reducible refine at_list ?_; first
        | (refine wpList_boxRow (op := ⟨some 2, _, _, _, _, _⟩) rfl _ _ rfl _ rfl ?_; intro w1 hw1 hs1 hb1; replace hs1 := hs1.symm)
        | (refine wpList_allocRow (op := ⟨some 4, _, _, _, _, _⟩) rfl _ rfl _ zB.1 ?_; intro w2 hw2 hs2 hb2; replace hs2 := hs2.symm; replace hb1 := hb1.belowSize hw2; have hB := hw1.trans (hw2.mono hw1.size); have c4 := (hb1.cell 4).trans (show _ = some (.slice ah hm.length ch) from rfl))
        | (refine wpList_build (o := ⟨some 18, _, _, _, _, _⟩) rfl _ _ rfl builtBnil ?_)
        | (refine wpList_storeRow (op := ⟨none, .store 58 (.tmp 4) (.tmp 18), _, _, _, _⟩) rfl _ _ _ rfl w1.heap.size (bc (.slice none 0 0) false (.slice none 0 0)) rfl rfl _ _ hb2 (by simp only [bc_size]) (bc_info _ _ _) (bc_one _ _ _ _ _ _ _) ?_; intro w4 hg4 hs4 hb4; clear hs4; have hB4 := hB.trans (below_of_grown hg4 hw1.size hB.size))))
      refine bodyPost_ret (v := .tuple #[.agg (bc (.slice none 0 0) false (.slice none 0 0)), .bool false]) ?_ rfl (by unfold boP; exact ⟨hB4, .inr (.inl ⟨hxy2.out, hn2.out, rfl⟩)⟩)
      exact res_cv rfl _ _ w1.heap.size _ _ _ _ rfl rfl hb4 Tryz.underlying58 rfl (bc_info _ _ _)
    · obtain rfl : n = 0 := by omega
      clear hn
      go_enter Tryz.func118, Tryz.ntmps118
      go_wp2_with (first
      | (go_at_call 100; refine (HE1 _ (h.below hB) (h2.below hB)).mono ?_; rintro e w3 ⟨rfl, hw3⟩; clear HE1 c4; replace hb1 := hb1.belowSize hw3; replace hb2 := hb2.belowSize hw3; replace hB := hB.trans (hw3.mono hB.size); clear hw3; have c4 := (hb1.cell 4).trans (show _ = some (.slice ah hm.length ch) from rfl); have c5 := (hb1.cell 5).trans (bk_g5 _ _ _ _ _ _))
      | (with_reducible refine at_list ?_; first
        | (refine wpList_boxRow (op := ⟨some 2, _, _, _, _, _⟩) rfl _ _ rfl _ rfl ?_; intro w1 hw1 hs1 hb1; replace hs1 := hs1.symm)
        | (refine wpList_allocRow (op := ⟨some 4, _, _, _, _, _⟩) rfl _ rfl _ zB.1 ?_; intro w2 hw2 hs2 hb2; replace hs2 := hs2.symm; replace hb1 := hb1.belowSize hw2; have hB := hw1.trans (hw2.mono hw1.size); have c4 := (hb1.cell 4).trans (show _ = some (.slice ah hm.length ch) from rfl))
        | (refine wpList_run (op := ⟨some 22, _, _, _, _, _⟩) rfl _ _ (run_built2 _ _ _ _ _ rfl _ _ rfl rfl _ (builtBconf ah hm.length ch)) ?_)
        | (refine wpList_storeRow (op := ⟨none, .store 58 (.tmp 4) (.tmp 22), _, _, _, _⟩) rfl _ _ _ rfl w1.heap.size (bc (.slice none 0 0) true (.slice ah hm.length ch)) rfl rfl _ _ hb2 (by simp only [bc_size]) (bc_info _ _ _) (bc_one _ _ _ _ _ _ _) ?_; intro w4 hg4 hs4 hb4; clear hs4; have hB4 := hB.trans (below_of_grown hg4 hw1.size hB.size))))
      refine bodyPost_ret (v := .tuple #[.agg (bc (.slice none 0 0) true (.slice ah hm.length ch)), .bool true]) ?_ rfl (by unfold boP; exact ⟨hB4, .inr (.inr ⟨hxy2.out, rfl, rfl⟩)⟩)
      exact res_cv rfl _ _ w1.heap.size _ _ _ _ rfl rfl hb4 Tryz.underlying58 rfl (bc_info _ _ _)
end
end Go.Proofs.YtmbdhngoldganaaGreatDoor
namespace Go.Proofs.YtmbdhngoldganaaGreatDoor
open Go Go.RowKit
set_option maxRecDepth 100000 in
set_option maxHeartbeats 8000000 in
theorem check_bad (h : HH) (hok : chkH h = 0) (l : List TX) (cf : Bool) (bn : List Int) (p : List UInt8) (hp : p.length = 32) (ht : Nat) (hh : ht ≠ 0) (mem : List Int) (hmem : okM mem = true) (am ah a : Option Addr) (cm ch cap : Nat) (ba bm : Option Addr) (bcp bcm : Nat) (bs bt : Nat) (m : List KV) (t : Tr) (w : World) (hE : EX w bs bt m t) (hS : Sz m) (hT : TA w a l) (hIh : IA w ah h.mem) (hI : IA w am mem) (hTb : TA w ba l) (hIb : IA w bm bn)
    (HBO : ∀ w1, Below w.heap.size w w1 → Calls Tryz.prog 118 #[.agg (bk h.height h.prev h.txr h.str (.slice ah h.mem.length ch) (.slice a l.length cap)), .slice am mem.length cm] w1 (fun e w' => e = .returned (.tuple #[.agg (bc (.slice ba l.length bcp) cf (.slice bm bn.length bcm)), .bool true]) ∧ Below w1.heap.size w1 w')) (hcb : chkB ⟨l, cf, bn⟩ ≠ 0) :
    Calls Tryz.prog 69 #[.string ⟨p.toArray⟩, .int .u64 (ht : Nat), .slice am mem.length cm, .pointer (some ⟨bs, 0, none⟩), .pointer (some ⟨bt, 0, none⟩), .agg (bk h.height h.prev h.txr h.str (.slice ah h.mem.length ch) (.slice a l.length cap))] w fun e w' => e = .returned (.int .i64 (chkB ⟨l, cf, bn⟩)) ∧ Below w.heap.size w w' := by
  have hne : (chkB ⟨l, cf, bn⟩ != 0) = true := by simpa using hcb
  have HP := fun w1 (h : IA w1 am mem) => place_any p ht mem am cm (some ⟨bs, 0, none⟩) (some ⟨bt, 0, none⟩) w1 h
  have hpl : plE (some ⟨bs, 0, none⟩) (some ⟨bt, 0, none⟩) ht p mem = 0 := if_neg (by simp [hh, hp, hmem])
  rw [hpl] at HP
  have HH := fun w1 (k : IA w1 ah h.mem) => checkH_any h ah ch w1 k
  change ∀ w1, IA w1 ah h.mem → Calls Tryz.prog 117 #[.agg (hA h.height h.prev h.txr h.str (.slice ah h.mem.length ch))] w1 _ at HH
  rw [hok] at HH
  have hbs := hE.lts
  have hbt := hE.ltt
  have h2w := hE.glob.two
  clear hpl hok
  go_enter Tryz.func69, Tryz.ntmps69
  go_upto_region 10 with (first
    | (go_at_call 105; refine (HP _ (hI.below hB)).mono ?_; rintro e w' ⟨rfl, hw'⟩; have hw6 := hw'.symm; subst hw6; clear HP hw')
    | (go_at_call 117; refine (HH _ (hIh.below hB)).mono ?_; rintro e w2 ⟨rfl, hw2⟩; clear HH; replace h1 := h1.belowSize hw2; replace hB := hB.trans (hw2.mono hB.size); clear hw2)
    | (go_at_call 118; refine (HBO _ hB).mono ?_; rintro e w3 ⟨rfl, hw3⟩; clear HBO; replace h1 := h1.belowSize hw3; replace hB := hB.trans (hw3.mono hB.size); clear hw3)
    | (with_reducible refine at_list ?_; first
      | (refine wpList_boxRow (op := ⟨some 11, _, _, _, _, _⟩) rfl _ _ rfl _ rfl ?_; intro w1 hw1 hs1 h1; replace hs1 := hs1.symm; have hB := hw1)
      | (refine wpList_loadOp (op := ⟨some 30, _, _, _, _, _⟩) rfl _ _ rfl w.heap.size 0 rfl (hA h.height h.prev h.txr h.str (.slice ah h.mem.length ch)) (bk_head h1) _ Tryz.underlying50 rfl (hA_info _ _ _ _ _) ?_)
      | (refine wpList_loadRow (op := ⟨some 36, _, _, _, _, _⟩) rfl _ _ rfl w.heap.size rfl _ _ h1 _ Tryz.underlying53 rfl (bk_info _ _ _ _ _ _) ?_)
      | (refine wpList_allocRow (op := ⟨some 15, _, _, _, _, _⟩) rfl _ rfl _ zB.1 ?_; intro w4 hw4 hs4 h15; clear hs4; replace h1 := h1.belowSize hw4; have hB4 := hB.trans (hw4.mono hB.size); clear hw4)
      | (refine wpList_storeRow (op := ⟨none, .store 58 (.tmp 15) (.tmp 39), _, _, _, _⟩) rfl _ _ _ rfl w3.heap.size (bc (.slice ba l.length bcp) cf (.slice bm bn.length bcm)) rfl rfl _ _ h15 (by simp only [bc_size]) (bc_info _ _ _) (bc_one _ _ _ _ _ _ _) ?_; intro wc hg5 hs5 hb15; clear hs5; have hne1 := h1.neT h15 (by decide); replace h1 := h1.grown hg5 (fun e => absurd (Option.some.inj e) hne1); have hBc := hB4.trans (below_of_grown hg5 hB.size hB4.size); clear hg5 h15 hB4 hne1)))
  obtain ⟨B15, hB15⟩ : ∃ y, y = w3.heap.size := ⟨_, rfl⟩
  rw [← hB15] at hb15 ⊢
  have hB15w : w.heap.size ≤ B15 := by rw [hB15]; exact hB.size
  clear hB15 hB hw1 hs1
  have h15 := hb15
  have hEs := hE.below hBc
  replace hT := hT.below hBc
  replace hTb := hTb.below hBc
  replace hIb := hIb.below hBc
  replace hIh := hIh.below hBc
  have hIm := hI.below hBc
  have hW2 : 2 ≤ wc.drew.heap.size := Nat.le_trans h2w hBc.size
  try go_frame
  refine wp_region_made (by kernel_rfl) (K2E wc.heap.size 8 14 (fun i w v => (i = 4 → SqS wc.heap.size m w v) ∧ (i = 6 → SqT wc.heap.size t w v)) (fun v w => MkN wc.drew (chkB ⟨l, cf, bn⟩) v w)) (KP wc.heap.size 13 14 10 (fun i vs v => (i = 0 → v = .string ⟨p.toArray⟩) ∧ (i = 1 → v = .int .u64 (ht : Nat)) ∧ (i = 2 → v = .slice am mem.length cm) ∧ (i = 3 → v = .pointer (some ⟨bs, 0, none⟩)) ∧ (i = 5 → v = .pointer (some ⟨bt, 0, none⟩)) ∧ (i = 7 → v = .agg (bc (.slice ba l.length bcp) cf (.slice bm bn.length bcm))) ∧ (i = 9 → v = vs 8) ∧ (i = 10 → (∀ x y u, vs 9 = .tuple #[x, y, u] → v = x)) ∧ (i = 11 → (∀ x y u, vs 9 = .tuple #[x, y, u] → v = y)) ∧ (i = 12 → (∀ x y u, vs 9 = .tuple #[x, y, u] → v = u)) ∧ (i = 15 → v = vs 11) ∧ (i = 16 → v = vs 12))) (K2G wc.heap.size wc.drew 8 (fun i w v => (i = 4 → SqS wc.heap.size m w v) ∧ (i = 6 → SqT wc.heap.size t w v)) (fun v w => MkN wc.drew (chkB ⟨l, cf, bn⟩) v w)) (by kernel_rfl) ⟨Nat.le_refl _, fun _ => ⟨Below.refl _ _, fun _ e => (by cases e)⟩, fun e => (by cases e)⟩ (fun L i w w' vs v _ _ hw hg hE _ => hg.step (fun _ _ _ _ h hb => ⟨fun e => (h.1 e).below hb, fun e => (h.2 e).below hb⟩) (fun _ _ _ h hb => h.below hb) (fun _ _ _ _ _ h h1 h2 h3 h4 => h.store h1 h3) (fun e => hw 8 (by subst e; kernel_rfl)) hE) (fun i vs vs' w v hv h => ?_) (fun i j vs w w' u v hij hwf hE h => h.stay2 hE hij (fun e e2 => (by subst e; subst e2; exact absurd ((show waitsB _ 14 8 = true from by kernel_rfl).symm.trans hwf) (by decide)))) (fun i o ho ac vs wx hk K hK => ?_) (fun vs wx hPr hGn => ?_)
  · obtain ⟨h1, h2, h3⟩ := h
    refine ⟨h1, fun e => ?_, ?_⟩
    · obtain ⟨g, c, k1, k2, k3⟩ := h2 e
      subst e
      exact ⟨g, c, (hv 13 (by kernel_rfl)).symm.trans k1, (hv 10 (by kernel_rfl)).symm.trans k2, k3⟩
    · exact ⟨h3.1, h3.2.1, h3.2.2.1, h3.2.2.2.1, h3.2.2.2.2.1, h3.2.2.2.2.2.1, fun e => (by subst e; exact (h3.2.2.2.2.2.2.1 rfl).trans (hv 8 (by kernel_rfl))), fun e => (by subst e; exact fun x y u k => (h3.2.2.2.2.2.2.2.1 rfl) x y u ((hv 9 (by kernel_rfl)).trans k)), fun e => (by subst e; exact fun x y u k => (h3.2.2.2.2.2.2.2.2.1 rfl) x y u ((hv 9 (by kernel_rfl)).trans k)), fun e => (by subst e; exact fun x y u k => (h3.2.2.2.2.2.2.2.2.2.1 rfl) x y u ((hv 9 (by kernel_rfl)).trans k)), fun e => (by subst e; exact (h3.2.2.2.2.2.2.2.2.2.2.1 rfl).trans (hv 11 (by kernel_rfl))), fun e => (by subst e; exact (h3.2.2.2.2.2.2.2.2.2.2.2 rfl).trans (hv 12 (by kernel_rfl)))⟩
  · obtain ⟨L, hL1, hL2, hL3, hg1, hg2, hg3⟩ := hk.gen
    have hi : i < 17 := (Array.getElem?_eq_some_iff.1 ho).1
    rcases (show i = 0 ∨ i = 1 ∨ i = 2 ∨ i = 3 ∨ i = 4 ∨ i = 5 ∨ i = 6 ∨ i = 7 ∨ i = 8 ∨ i = 9 ∨ i = 10 ∨ i = 11 ∨ i = 12 ∨ i = 13 ∨ i = 14 ∨ i = 15 ∨ i = 16 by omega) with rfl | rfl | rfl | rfl | rfl | rfl | rfl | rfl | rfl | rfl | rfl | rfl | rfl | rfl | rfl | rfl | rfl
    · obtain rfl := Option.some.inj ho
      have hm : L 8 = false := (by cases hq : L 8 with | false => rfl | true => exact absurd ((hL3 8 0 hq (by kernel_rfl)).symm.trans hL1) (by decide))
      have hBw : Below wc.heap.size wc wx := ((Below.refl wc.heap.size wc).drew).trans (hg2 hm).1
      refine wpList_pure rfl _ (run_move _ rfl) (hK _ _ ⟨fun _ _ => Below.refl _ _, fun e => absurd e (by decide), Keep46.below (Below.refl _ _), ⟨fun e => absurd e (by decide), fun e => absurd e (by decide)⟩, fun e => absurd e (by decide), Nat.le_refl _⟩ ⟨fun e => absurd e (by decide), fun e => absurd e (by decide), ⟨fun _ => hk.old 0 (by kernel_rfl), fun e => absurd e (by decide), fun e => absurd e (by decide), fun e => absurd e (by decide), fun e => absurd e (by decide), fun e => absurd e (by decide), fun e => absurd e (by decide), fun e => absurd e (by decide), fun e => absurd e (by decide), fun e => absurd e (by decide), fun e => absurd e (by decide), fun e => absurd e (by decide)⟩⟩)
    · obtain rfl := Option.some.inj ho
      have hm : L 8 = false := (by cases hq : L 8 with | false => rfl | true => exact absurd ((hL3 8 1 hq (by kernel_rfl)).symm.trans hL1) (by decide))
      have hBw : Below wc.heap.size wc wx := ((Below.refl wc.heap.size wc).drew).trans (hg2 hm).1
      refine wpList_pure rfl _ (run_move _ rfl) (hK _ _ ⟨fun _ _ => Below.refl _ _, fun e => absurd e (by decide), Keep46.below (Below.refl _ _), ⟨fun e => absurd e (by decide), fun e => absurd e (by decide)⟩, fun e => absurd e (by decide), Nat.le_refl _⟩ ⟨fun e => absurd e (by decide), fun e => absurd e (by decide), ⟨fun e => absurd e (by decide), fun _ => hk.old 1 (by kernel_rfl), fun e => absurd e (by decide), fun e => absurd e (by decide), fun e => absurd e (by decide), fun e => absurd e (by decide), fun e => absurd e (by decide), fun e => absurd e (by decide), fun e => absurd e (by decide), fun e => absurd e (by decide), fun e => absurd e (by decide), fun e => absurd e (by decide)⟩⟩)
    · obtain rfl := Option.some.inj ho
      have hm : L 8 = false := (by cases hq : L 8 with | false => rfl | true => exact absurd ((hL3 8 2 hq (by kernel_rfl)).symm.trans hL1) (by decide))
      have hBw : Below wc.heap.size wc wx := ((Below.refl wc.heap.size wc).drew).trans (hg2 hm).1
      refine wpList_pure rfl _ (run_move _ rfl) (hK _ _ ⟨fun _ _ => Below.refl _ _, fun e => absurd e (by decide), Keep46.below (Below.refl _ _), ⟨fun e => absurd e (by decide), fun e => absurd e (by decide)⟩, fun e => absurd e (by decide), Nat.le_refl _⟩ ⟨fun e => absurd e (by decide), fun e => absurd e (by decide), ⟨fun e => absurd e (by decide), fun e => absurd e (by decide), fun _ => hk.old 2 (by kernel_rfl), fun e => absurd e (by decide), fun e => absurd e (by decide), fun e => absurd e (by decide), fun e => absurd e (by decide), fun e => absurd e (by decide), fun e => absurd e (by decide), fun e => absurd e (by decide), fun e => absurd e (by decide), fun e => absurd e (by decide)⟩⟩)
    · obtain rfl := Option.some.inj ho
      have hm : L 8 = false := (by cases hq : L 8 with | false => rfl | true => exact absurd ((hL3 4 3 (hL3 8 4 hq (by kernel_rfl)) (by kernel_rfl)).symm.trans hL1) (by decide))
      have hBw : Below wc.heap.size wc wx := ((Below.refl wc.heap.size wc).drew).trans (hg2 hm).1
      refine wpList_pure rfl _ (run_move _ rfl) (hK _ _ ⟨fun _ _ => Below.refl _ _, fun e => absurd e (by decide), Keep46.below (Below.refl _ _), ⟨fun e => absurd e (by decide), fun e => absurd e (by decide)⟩, fun e => absurd e (by decide), Nat.le_refl _⟩ ⟨fun e => absurd e (by decide), fun e => absurd e (by decide), ⟨fun e => absurd e (by decide), fun e => absurd e (by decide), fun e => absurd e (by decide), fun _ => hk.old 3 (by kernel_rfl), fun e => absurd e (by decide), fun e => absurd e (by decide), fun e => absurd e (by decide), fun e => absurd e (by decide), fun e => absurd e (by decide), fun e => absurd e (by decide), fun e => absurd e (by decide), fun e => absurd e (by decide)⟩⟩)
    · obtain rfl := Option.some.inj ho
      have hm : L 8 = false := (by cases hq : L 8 with | false => rfl | true => exact absurd ((hL3 8 4 hq (by kernel_rfl)).symm.trans hL1) (by decide))
      have hBw : Below wc.heap.size wc wx := ((Below.refl wc.heap.size wc).drew).trans (hg2 hm).1
      refine wpList_callR Tryz.func71 (by kernel_rfl) (by kernel_rfl) rfl _ _ rfl #[.pointer (some ⟨bs, 0, none⟩)] (by simp only [List.map_toArray, List.map_cons, List.map_nil, (show ac.eval (.tmp 47) = vs 3 from hk.slot 3 47 (by kernel_rfl) rfl), ((hk.dep 3 (by kernel_rfl)).2.2.2.2.2.1 rfl)]) _ (clone_st bs m wx (hEs.below hBw).st (Nat.le_trans hS.len (by decide))) ?_
      rintro e w1 ⟨rfl, hw1, hc1, hc2⟩
      have hsp1 : (fun i w v => (i = 4 → SqS wc.heap.size m w v) ∧ (i = 6 → SqT wc.heap.size t w v)) 4 w1 (.pointer (some ⟨wx.heap.size + 1, 0, none⟩)) := ⟨fun _ => ⟨_, rfl, Nat.le_succ_of_le hg1, ⟨⟨_, hc1, hc2⟩⟩⟩, fun e => absurd e (by decide)⟩
      exact ⟨_, rfl, hK _ _ ⟨fun _ _ => hw1, fun e => absurd e (by decide), Keep46.below hw1, hsp1, fun e => absurd e (by decide), hw1.size⟩ ⟨fun e => absurd e (by decide), fun e => absurd e (by decide), ⟨fun e => absurd e (by decide), fun e => absurd e (by decide), fun e => absurd e (by decide), fun e => absurd e (by decide), fun e => absurd e (by decide), fun e => absurd e (by decide), fun e => absurd e (by decide), fun e => absurd e (by decide), fun e => absurd e (by decide), fun e => absurd e (by decide), fun e => absurd e (by decide), fun e => absurd e (by decide)⟩⟩⟩
    · obtain rfl := Option.some.inj ho
      have hm : L 8 = false := (by cases hq : L 8 with | false => rfl | true => exact absurd ((hL3 6 5 (hL3 8 6 hq (by kernel_rfl)) (by kernel_rfl)).symm.trans hL1) (by decide))
      have hBw : Below wc.heap.size wc wx := ((Below.refl wc.heap.size wc).drew).trans (hg2 hm).1
      refine wpList_pure rfl _ (run_move _ rfl) (hK _ _ ⟨fun _ _ => Below.refl _ _, fun e => absurd e (by decide), Keep46.below (Below.refl _ _), ⟨fun e => absurd e (by decide), fun e => absurd e (by decide)⟩, fun e => absurd e (by decide), Nat.le_refl _⟩ ⟨fun e => absurd e (by decide), fun e => absurd e (by decide), ⟨fun e => absurd e (by decide), fun e => absurd e (by decide), fun e => absurd e (by decide), fun e => absurd e (by decide), fun _ => hk.old 4 (by kernel_rfl), fun e => absurd e (by decide), fun e => absurd e (by decide), fun e => absurd e (by decide), fun e => absurd e (by decide), fun e => absurd e (by decide), fun e => absurd e (by decide), fun e => absurd e (by decide)⟩⟩)
    · obtain rfl := Option.some.inj ho
      have hm : L 8 = false := (by cases hq : L 8 with | false => rfl | true => exact absurd ((hL3 8 6 hq (by kernel_rfl)).symm.trans hL1) (by decide))
      have hBw : Below wc.heap.size wc wx := ((Below.refl wc.heap.size wc).drew).trans (hg2 hm).1
      obtain ⟨q0, hq1, hq2⟩ := (hEs.below hBw).tr
      refine wpList_callR Tryz.func119 (by kernel_rfl) (by kernel_rfl) rfl _ _ rfl #[.pointer (some ⟨bt, 0, none⟩)] (by simp only [List.map_toArray, List.map_cons, List.map_nil, (show ac.eval (.tmp 49) = vs 5 from hk.slot 5 49 (by kernel_rfl) rfl), ((hk.dep 5 (by kernel_rfl)).2.2.2.2.2.2.1 rfl)]) _ (Sh.tclone_any bt q0 wx hq1) ?_
      rintro e w1 ⟨rfl, hc1, hw1⟩
      have hsp1 : (fun i w v => (i = 4 → SqS wc.heap.size m w v) ∧ (i = 6 → SqT wc.heap.size t w v)) 6 w1 (.pointer (some ⟨wx.heap.size, 0, none⟩)) := ⟨fun e => absurd e (by decide), fun _ => ⟨_, q0, rfl, hg1, hc1, hq2.below hw1⟩⟩
      exact ⟨_, rfl, hK _ _ ⟨fun _ _ => hw1, fun e => absurd e (by decide), Keep46.below hw1, hsp1, fun e => absurd e (by decide), hw1.size⟩ ⟨fun e => absurd e (by decide), fun e => absurd e (by decide), ⟨fun e => absurd e (by decide), fun e => absurd e (by decide), fun e => absurd e (by decide), fun e => absurd e (by decide), fun e => absurd e (by decide), fun e => absurd e (by decide), fun e => absurd e (by decide), fun e => absurd e (by decide), fun e => absurd e (by decide), fun e => absurd e (by decide), fun e => absurd e (by decide), fun e => absurd e (by decide)⟩⟩⟩
    · obtain rfl := Option.some.inj ho
      have hm : L 8 = false := (by cases hq : L 8 with | false => rfl | true => exact absurd ((hL3 8 7 hq (by kernel_rfl)).symm.trans hL1) (by decide))
      have hBw : Below wc.heap.size wc wx := ((Below.refl wc.heap.size wc).drew).trans (hg2 hm).1
      refine wpList_loadRow rfl _ _ rfl B15 (hk.old 15 (by kernel_rfl)) _ _ (h15.belowSize hBw) _ Tryz.underlying58 rfl (bc_info _ _ _) (hK _ _ ⟨fun _ _ => Below.refl _ _, fun e => absurd e (by decide), Keep46.below (Below.refl _ _), ⟨fun e => absurd e (by decide), fun e => absurd e (by decide)⟩, fun e => absurd e (by decide), Nat.le_refl _⟩ ⟨fun e => absurd e (by decide), fun e => absurd e (by decide), ⟨fun e => absurd e (by decide), fun e => absurd e (by decide), fun e => absurd e (by decide), fun e => absurd e (by decide), fun e => absurd e (by decide), fun _ => rfl, fun e => absurd e (by decide), fun e => absurd e (by decide), fun e => absurd e (by decide), fun e => absurd e (by decide), fun e => absurd e (by decide), fun e => absurd e (by decide)⟩⟩)
    · obtain rfl := Option.some.inj ho
      have s0 := hk.slot 0 44 (by kernel_rfl) rfl
      have s1 := hk.slot 1 45 (by kernel_rfl) rfl
      have s2 := hk.slot 2 46 (by kernel_rfl) rfl
      have s4 := hk.slot 4 48 (by kernel_rfl) rfl
      have s6 := hk.slot 6 50 (by kernel_rfl) rfl
      have s7 := hk.slot 7 51 (by kernel_rfl) rfl
      have hBw : Below wc.heap.size wc wx := ((Below.refl wc.heap.size wc).drew).trans (hg2 hL1).1
      have hBd : Below wc.drew.heap.size wc.drew wx := (hg2 hL1).1
      obtain ⟨bu, eu, hbu, hSTu⟩ := ((hg2 hL1).2 4 (hL2 4 (by kernel_rfl))).1 rfl
      obtain ⟨bv, qv, evv, hbv, hTrv, hHFv⟩ := ((hg2 hL1).2 6 (hL2 6 (by kernel_rfl))).2 rfl
      rw [eu] at s4
      rw [evv] at s6
      have hEx : EX wx bu bv m t := ⟨hSTu, ⟨qv, hTrv, hHFv⟩, (hEs.below hBw).glob, ⟨Nat.le_trans hW2 hbu, Nat.le_trans hW2 hbv⟩⟩
      rw [((hk.dep 0 (by kernel_rfl)).2.2.1 rfl)] at s0
      rw [((hk.dep 1 (by kernel_rfl)).2.2.2.1 rfl)] at s1
      rw [((hk.dep 2 (by kernel_rfl)).2.2.2.2.1 rfl)] at s2
      rw [((hk.dep 7 (by kernel_rfl)).2.2.2.2.2.2.2.1 rfl)] at s7
      refine wpList_callR Tryz.func59 (by kernel_rfl) (by kernel_rfl) rfl _ _ rfl _ (by simp only [List.map_toArray, List.map_cons, List.map_nil, Act.eval, s0, s1, s2, s4, s6, s7] <;> rfl) _ (make_err ⟨l, cf, bn⟩ hcb p ht mem am cm (some ⟨bu, 0, none⟩) (some ⟨bv, 0, none⟩) ba bm bcp bcm wx (hTb.below hBw) (hIb.below hBw)) ?_
      intro e w1 hP
      obtain ⟨he, hb0⟩ := hP
      subst he
      have hk1 := Keep46.below hb0
      have hk2 := hb0.size
      have hv : MkN wc.drew (chkB ⟨l, cf, bn⟩) _ w1 := ⟨rfl, hBd.trans (hb0.mono hBd.size)⟩
      exact ⟨_, rfl, hK _ _ ⟨fun e => absurd rfl e, fun e => absurd e (by decide), hk1, ⟨fun e => absurd e (by decide), fun e => absurd e (by decide)⟩, fun _ => hv, hk2⟩ ⟨fun e => absurd e (by decide), fun e => absurd e (by decide), ⟨fun e => absurd e (by decide), fun e => absurd e (by decide), fun e => absurd e (by decide), fun e => absurd e (by decide), fun e => absurd e (by decide), fun e => absurd e (by decide), fun e => absurd e (by decide), fun e => absurd e (by decide), fun e => absurd e (by decide), fun e => absurd e (by decide), fun e => absurd e (by decide), fun e => absurd e (by decide)⟩⟩⟩
    · obtain rfl := Option.some.inj ho
      refine wpList_pure rfl _ (run_move _ rfl) (hK _ _ ⟨fun _ _ => Below.refl _ _, fun e => absurd e (by decide), Keep46.below (Below.refl _ _), ⟨fun e => absurd e (by decide), fun e => absurd e (by decide)⟩, fun e => absurd e (by decide), Nat.le_refl _⟩ ⟨fun e => absurd e (by decide), fun e => absurd e (by decide), ⟨fun e => absurd e (by decide), fun e => absurd e (by decide), fun e => absurd e (by decide), fun e => absurd e (by decide), fun e => absurd e (by decide), fun e => absurd e (by decide), fun _ => (show ac.eval (.tmp 52) = vs 8 from hk.slot 8 52 (by kernel_rfl) rfl), fun e => absurd e (by decide), fun e => absurd e (by decide), fun e => absurd e (by decide), fun e => absurd e (by decide), fun e => absurd e (by decide)⟩⟩)
    · obtain rfl := Option.some.inj ho
      have hm : L 8 = true := hL3 9 8 (hL2 9 (by kernel_rfl)) (by kernel_rfl)
      obtain ⟨ev, _⟩ := hg3 hm
      have sm := (show ac.eval (.tmp 43) = vs 9 from hk.slot 9 43 (by kernel_rfl) rfl)
      have em := ((hk.dep 9 (by kernel_rfl)).2.2.2.2.2.2.2.2.1 rfl)
      refine wpList_pure rfl _ (run_extract _ _ rfl _ (sm.trans (em.trans ev)) _ rfl) (hK _ _ ⟨fun _ _ => Below.refl _ _, fun e => absurd e (by decide), Keep46.below (Below.refl _ _), ⟨fun e => absurd e (by decide), fun e => absurd e (by decide)⟩, fun e => absurd e (by decide), Nat.le_refl _⟩ ⟨fun e => absurd e (by decide), fun e => absurd e (by decide), ⟨fun e => absurd e (by decide), fun e => absurd e (by decide), fun e => absurd e (by decide), fun e => absurd e (by decide), fun e => absurd e (by decide), fun e => absurd e (by decide), fun e => absurd e (by decide), fun _ => fun x y u k => (by have k2 := (em.trans ev).symm.trans k; cases k2; rfl), fun e => absurd e (by decide), fun e => absurd e (by decide), fun e => absurd e (by decide), fun e => absurd e (by decide)⟩⟩)
    · obtain rfl := Option.some.inj ho
      have hm : L 8 = true := hL3 9 8 (hL2 9 (by kernel_rfl)) (by kernel_rfl)
      obtain ⟨ev, _⟩ := hg3 hm
      have sm := (show ac.eval (.tmp 43) = vs 9 from hk.slot 9 43 (by kernel_rfl) rfl)
      have em := ((hk.dep 9 (by kernel_rfl)).2.2.2.2.2.2.2.2.1 rfl)
      refine wpList_pure rfl _ (run_extract _ _ rfl _ (sm.trans (em.trans ev)) _ rfl) (hK _ _ ⟨fun _ _ => Below.refl _ _, fun e => absurd e (by decide), Keep46.below (Below.refl _ _), ⟨fun e => absurd e (by decide), fun e => absurd e (by decide)⟩, fun e => absurd e (by decide), Nat.le_refl _⟩ ⟨fun e => absurd e (by decide), fun e => absurd e (by decide), ⟨fun e => absurd e (by decide), fun e => absurd e (by decide), fun e => absurd e (by decide), fun e => absurd e (by decide), fun e => absurd e (by decide), fun e => absurd e (by decide), fun e => absurd e (by decide), fun e => absurd e (by decide), fun _ => fun x y u k => (by have k2 := (em.trans ev).symm.trans k; cases k2; rfl), fun e => absurd e (by decide), fun e => absurd e (by decide), fun e => absurd e (by decide)⟩⟩)
    · obtain rfl := Option.some.inj ho
      have hm : L 8 = true := hL3 9 8 (hL2 9 (by kernel_rfl)) (by kernel_rfl)
      obtain ⟨ev, _⟩ := hg3 hm
      have sm := (show ac.eval (.tmp 43) = vs 9 from hk.slot 9 43 (by kernel_rfl) rfl)
      have em := ((hk.dep 9 (by kernel_rfl)).2.2.2.2.2.2.2.2.1 rfl)
      refine wpList_pure rfl _ (run_extract _ _ rfl _ (sm.trans (em.trans ev)) _ rfl) (hK _ _ ⟨fun _ _ => Below.refl _ _, fun e => absurd e (by decide), Keep46.below (Below.refl _ _), ⟨fun e => absurd e (by decide), fun e => absurd e (by decide)⟩, fun e => absurd e (by decide), Nat.le_refl _⟩ ⟨fun e => absurd e (by decide), fun e => absurd e (by decide), ⟨fun e => absurd e (by decide), fun e => absurd e (by decide), fun e => absurd e (by decide), fun e => absurd e (by decide), fun e => absurd e (by decide), fun e => absurd e (by decide), fun e => absurd e (by decide), fun e => absurd e (by decide), fun e => absurd e (by decide), fun _ => fun x y u k => (by have k2 := (em.trans ev).symm.trans k; cases k2; rfl), fun e => absurd e (by decide), fun e => absurd e (by decide)⟩⟩)
    · obtain rfl := Option.some.inj ho
      refine wpList_allocRow rfl _ rfl _ zBlk.1 ?_
      intro w1 hw1 _ hb1
      exact hK _ _ ⟨fun _ _ => hw1, fun e => absurd e (by decide), Keep46.below hw1, ⟨fun e => absurd e (by decide), fun e => absurd e (by decide)⟩, fun e => absurd e (by decide), hw1.size⟩ ⟨fun _ => ⟨_, _, rfl, hg1, hb1, rfl⟩, fun e => absurd e (by decide), ⟨fun e => absurd e (by decide), fun e => absurd e (by decide), fun e => absurd e (by decide), fun e => absurd e (by decide), fun e => absurd e (by decide), fun e => absurd e (by decide), fun e => absurd e (by decide), fun e => absurd e (by decide), fun e => absurd e (by decide), fun e => absurd e (by decide), fun e => absurd e (by decide), fun e => absurd e (by decide)⟩⟩
    · obtain rfl := Option.some.inj ho
      have hm : L 8 = true := hL2 8 (by kernel_rfl)
      obtain ⟨ev, _⟩ := hg3 hm
      obtain ⟨g, c, ea, hgN, hb, hcs⟩ := (hk.dep 13 (by kernel_rfl)).1 rfl
      have em := ((hk.dep 9 (by kernel_rfl)).2.2.2.2.2.2.2.2.1 rfl)
      have e0 := ((hk.dep 10 (by kernel_rfl)).2.2.2.2.2.2.2.2.2.1 rfl) _ _ _ (em.trans ev)
      refine wpList_storeRow rfl _ _ _ rfl g _ ((show ac.eval (.tmp 17) = vs 13 from hk.slot 13 17 (by kernel_rfl) rfl).trans ea) ((show ac.eval (.tmp 53) = vs 10 from hk.slot 10 53 (by kernel_rfl) rfl).trans e0) _ _ hb (by rw [hcs]; rfl) (bk_info _ _ _ _ _ _) (bk_one _ _ _ _ _ _ _ _ _ _) ?_
      intro w1 hgr hsz hb1
      exact hK _ _ ⟨fun _ e => absurd rfl e, fun _ => ⟨g, c, hgN, hb, hgr⟩, Keep46.store hgr hb1 rfl, ⟨fun e => absurd e (by decide), fun e => absurd e (by decide)⟩, fun e => absurd e (by decide), hgr.size⟩ ⟨fun e => absurd e (by decide), fun _ => ⟨g, _, ea, e0, hgN, hb1⟩, ⟨fun e => absurd e (by decide), fun e => absurd e (by decide), fun e => absurd e (by decide), fun e => absurd e (by decide), fun e => absurd e (by decide), fun e => absurd e (by decide), fun e => absurd e (by decide), fun e => absurd e (by decide), fun e => absurd e (by decide), fun e => absurd e (by decide), fun e => absurd e (by decide), fun e => absurd e (by decide)⟩⟩
    · obtain rfl := Option.some.inj ho
      refine wpList_pure rfl _ (run_assign _ rfl) (hK _ _ ⟨fun _ _ => Below.refl _ _, fun e => absurd e (by decide), Keep46.below (Below.refl _ _), ⟨fun e => absurd e (by decide), fun e => absurd e (by decide)⟩, fun e => absurd e (by decide), Nat.le_refl _⟩ ⟨fun e => absurd e (by decide), fun e => absurd e (by decide), ⟨fun e => absurd e (by decide), fun e => absurd e (by decide), fun e => absurd e (by decide), fun e => absurd e (by decide), fun e => absurd e (by decide), fun e => absurd e (by decide), fun e => absurd e (by decide), fun e => absurd e (by decide), fun e => absurd e (by decide), fun e => absurd e (by decide), fun _ => (show ac.eval (.tmp 54) = vs 11 from hk.slot 11 54 (by kernel_rfl) rfl), fun e => absurd e (by decide)⟩⟩)
    · obtain rfl := Option.some.inj ho
      refine wpList_pure rfl _ (run_assign _ rfl) (hK _ _ ⟨fun _ _ => Below.refl _ _, fun e => absurd e (by decide), Keep46.below (Below.refl _ _), ⟨fun e => absurd e (by decide), fun e => absurd e (by decide)⟩, fun e => absurd e (by decide), Nat.le_refl _⟩ ⟨fun e => absurd e (by decide), fun e => absurd e (by decide), ⟨fun e => absurd e (by decide), fun e => absurd e (by decide), fun e => absurd e (by decide), fun e => absurd e (by decide), fun e => absurd e (by decide), fun e => absurd e (by decide), fun e => absurd e (by decide), fun e => absurd e (by decide), fun e => absurd e (by decide), fun e => absurd e (by decide), fun e => absurd e (by decide), fun _ => (show ac.eval (.tmp 55) = vs 12 from hk.slot 12 55 (by kernel_rfl) rfl)⟩⟩)
  obtain ⟨Lx, hLx, -, -, hQ⟩ := hGn
  replace hQ := hQ (hLx 8 (show 8 < 17 by decide))
  obtain ⟨ev, hBx⟩ := hQ
  have em10 := ((hPr 9 (show 9 < 17 by decide)).2.2.2.2.2.2.2.2.1 rfl).trans ev
  have x010 := ((hPr 10 (show 10 < 17 by decide)).2.2.2.2.2.2.2.2.2.1 rfl) _ _ _ em10
  have x210 := ((hPr 16 (show 16 < 17 by decide)).2.2.2.2.2.2.2.2.2.2.2.2.2 rfl).trans (((hPr 12 (show 12 < 17 by decide)).2.2.2.2.2.2.2.2.2.2.2.1 rfl) _ _ _ em10)
  obtain ⟨g10, c10, eg10, ec10, hgN10, hb10⟩ := (hPr 14 (show 14 < 17 by decide)).2.1 rfl
  have ec210 := x010.symm.trans ec10
  simp only [Value.agg.injEq] at ec210
  subst ec210
  clear hPr hLx Lx ec10 x010 em10 ev
  simp only [dstsR, List.map_cons, List.map_nil, puts, Nat.reduceAdd, Act.put, List.setIfInBounds_toArray, List.set_cons_zero, List.set_cons_succ, x210, eg10]
  clear x210 eg10
  go_simp
  go_wp2_with fail
  go_ret
  exact ⟨rfl, (hBc.trans (((Below.refl wc.heap.size wc).drew).mono hBc.size)).trans (hBx.mono hBc.size)⟩
end Go.Proofs.YtmbdhngoldganaaGreatDoor
