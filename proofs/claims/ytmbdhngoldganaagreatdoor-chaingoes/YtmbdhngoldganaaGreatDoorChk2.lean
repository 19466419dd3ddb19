/- What Check does, where a block was made. -/
import Derived.Test.YtmbdhngoldganaaGreatDoorChk1
import Derived.Test.YtmbdhngoldganaaGreatDoorExm
namespace Go.Proofs.YtmbdhngoldganaaGreatDoor
open Go Go.RowKit
/-- What Check leaves where a block was made. -/
def hMk (m : List KV) (t : Tr) (l : List TX) (ht : Nat) (p : List UInt8) (mem : List Int) : HH := ⟨ht, p, rootD Sh.digest (bys (exD m l)), (exR m t l).hash Sh.TgD, mem⟩
theorem mem_of_chk {l : List TX} {cf : Bool} {bn mem : List Int} (h : chkB ⟨l, cf, bn⟩ = 0) (hm : okM mem = true) : okM (if cf = true then bn else mem) = true := by
  cases cf
  · exact hm
  · exact ((chkB_zero h).2.2.1 rfl).2
set_option maxRecDepth 100000 in
set_option maxHeartbeats 8000000 in
theorem check_good (h : HH) (hok : chkH h = 0) (l : List TX) (cf : Bool) (bn : List Int) (p : List UInt8) (hp : p.length = 32) (ht : Nat) (hh : ht ≠ 0) (mem : List Int) (hmem : okM mem = true) (am ah a : Option Addr) (cm ch cap : Nat) (ba bm : Option Addr) (bcp bcm : Nat) (bs bt : Nat) (m : List KV) (t : Tr) (w : World) (hE : EX w bs bt m t) (hS : Sz m) (hT : TA w a l) (hIh : IA w ah h.mem) (hI : IA w am mem) (hTb : TA w ba l) (hIb : IA w bm bn)
    (HBO : ∀ w1, Below w.heap.size w w1 → Calls Tryz.prog 118 #[.agg (bk h.height h.prev h.txr h.str (.slice ah h.mem.length ch) (.slice a l.length cap)), .slice am mem.length cm] w1 (fun e w' => e = .returned (.tuple #[.agg (bc (.slice ba l.length bcp) cf (.slice bm bn.length bcm)), .bool true]) ∧ Below w1.heap.size w1 w')) (hC : Tr.Canon 0 t) (hn : t.cnt ≤ 3300) (hcb : chkB ⟨l, cf, bn⟩ = 0) (hsame : (hMk m t l ht p (if cf = true then bn else mem) = h ∧ exD m l = l)) :
    Calls Tryz.prog 69 #[.string ⟨p.toArray⟩, .int .u64 (ht : Nat), .slice am mem.length cm, .pointer (some ⟨bs, 0, none⟩), .pointer (some ⟨bt, 0, none⟩), .agg (bk h.height h.prev h.txr h.str (.slice ah h.mem.length ch) (.slice a l.length cap))] w fun e w' => e = .returned (.int .i64 0) ∧ EX w' bs bt (exS m l) (exR m t l) ∧ Two bs bt w w' := by
  obtain ⟨hokl, hl16, _, _⟩ := chkB_zero hcb
  dsimp only at hokl hl16
  have hmm := mem_of_chk hcb hmem
  obtain ⟨-, hm16⟩ := okM_pos hmm
  have hDl : (exD m l).length ≤ 16 := Nat.le_trans (exD_len m l) hl16
  have HX := fun w1 (h1 : EX w1 bs bt m t) (h2 : TA w1 ba l) => exec_any l hokl hl16 bs bt m t ba bcp cf bm bn.length bcm w1 h1 hS hC hn h2
  have HSm0 := fun ga gb gc gd ca cb cc cd w1 (k1 : IA w1 ga (if cf = true then bn else mem)) (k2 : IA w1 gb h.mem) (k3 : TA w1 gc (exD m l)) (k4 : TA w1 gd l) => sameB_any (hMk m t l ht p (if cf = true then bn else mem)) h (exD m l) l (by omega) (fun x hx => Nat.le_trans (okTx_of (hokl x (exD_mem hx))).len1 (by decide)) ga gb gc gd ca cb cc cd w1 k1 k2 (by show (if cf = true then bn else mem).length ≤ _; omega) k3 k4
  have HSm : ∀ ga gb gc gd ca cb cc cd w1, IA w1 ga (if cf = true then bn else mem) → IA w1 gb h.mem → TA w1 gc (exD m l) → TA w1 gd l → Calls Tryz.prog 22 #[.agg (bk ht p (rootD Sh.digest (bys (exD m l))) ((exR m t l).hash Sh.TgD) (.slice ga (if cf = true then bn else mem).length ca) (.slice gc (exD m l).length cc)), .agg (bk h.height h.prev h.txr h.str (.slice gb h.mem.length cb) (.slice gd l.length cd))] w1 (fun e w' => e = .returned (.bool true) ∧ Below w1.heap.size w1 w') := fun ga gb gc gd ca cb cc cd w1 k1 k2 k3 k4 => (HSm0 ga gb gc gd ca cb cc cd w1 k1 k2 k3 k4).mono fun e w' ⟨yb, he, hy, hb⟩ => by
    rw [hy.2 hsame] at he; exact ⟨he, hb⟩
  clear HSm0 hsame hmm hm16 hDl
  unfold ExP at HX
  have HP := fun w1 (h : IA w1 am mem) => place_any p ht mem am cm (some ⟨bs, 0, none⟩) (some ⟨bt, 0, none⟩) w1 h
  have hpl : plE (some ⟨bs, 0, none⟩) (some ⟨bt, 0, none⟩) ht p mem = 0 := if_neg (by simp [hh, hp, hmem])
  rw [hpl] at HP
  have HH := fun w1 (k : IA w1 ah h.mem) => checkH_any h ah ch w1 k
  change ∀ w1, IA w1 ah h.mem → Calls Tryz.prog 117 #[.agg (hA h.height h.prev h.txr h.str (.slice ah h.mem.length ch))] w1 _ at HH
  rw [hok] at HH
  have hbs := hE.lts
  have hbt := hE.ltt
  have h2w := hE.glob.two
  clear hpl hok
  go_enter Tryz.func69, Tryz.ntmps69
  go_upto_region 10 with (first
    | (go_at_call 105; refine (HP _ (hI.below hB)).mono ?_; rintro e w' ⟨rfl, hw'⟩; have hw6 := hw'.symm; subst hw6; clear HP hw')
    | (go_at_call 117; refine (HH _ (hIh.below hB)).mono ?_; rintro e w2 ⟨rfl, hw2⟩; clear HH; replace h1 := h1.belowSize hw2; replace hB := hB.trans (hw2.mono hB.size); clear hw2)
    | (go_at_call 118; refine (HBO _ hB).mono ?_; rintro e w3 ⟨rfl, hw3⟩; clear HBO; replace h1 := h1.belowSize hw3; replace hB := hB.trans (hw3.mono hB.size); clear hw3)
    | (with_reducible refine at_list ?_; first
      | (refine wpList_boxRow (op := ⟨some 11, _, _, _, _, _⟩) rfl _ _ rfl _ rfl ?_; intro w1 hw1 hs1 h1; replace hs1 := hs1.symm; have hB := hw1)
      | (refine wpList_loadOp (op := ⟨some 30, _, _, _, _, _⟩) rfl _ _ rfl w.heap.size 0 rfl (hA h.height h.prev h.txr h.str (.slice ah h.mem.length ch)) (bk_head h1) _ Tryz.underlying50 rfl (hA_info _ _ _ _ _) ?_)
      | (refine wpList_loadRow (op := ⟨some 36, _, _, _, _, _⟩) rfl _ _ rfl w.heap.size rfl _ _ h1 _ Tryz.underlying53 rfl (bk_info _ _ _ _ _ _) ?_)
      | (refine wpList_allocRow (op := ⟨some 15, _, _, _, _, _⟩) rfl _ rfl _ zB.1 ?_; intro w4 hw4 hs4 h15; clear hs4; replace h1 := h1.belowSize hw4; have hB4 := hB.trans (hw4.mono hB.size); clear hw4)
      | (refine wpList_storeRow (op := ⟨none, .store 58 (.tmp 15) (.tmp 39), _, _, _, _⟩) rfl _ _ _ rfl w3.heap.size (bc (.slice ba l.length bcp) cf (.slice bm bn.length bcm)) rfl rfl _ _ h15 (by simp only [bc_size]) (bc_info _ _ _) (bc_one _ _ _ _ _ _ _) ?_; intro wc hg5 hs5 hb15; clear hs5; have hne1 := h1.neT h15 (by decide); replace h1 := h1.grown hg5 (fun e => absurd (Option.some.inj e) hne1); have hBc := hB4.trans (below_of_grown hg5 hB.size hB4.size); clear hg5 h15 hB4 hne1)))
  obtain ⟨B15, hB15⟩ : ∃ y, y = w3.heap.size := ⟨_, rfl⟩
  rw [← hB15] at hb15 ⊢
  have hB15w : w.heap.size ≤ B15 := by rw [hB15]; exact hB.size
  clear hB15 hB hw1 hs1
  have h15 := hb15
  have hEs := hE.below hBc
  replace hT := hT.below hBc
  replace hTb := hTb.below hBc
  replace hIb := hIb.below hBc
  replace hIh := hIh.below hBc
  have hIm := hI.below hBc
  have hW2 : 2 ≤ wc.drew.heap.size := Nat.le_trans h2w hBc.size
  try go_frame
  refine wp_region_made (by kernel_rfl) (K2E wc.heap.size 8 14 (fun i w v => (i = 4 → SqS wc.heap.size m w v) ∧ (i = 6 → SqT wc.heap.size t w v)) (fun v w => MkO wc.drew m t ht p l (if cf = true then bn else mem) v w)) (KP wc.heap.size 13 14 10 (fun i vs v => (i = 0 → v = .string ⟨p.toArray⟩) ∧ (i = 1 → v = .int .u64 (ht : Nat)) ∧ (i = 2 → v = .slice am mem.length cm) ∧ (i = 3 → v = .pointer (some ⟨bs, 0, none⟩)) ∧ (i = 5 → v = .pointer (some ⟨bt, 0, none⟩)) ∧ (i = 7 → v = .agg (bc (.slice ba l.length bcp) cf (.slice bm bn.length bcm))) ∧ (i = 9 → v = vs 8) ∧ (i = 10 → (∀ x y u, vs 9 = .tuple #[x, y, u] → v = x)) ∧ (i = 11 → (∀ x y u, vs 9 = .tuple #[x, y, u] → v = y)) ∧ (i = 12 → (∀ x y u, vs 9 = .tuple #[x, y, u] → v = u)) ∧ (i = 15 → v = vs 11) ∧ (i = 16 → v = vs 12))) (K2G wc.heap.size wc.drew 8 (fun i w v => (i = 4 → SqS wc.heap.size m w v) ∧ (i = 6 → SqT wc.heap.size t w v)) (fun v w => MkO wc.drew m t ht p l (if cf = true then bn else mem) v w)) (by kernel_rfl) ⟨Nat.le_refl _, fun _ => ⟨Below.refl _ _, fun _ e => (by cases e)⟩, fun e => (by cases e)⟩ (fun L i w w' vs v _ _ hw hg hE _ => hg.step (fun _ _ _ _ h hb => ⟨fun e => (h.1 e).below hb, fun e => (h.2 e).below hb⟩) (fun _ _ _ h hb => h.below hb) (fun _ _ _ _ _ h h1 h2 h3 h4 => h.store h1 h2 h3) (fun e => hw 8 (by subst e; kernel_rfl)) hE) (fun i vs vs' w v hv h => ?_) (fun i j vs w w' u v hij hwf hE h => h.stay2 hE hij (fun e e2 => (by subst e; subst e2; exact absurd ((show waitsB _ 14 8 = true from by kernel_rfl).symm.trans hwf) (by decide)))) (fun i o ho ac vs wx hk K hK => ?_) (fun vs wx hPr hGn => ?_)
  · obtain ⟨h1, h2, h3⟩ := h
    refine ⟨h1, fun e => ?_, ?_⟩
    · obtain ⟨g, c, k1, k2, k3⟩ := h2 e
      subst e
      exact ⟨g, c, (hv 13 (by kernel_rfl)).symm.trans k1, (hv 10 (by kernel_rfl)).symm.trans k2, k3⟩
    · exact ⟨h3.1, h3.2.1, h3.2.2.1, h3.2.2.2.1, h3.2.2.2.2.1, h3.2.2.2.2.2.1, fun e => (by subst e; exact (h3.2.2.2.2.2.2.1 rfl).trans (hv 8 (by kernel_rfl))), fun e => (by subst e; exact fun x y u k => (h3.2.2.2.2.2.2.2.1 rfl) x y u ((hv 9 (by kernel_rfl)).trans k)), fun e => (by subst e; exact fun x y u k => (h3.2.2.2.2.2.2.2.2.1 rfl) x y u ((hv 9 (by kernel_rfl)).trans k)), fun e => (by subst e; exact fun x y u k => (h3.2.2.2.2.2.2.2.2.2.1 rfl) x y u ((hv 9 (by kernel_rfl)).trans k)), fun e => (by subst e; exact (h3.2.2.2.2.2.2.2.2.2.2.1 rfl).trans (hv 11 (by kernel_rfl))), fun e => (by subst e; exact (h3.2.2.2.2.2.2.2.2.2.2.2 rfl).trans (hv 12 (by kernel_rfl)))⟩
  · obtain ⟨L, hL1, hL2, hL3, hg1, hg2, hg3⟩ := hk.gen
    have hi : i < 17 := (Array.getElem?_eq_some_iff.1 ho).1
    rcases (show i = 0 ∨ i = 1 ∨ i = 2 ∨ i = 3 ∨ i = 4 ∨ i = 5 ∨ i = 6 ∨ i = 7 ∨ i = 8 ∨ i = 9 ∨ i = 10 ∨ i = 11 ∨ i = 12 ∨ i = 13 ∨ i = 14 ∨ i = 15 ∨ i = 16 by omega) with rfl | rfl | rfl | rfl | rfl | rfl | rfl | rfl | rfl | rfl | rfl | rfl | rfl | rfl | rfl | rfl | rfl
    · obtain rfl := Option.some.inj ho
      have hm : L 8 = false := (by cases hq : L 8 with | false => rfl | true => exact absurd ((hL3 8 0 hq (by kernel_rfl)).symm.trans hL1) (by decide))
      have hBw : Below wc.heap.size wc wx := ((Below.refl wc.heap.size wc).drew).trans (hg2 hm).1
      refine wpList_pure rfl _ (run_move _ rfl) (hK _ _ ⟨fun _ _ => Below.refl _ _, fun e => absurd e (by decide), Keep46.below (Below.refl _ _), ⟨fun e => absurd e (by decide), fun e => absurd e (by decide)⟩, fun e => absurd e (by decide), Nat.le_refl _⟩ ⟨fun e => absurd e (by decide), fun e => absurd e (by decide), ⟨fun _ => hk.old 0 (by kernel_rfl), fun e => absurd e (by decide), fun e => absurd e (by decide), fun e => absurd e (by decide), fun e => absurd e (by decide), fun e => absurd e (by decide), fun e => absurd e (by decide), fun e => absurd e (by decide), fun e => absurd e (by decide), fun e => absurd e (by decide), fun e => absurd e (by decide), fun e => absurd e (by decide)⟩⟩)
    · obtain rfl := Option.some.inj ho
      have hm : L 8 = false := (by cases hq : L 8 with | false => rfl | true => exact absurd ((hL3 8 1 hq (by kernel_rfl)).symm.trans hL1) (by decide))
      have hBw : Below wc.heap.size wc wx := ((Below.refl wc.heap.size wc).drew).trans (hg2 hm).1
      refine wpList_pure rfl _ (run_move _ rfl) (hK _ _ ⟨fun _ _ => Below.refl _ _, fun e => absurd e (by decide), Keep46.below (Below.refl _ _), ⟨fun e => absurd e (by decide), fun e => absurd e (by decide)⟩, fun e => absurd e (by decide), Nat.le_refl _⟩ ⟨fun e => absurd e (by decide), fun e => absurd e (by decide), ⟨fun e => absurd e (by decide), fun _ => hk.old 1 (by kernel_rfl), fun e => absurd e (by decide), fun e => absurd e (by decide), fun e => absurd e (by decide), fun e => absurd e (by decide), fun e => absurd e (by decide), fun e => absurd e (by decide), fun e => absurd e (by decide), fun e => absurd e (by decide), fun e => absurd e (by decide), fun e => absurd e (by decide)⟩⟩)
    · obtain rfl := Option.some.inj ho
      have hm : L 8 = false := (by cases hq : L 8 with | false => rfl | true => exact absurd ((hL3 8 2 hq (by kernel_rfl)).symm.trans hL1) (by decide))
      have hBw : Below wc.heap.size wc wx := ((Below.refl wc.heap.size wc).drew).trans (hg2 hm).1
      refine wpList_pure rfl _ (run_move _ rfl) (hK _ _ ⟨fun _ _ => Below.refl _ _, fun e => absurd e (by decide), Keep46.below (Below.refl _ _), ⟨fun e => absurd e (by decide), fun e => absurd e (by decide)⟩, fun e => absurd e (by decide), Nat.le_refl _⟩ ⟨fun e => absurd e (by decide), fun e => absurd e (by decide), ⟨fun e => absurd e (by decide), fun e => absurd e (by decide), fun _ => hk.old 2 (by kernel_rfl), fun e => absurd e (by decide), fun e => absurd e (by decide), fun e => absurd e (by decide), fun e => absurd e (by decide), fun e => absurd e (by decide), fun e => absurd e (by decide), fun e => absurd e (by decide), fun e => absurd e (by decide), fun e => absurd e (by decide)⟩⟩)
    · obtain rfl := Option.some.inj ho
      have hm : L 8 = false := (by cases hq : L 8 with | false => rfl | true => exact absurd ((hL3 4 3 (hL3 8 4 hq (by kernel_rfl)) (by kernel_rfl)).symm.trans hL1) (by decide))
      have hBw : Below wc.heap.size wc wx := ((Below.refl wc.heap.size wc).drew).trans (hg2 hm).1
      refine wpList_pure rfl _ (run_move _ rfl) (hK _ _ ⟨fun _ _ => Below.refl _ _, fun e => absurd e (by decide), Keep46.below (Below.refl _ _), ⟨fun e => absurd e (by decide), fun e => absurd e (by decide)⟩, fun e => absurd e (by decide), Nat.le_refl _⟩ ⟨fun e => absurd e (by decide), fun e => absurd e (by decide), ⟨fun e => absurd e (by decide), fun e => absurd e (by decide), fun e => absurd e (by decide), fun _ => hk.old 3 (by kernel_rfl), fun e => absurd e (by decide), fun e => absurd e (by decide), fun e => absurd e (by decide), fun e => absurd e (by decide), fun e => absurd e (by decide), fun e => absurd e (by decide), fun e => absurd e (by decide), fun e => absurd e (by decide)⟩⟩)
    · obtain rfl := Option.some.inj ho
      have hm : L 8 = false := (by cases hq : L 8 with | false => rfl | true => exact absurd ((hL3 8 4 hq (by kernel_rfl)).symm.trans hL1) (by decide))
      have hBw : Below wc.heap.size wc wx := ((Below.refl wc.heap.size wc).drew).trans (hg2 hm).1
      refine wpList_callR Tryz.func71 (by kernel_rfl) (by kernel_rfl) rfl _ _ rfl #[.pointer (some ⟨bs, 0, none⟩)] (by simp only [List.map_toArray, List.map_cons, List.map_nil, (show ac.eval (.tmp 47) = vs 3 from hk.slot 3 47 (by kernel_rfl) rfl), ((hk.dep 3 (by kernel_rfl)).2.2.2.2.2.1 rfl)]) _ (clone_st bs m wx (hEs.below hBw).st (Nat.le_trans hS.len (by decide))) ?_
      rintro e w1 ⟨rfl, hw1, hc1, hc2⟩
      have hsp1 : (fun i w v => (i = 4 → SqS wc.heap.size m w v) ∧ (i = 6 → SqT wc.heap.size t w v)) 4 w1 (.pointer (some ⟨wx.heap.size + 1, 0, none⟩)) := ⟨fun _ => ⟨_, rfl, Nat.le_succ_of_le hg1, ⟨⟨_, hc1, hc2⟩⟩⟩, fun e => absurd e (by decide)⟩
      exact ⟨_, rfl, hK _ _ ⟨fun _ _ => hw1, fun e => absurd e (by decide), Keep46.below hw1, hsp1, fun e => absurd e (by decide), hw1.size⟩ ⟨fun e => absurd e (by decide), fun e => absurd e (by decide), ⟨fun e => absurd e (by decide), fun e => absurd e (by decide), fun e => absurd e (by decide), fun e => absurd e (by decide), fun e => absurd e (by decide), fun e => absurd e (by decide), fun e => absurd e (by decide), fun e => absurd e (by decide), fun e => absurd e (by decide), fun e => absurd e (by decide), fun e => absurd e (by decide), fun e => absurd e (by decide)⟩⟩⟩
    · obtain rfl := Option.some.inj ho
      have hm : L 8 = false := (by cases hq : L 8 with | false => rfl | true => exact absurd ((hL3 6 5 (hL3 8 6 hq (by kernel_rfl)) (by kernel_rfl)).symm.trans hL1) (by decide))
      have hBw : Below wc.heap.size wc wx := ((Below.refl wc.heap.size wc).drew).trans (hg2 hm).1
      refine wpList_pure rfl _ (run_move _ rfl) (hK _ _ ⟨fun _ _ => Below.refl _ _, fun e => absurd e (by decide), Keep46.below (Below.refl _ _), ⟨fun e => absurd e (by decide), fun e => absurd e (by decide)⟩, fun e => absurd e (by decide), Nat.le_refl _⟩ ⟨fun e => absurd e (by decide), fun e => absurd e (by decide), ⟨fun e => absurd e (by decide), fun e => absurd e (by decide), fun e => absurd e (by decide), fun e => absurd e (by decide), fun _ => hk.old 4 (by kernel_rfl), fun e => absurd e (by decide), fun e => absurd e (by decide), fun e => absurd e (by decide), fun e => absurd e (by decide), fun e => absurd e (by decide), fun e => absurd e (by decide), fun e => absurd e (by decide)⟩⟩)
    · obtain rfl := Option.some.inj ho
      have hm : L 8 = false := (by cases hq : L 8 with | false => rfl | true => exact absurd ((hL3 8 6 hq (by kernel_rfl)).symm.trans hL1) (by decide))
      have hBw : Below wc.heap.size wc wx := ((Below.refl wc.heap.size wc).drew).trans (hg2 hm).1
      obtain ⟨q0, hq1, hq2⟩ := (hEs.below hBw).tr
      refine wpList_callR Tryz.func119 (by kernel_rfl) (by kernel_rfl) rfl _ _ rfl #[.pointer (some ⟨bt, 0, none⟩)] (by simp only [List.map_toArray, List.map_cons, List.map_nil, (show ac.eval (.tmp 49) = vs 5 from hk.slot 5 49 (by kernel_rfl) rfl), ((hk.dep 5 (by kernel_rfl)).2.2.2.2.2.2.1 rfl)]) _ (Sh.tclone_any bt q0 wx hq1) ?_
      rintro e w1 ⟨rfl, hc1, hw1⟩
      have hsp1 : (fun i w v => (i = 4 → SqS wc.heap.size m w v) ∧ (i = 6 → SqT wc.heap.size t w v)) 6 w1 (.pointer (some ⟨wx.heap.size, 0, none⟩)) := ⟨fun e => absurd e (by decide), fun _ => ⟨_, q0, rfl, hg1, hc1, hq2.below hw1⟩⟩
      exact ⟨_, rfl, hK _ _ ⟨fun _ _ => hw1, fun e => absurd e (by decide), Keep46.below hw1, hsp1, fun e => absurd e (by decide), hw1.size⟩ ⟨fun e => absurd e (by decide), fun e => absurd e (by decide), ⟨fun e => absurd e (by decide), fun e => absurd e (by decide), fun e => absurd e (by decide), fun e => absurd e (by decide), fun e => absurd e (by decide), fun e => absurd e (by decide), fun e => absurd e (by decide), fun e => absurd e (by decide), fun e => absurd e (by decide), fun e => absurd e (by decide), fun e => absurd e (by decide), fun e => absurd e (by decide)⟩⟩⟩
    · obtain rfl := Option.some.inj ho
      have hm : L 8 = false := (by cases hq : L 8 with | false => rfl | true => exact absurd ((hL3 8 7 hq (by kernel_rfl)).symm.trans hL1) (by decide))
      have hBw : Below wc.heap.size wc wx := ((Below.refl wc.heap.size wc).drew).trans (hg2 hm).1
      refine wpList_loadRow rfl _ _ rfl B15 (hk.old 15 (by kernel_rfl)) _ _ (h15.belowSize hBw) _ Tryz.underlying58 rfl (bc_info _ _ _) (hK _ _ ⟨fun _ _ => Below.refl _ _, fun e => absurd e (by decide), Keep46.below (Below.refl _ _), ⟨fun e => absurd e (by decide), fun e => absurd e (by decide)⟩, fun e => absurd e (by decide), Nat.le_refl _⟩ ⟨fun e => absurd e (by decide), fun e => absurd e (by decide), ⟨fun e => absurd e (by decide), fun e => absurd e (by decide), fun e => absurd e (by decide), fun e => absurd e (by decide), fun e => absurd e (by decide), fun _ => rfl, fun e => absurd e (by decide), fun e => absurd e (by decide), fun e => absurd e (by decide), fun e => absurd e (by decide), fun e => absurd e (by decide), fun e => absurd e (by decide)⟩⟩)
    · obtain rfl := Option.some.inj ho
      have s0 := hk.slot 0 44 (by kernel_rfl) rfl
      have s1 := hk.slot 1 45 (by kernel_rfl) rfl
      have s2 := hk.slot 2 46 (by kernel_rfl) rfl
      have s4 := hk.slot 4 48 (by kernel_rfl) rfl
      have s6 := hk.slot 6 50 (by kernel_rfl) rfl
      have s7 := hk.slot 7 51 (by kernel_rfl) rfl
      have hBw : Below wc.heap.size wc wx := ((Below.refl wc.heap.size wc).drew).trans (hg2 hL1).1
      have hBd : Below wc.drew.heap.size wc.drew wx := (hg2 hL1).1
      obtain ⟨bu, eu, hbu, hSTu⟩ := ((hg2 hL1).2 4 (hL2 4 (by kernel_rfl))).1 rfl
      obtain ⟨bv, qv, evv, hbv, hTrv, hHFv⟩ := ((hg2 hL1).2 6 (hL2 6 (by kernel_rfl))).2 rfl
      rw [eu] at s4
      rw [evv] at s6
      have hEx : EX wx bu bv m t := ⟨hSTu, ⟨qv, hTrv, hHFv⟩, (hEs.below hBw).glob, ⟨Nat.le_trans hW2 hbu, Nat.le_trans hW2 hbv⟩⟩
      rw [((hk.dep 0 (by kernel_rfl)).2.2.1 rfl)] at s0
      rw [((hk.dep 1 (by kernel_rfl)).2.2.2.1 rfl)] at s1
      rw [((hk.dep 2 (by kernel_rfl)).2.2.2.2.1 rfl)] at s2
      rw [((hk.dep 7 (by kernel_rfl)).2.2.2.2.2.2.2.1 rfl)] at s7
      refine wpList_callR Tryz.func59 (by kernel_rfl) (by kernel_rfl) rfl _ _ rfl _ (by simp only [List.map_toArray, List.map_cons, List.map_nil, Act.eval, s0, s1, s2, s4, s6, s7] <;> rfl) _ (make_any ⟨l, cf, bn⟩ hcb p hp ht hh mem hmem am cm bu bv m t ba bm bcp bcm wx hEx hS hC hn (hTb.below hBw) (hIm.below hBw) (hIb.below hBw)) ?_
      intro e w1 hP
      obtain ⟨hk1, hk2⟩ := hP.keep hEx
      obtain ⟨v, rfl, hv0⟩ := hP.mkQ hBd hW2
      have hv : MkO wc.drew m t ht p l (if cf = true then bn else mem) v w1 := ⟨bu, bv, hbu, hbv, hv0⟩
      exact ⟨_, rfl, hK _ _ ⟨fun e => absurd rfl e, fun e => absurd e (by decide), hk1, ⟨fun e => absurd e (by decide), fun e => absurd e (by decide)⟩, fun _ => hv, hk2⟩ ⟨fun e => absurd e (by decide), fun e => absurd e (by decide), ⟨fun e => absurd e (by decide), fun e => absurd e (by decide), fun e => absurd e (by decide), fun e => absurd e (by decide), fun e => absurd e (by decide), fun e => absurd e (by decide), fun e => absurd e (by decide), fun e => absurd e (by decide), fun e => absurd e (by decide), fun e => absurd e (by decide), fun e => absurd e (by decide), fun e => absurd e (by decide)⟩⟩⟩
    · obtain rfl := Option.some.inj ho
      refine wpList_pure rfl _ (run_move _ rfl) (hK _ _ ⟨fun _ _ => Below.refl _ _, fun e => absurd e (by decide), Keep46.below (Below.refl _ _), ⟨fun e => absurd e (by decide), fun e => absurd e (by decide)⟩, fun e => absurd e (by decide), Nat.le_refl _⟩ ⟨fun e => absurd e (by decide), fun e => absurd e (by decide), ⟨fun e => absurd e (by decide), fun e => absurd e (by decide), fun e => absurd e (by decide), fun e => absurd e (by decide), fun e => absurd e (by decide), fun e => absurd e (by decide), fun _ => (show ac.eval (.tmp 52) = vs 8 from hk.slot 8 52 (by kernel_rfl) rfl), fun e => absurd e (by decide), fun e => absurd e (by decide), fun e => absurd e (by decide), fun e => absurd e (by decide), fun e => absurd e (by decide)⟩⟩)
    · obtain rfl := Option.some.inj ho
      have hm : L 8 = true := hL3 9 8 (hL2 9 (by kernel_rfl)) (by kernel_rfl)
      obtain ⟨_, _, _, _, _, _, _, _, _, _, _, ev, _⟩ := hg3 hm
      have sm := (show ac.eval (.tmp 43) = vs 9 from hk.slot 9 43 (by kernel_rfl) rfl)
      have em := ((hk.dep 9 (by kernel_rfl)).2.2.2.2.2.2.2.2.1 rfl)
      refine wpList_pure rfl _ (run_extract _ _ rfl _ (sm.trans (em.trans ev)) _ rfl) (hK _ _ ⟨fun _ _ => Below.refl _ _, fun e => absurd e (by decide), Keep46.below (Below.refl _ _), ⟨fun e => absurd e (by decide), fun e => absurd e (by decide)⟩, fun e => absurd e (by decide), Nat.le_refl _⟩ ⟨fun e => absurd e (by decide), fun e => absurd e (by decide), ⟨fun e => absurd e (by decide), fun e => absurd e (by decide), fun e => absurd e (by decide), fun e => absurd e (by decide), fun e => absurd e (by decide), fun e => absurd e (by decide), fun e => absurd e (by decide), fun _ => fun x y u k => (by have k2 := (em.trans ev).symm.trans k; cases k2; rfl), fun e => absurd e (by decide), fun e => absurd e (by decide), fun e => absurd e (by decide), fun e => absurd e (by decide)⟩⟩)
    · obtain rfl := Option.some.inj ho
      have hm : L 8 = true := hL3 9 8 (hL2 9 (by kernel_rfl)) (by kernel_rfl)
      obtain ⟨_, _, _, _, _, _, _, _, _, _, _, ev, _⟩ := hg3 hm
      have sm := (show ac.eval (.tmp 43) = vs 9 from hk.slot 9 43 (by kernel_rfl) rfl)
      have em := ((hk.dep 9 (by kernel_rfl)).2.2.2.2.2.2.2.2.1 rfl)
      refine wpList_pure rfl _ (run_extract _ _ rfl _ (sm.trans (em.trans ev)) _ rfl) (hK _ _ ⟨fun _ _ => Below.refl _ _, fun e => absurd e (by decide), Keep46.below (Below.refl _ _), ⟨fun e => absurd e (by decide), fun e => absurd e (by decide)⟩, fun e => absurd e (by decide), Nat.le_refl _⟩ ⟨fun e => absurd e (by decide), fun e => absurd e (by decide), ⟨fun e => absurd e (by decide), fun e => absurd e (by decide), fun e => absurd e (by decide), fun e => absurd e (by decide), fun e => absurd e (by decide), fun e => absurd e (by decide), fun e => absurd e (by decide), fun e => absurd e (by decide), fun _ => fun x y u k => (by have k2 := (em.trans ev).symm.trans k; cases k2; rfl), fun e => absurd e (by decide), fun e => absurd e (by decide), fun e => absurd e (by decide)⟩⟩)
    · obtain rfl := Option.some.inj ho
      have hm : L 8 = true := hL3 9 8 (hL2 9 (by kernel_rfl)) (by kernel_rfl)
      obtain ⟨_, _, _, _, _, _, _, _, _, _, _, ev, _⟩ := hg3 hm
      have sm := (show ac.eval (.tmp 43) = vs 9 from hk.slot 9 43 (by kernel_rfl) rfl)
      have em := ((hk.dep 9 (by kernel_rfl)).2.2.2.2.2.2.2.2.1 rfl)
      refine wpList_pure rfl _ (run_extract _ _ rfl _ (sm.trans (em.trans ev)) _ rfl) (hK _ _ ⟨fun _ _ => Below.refl _ _, fun e => absurd e (by decide), Keep46.below (Below.refl _ _), ⟨fun e => absurd e (by decide), fun e => absurd e (by decide)⟩, fun e => absurd e (by decide), Nat.le_refl _⟩ ⟨fun e => absurd e (by decide), fun e => absurd e (by decide), ⟨fun e => absurd e (by decide), fun e => absurd e (by decide), fun e => absurd e (by decide), fun e => absurd e (by decide), fun e => absurd e (by decide), fun e => absurd e (by decide), fun e => absurd e (by decide), fun e => absurd e (by decide), fun e => absurd e (by decide), fun _ => fun x y u k => (by have k2 := (em.trans ev).symm.trans k; cases k2; rfl), fun e => absurd e (by decide), fun e => absurd e (by decide)⟩⟩)
    · obtain rfl := Option.some.inj ho
      refine wpList_allocRow rfl _ rfl _ zBlk.1 ?_
      intro w1 hw1 _ hb1
      exact hK _ _ ⟨fun _ _ => hw1, fun e => absurd e (by decide), Keep46.below hw1, ⟨fun e => absurd e (by decide), fun e => absurd e (by decide)⟩, fun e => absurd e (by decide), hw1.size⟩ ⟨fun _ => ⟨_, _, rfl, hg1, hb1, rfl⟩, fun e => absurd e (by decide), ⟨fun e => absurd e (by decide), fun e => absurd e (by decide), fun e => absurd e (by decide), fun e => absurd e (by decide), fun e => absurd e (by decide), fun e => absurd e (by decide), fun e => absurd e (by decide), fun e => absurd e (by decide), fun e => absurd e (by decide), fun e => absurd e (by decide), fun e => absurd e (by decide), fun e => absurd e (by decide)⟩⟩
    · obtain rfl := Option.some.inj ho
      have hm : L 8 = true := hL2 8 (by kernel_rfl)
      obtain ⟨_, _, _, _, _, _, _, _, _, _, _, ev, _⟩ := hg3 hm
      obtain ⟨g, c, ea, hgN, hb, hcs⟩ := (hk.dep 13 (by kernel_rfl)).1 rfl
      have em := ((hk.dep 9 (by kernel_rfl)).2.2.2.2.2.2.2.2.1 rfl)
      have e0 := ((hk.dep 10 (by kernel_rfl)).2.2.2.2.2.2.2.2.2.1 rfl) _ _ _ (em.trans ev)
      refine wpList_storeRow rfl _ _ _ rfl g _ ((show ac.eval (.tmp 17) = vs 13 from hk.slot 13 17 (by kernel_rfl) rfl).trans ea) ((show ac.eval (.tmp 53) = vs 10 from hk.slot 10 53 (by kernel_rfl) rfl).trans e0) _ _ hb (by rw [hcs]; rfl) (bk_info _ _ _ _ _ _) (bk_one _ _ _ _ _ _ _ _ _ _) ?_
      intro w1 hgr hsz hb1
      exact hK _ _ ⟨fun _ e => absurd rfl e, fun _ => ⟨g, c, hgN, hb, hgr⟩, Keep46.store hgr hb1 rfl, ⟨fun e => absurd e (by decide), fun e => absurd e (by decide)⟩, fun e => absurd e (by decide), hgr.size⟩ ⟨fun e => absurd e (by decide), fun _ => ⟨g, _, ea, e0, hgN, hb1⟩, ⟨fun e => absurd e (by decide), fun e => absurd e (by decide), fun e => absurd e (by decide), fun e => absurd e (by decide), fun e => absurd e (by decide), fun e => absurd e (by decide), fun e => absurd e (by decide), fun e => absurd e (by decide), fun e => absurd e (by decide), fun e => absurd e (by decide), fun e => absurd e (by decide), fun e => absurd e (by decide)⟩⟩
    · obtain rfl := Option.some.inj ho
      refine wpList_pure rfl _ (run_assign _ rfl) (hK _ _ ⟨fun _ _ => Below.refl _ _, fun e => absurd e (by decide), Keep46.below (Below.refl _ _), ⟨fun e => absurd e (by decide), fun e => absurd e (by decide)⟩, fun e => absurd e (by decide), Nat.le_refl _⟩ ⟨fun e => absurd e (by decide), fun e => absurd e (by decide), ⟨fun e => absurd e (by decide), fun e => absurd e (by decide), fun e => absurd e (by decide), fun e => absurd e (by decide), fun e => absurd e (by decide), fun e => absurd e (by decide), fun e => absurd e (by decide), fun e => absurd e (by decide), fun e => absurd e (by decide), fun e => absurd e (by decide), fun _ => (show ac.eval (.tmp 54) = vs 11 from hk.slot 11 54 (by kernel_rfl) rfl), fun e => absurd e (by decide)⟩⟩)
    · obtain rfl := Option.some.inj ho
      refine wpList_pure rfl _ (run_assign _ rfl) (hK _ _ ⟨fun _ _ => Below.refl _ _, fun e => absurd e (by decide), Keep46.below (Below.refl _ _), ⟨fun e => absurd e (by decide), fun e => absurd e (by decide)⟩, fun e => absurd e (by decide), Nat.le_refl _⟩ ⟨fun e => absurd e (by decide), fun e => absurd e (by decide), ⟨fun e => absurd e (by decide), fun e => absurd e (by decide), fun e => absurd e (by decide), fun e => absurd e (by decide), fun e => absurd e (by decide), fun e => absurd e (by decide), fun e => absurd e (by decide), fun e => absurd e (by decide), fun e => absurd e (by decide), fun e => absurd e (by decide), fun e => absurd e (by decide), fun _ => (show ac.eval (.tmp 55) = vs 12 from hk.slot 12 55 (by kernel_rfl) rfl)⟩⟩)
  obtain ⟨Lx, hLx, -, -, hQ⟩ := hGn
  replace hQ := hQ (hLx 8 (show 8 < 17 by decide))
  obtain ⟨bu, bv, hbu, hbv, lo, a10, cap10, st10, dls, gm, cmk, ev, hD, hCB, hgm⟩ := hQ
  have em10 := ((hPr 9 (show 9 < 17 by decide)).2.2.2.2.2.2.2.2.1 rfl).trans ev
  have x010 := ((hPr 10 (show 10 < 17 by decide)).2.2.2.2.2.2.2.2.2.1 rfl) _ _ _ em10
  have x210 := ((hPr 16 (show 16 < 17 by decide)).2.2.2.2.2.2.2.2.2.2.2.2.2 rfl).trans (((hPr 12 (show 12 < 17 by decide)).2.2.2.2.2.2.2.2.2.2.2.1 rfl) _ _ _ em10)
  obtain ⟨g10, c10, eg10, ec10, hgN10, hb10⟩ := (hPr 14 (show 14 < 17 by decide)).2.1 rfl
  have ec210 := x010.symm.trans ec10
  simp only [Value.agg.injEq] at ec210
  subst ec210
  clear hPr hLx Lx ec10 x010 em10 ev
  simp only [dstsR, List.map_cons, List.map_nil, puts, Nat.reduceAdd, Act.put, List.setIfInBounds_toArray, List.set_cons_zero, List.set_cons_succ, x210, eg10]
  clear x210 eg10
  have dr : Below wc.heap.size wc wc.drew := (Below.refl _ _).drew
  have hBx := dr.trans (hD.two.to_below hbu hbv (Nat.le_refl _))
  obtain ⟨ax, cx, e1, hTA⟩ := TXL.ta hD.dn hD.tx
  simp only [Value.slice.injEq, true_and] at e1
  obtain ⟨e1, e2⟩ := e1
  subst e1 e2
  have hE10 := hEs.below hBx
  replace hTb := hTb.below hBx
  replace hT := hT.below hBx
  replace hIh := hIh.below hBx
  replace h1 := h1.belowSize hBx
  replace h15 := h15.belowSize hBx
  have hB10 := hBc.trans (hBx.mono hBc.size)
  have hI10 := hCB.ia
  clear hD hCB hgm hgN10 hBx dr hEs hb15 hbu hbv hIb hIm hI hE hBc hW2
  generalize rootD Sh.digest (bys (exD m l)) = Rx at *
  generalize (exR m t l).hash Sh.TgD = Ry at *
  generalize exD m l = D at *
  generalize (if cf = true then bn else mem) = mz at *
  go_simp
  go_wp2_with (first
    | (go_at_call 22; refine (HSm _ _ _ _ _ _ _ _ _ hI10 hIh hTA hT).mono ?_; rintro e wd ⟨rfl, hwd⟩; clear HSm; replace hE10 := hE10.below hwd; replace hTb := hTb.below hwd; replace h15 := h15.belowSize hwd; replace hB10 := hB10.trans (hwd.mono hB10.size); clear hwd)
    | (go_at_call 106; refine (HX _ hE10 hTb).mono ?_; rintro e we ⟨lo2, sd2, st2, dls2, rfl, hD2⟩; clear HX)
    | (with_reducible refine at_list ?_; first
      | (refine wpList_loadRow (op := ⟨some 59, _, _, _, _, _⟩) rfl _ _ rfl g10 rfl _ _ hb10 _ Tryz.underlying53 rfl (bk_info _ _ _ _ _ _) ?_)
      | (refine wpList_loadRow (op := ⟨some 60, _, _, _, _, _⟩) rfl _ _ rfl w.heap.size rfl _ _ h1 _ Tryz.underlying53 rfl (bk_info _ _ _ _ _ _) ?_)
      | (refine wpList_loadRow (op := ⟨some 65, _, _, _, _, _⟩) rfl _ _ rfl B15 rfl _ _ h15 _ Tryz.underlying58 rfl (bc_info _ _ _) ?_)))
  go_ret
  exact ⟨rfl, hD2.ex, ((Two.refl bs bt w).below hB10).trans hD2.two⟩
set_option maxRecDepth 100000 in
set_option maxHeartbeats 8000000 in
theorem check_other (h : HH) (hok : chkH h = 0) (l : List TX) (cf : Bool) (bn : List Int) (p : List UInt8) (hp : p.length = 32) (ht : Nat) (hh : ht ≠ 0) (mem : List Int) (hmem : okM mem = true) (am ah a : Option Addr) (cm ch cap : Nat) (ba bm : Option Addr) (bcp bcm : Nat) (bs bt : Nat) (m : List KV) (t : Tr) (w : World) (hE : EX w bs bt m t) (hS : Sz m) (hT : TA w a l) (hIh : IA w ah h.mem) (hI : IA w am mem) (hTb : TA w ba l) (hIb : IA w bm bn)
    (HBO : ∀ w1, Below w.heap.size w w1 → Calls Tryz.prog 118 #[.agg (bk h.height h.prev h.txr h.str (.slice ah h.mem.length ch) (.slice a l.length cap)), .slice am mem.length cm] w1 (fun e w' => e = .returned (.tuple #[.agg (bc (.slice ba l.length bcp) cf (.slice bm bn.length bcm)), .bool true]) ∧ Below w1.heap.size w1 w')) (hC : Tr.Canon 0 t) (hn : t.cnt ≤ 3300) (hcb : chkB ⟨l, cf, bn⟩ = 0) (hsame : ¬ (hMk m t l ht p (if cf = true then bn else mem) = h ∧ exD m l = l)) :
    Calls Tryz.prog 69 #[.string ⟨p.toArray⟩, .int .u64 (ht : Nat), .slice am mem.length cm, .pointer (some ⟨bs, 0, none⟩), .pointer (some ⟨bt, 0, none⟩), .agg (bk h.height h.prev h.txr h.str (.slice ah h.mem.length ch) (.slice a l.length cap))] w fun e w' => e = .returned (.int .i64 90) ∧ Below w.heap.size w w' := by
  obtain ⟨hokl, hl16, _, _⟩ := chkB_zero hcb
  dsimp only at hokl hl16
  have hmm := mem_of_chk hcb hmem
  obtain ⟨-, hm16⟩ := okM_pos hmm
  have hDl : (exD m l).length ≤ 16 := Nat.le_trans (exD_len m l) hl16
  have HX := fun w1 (h1 : EX w1 bs bt m t) (h2 : TA w1 ba l) => exec_any l hokl hl16 bs bt m t ba bcp cf bm bn.length bcm w1 h1 hS hC hn h2
  have HSm0 := fun ga gb gc gd ca cb cc cd w1 (k1 : IA w1 ga (if cf = true then bn else mem)) (k2 : IA w1 gb h.mem) (k3 : TA w1 gc (exD m l)) (k4 : TA w1 gd l) => sameB_any (hMk m t l ht p (if cf = true then bn else mem)) h (exD m l) l (by omega) (fun x hx => Nat.le_trans (okTx_of (hokl x (exD_mem hx))).len1 (by decide)) ga gb gc gd ca cb cc cd w1 k1 k2 (by show (if cf = true then bn else mem).length ≤ _; omega) k3 k4
  have HSm : ∀ ga gb gc gd ca cb cc cd w1, IA w1 ga (if cf = true then bn else mem) → IA w1 gb h.mem → TA w1 gc (exD m l) → TA w1 gd l → Calls Tryz.prog 22 #[.agg (bk ht p (rootD Sh.digest (bys (exD m l))) ((exR m t l).hash Sh.TgD) (.slice ga (if cf = true then bn else mem).length ca) (.slice gc (exD m l).length cc)), .agg (bk h.height h.prev h.txr h.str (.slice gb h.mem.length cb) (.slice gd l.length cd))] w1 (fun e w' => e = .returned (.bool false) ∧ Below w1.heap.size w1 w') := fun ga gb gc gd ca cb cc cd w1 k1 k2 k3 k4 => (HSm0 ga gb gc gd ca cb cc cd w1 k1 k2 k3 k4).mono fun e w' ⟨yb, he, hy, hb⟩ => by
    cases yb; exact ⟨he, hb⟩; exact absurd (hy.1 rfl) hsame
  clear HSm0 hsame hmm hm16 hDl
  unfold ExP at HX
  have HP := fun w1 (h : IA w1 am mem) => place_any p ht mem am cm (some ⟨bs, 0, none⟩) (some ⟨bt, 0, none⟩) w1 h
  have hpl : plE (some ⟨bs, 0, none⟩) (some ⟨bt, 0, none⟩) ht p mem = 0 := if_neg (by simp [hh, hp, hmem])
  rw [hpl] at HP
  have HH := fun w1 (k : IA w1 ah h.mem) => checkH_any h ah ch w1 k
  change ∀ w1, IA w1 ah h.mem → Calls Tryz.prog 117 #[.agg (hA h.height h.prev h.txr h.str (.slice ah h.mem.length ch))] w1 _ at HH
  rw [hok] at HH
  have hbs := hE.lts
  have hbt := hE.ltt
  have h2w := hE.glob.two
  clear hpl hok
  go_enter Tryz.func69, Tryz.ntmps69
  go_upto_region 10 with (first
    | (go_at_call 105; refine (HP _ (hI.below hB)).mono ?_; rintro e w' ⟨rfl, hw'⟩; have hw6 := hw'.symm; subst hw6; clear HP hw')
    | (go_at_call 117; refine (HH _ (hIh.below hB)).mono ?_; rintro e w2 ⟨rfl, hw2⟩; clear HH; replace h1 := h1.belowSize hw2; replace hB := hB.trans (hw2.mono hB.size); clear hw2)
    | (go_at_call 118; refine (HBO _ hB).mono ?_; rintro e w3 ⟨rfl, hw3⟩; clear HBO; replace h1 := h1.belowSize hw3; replace hB := hB.trans (hw3.mono hB.size); clear hw3)
    | (with_reducible refine at_list ?_; first
      | (refine wpList_boxRow (op := ⟨some 11, _, _, _, _, _⟩) rfl _ _ rfl _ rfl ?_; intro w1 hw1 hs1 h1; replace hs1 := hs1.symm; have hB := hw1)
      | (refine wpList_loadOp (op := ⟨some 30, _, _, _, _, _⟩) rfl _ _ rfl w.heap.size 0 rfl (hA h.height h.prev h.txr h.str (.slice ah h.mem.length ch)) (bk_head h1) _ Tryz.underlying50 rfl (hA_info _ _ _ _ _) ?_)
      | (refine wpList_loadRow (op := ⟨some 36, _, _, _, _, _⟩) rfl _ _ rfl w.heap.size rfl _ _ h1 _ Tryz.underlying53 rfl (bk_info _ _ _ _ _ _) ?_)
      | (refine wpList_allocRow (op := ⟨some 15, _, _, _, _, _⟩) rfl _ rfl _ zB.1 ?_; intro w4 hw4 hs4 h15; clear hs4; replace h1 := h1.belowSize hw4; have hB4 := hB.trans (hw4.mono hB.size); clear hw4)
      | (refine wpList_storeRow (op := ⟨none, .store 58 (.tmp 15) (.tmp 39), _, _, _, _⟩) rfl _ _ _ rfl w3.heap.size (bc (.slice ba l.length bcp) cf (.slice bm bn.length bcm)) rfl rfl _ _ h15 (by simp only [bc_size]) (bc_info _ _ _) (bc_one _ _ _ _ _ _ _) ?_; intro wc hg5 hs5 hb15; clear hs5; have hne1 := h1.neT h15 (by decide); replace h1 := h1.grown hg5 (fun e => absurd (Option.some.inj e) hne1); have hBc := hB4.trans (below_of_grown hg5 hB.size hB4.size); clear hg5 h15 hB4 hne1)))
  obtain ⟨B15, hB15⟩ : ∃ y, y = w3.heap.size := ⟨_, rfl⟩
  rw [← hB15] at hb15 ⊢
  have hB15w : w.heap.size ≤ B15 := by rw [hB15]; exact hB.size
  clear hB15 hB hw1 hs1
  have h15 := hb15
  have hEs := hE.below hBc
  replace hT := hT.below hBc
  replace hTb := hTb.below hBc
  replace hIb := hIb.below hBc
  replace hIh := hIh.below hBc
  have hIm := hI.below hBc
  have hW2 : 2 ≤ wc.drew.heap.size := Nat.le_trans h2w hBc.size
  try go_frame
  refine wp_region_made (by kernel_rfl) (K2E wc.heap.size 8 14 (fun i w v => (i = 4 → SqS wc.heap.size m w v) ∧ (i = 6 → SqT wc.heap.size t w v)) (fun v w => MkO wc.drew m t ht p l (if cf = true then bn else mem) v w)) (KP wc.heap.size 13 14 10 (fun i vs v => (i = 0 → v = .string ⟨p.toArray⟩) ∧ (i = 1 → v = .int .u64 (ht : Nat)) ∧ (i = 2 → v = .slice am mem.length cm) ∧ (i = 3 → v = .pointer (some ⟨bs, 0, none⟩)) ∧ (i = 5 → v = .pointer (some ⟨bt, 0, none⟩)) ∧ (i = 7 → v = .agg (bc (.slice ba l.length bcp) cf (.slice bm bn.length bcm))) ∧ (i = 9 → v = vs 8) ∧ (i = 10 → (∀ x y u, vs 9 = .tuple #[x, y, u] → v = x)) ∧ (i = 11 → (∀ x y u, vs 9 = .tuple #[x, y, u] → v = y)) ∧ (i = 12 → (∀ x y u, vs 9 = .tuple #[x, y, u] → v = u)) ∧ (i = 15 → v = vs 11) ∧ (i = 16 → v = vs 12))) (K2G wc.heap.size wc.drew 8 (fun i w v => (i = 4 → SqS wc.heap.size m w v) ∧ (i = 6 → SqT wc.heap.size t w v)) (fun v w => MkO wc.drew m t ht p l (if cf = true then bn else mem) v w)) (by kernel_rfl) ⟨Nat.le_refl _, fun _ => ⟨Below.refl _ _, fun _ e => (by cases e)⟩, fun e => (by cases e)⟩ (fun L i w w' vs v _ _ hw hg hE _ => hg.step (fun _ _ _ _ h hb => ⟨fun e => (h.1 e).below hb, fun e => (h.2 e).below hb⟩) (fun _ _ _ h hb => h.below hb) (fun _ _ _ _ _ h h1 h2 h3 h4 => h.store h1 h2 h3) (fun e => hw 8 (by subst e; kernel_rfl)) hE) (fun i vs vs' w v hv h => ?_) (fun i j vs w w' u v hij hwf hE h => h.stay2 hE hij (fun e e2 => (by subst e; subst e2; exact absurd ((show waitsB _ 14 8 = true from by kernel_rfl).symm.trans hwf) (by decide)))) (fun i o ho ac vs wx hk K hK => ?_) (fun vs wx hPr hGn => ?_)
  · obtain ⟨h1, h2, h3⟩ := h
    refine ⟨h1, fun e => ?_, ?_⟩
    · obtain ⟨g, c, k1, k2, k3⟩ := h2 e
      subst e
      exact ⟨g, c, (hv 13 (by kernel_rfl)).symm.trans k1, (hv 10 (by kernel_rfl)).symm.trans k2, k3⟩
    · exact ⟨h3.1, h3.2.1, h3.2.2.1, h3.2.2.2.1, h3.2.2.2.2.1, h3.2.2.2.2.2.1, fun e => (by subst e; exact (h3.2.2.2.2.2.2.1 rfl).trans (hv 8 (by kernel_rfl))), fun e => (by subst e; exact fun x y u k => (h3.2.2.2.2.2.2.2.1 rfl) x y u ((hv 9 (by kernel_rfl)).trans k)), fun e => (by subst e; exact fun x y u k => (h3.2.2.2.2.2.2.2.2.1 rfl) x y u ((hv 9 (by kernel_rfl)).trans k)), fun e => (by subst e; exact fun x y u k => (h3.2.2.2.2.2.2.2.2.2.1 rfl) x y u ((hv 9 (by kernel_rfl)).trans k)), fun e => (by subst e; exact (h3.2.2.2.2.2.2.2.2.2.2.1 rfl).trans (hv 11 (by kernel_rfl))), fun e => (by subst e; exact (h3.2.2.2.2.2.2.2.2.2.2.2 rfl).trans (hv 12 (by kernel_rfl)))⟩
  · obtain ⟨L, hL1, hL2, hL3, hg1, hg2, hg3⟩ := hk.gen
    have hi : i < 17 := (Array.getElem?_eq_some_iff.1 ho).1
    rcases (show i = 0 ∨ i = 1 ∨ i = 2 ∨ i = 3 ∨ i = 4 ∨ i = 5 ∨ i = 6 ∨ i = 7 ∨ i = 8 ∨ i = 9 ∨ i = 10 ∨ i = 11 ∨ i = 12 ∨ i = 13 ∨ i = 14 ∨ i = 15 ∨ i = 16 by omega) with rfl | rfl | rfl | rfl | rfl | rfl | rfl | rfl | rfl | rfl | rfl | rfl | rfl | rfl | rfl | rfl | rfl
    · obtain rfl := Option.some.inj ho
      have hm : L 8 = false := (by cases hq : L 8 with | false => rfl | true => exact absurd ((hL3 8 0 hq (by kernel_rfl)).symm.trans hL1) (by decide))
      have hBw : Below wc.heap.size wc wx := ((Below.refl wc.heap.size wc).drew).trans (hg2 hm).1
      refine wpList_pure rfl _ (run_move _ rfl) (hK _ _ ⟨fun _ _ => Below.refl _ _, fun e => absurd e (by decide), Keep46.below (Below.refl _ _), ⟨fun e => absurd e (by decide), fun e => absurd e (by decide)⟩, fun e => absurd e (by decide), Nat.le_refl _⟩ ⟨fun e => absurd e (by decide), fun e => absurd e (by decide), ⟨fun _ => hk.old 0 (by kernel_rfl), fun e => absurd e (by decide), fun e => absurd e (by decide), fun e => absurd e (by decide), fun e => absurd e (by decide), fun e => absurd e (by decide), fun e => absurd e (by decide), fun e => absurd e (by decide), fun e => absurd e (by decide), fun e => absurd e (by decide), fun e => absurd e (by decide), fun e => absurd e (by decide)⟩⟩)
    · obtain rfl := Option.some.inj ho
      have hm : L 8 = false := (by cases hq : L 8 with | false => rfl | true => exact absurd ((hL3 8 1 hq (by kernel_rfl)).symm.trans hL1) (by decide))
      have hBw : Below wc.heap.size wc wx := ((Below.refl wc.heap.size wc).drew).trans (hg2 hm).1
      refine wpList_pure rfl _ (run_move _ rfl) (hK _ _ ⟨fun _ _ => Below.refl _ _, fun e => absurd e (by decide), Keep46.below (Below.refl _ _), ⟨fun e => absurd e (by decide), fun e => absurd e (by decide)⟩, fun e => absurd e (by decide), Nat.le_refl _⟩ ⟨fun e => absurd e (by decide), fun e => absurd e (by decide), ⟨fun e => absurd e (by decide), fun _ => hk.old 1 (by kernel_rfl), fun e => absurd e (by decide), fun e => absurd e (by decide), fun e => absurd e (by decide), fun e => absurd e (by decide), fun e => absurd e (by decide), fun e => absurd e (by decide), fun e => absurd e (by decide), fun e => absurd e (by decide), fun e => absurd e (by decide), fun e => absurd e (by decide)⟩⟩)
    · obtain rfl := Option.some.inj ho
      have hm : L 8 = false := (by cases hq : L 8 with | false => rfl | true => exact absurd ((hL3 8 2 hq (by kernel_rfl)).symm.trans hL1) (by decide))
      have hBw : Below wc.heap.size wc wx := ((Below.refl wc.heap.size wc).drew).trans (hg2 hm).1
      refine wpList_pure rfl _ (run_move _ rfl) (hK _ _ ⟨fun _ _ => Below.refl _ _, fun e => absurd e (by decide), Keep46.below (Below.refl _ _), ⟨fun e => absurd e (by decide), fun e => absurd e (by decide)⟩, fun e => absurd e (by decide), Nat.le_refl _⟩ ⟨fun e => absurd e (by decide), fun e => absurd e (by decide), ⟨fun e => absurd e (by decide), fun e => absurd e (by decide), fun _ => hk.old 2 (by kernel_rfl), fun e => absurd e (by decide), fun e => absurd e (by decide), fun e => absurd e (by decide), fun e => absurd e (by decide), fun e => absurd e (by decide), fun e => absurd e (by decide), fun e => absurd e (by decide), fun e => absurd e (by decide), fun e => absurd e (by decide)⟩⟩)
    · obtain rfl := Option.some.inj ho
      have hm : L 8 = false := (by cases hq : L 8 with | false => rfl | true => exact absurd ((hL3 4 3 (hL3 8 4 hq (by kernel_rfl)) (by kernel_rfl)).symm.trans hL1) (by decide))
      have hBw : Below wc.heap.size wc wx := ((Below.refl wc.heap.size wc).drew).trans (hg2 hm).1
      refine wpList_pure rfl _ (run_move _ rfl) (hK _ _ ⟨fun _ _ => Below.refl _ _, fun e => absurd e (by decide), Keep46.below (Below.refl _ _), ⟨fun e => absurd e (by decide), fun e => absurd e (by decide)⟩, fun e => absurd e (by decide), Nat.le_refl _⟩ ⟨fun e => absurd e (by decide), fun e => absurd e (by decide), ⟨fun e => absurd e (by decide), fun e => absurd e (by decide), fun e => absurd e (by decide), fun _ => hk.old 3 (by kernel_rfl), fun e => absurd e (by decide), fun e => absurd e (by decide), fun e => absurd e (by decide), fun e => absurd e (by decide), fun e => absurd e (by decide), fun e => absurd e (by decide), fun e => absurd e (by decide), fun e => absurd e (by decide)⟩⟩)
    · obtain rfl := Option.some.inj ho
      have hm : L 8 = false := (by cases hq : L 8 with | false => rfl | true => exact absurd ((hL3 8 4 hq (by kernel_rfl)).symm.trans hL1) (by decide))
      have hBw : Below wc.heap.size wc wx := ((Below.refl wc.heap.size wc).drew).trans (hg2 hm).1
      refine wpList_callR Tryz.func71 (by kernel_rfl) (by kernel_rfl) rfl _ _ rfl #[.pointer (some ⟨bs, 0, none⟩)] (by simp only [List.map_toArray, List.map_cons, List.map_nil, (show ac.eval (.tmp 47) = vs 3 from hk.slot 3 47 (by kernel_rfl) rfl), ((hk.dep 3 (by kernel_rfl)).2.2.2.2.2.1 rfl)]) _ (clone_st bs m wx (hEs.below hBw).st (Nat.le_trans hS.len (by decide))) ?_
      rintro e w1 ⟨rfl, hw1, hc1, hc2⟩
      have hsp1 : (fun i w v => (i = 4 → SqS wc.heap.size m w v) ∧ (i = 6 → SqT wc.heap.size t w v)) 4 w1 (.pointer (some ⟨wx.heap.size + 1, 0, none⟩)) := ⟨fun _ => ⟨_, rfl, Nat.le_succ_of_le hg1, ⟨⟨_, hc1, hc2⟩⟩⟩, fun e => absurd e (by decide)⟩
      exact ⟨_, rfl, hK _ _ ⟨fun _ _ => hw1, fun e => absurd e (by decide), Keep46.below hw1, hsp1, fun e => absurd e (by decide), hw1.size⟩ ⟨fun e => absurd e (by decide), fun e => absurd e (by decide), ⟨fun e => absurd e (by decide), fun e => absurd e (by decide), fun e => absurd e (by decide), fun e => absurd e (by decide), fun e => absurd e (by decide), fun e => absurd e (by decide), fun e => absurd e (by decide), fun e => absurd e (by decide), fun e => absurd e (by decide), fun e => absurd e (by decide), fun e => absurd e (by decide), fun e => absurd e (by decide)⟩⟩⟩
    · obtain rfl := Option.some.inj ho
      have hm : L 8 = false := (by cases hq : L 8 with | false => rfl | true => exact absurd ((hL3 6 5 (hL3 8 6 hq (by kernel_rfl)) (by kernel_rfl)).symm.trans hL1) (by decide))
      have hBw : Below wc.heap.size wc wx := ((Below.refl wc.heap.size wc).drew).trans (hg2 hm).1
      refine wpList_pure rfl _ (run_move _ rfl) (hK _ _ ⟨fun _ _ => Below.refl _ _, fun e => absurd e (by decide), Keep46.below (Below.refl _ _), ⟨fun e => absurd e (by decide), fun e => absurd e (by decide)⟩, fun e => absurd e (by decide), Nat.le_refl _⟩ ⟨fun e => absurd e (by decide), fun e => absurd e (by decide), ⟨fun e => absurd e (by decide), fun e => absurd e (by decide), fun e => absurd e (by decide), fun e => absurd e (by decide), fun _ => hk.old 4 (by kernel_rfl), fun e => absurd e (by decide), fun e => absurd e (by decide), fun e => absurd e (by decide), fun e => absurd e (by decide), fun e => absurd e (by decide), fun e => absurd e (by decide), fun e => absurd e (by decide)⟩⟩)
    · obtain rfl := Option.some.inj ho
      have hm : L 8 = false := (by cases hq : L 8 with | false => rfl | true => exact absurd ((hL3 8 6 hq (by kernel_rfl)).symm.trans hL1) (by decide))
      have hBw : Below wc.heap.size wc wx := ((Below.refl wc.heap.size wc).drew).trans (hg2 hm).1
      obtain ⟨q0, hq1, hq2⟩ := (hEs.below hBw).tr
      refine wpList_callR Tryz.func119 (by kernel_rfl) (by kernel_rfl) rfl _ _ rfl #[.pointer (some ⟨bt, 0, none⟩)] (by simp only [List.map_toArray, List.map_cons, List.map_nil, (show ac.eval (.tmp 49) = vs 5 from hk.slot 5 49 (by kernel_rfl) rfl), ((hk.dep 5 (by kernel_rfl)).2.2.2.2.2.2.1 rfl)]) _ (Sh.tclone_any bt q0 wx hq1) ?_
      rintro e w1 ⟨rfl, hc1, hw1⟩
      have hsp1 : (fun i w v => (i = 4 → SqS wc.heap.size m w v) ∧ (i = 6 → SqT wc.heap.size t w v)) 6 w1 (.pointer (some ⟨wx.heap.size, 0, none⟩)) := ⟨fun e => absurd e (by decide), fun _ => ⟨_, q0, rfl, hg1, hc1, hq2.below hw1⟩⟩
      exact ⟨_, rfl, hK _ _ ⟨fun _ _ => hw1, fun e => absurd e (by decide), Keep46.below hw1, hsp1, fun e => absurd e (by decide), hw1.size⟩ ⟨fun e => absurd e (by decide), fun e => absurd e (by decide), ⟨fun e => absurd e (by decide), fun e => absurd e (by decide), fun e => absurd e (by decide), fun e => absurd e (by decide), fun e => absurd e (by decide), fun e => absurd e (by decide), fun e => absurd e (by decide), fun e => absurd e (by decide), fun e => absurd e (by decide), fun e => absurd e (by decide), fun e => absurd e (by decide), fun e => absurd e (by decide)⟩⟩⟩
    · obtain rfl := Option.some.inj ho
      have hm : L 8 = false := (by cases hq : L 8 with | false => rfl | true => exact absurd ((hL3 8 7 hq (by kernel_rfl)).symm.trans hL1) (by decide))
      have hBw : Below wc.heap.size wc wx := ((Below.refl wc.heap.size wc).drew).trans (hg2 hm).1
      refine wpList_loadRow rfl _ _ rfl B15 (hk.old 15 (by kernel_rfl)) _ _ (h15.belowSize hBw) _ Tryz.underlying58 rfl (bc_info _ _ _) (hK _ _ ⟨fun _ _ => Below.refl _ _, fun e => absurd e (by decide), Keep46.below (Below.refl _ _), ⟨fun e => absurd e (by decide), fun e => absurd e (by decide)⟩, fun e => absurd e (by decide), Nat.le_refl _⟩ ⟨fun e => absurd e (by decide), fun e => absurd e (by decide), ⟨fun e => absurd e (by decide), fun e => absurd e (by decide), fun e => absurd e (by decide), fun e => absurd e (by decide), fun e => absurd e (by decide), fun _ => rfl, fun e => absurd e (by decide), fun e => absurd e (by decide), fun e => absurd e (by decide), fun e => absurd e (by decide), fun e => absurd e (by decide), fun e => absurd e (by decide)⟩⟩)
    · obtain rfl := Option.some.inj ho
      have s0 := hk.slot 0 44 (by kernel_rfl) rfl
      have s1 := hk.slot 1 45 (by kernel_rfl) rfl
      have s2 := hk.slot 2 46 (by kernel_rfl) rfl
      have s4 := hk.slot 4 48 (by kernel_rfl) rfl
      have s6 := hk.slot 6 50 (by kernel_rfl) rfl
      have s7 := hk.slot 7 51 (by kernel_rfl) rfl
      have hBw : Below wc.heap.size wc wx := ((Below.refl wc.heap.size wc).drew).trans (hg2 hL1).1
      have hBd : Below wc.drew.heap.size wc.drew wx := (hg2 hL1).1
      obtain ⟨bu, eu, hbu, hSTu⟩ := ((hg2 hL1).2 4 (hL2 4 (by kernel_rfl))).1 rfl
      obtain ⟨bv, qv, evv, hbv, hTrv, hHFv⟩ := ((hg2 hL1).2 6 (hL2 6 (by kernel_rfl))).2 rfl
      rw [eu] at s4
      rw [evv] at s6
      have hEx : EX wx bu bv m t := ⟨hSTu, ⟨qv, hTrv, hHFv⟩, (hEs.below hBw).glob, ⟨Nat.le_trans hW2 hbu, Nat.le_trans hW2 hbv⟩⟩
      rw [((hk.dep 0 (by kernel_rfl)).2.2.1 rfl)] at s0
      rw [((hk.dep 1 (by kernel_rfl)).2.2.2.1 rfl)] at s1
      rw [((hk.dep 2 (by kernel_rfl)).2.2.2.2.1 rfl)] at s2
      rw [((hk.dep 7 (by kernel_rfl)).2.2.2.2.2.2.2.1 rfl)] at s7
      refine wpList_callR Tryz.func59 (by kernel_rfl) (by kernel_rfl) rfl _ _ rfl _ (by simp only [List.map_toArray, List.map_cons, List.map_nil, Act.eval, s0, s1, s2, s4, s6, s7] <;> rfl) _ (make_any ⟨l, cf, bn⟩ hcb p hp ht hh mem hmem am cm bu bv m t ba bm bcp bcm wx hEx hS hC hn (hTb.below hBw) (hIm.below hBw) (hIb.below hBw)) ?_
      intro e w1 hP
      obtain ⟨hk1, hk2⟩ := hP.keep hEx
      obtain ⟨v, rfl, hv0⟩ := hP.mkQ hBd hW2
      have hv : MkO wc.drew m t ht p l (if cf = true then bn else mem) v w1 := ⟨bu, bv, hbu, hbv, hv0⟩
      exact ⟨_, rfl, hK _ _ ⟨fun e => absurd rfl e, fun e => absurd e (by decide), hk1, ⟨fun e => absurd e (by decide), fun e => absurd e (by decide)⟩, fun _ => hv, hk2⟩ ⟨fun e => absurd e (by decide), fun e => absurd e (by decide), ⟨fun e => absurd e (by decide), fun e => absurd e (by decide), fun e => absurd e (by decide), fun e => absurd e (by decide), fun e => absurd e (by decide), fun e => absurd e (by decide), fun e => absurd e (by decide), fun e => absurd e (by decide), fun e => absurd e (by decide), fun e => absurd e (by decide), fun e => absurd e (by decide), fun e => absurd e (by decide)⟩⟩⟩
    · obtain rfl := Option.some.inj ho
      refine wpList_pure rfl _ (run_move _ rfl) (hK _ _ ⟨fun _ _ => Below.refl _ _, fun e => absurd e (by decide), Keep46.below (Below.refl _ _), ⟨fun e => absurd e (by decide), fun e => absurd e (by decide)⟩, fun e => absurd e (by decide), Nat.le_refl _⟩ ⟨fun e => absurd e (by decide), fun e => absurd e (by decide), ⟨fun e => absurd e (by decide), fun e => absurd e (by decide), fun e => absurd e (by decide), fun e => absurd e (by decide), fun e => absurd e (by decide), fun e => absurd e (by decide), fun _ => (show ac.eval (.tmp 52) = vs 8 from hk.slot 8 52 (by kernel_rfl) rfl), fun e => absurd e (by decide), fun e => absurd e (by decide), fun e => absurd e (by decide), fun e => absurd e (by decide), fun e => absurd e (by decide)⟩⟩)
    · obtain rfl := Option.some.inj ho
      have hm : L 8 = true := hL3 9 8 (hL2 9 (by kernel_rfl)) (by kernel_rfl)
      obtain ⟨_, _, _, _, _, _, _, _, _, _, _, ev, _⟩ := hg3 hm
      have sm := (show ac.eval (.tmp 43) = vs 9 from hk.slot 9 43 (by kernel_rfl) rfl)
      have em := ((hk.dep 9 (by kernel_rfl)).2.2.2.2.2.2.2.2.1 rfl)
      refine wpList_pure rfl _ (run_extract _ _ rfl _ (sm.trans (em.trans ev)) _ rfl) (hK _ _ ⟨fun _ _ => Below.refl _ _, fun e => absurd e (by decide), Keep46.below (Below.refl _ _), ⟨fun e => absurd e (by decide), fun e => absurd e (by decide)⟩, fun e => absurd e (by decide), Nat.le_refl _⟩ ⟨fun e => absurd e (by decide), fun e => absurd e (by decide), ⟨fun e => absurd e (by decide), fun e => absurd e (by decide), fun e => absurd e (by decide), fun e => absurd e (by decide), fun e => absurd e (by decide), fun e => absurd e (by decide), fun e => absurd e (by decide), fun _ => fun x y u k => (by have k2 := (em.trans ev).symm.trans k; cases k2; rfl), fun e => absurd e (by decide), fun e => absurd e (by decide), fun e => absurd e (by decide), fun e => absurd e (by decide)⟩⟩)
    · obtain rfl := Option.some.inj ho
      have hm : L 8 = true := hL3 9 8 (hL2 9 (by kernel_rfl)) (by kernel_rfl)
      obtain ⟨_, _, _, _, _, _, _, _, _, _, _, ev, _⟩ := hg3 hm
      have sm := (show ac.eval (.tmp 43) = vs 9 from hk.slot 9 43 (by kernel_rfl) rfl)
      have em := ((hk.dep 9 (by kernel_rfl)).2.2.2.2.2.2.2.2.1 rfl)
      refine wpList_pure rfl _ (run_extract _ _ rfl _ (sm.trans (em.trans ev)) _ rfl) (hK _ _ ⟨fun _ _ => Below.refl _ _, fun e => absurd e (by decide), Keep46.below (Below.refl _ _), ⟨fun e => absurd e (by decide), fun e => absurd e (by decide)⟩, fun e => absurd e (by decide), Nat.le_refl _⟩ ⟨fun e => absurd e (by decide), fun e => absurd e (by decide), ⟨fun e => absurd e (by decide), fun e => absurd e (by decide), fun e => absurd e (by decide), fun e => absurd e (by decide), fun e => absurd e (by decide), fun e => absurd e (by decide), fun e => absurd e (by decide), fun e => absurd e (by decide), fun _ => fun x y u k => (by have k2 := (em.trans ev).symm.trans k; cases k2; rfl), fun e => absurd e (by decide), fun e => absurd e (by decide), fun e => absurd e (by decide)⟩⟩)
    · obtain rfl := Option.some.inj ho
      have hm : L 8 = true := hL3 9 8 (hL2 9 (by kernel_rfl)) (by kernel_rfl)
      obtain ⟨_, _, _, _, _, _, _, _, _, _, _, ev, _⟩ := hg3 hm
      have sm := (show ac.eval (.tmp 43) = vs 9 from hk.slot 9 43 (by kernel_rfl) rfl)
      have em := ((hk.dep 9 (by kernel_rfl)).2.2.2.2.2.2.2.2.1 rfl)
      refine wpList_pure rfl _ (run_extract _ _ rfl _ (sm.trans (em.trans ev)) _ rfl) (hK _ _ ⟨fun _ _ => Below.refl _ _, fun e => absurd e (by decide), Keep46.below (Below.refl _ _), ⟨fun e => absurd e (by decide), fun e => absurd e (by decide)⟩, fun e => absurd e (by decide), Nat.le_refl _⟩ ⟨fun e => absurd e (by decide), fun e => absurd e (by decide), ⟨fun e => absurd e (by decide), fun e => absurd e (by decide), fun e => absurd e (by decide), fun e => absurd e (by decide), fun e => absurd e (by decide), fun e => absurd e (by decide), fun e => absurd e (by decide), fun e => absurd e (by decide), fun e => absurd e (by decide), fun _ => fun x y u k => (by have k2 := (em.trans ev).symm.trans k; cases k2; rfl), fun e => absurd e (by decide), fun e => absurd e (by decide)⟩⟩)
    · obtain rfl := Option.some.inj ho
      refine wpList_allocRow rfl _ rfl _ zBlk.1 ?_
      intro w1 hw1 _ hb1
      exact hK _ _ ⟨fun _ _ => hw1, fun e => absurd e (by decide), Keep46.below hw1, ⟨fun e => absurd e (by decide), fun e => absurd e (by decide)⟩, fun e => absurd e (by decide), hw1.size⟩ ⟨fun _ => ⟨_, _, rfl, hg1, hb1, rfl⟩, fun e => absurd e (by decide), ⟨fun e => absurd e (by decide), fun e => absurd e (by decide), fun e => absurd e (by decide), fun e => absurd e (by decide), fun e => absurd e (by decide), fun e => absurd e (by decide), fun e => absurd e (by decide), fun e => absurd e (by decide), fun e => absurd e (by decide), fun e => absurd e (by decide), fun e => absurd e (by decide), fun e => absurd e (by decide)⟩⟩
    · obtain rfl := Option.some.inj ho
      have hm : L 8 = true := hL2 8 (by kernel_rfl)
      obtain ⟨_, _, _, _, _, _, _, _, _, _, _, ev, _⟩ := hg3 hm
      obtain ⟨g, c, ea, hgN, hb, hcs⟩ := (hk.dep 13 (by kernel_rfl)).1 rfl
      have em := ((hk.dep 9 (by kernel_rfl)).2.2.2.2.2.2.2.2.1 rfl)
      have e0 := ((hk.dep 10 (by kernel_rfl)).2.2.2.2.2.2.2.2.2.1 rfl) _ _ _ (em.trans ev)
      refine wpList_storeRow rfl _ _ _ rfl g _ ((show ac.eval (.tmp 17) = vs 13 from hk.slot 13 17 (by kernel_rfl) rfl).trans ea) ((show ac.eval (.tmp 53) = vs 10 from hk.slot 10 53 (by kernel_rfl) rfl).trans e0) _ _ hb (by rw [hcs]; rfl) (bk_info _ _ _ _ _ _) (bk_one _ _ _ _ _ _ _ _ _ _) ?_
      intro w1 hgr hsz hb1
      exact hK _ _ ⟨fun _ e => absurd rfl e, fun _ => ⟨g, c, hgN, hb, hgr⟩, Keep46.store hgr hb1 rfl, ⟨fun e => absurd e (by decide), fun e => absurd e (by decide)⟩, fun e => absurd e (by decide), hgr.size⟩ ⟨fun e => absurd e (by decide), fun _ => ⟨g, _, ea, e0, hgN, hb1⟩, ⟨fun e => absurd e (by decide), fun e => absurd e (by decide), fun e => absurd e (by decide), fun e => absurd e (by decide), fun e => absurd e (by decide), fun e => absurd e (by decide), fun e => absurd e (by decide), fun e => absurd e (by decide), fun e => absurd e (by decide), fun e => absurd e (by decide), fun e => absurd e (by decide), fun e => absurd e (by decide)⟩⟩
    · obtain rfl := Option.some.inj ho
      refine wpList_pure rfl _ (run_assign _ rfl) (hK _ _ ⟨fun _ _ => Below.refl _ _, fun e => absurd e (by decide), Keep46.below (Below.refl _ _), ⟨fun e => absurd e (by decide), fun e => absurd e (by decide)⟩, fun e => absurd e (by decide), Nat.le_refl _⟩ ⟨fun e => absurd e (by decide), fun e => absurd e (by decide), ⟨fun e => absurd e (by decide), fun e => absurd e (by decide), fun e => absurd e (by decide), fun e => absurd e (by decide), fun e => absurd e (by decide), fun e => absurd e (by decide), fun e => absurd e (by decide), fun e => absurd e (by decide), fun e => absurd e (by decide), fun e => absurd e (by decide), fun _ => (show ac.eval (.tmp 54) = vs 11 from hk.slot 11 54 (by kernel_rfl) rfl), fun e => absurd e (by decide)⟩⟩)
    · obtain rfl := Option.some.inj ho
      refine wpList_pure rfl _ (run_assign _ rfl) (hK _ _ ⟨fun _ _ => Below.refl _ _, fun e => absurd e (by decide), Keep46.below (Below.refl _ _), ⟨fun e => absurd e (by decide), fun e => absurd e (by decide)⟩, fun e => absurd e (by decide), Nat.le_refl _⟩ ⟨fun e => absurd e (by decide), fun e => absurd e (by decide), ⟨fun e => absurd e (by decide), fun e => absurd e (by decide), fun e => absurd e (by decide), fun e => absurd e (by decide), fun e => absurd e (by decide), fun e => absurd e (by decide), fun e => absurd e (by decide), fun e => absurd e (by decide), fun e => absurd e (by decide), fun e => absurd e (by decide), fun e => absurd e (by decide), fun _ => (show ac.eval (.tmp 55) = vs 12 from hk.slot 12 55 (by kernel_rfl) rfl)⟩⟩)
  obtain ⟨Lx, hLx, -, -, hQ⟩ := hGn
  replace hQ := hQ (hLx 8 (show 8 < 17 by decide))
  obtain ⟨bu, bv, hbu, hbv, lo, a10, cap10, st10, dls, gm, cmk, ev, hD, hCB, hgm⟩ := hQ
  have em10 := ((hPr 9 (show 9 < 17 by decide)).2.2.2.2.2.2.2.2.1 rfl).trans ev
  have x010 := ((hPr 10 (show 10 < 17 by decide)).2.2.2.2.2.2.2.2.2.1 rfl) _ _ _ em10
  have x210 := ((hPr 16 (show 16 < 17 by decide)).2.2.2.2.2.2.2.2.2.2.2.2.2 rfl).trans (((hPr 12 (show 12 < 17 by decide)).2.2.2.2.2.2.2.2.2.2.2.1 rfl) _ _ _ em10)
  obtain ⟨g10, c10, eg10, ec10, hgN10, hb10⟩ := (hPr 14 (show 14 < 17 by decide)).2.1 rfl
  have ec210 := x010.symm.trans ec10
  simp only [Value.agg.injEq] at ec210
  subst ec210
  clear hPr hLx Lx ec10 x010 em10 ev
  simp only [dstsR, List.map_cons, List.map_nil, puts, Nat.reduceAdd, Act.put, List.setIfInBounds_toArray, List.set_cons_zero, List.set_cons_succ, x210, eg10]
  clear x210 eg10
  have dr : Below wc.heap.size wc wc.drew := (Below.refl _ _).drew
  have hBx := dr.trans (hD.two.to_below hbu hbv (Nat.le_refl _))
  obtain ⟨ax, cx, e1, hTA⟩ := TXL.ta hD.dn hD.tx
  simp only [Value.slice.injEq, true_and] at e1
  obtain ⟨e1, e2⟩ := e1
  subst e1 e2
  have hE10 := hEs.below hBx
  replace hTb := hTb.below hBx
  replace hT := hT.below hBx
  replace hIh := hIh.below hBx
  replace h1 := h1.belowSize hBx
  replace h15 := h15.belowSize hBx
  have hB10 := hBc.trans (hBx.mono hBc.size)
  have hI10 := hCB.ia
  clear hD hCB hgm hgN10 hBx dr hEs hb15 hbu hbv hIb hIm hI hE hBc hW2
  generalize rootD Sh.digest (bys (exD m l)) = Rx at *
  generalize (exR m t l).hash Sh.TgD = Ry at *
  generalize exD m l = D at *
  generalize (if cf = true then bn else mem) = mz at *
  go_simp
  go_wp2_with (first
    | (go_at_call 22; refine (HSm _ _ _ _ _ _ _ _ _ hI10 hIh hTA hT).mono ?_; rintro e wd ⟨rfl, hwd⟩; clear HSm; replace hE10 := hE10.below hwd; replace hTb := hTb.below hwd; replace h15 := h15.belowSize hwd; replace hB10 := hB10.trans (hwd.mono hB10.size); clear hwd)
    | (go_at_call 106; refine (HX _ hE10 hTb).mono ?_; rintro e we ⟨lo2, sd2, st2, dls2, rfl, hD2⟩; clear HX)
    | (with_reducible refine at_list ?_; first
      | (refine wpList_loadRow (op := ⟨some 59, _, _, _, _, _⟩) rfl _ _ rfl g10 rfl _ _ hb10 _ Tryz.underlying53 rfl (bk_info _ _ _ _ _ _) ?_)
      | (refine wpList_loadRow (op := ⟨some 60, _, _, _, _, _⟩) rfl _ _ rfl w.heap.size rfl _ _ h1 _ Tryz.underlying53 rfl (bk_info _ _ _ _ _ _) ?_)
      | (refine wpList_loadRow (op := ⟨some 65, _, _, _, _, _⟩) rfl _ _ rfl B15 rfl _ _ h15 _ Tryz.underlying58 rfl (bc_info _ _ _) ?_)))
  go_ret
  exact ⟨rfl, hB10⟩
end Go.Proofs.YtmbdhngoldganaaGreatDoor
