/- What BlockNil does. -/
import Derived.Test.YtjfpfkiccbcedaaGreatDoorMkr
import Derived.Deep.CutRange
namespace Go.Proofs.YtjfpfkiccbcedaaGreatDoor
open Go Go.RowKit
theorem okTx_cut9 (t : TX) : okTx (cut9 t) = okTx t := by
  by_cases h : t.ops.length ≤ 9
  · unfold cut9
    rw [List.take_of_length_le h]
  · have h1 : okTx t = false := by
      rw [← Bool.not_eq_true]
      intro e
      have := (okTx_of e).len1
      omega
    have h2 : okTx (cut9 t) = false := by
      rw [← Bool.not_eq_true]
      intro e
      have h3 := (okTx_of e).len1
      have h4 : (cut9 t).ops.length = min 9 t.ops.length := List.length_take ..
      omega
    rw [h1, h2]
theorem rb17_len {l : List TX} (h : l.length ≤ 17) : (rb17 l).length = l.length := by unfold rb17; rw [List.length_map, List.length_take]; omega
theorem chkB_rb (b : BT) (h : b.txs.length ≤ 17) : chkB ⟨rb17 b.txs, b.conf, b.mem⟩ = chkB b := by
  obtain ⟨l, c, m⟩ := b
  dsimp only at *
  rw [chkB_ag, chkB_ag]
  have e1 : agB ⟨rb17 l, c, m⟩ = agB ⟨l, c, m⟩ := by
    unfold agB
    dsimp only
    have : (rb17 l).isEmpty = l.isEmpty := by
      unfold rb17
      rw [List.take_of_length_le h]
      cases l <;> rfl
    rw [this]
  have e2 : (rb17 l).all okTx = l.all okTx := by
    unfold rb17
    rw [List.take_of_length_le h, List.all_map]
    congr 1
    funext t
    exact okTx_cut9 t
  rw [e1]
  dsimp only
  rw [rb17_len h, e2]
/-- A batch that is not too long. -/
def sml (b : BT) : BT := ⟨b.txs.take 17, b.conf, b.mem.take 40⟩
theorem sml_len (b : BT) : (sml b).txs.length = min b.txs.length 17 := by
  show (b.txs.take 17).length = _
  rw [List.length_take]
  omega
theorem sml_mem (b : BT) : (sml b).mem.length = min b.mem.length 40 := by
  show (b.mem.take 40).length = _
  rw [List.length_take]
  omega
theorem builtB0 : Tryz.prog.built 30 [] = some (bc (.slice none 0 0) false (.slice none 0 0)) := by kernel_rfl
theorem small_bt (b : BT) (a a2 : Option Addr) (cap cap2 : Nat) (w : World) (hT : TA w a b.txs) (hI : IA w a2 b.mem) (hc : b.txs.length ≤ cap) (hc2 : b.mem.length ≤ cap2) :
    Calls Tryz.prog 10 #[.agg (bc (.slice a b.txs.length cap) b.conf (.slice a2 b.mem.length cap2))] w fun e w' => e = .returned (.agg (bc (.slice a (sml b).txs.length cap) (sml b).conf (.slice a2 (sml b).mem.length cap2))) ∧ Below w.heap.size w w' := by
  rw [sml_len, sml_mem]
  exact small_any a a2 _ cap _ cap2 b.conf w (fun h => hT.ex (by omega)) (fun h => hI.ex (by omega)) hc hc2
theorem batch_chk (b : BT) (h : b.txs.length ≤ 17) (a a2 : Option Addr) (cap cap2 : Nat) (w : World) (hI : IA w a2 b.mem) (hT : TA w a (rb17 b.txs)) :
    Calls Tryz.prog 11 #[.agg (bc (.slice a (rb17 b.txs).length cap) b.conf (.slice a2 b.mem.length cap2))] w fun e w' => e = .returned (.int .i64 (chkB b)) ∧ Below w.heap.size w w' := by
  rw [← chkB_rb b h]
  exact rcheckB_any ⟨rb17 b.txs, b.conf, b.mem⟩ a a2 cap cap2 w hT hI
theorem TA.sml {w : World} {a : Option Addr} {b : BT} (h : TA w a b.txs) : TA w a (sml b).txs := h.take 17
theorem IA.sml {w : World} {a : Option Addr} {b : BT} (h : IA w a b.mem) : IA w a (sml b).mem := h.take 40
/-- An empty batch, or the one that was handed in. -/
def NilB (w wx : World) (bb : Nat) : Prop := ∃ (b : BT) (xa xa2 : Option Addr) (xc xc2 : Nat), chkB b = 0 ∧ Blk wx bb (bc (.slice xa b.txs.length xc) b.conf (.slice xa2 b.mem.length xc2)) 30 ∧ TA wx xa b.txs ∧ IA wx xa2 b.mem ∧ Below w.heap.size w wx
section
attribute [local go_sem] Oper.semAt_some
set_option maxRecDepth 100000 in
set_option maxHeartbeats 8000000 in
theorem blockNil_any (b0 : BT) (a a2 : Option Addr) (cap cap2 : Nat) (prev : List UInt8) (w : World) (hG : Sh.Glob w) (hT : TA w a b0.txs) (hI : IA w a2 b0.mem) (hc : b0.txs.length ≤ cap) (hc2 : b0.mem.length ≤ cap2) (q : Bool) (hq : decide (prev.length = 32) = q) (er7 : Int) (he7 : er7 = if q = true then 0 else 1) :
    Calls Tryz.prog 5 #[.agg (bc (.slice a b0.txs.length cap) b0.conf (.slice a2 b0.mem.length cap2)), .string ⟨prev.toArray⟩] w fun e w' => e = .returned (.bool true) ∧ Below w.heap.size w w' := by
  have HS := fun w1 (hT : TA w1 a b0.txs) (hI : IA w1 a2 b0.mem) => small_bt b0 a a2 cap cap2 w1 hT hI hc hc2
  have hl17 : (sml b0).txs.length ≤ 17 := by rw [sml_len]; omega
  have HB := fun w1 (h : TA w1 a (sml b0).txs) => batch_any (sml b0).txs (sml b0).conf a a2 cap (sml b0).mem.length cap2 w1 h
  have HK := fun xa xc w1 (hI : IA w1 a2 (sml b0).mem) (hT : TA w1 xa (rb17 (sml b0).txs)) => batch_chk (sml b0) hl17 xa a2 xc cap2 w1 hI hT
  have hTs := hT.sml
  have hIs := hI.sml
  unfold BatP at HB
  have h2w := hG.two
  generalize sml b0 = b1 at *
  generalize rb17 b1.txs = L17 at *
  have d7a : (er7 == 0) = q := by rw [he7]; cases q <;> rfl
  have d7b : ((prev.length : Int) == 32) = q := by
    rw [← hq]
    by_cases h : prev.length = 32
    · rw [decide_eq_true h, beq_iff_eq]; omega
    · rw [decide_eq_false h, beq_eq_false_iff_ne]; omega
  have HZ := fun w1 => zeros9_any w1
  have hz : zr.length = 32 := rfl
  have HM0 := fun (b : BT) (p : List UInt8) (ht : Nat) am ps pt xa xa2 xc xc2 w1 N (hc : chkB b = 0) (hpl : plE ps pt ht p [0] = 1) (h1 : TA w1 xa b.txs) (h2 : IA w1 am [0]) (h3 : IA w1 xa2 b.mem) (hN : N ≤ w1.heap.size) => (make_place b hc p ht [0] am 1 ps pt xa xa2 xc xc2 w1 h1 h2 h3 hpl).mono fun e w2 h => MkE.mkR hN h
  have HM1 := fun (b : BT) (p : List UInt8) am bs bt xa xa2 xc xc2 w1 N (hc : chkB b = 0) (hp : p.length = 32) (hE : EX w1 bs bt [] .emp) (h1 : TA w1 xa b.txs) (h2 : IA w1 am [0]) (h3 : IA w1 xa2 b.mem) (hN : N ≤ w1.heap.size) (hN1 : N ≤ bs) (hN2 : N ≤ bt) => (make_any b hc p hp 1 (by decide) [0] (by decide) am 1 bs bt [] .emp xa xa2 xc xc2 w1 hE Sz.nil trivial (by decide) h1 h2 h3).mono fun e w2 h => MkP.mkR hE hN1 hN2 hN h
  have HM7 : ∀ (b : BT) am bs bt xa xa2 xc xc2 w1 N, chkB b = 0 → EX w1 bs bt [] .emp → TA w1 xa b.txs → IA w1 am [0] → IA w1 xa2 b.mem → N ≤ w1.heap.size → N ≤ bs → N ≤ bt → Calls Tryz.prog 16 #[.string ⟨prev.toArray⟩, .int .u64 ((1 : Nat) : Int), .slice am 1 1, .pointer (some ⟨bs, 0, none⟩), .pointer (some ⟨bt, 0, none⟩), .agg (bc (.slice xa b.txs.length xc) b.conf (.slice xa2 b.mem.length xc2))] w1 (MkR N er7 w1) := fun b am bs bt xa xa2 xc xc2 w1 N hc hE h1 h2 h3 hN hN1 hN2 => by
    by_cases h : prev.length = 32
    · rw [decide_eq_true h] at hq
      subst hq
      rw [he7]
      exact HM1 b prev am bs bt xa xa2 xc xc2 w1 N hc h hE h1 h2 h3 hN hN1 hN2
    · rw [decide_eq_false h] at hq
      subst hq
      rw [he7]
      exact HM0 b prev 1 am _ _ xa xa2 xc xc2 w1 N hc (if_pos (.inr (.inr (.inr (.inl h))))) h1 h2 h3 hN
  clear HM1 he7 hq
  have HX := fun xa xa2 n n2 xc xc2 c w1 => exec_nil xa xa2 n xc n2 xc2 c w1
  have HC1 : ∀ am c w1, IA w1 am [0] → Calls Tryz.prog 28 #[.string ⟨zr.toArray⟩, .int .u64 1, .slice am 1 1, .pointer none, .pointer none, .agg c] w1 (fun e w' => e = .returned (.int .i64 1) ∧ Below w1.heap.size w1 w') := fun am c w1 h => check_place zr 1 [0] am 1 none none c w1 h rfl
  have HC2 : ∀ am ps pt w1, IA w1 am [0] → Calls Tryz.prog 28 #[.string ⟨zr.toArray⟩, .int .u64 1, .slice am 1 1, .pointer (some ps), .pointer (some pt), .agg (bk 0 [] [] [] (.slice none 0 0) (.slice none 0 0))] w1 (fun e w' => e = .returned (.int .i64 80) ∧ Below w1.heap.size w1 w') := fun am ps pt w1 h => check_head zr 1 [0] am 1 (some ps) (some pt) ⟨0, [], [], [], []⟩ none 0 (.slice none 0 0) w1 h (fun i x hx => by cases hx) rfl (by decide)
  have HA := fun w1 (h : Sh.Glob w1) => awakeB_any w1 h
  have hpl4 : ∀ pt, plE none pt 1 zr [0] = 1 := fun pt => if_pos (.inl rfl)
  have hpl5 : ∀ ps, plE (some ps) none 1 zr [0] = 1 := fun ps => if_pos (.inr (.inl rfl))
  have hpl6 : ∀ ps pt, plE (some ps) (some pt) 0 zr [0] = 1 := fun ps pt => if_pos (.inr (.inr (.inl rfl)))
  generalize zr = z at *
  have hT0 := hT
  have hI0 := hI
  have hG0 := hG
  clear hl17 hc hc2
  go_enter Tryz.func5, Tryz.ntmps5
  go_upto_region 2 with (first
    | (go_at_call 10; refine (HS _ (hT.below hw1) (hI.below hw1)).mono ?_; rintro e w2 ⟨rfl, hw2⟩; clear HS; have hB := hw1.trans (hw2.mono hw1.size))
    | (with_reducible refine at_list ?_; first
      | (refine wpList_boxRow (op := ⟨some 2, _, _, _, _, _⟩) rfl _ _ rfl _ rfl ?_; intro w1 hw1 hs1 h2; clear hs1)
      | (refine wpList_loadRow (op := ⟨some 22, _, _, _, _, _⟩) rfl _ _ rfl w.heap.size rfl _ _ h2 _ Tryz.underlying30 rfl (bc_info _ _ _) ?_)
      | (refine wpList_allocRow (op := ⟨some 5, _, _, _, _, _⟩) rfl _ rfl _ zB.1 ?_; intro w3 hw3 hs3 h5; clear hs3)
      | (refine wpList_storeRow (op := ⟨none, .store 30 (.tmp 5) (.tmp 23), _, _, _, _⟩) rfl _ _ _ rfl w2.heap.size (bc (.slice a b1.txs.length cap) b1.conf (.slice a2 b1.mem.length cap2)) rfl rfl _ _ h5 (by simp only [bc_size]) (bc_info _ _ _) (bc_one _ _ _ _ _ _ _) ?_; intro w4 hg4 hs4 h5b; clear hs4; have hB3 := hB.trans (hw3.mono hB.size); have hB4 := hB3.trans (below_of_grown hg4 hB.size hB3.size); clear hg4 h5 hw3 hB3 h2)))
  obtain ⟨B5, hB5⟩ : ∃ y, y = w2.heap.size := ⟨_, rfl⟩
  rw [← hB5] at h5b ⊢
  have hB5w : w.heap.size ≤ B5 := by rw [hB5]; exact hB.size
  have hB5l := h5b.lt
  clear hB5 hB hw1 hw2
  replace hTs := hTs.below hB4
  replace hIs := hIs.below hB4
  go_upto_if 27 with (first
    | (go_at_call 12; refine (HB _ hTs).mono ?_; rintro e w5 ⟨xa, xc, rfl, hT5, hw5⟩; clear HB; replace hIs := hIs.below hw5; replace hTs := hTs.below hw5; replace hB4 := hB4.trans (hw5.mono hB4.size); replace h5b := h5b.belowSize hw5; clear hw5)
    | (go_at_call 11; refine (HK _ _ _ hIs hT5).mono ?_; rintro e w6 ⟨rfl, hw6⟩; clear HK hT5; replace hIs := hIs.below hw6; replace hTs := hTs.below hw6; replace hB4 := hB4.trans (hw6.mono hB4.size); replace h5b := h5b.belowSize hw6; clear hw6)
    | (with_reducible refine at_list ?_; first
      | (refine wpList_loadRow (op := ⟨some 24, _, _, _, _, _⟩) rfl _ _ rfl B5 rfl _ _ h5b _ Tryz.underlying30 rfl (bc_info _ _ _) ?_)))
  go_cut [5] from 28 to 28 (fun s5 wx => s5 = .pointer (some ⟨B5, 0, none⟩) ∧ NilB w wx B5)
  case first =>
    by_cases hk : chkB b1 = 0
    · have hk2 : (chkB b1 != 0) = false := by rw [hk]; rfl
      generalize hkk : chkB b1 = ck at *
      go_wp2_with fail
      go_meet
      case rel => exact ⟨rfl, b1, a, a2, cap, cap2, hkk.trans hk, h5b, hTs, hIs, hB4⟩
    · have hk2 : (chkB b1 != 0) = true := by simpa using hk
      generalize hkk : chkB b1 = ck at *
      go_wp2_with (with_reducible refine at_list ?_; first
          | (refine wpList_build (o := ⟨some 28, _, _, _, _, _⟩) rfl _ _ rfl builtB0 ?_)
          | (refine wpList_storeRow (op := ⟨none, .store 30 (.tmp 5) (.tmp 28), _, _, _, _⟩) rfl _ _ _ rfl B5 (bc (.slice none 0 0) false (.slice none 0 0)) rfl rfl _ _ h5b (by simp only [bc_size]) (bc_info _ _ _) (bc_one _ _ _ _ _ _ _) ?_; intro w7 hg7 hs7 h7; clear hs7))
      go_meet
      case rel => exact ⟨rfl, ⟨[], false, []⟩, none, none, 0, 0, rfl, h7, TA.nil _ _, fun i x hx => (by cases hx), hB4.trans (below_of_grown hg7 hB5w hB4.size)⟩
  case rest =>
    obtain ⟨rfl, b, xa, xa2, xc, xc2, hcb, h5, hTx, hIx, hB⟩ := hcut
    clear h5b hB4 hTs hIs hT0 hI0 hT hI
    replace hG := hG.belowSize hB
    clear hB5l

    go_upto_region 4 with fail
    refine wp_region_made (by kernel_rfl) (RE wc.heap.size 1 99 2 4 10) (RP wc.heap.size 9 (fun i v => (i = 0 → v = .string ⟨z.toArray⟩) ∧ (i = 3 → v = .agg (bc (.slice xa b.txs.length xc) b.conf (.slice xa2 b.mem.length xc2))) ∧ (i = 4 → TupP 1 v) ∧ (i = 5 → TupP 1 v) ∧ (i = 6 → AggP v) ∧ (i = 8 → v = .int .i64 1) ∧ (i = 12 → v = .int .i64 1))) (RG wc.heap.size wc.drew 1 99 2 4) (by kernel_rfl) ⟨Below.refl _ _, Nat.le_refl _, fun _ => ⟨fun e => (by cases e), fun e => (by cases e), fun e => (by cases e)⟩⟩ (fun L i w w' vs v _ _ hw hg hE _ => hg.step (fun e => hw 4 (by subst e; kernel_rfl)) hE) (fun _ _ _ _ _ _ h => h) (fun i j vs w w' u v _ _ hE h => h.stay hE) (fun i o ho a vs wx hk K hK => ?_) (fun vs wx hPr hGn => ?_)
    · obtain ⟨L, hL1, hL2, hL3, hg1, hg2, hg3⟩ := hk.gen
      have hi : i < 13 := (Array.getElem?_eq_some_iff.1 ho).1
      rcases (show i = 0 ∨ i = 1 ∨ i = 2 ∨ i = 3 ∨ i = 4 ∨ i = 5 ∨ i = 6 ∨ i = 7 ∨ i = 8 ∨ i = 9 ∨ i = 10 ∨ i = 11 ∨ i = 12 by omega) with rfl | rfl | rfl | rfl | rfl | rfl | rfl | rfl | rfl | rfl | rfl | rfl | rfl
      · obtain rfl := Option.some.inj ho
        refine wpList_callR Tryz.func17 (by kernel_rfl) (by kernel_rfl) rfl _ _ rfl #[] (by simp) _ (HZ wx) ?_
        rintro e w1 ⟨rfl, hw1⟩
        have hw2 := hw1.symm
        subst hw2
        exact ⟨_, rfl, hK _ _ ⟨(by rw [if_neg (by decide)]; exact Below.refl _ _), Keep46.below (Below.refl _ _), fun e => absurd e (by decide), fun e => absurd e (by decide), fun e => absurd e (by decide)⟩ ⟨fun e => absurd e (by decide), ⟨fun _ => rfl, fun e => absurd e (by decide), fun e => absurd e (by decide), fun e => absurd e (by decide), fun e => absurd e (by decide), fun e => absurd e (by decide), fun e => absurd e (by decide)⟩⟩⟩
      · obtain rfl := Option.some.inj ho
        refine wpList_bsl1I rfl _ rfl 0 rfl ?_
        intro w1 hw1 _ hb1
        exact hK _ _ ⟨(by rw [if_neg (by decide)]; exact hw1), Keep46.below hw1, fun _ => ⟨_, rfl, hb1⟩, fun e => absurd e (by decide), fun e => absurd e (by decide)⟩ ⟨fun e => absurd e (by decide), ⟨fun e => absurd e (by decide), fun e => absurd e (by decide), fun e => absurd e (by decide), fun e => absurd e (by decide), fun e => absurd e (by decide), fun e => absurd e (by decide), fun e => absurd e (by decide)⟩⟩
      · obtain rfl := Option.some.inj ho
        refine wpList_callR Tryz.func15 (by kernel_rfl) (by kernel_rfl) rfl _ _ rfl #[] (by simp) _ (Sh.tnew_any wx) ?_
        rintro e w1 ⟨rfl, hb1, hw1⟩
        exact ⟨_, rfl, hK _ _ ⟨(by rw [if_neg (by decide)]; exact hw1), Keep46.below hw1, fun e => absurd e (by decide), fun e => absurd e (by decide), fun _ => ⟨_, rfl, hg2, hb1⟩⟩ ⟨fun e => absurd e (by decide), ⟨fun e => absurd e (by decide), fun e => absurd e (by decide), fun e => absurd e (by decide), fun e => absurd e (by decide), fun e => absurd e (by decide), fun e => absurd e (by decide), fun e => absurd e (by decide)⟩⟩⟩
      · obtain rfl := Option.some.inj ho
        refine wpList_loadRow rfl _ _ rfl B5 (hk.old 5 (by kernel_rfl)) _ _ (h5.belowSize (((Below.refl wc.heap.size wc).drew).trans hg1)) _ Tryz.underlying30 rfl (bc_info _ _ _) (hK _ _ ⟨(by rw [if_neg (by decide)]; exact Below.refl _ _), Keep46.below (Below.refl _ _), fun e => absurd e (by decide), fun e => absurd e (by decide), fun e => absurd e (by decide)⟩ ⟨fun e => absurd e (by decide), ⟨fun e => absurd e (by decide), fun _ => rfl, fun e => absurd e (by decide), fun e => absurd e (by decide), fun e => absurd e (by decide), fun e => absurd e (by decide), fun e => absurd e (by decide)⟩⟩)
      · obtain rfl := Option.some.inj ho
        have hm : L 4 = false := hL1
        obtain ⟨f1, f2, f3⟩ := hg3 hm
        obtain ⟨gb, eb, hb⟩ := f1 (hL2 1 (by kernel_rfl))
        have s0 := hk.slot 0 30 (by kernel_rfl) rfl
        have s1 := hk.slot 1 31 (by kernel_rfl) rfl
        have s2 := hk.slot 2 32 (by kernel_rfl) rfl
        have s3 := hk.slot 3 33 (by kernel_rfl) rfl
        obtain ⟨bt, et, hbt, hTr⟩ := f3 (hL2 2 (by kernel_rfl))
        rw [((hk.dep 0 (by kernel_rfl)).2.1 rfl)] at s0
        rw [eb] at s1
        rw [et] at s2
        rw [((hk.dep 3 (by kernel_rfl)).2.2.1 rfl)] at s3
        refine wpList_callR Tryz.func16 (by kernel_rfl) (by kernel_rfl) rfl _ _ rfl _ (by simp only [List.map_toArray, List.map_cons, List.map_nil, Act.eval, s0, s1, s2, s3]; rfl) _ (HM0 b z 1 (some ⟨gb, 0, none⟩) none (some ⟨bt, 0, none⟩) xa xa2 xc xc2 wx _ hcb (hpl4 _) (hTx.below (((Below.refl wc.heap.size wc).drew).trans hg1)) hb.ia1 (hIx.below (((Below.refl wc.heap.size wc).drew).trans hg1)) hg2) ?_
        rintro e w1 ⟨v, rfl, hv, hw1, hk1⟩
        exact ⟨_, rfl, hK _ _ ⟨(by rw [if_pos (by decide)]; exact hw1), hk1, fun e => absurd e (by decide), fun e => absurd e (by decide), fun e => absurd e (by decide)⟩ ⟨fun e => absurd e (by decide), ⟨fun e => absurd e (by decide), fun e => absurd e (by decide), fun _ => hv, fun e => absurd e (by decide), fun e => absurd e (by decide), fun e => absurd e (by decide), fun e => absurd e (by decide)⟩⟩⟩
      · obtain rfl := Option.some.inj ho
        refine wpList_pure rfl _ (run_move _ rfl) (hK _ _ ⟨(by rw [if_neg (by decide)]; exact Below.refl _ _), Keep46.below (Below.refl _ _), fun e => absurd e (by decide), fun e => absurd e (by decide), fun e => absurd e (by decide)⟩ ⟨fun e => absurd e (by decide), ⟨fun e => absurd e (by decide), fun e => absurd e (by decide), fun e => absurd e (by decide), fun _ => (by show TupP _ (a.eval (.tmp 34)); rw [(show a.eval (.tmp 34) = vs 4 from hk.slot 4 34 (by kernel_rfl) rfl)]; exact ((hk.dep 4 (by kernel_rfl)).2.2.2.1 rfl)), fun e => absurd e (by decide), fun e => absurd e (by decide), fun e => absurd e (by decide)⟩⟩)
      · obtain rfl := Option.some.inj ho
        obtain ⟨c, st, ev, hc1, hc2⟩ := ((hk.dep 5 (by kernel_rfl)).2.2.2.2.1 rfl)
        have sm := (show a.eval (.tmp 29) = vs 5 from hk.slot 5 29 (by kernel_rfl) rfl)
        rw [ev] at sm
        refine wpList_pure rfl _ (run_extract _ _ rfl _ sm _ rfl) (hK _ _ ⟨(by rw [if_neg (by decide)]; exact Below.refl _ _), Keep46.below (Below.refl _ _), fun e => absurd e (by decide), fun e => absurd e (by decide), fun e => absurd e (by decide)⟩ ⟨fun e => absurd e (by decide), ⟨fun e => absurd e (by decide), fun e => absurd e (by decide), fun e => absurd e (by decide), fun e => absurd e (by decide), fun _ => ⟨c, rfl, hc1, hc2⟩, fun e => absurd e (by decide), fun e => absurd e (by decide)⟩⟩)
      · obtain rfl := Option.some.inj ho
        obtain ⟨c, st, ev, hc1, hc2⟩ := ((hk.dep 5 (by kernel_rfl)).2.2.2.2.1 rfl)
        have sm := (show a.eval (.tmp 29) = vs 5 from hk.slot 5 29 (by kernel_rfl) rfl)
        rw [ev] at sm
        refine wpList_pure rfl _ (run_extract _ _ rfl _ sm _ rfl) (hK _ _ ⟨(by rw [if_neg (by decide)]; exact Below.refl _ _), Keep46.below (Below.refl _ _), fun e => absurd e (by decide), fun e => absurd e (by decide), fun e => absurd e (by decide)⟩ ⟨fun e => absurd e (by decide), ⟨fun e => absurd e (by decide), fun e => absurd e (by decide), fun e => absurd e (by decide), fun e => absurd e (by decide), fun e => absurd e (by decide), fun e => absurd e (by decide), fun e => absurd e (by decide)⟩⟩)
      · obtain rfl := Option.some.inj ho
        obtain ⟨c, st, ev, hc1, hc2⟩ := ((hk.dep 5 (by kernel_rfl)).2.2.2.2.1 rfl)
        have sm := (show a.eval (.tmp 29) = vs 5 from hk.slot 5 29 (by kernel_rfl) rfl)
        rw [ev] at sm
        refine wpList_pure rfl _ (run_extract _ _ rfl _ sm _ rfl) (hK _ _ ⟨(by rw [if_neg (by decide)]; exact Below.refl _ _), Keep46.below (Below.refl _ _), fun e => absurd e (by decide), fun e => absurd e (by decide), fun e => absurd e (by decide)⟩ ⟨fun e => absurd e (by decide), ⟨fun e => absurd e (by decide), fun e => absurd e (by decide), fun e => absurd e (by decide), fun e => absurd e (by decide), fun e => absurd e (by decide), fun _ => rfl, fun e => absurd e (by decide)⟩⟩)
      · obtain rfl := Option.some.inj ho
        refine wpList_allocRow rfl _ rfl _ zBlk.1 ?_
        intro w1 hw1 _ hb1
        exact hK _ _ ⟨(by rw [if_neg (by decide)]; exact hw1), Keep46.below hw1, fun e => absurd e (by decide), fun e => absurd e (by decide), fun e => absurd e (by decide)⟩ ⟨fun _ => ⟨_, _, rfl, hg2, hb1, rfl⟩, ⟨fun e => absurd e (by decide), fun e => absurd e (by decide), fun e => absurd e (by decide), fun e => absurd e (by decide), fun e => absurd e (by decide), fun e => absurd e (by decide), fun e => absurd e (by decide)⟩⟩
      · obtain rfl := Option.some.inj ho
        obtain ⟨g, c, ev, hgN, hb, hcs⟩ := (hk.dep 9 (by kernel_rfl)).1 rfl
        obtain ⟨c0, ev0, hc1, hc2⟩ := ((hk.dep 6 (by kernel_rfl)).2.2.2.2.2.1 rfl)
        refine wpList_storeRow rfl _ _ _ rfl g c0 ((((show a.eval (.tmp 6) = vs 9 from hk.slot 9 6 (by kernel_rfl) rfl)).trans ev)) ((((show a.eval (.tmp 35) = vs 6 from hk.slot 6 35 (by kernel_rfl) rfl)).trans ev0)) _ _ hb (hc1.trans hcs.symm) (by rw [hc1]; exact zBlk.2) hc2 ?_
        intro w1 hgr _ hb1
        exact hK _ _ ⟨(by rw [if_pos (by decide)]; exact below_of_grown hgr hgN hg2), Keep46.store hgr hb1 hc1, fun e => absurd e (by decide), fun e => absurd e (by decide), fun e => absurd e (by decide)⟩ ⟨fun e => absurd e (by decide), ⟨fun e => absurd e (by decide), fun e => absurd e (by decide), fun e => absurd e (by decide), fun e => absurd e (by decide), fun e => absurd e (by decide), fun e => absurd e (by decide), fun e => absurd e (by decide)⟩⟩
      · obtain rfl := Option.some.inj ho
        refine wpList_pure rfl _ (run_assign _ rfl) (hK _ _ ⟨(by rw [if_neg (by decide)]; exact Below.refl _ _), Keep46.below (Below.refl _ _), fun e => absurd e (by decide), fun e => absurd e (by decide), fun e => absurd e (by decide)⟩ ⟨fun e => absurd e (by decide), ⟨fun e => absurd e (by decide), fun e => absurd e (by decide), fun e => absurd e (by decide), fun e => absurd e (by decide), fun e => absurd e (by decide), fun e => absurd e (by decide), fun e => absurd e (by decide)⟩⟩)
      · obtain rfl := Option.some.inj ho
        refine wpList_pure rfl _ (run_assign _ rfl) (hK _ _ ⟨(by rw [if_neg (by decide)]; exact Below.refl _ _), Keep46.below (Below.refl _ _), fun e => absurd e (by decide), fun e => absurd e (by decide), fun e => absurd e (by decide)⟩ ⟨fun e => absurd e (by decide), ⟨fun e => absurd e (by decide), fun e => absurd e (by decide), fun e => absurd e (by decide), fun e => absurd e (by decide), fun e => absurd e (by decide), fun e => absurd e (by decide), fun _ => (((show a.eval (.tmp 37) = vs 8 from hk.slot 8 37 (by kernel_rfl) rfl)).trans ((hk.dep 8 (by kernel_rfl)).2.2.2.2.2.2.1 rfl))⟩⟩)
    obtain ⟨Lx, -, hBx, -, -⟩ := hGn
    clear Lx
    have e4 := ((hPr 12 (show 12 < 13 by decide)).2.2.2.2.2.2.2 rfl)
    clear hPr
    have hB4 : Below wc.heap.size wc wx := ((Below.refl wc.heap.size wc).drew).trans hBx
    replace h5 := h5.belowSize hB4
    replace hTx := hTx.below hB4
    replace hIx := hIx.below hB4
    replace hG := hG.belowSize hB4
    replace hB := hB.trans (hB4.mono hB.size)
    clear hBx hB4
    simp only [dstsR, List.map_cons, List.map_nil, puts, Nat.reduceAdd, Act.put, List.setIfInBounds_toArray, List.set_cons_zero, List.set_cons_succ, e4]
    clear e4
    obtain ⟨wd, hwd⟩ : ∃ y, y = wx := ⟨_, rfl⟩
    rw [← hwd] at h5 hTx hIx hG hB ⊢
    clear hwd wx

    go_simp
    go_upto_region 5 with fail
    refine wp_region_made (by kernel_rfl) (RE wd.heap.size 1 2 99 4 10) (RP wd.heap.size 9 (fun i v => (i = 0 → v = .string ⟨z.toArray⟩) ∧ (i = 3 → v = .agg (bc (.slice xa b.txs.length xc) b.conf (.slice xa2 b.mem.length xc2))) ∧ (i = 4 → TupP 1 v) ∧ (i = 5 → TupP 1 v) ∧ (i = 6 → AggP v) ∧ (i = 8 → v = .int .i64 1) ∧ (i = 12 → v = .int .i64 1))) (RG wd.heap.size wd.drew 1 2 99 4) (by kernel_rfl) ⟨Below.refl _ _, Nat.le_refl _, fun _ => ⟨fun e => (by cases e), fun e => (by cases e), fun e => (by cases e)⟩⟩ (fun L i w w' vs v _ _ hw hg hE _ => hg.step (fun e => hw 4 (by subst e; kernel_rfl)) hE) (fun _ _ _ _ _ _ h => h) (fun i j vs w w' u v _ _ hE h => h.stay hE) (fun i o ho a vs wx hk K hK => ?_) (fun vs wx hPr hGn => ?_)
    · obtain ⟨L, hL1, hL2, hL3, hg1, hg2, hg3⟩ := hk.gen
      have hi : i < 13 := (Array.getElem?_eq_some_iff.1 ho).1
      rcases (show i = 0 ∨ i = 1 ∨ i = 2 ∨ i = 3 ∨ i = 4 ∨ i = 5 ∨ i = 6 ∨ i = 7 ∨ i = 8 ∨ i = 9 ∨ i = 10 ∨ i = 11 ∨ i = 12 by omega) with rfl | rfl | rfl | rfl | rfl | rfl | rfl | rfl | rfl | rfl | rfl | rfl | rfl
      · obtain rfl := Option.some.inj ho
        refine wpList_callR Tryz.func17 (by kernel_rfl) (by kernel_rfl) rfl _ _ rfl #[] (by simp) _ (HZ wx) ?_
        rintro e w1 ⟨rfl, hw1⟩
        have hw2 := hw1.symm
        subst hw2
        exact ⟨_, rfl, hK _ _ ⟨(by rw [if_neg (by decide)]; exact Below.refl _ _), Keep46.below (Below.refl _ _), fun e => absurd e (by decide), fun e => absurd e (by decide), fun e => absurd e (by decide)⟩ ⟨fun e => absurd e (by decide), ⟨fun _ => rfl, fun e => absurd e (by decide), fun e => absurd e (by decide), fun e => absurd e (by decide), fun e => absurd e (by decide), fun e => absurd e (by decide), fun e => absurd e (by decide)⟩⟩⟩
      · obtain rfl := Option.some.inj ho
        refine wpList_bsl1I rfl _ rfl 0 rfl ?_
        intro w1 hw1 _ hb1
        exact hK _ _ ⟨(by rw [if_neg (by decide)]; exact hw1), Keep46.below hw1, fun _ => ⟨_, rfl, hb1⟩, fun e => absurd e (by decide), fun e => absurd e (by decide)⟩ ⟨fun e => absurd e (by decide), ⟨fun e => absurd e (by decide), fun e => absurd e (by decide), fun e => absurd e (by decide), fun e => absurd e (by decide), fun e => absurd e (by decide), fun e => absurd e (by decide), fun e => absurd e (by decide)⟩⟩
      · obtain rfl := Option.some.inj ho
        refine wpList_callR Tryz.func14 (by kernel_rfl) (by kernel_rfl) rfl _ _ rfl #[] (by simp) _ (new_any wx) ?_
        rintro e w1 ⟨rfl, hw1, hS1, _⟩
        exact ⟨_, rfl, hK _ _ ⟨(by rw [if_neg (by decide)]; exact hw1), Keep46.below hw1, fun e => absurd e (by decide), fun _ => ⟨_, rfl, Nat.le_succ_of_le hg2, hS1⟩, fun e => absurd e (by decide)⟩ ⟨fun e => absurd e (by decide), ⟨fun e => absurd e (by decide), fun e => absurd e (by decide), fun e => absurd e (by decide), fun e => absurd e (by decide), fun e => absurd e (by decide), fun e => absurd e (by decide), fun e => absurd e (by decide)⟩⟩⟩
      · obtain rfl := Option.some.inj ho
        refine wpList_loadRow rfl _ _ rfl B5 (hk.old 5 (by kernel_rfl)) _ _ (h5.belowSize (((Below.refl wd.heap.size wd).drew).trans hg1)) _ Tryz.underlying30 rfl (bc_info _ _ _) (hK _ _ ⟨(by rw [if_neg (by decide)]; exact Below.refl _ _), Keep46.below (Below.refl _ _), fun e => absurd e (by decide), fun e => absurd e (by decide), fun e => absurd e (by decide)⟩ ⟨fun e => absurd e (by decide), ⟨fun e => absurd e (by decide), fun _ => rfl, fun e => absurd e (by decide), fun e => absurd e (by decide), fun e => absurd e (by decide), fun e => absurd e (by decide), fun e => absurd e (by decide)⟩⟩)
      · obtain rfl := Option.some.inj ho
        have hm : L 4 = false := hL1
        obtain ⟨f1, f2, f3⟩ := hg3 hm
        obtain ⟨gb, eb, hb⟩ := f1 (hL2 1 (by kernel_rfl))
        have s0 := hk.slot 0 39 (by kernel_rfl) rfl
        have s1 := hk.slot 1 40 (by kernel_rfl) rfl
        have s2 := hk.slot 2 41 (by kernel_rfl) rfl
        have s3 := hk.slot 3 42 (by kernel_rfl) rfl
        obtain ⟨bs, es, hbs, hST⟩ := f2 (hL2 2 (by kernel_rfl))
        rw [((hk.dep 0 (by kernel_rfl)).2.1 rfl)] at s0
        rw [eb] at s1
        rw [es] at s2
        rw [((hk.dep 3 (by kernel_rfl)).2.2.1 rfl)] at s3
        refine wpList_callR Tryz.func16 (by kernel_rfl) (by kernel_rfl) rfl _ _ rfl _ (by simp only [List.map_toArray, List.map_cons, List.map_nil, Act.eval, s0, s1, s2, s3]; rfl) _ (HM0 b z 1 (some ⟨gb, 0, none⟩) (some ⟨bs, 0, none⟩) none xa xa2 xc xc2 wx _ hcb (hpl5 _) (hTx.below (((Below.refl wd.heap.size wd).drew).trans hg1)) hb.ia1 (hIx.below (((Below.refl wd.heap.size wd).drew).trans hg1)) hg2) ?_
        rintro e w1 ⟨v, rfl, hv, hw1, hk1⟩
        exact ⟨_, rfl, hK _ _ ⟨(by rw [if_pos (by decide)]; exact hw1), hk1, fun e => absurd e (by decide), fun e => absurd e (by decide), fun e => absurd e (by decide)⟩ ⟨fun e => absurd e (by decide), ⟨fun e => absurd e (by decide), fun e => absurd e (by decide), fun _ => hv, fun e => absurd e (by decide), fun e => absurd e (by decide), fun e => absurd e (by decide), fun e => absurd e (by decide)⟩⟩⟩
      · obtain rfl := Option.some.inj ho
        refine wpList_pure rfl _ (run_move _ rfl) (hK _ _ ⟨(by rw [if_neg (by decide)]; exact Below.refl _ _), Keep46.below (Below.refl _ _), fun e => absurd e (by decide), fun e => absurd e (by decide), fun e => absurd e (by decide)⟩ ⟨fun e => absurd e (by decide), ⟨fun e => absurd e (by decide), fun e => absurd e (by decide), fun e => absurd e (by decide), fun _ => (by show TupP _ (a.eval (.tmp 43)); rw [(show a.eval (.tmp 43) = vs 4 from hk.slot 4 43 (by kernel_rfl) rfl)]; exact ((hk.dep 4 (by kernel_rfl)).2.2.2.1 rfl)), fun e => absurd e (by decide), fun e => absurd e (by decide), fun e => absurd e (by decide)⟩⟩)
      · obtain rfl := Option.some.inj ho
        obtain ⟨c, st, ev, hc1, hc2⟩ := ((hk.dep 5 (by kernel_rfl)).2.2.2.2.1 rfl)
        have sm := (show a.eval (.tmp 38) = vs 5 from hk.slot 5 38 (by kernel_rfl) rfl)
        rw [ev] at sm
        refine wpList_pure rfl _ (run_extract _ _ rfl _ sm _ rfl) (hK _ _ ⟨(by rw [if_neg (by decide)]; exact Below.refl _ _), Keep46.below (Below.refl _ _), fun e => absurd e (by decide), fun e => absurd e (by decide), fun e => absurd e (by decide)⟩ ⟨fun e => absurd e (by decide), ⟨fun e => absurd e (by decide), fun e => absurd e (by decide), fun e => absurd e (by decide), fun e => absurd e (by decide), fun _ => ⟨c, rfl, hc1, hc2⟩, fun e => absurd e (by decide), fun e => absurd e (by decide)⟩⟩)
      · obtain rfl := Option.some.inj ho
        obtain ⟨c, st, ev, hc1, hc2⟩ := ((hk.dep 5 (by kernel_rfl)).2.2.2.2.1 rfl)
        have sm := (show a.eval (.tmp 38) = vs 5 from hk.slot 5 38 (by kernel_rfl) rfl)
        rw [ev] at sm
        refine wpList_pure rfl _ (run_extract _ _ rfl _ sm _ rfl) (hK _ _ ⟨(by rw [if_neg (by decide)]; exact Below.refl _ _), Keep46.below (Below.refl _ _), fun e => absurd e (by decide), fun e => absurd e (by decide), fun e => absurd e (by decide)⟩ ⟨fun e => absurd e (by decide), ⟨fun e => absurd e (by decide), fun e => absurd e (by decide), fun e => absurd e (by decide), fun e => absurd e (by decide), fun e => absurd e (by decide), fun e => absurd e (by decide), fun e => absurd e (by decide)⟩⟩)
      · obtain rfl := Option.some.inj ho
        obtain ⟨c, st, ev, hc1, hc2⟩ := ((hk.dep 5 (by kernel_rfl)).2.2.2.2.1 rfl)
        have sm := (show a.eval (.tmp 38) = vs 5 from hk.slot 5 38 (by kernel_rfl) rfl)
        rw [ev] at sm
        refine wpList_pure rfl _ (run_extract _ _ rfl _ sm _ rfl) (hK _ _ ⟨(by rw [if_neg (by decide)]; exact Below.refl _ _), Keep46.below (Below.refl _ _), fun e => absurd e (by decide), fun e => absurd e (by decide), fun e => absurd e (by decide)⟩ ⟨fun e => absurd e (by decide), ⟨fun e => absurd e (by decide), fun e => absurd e (by decide), fun e => absurd e (by decide), fun e => absurd e (by decide), fun e => absurd e (by decide), fun _ => rfl, fun e => absurd e (by decide)⟩⟩)
      · obtain rfl := Option.some.inj ho
        refine wpList_allocRow rfl _ rfl _ zBlk.1 ?_
        intro w1 hw1 _ hb1
        exact hK _ _ ⟨(by rw [if_neg (by decide)]; exact hw1), Keep46.below hw1, fun e => absurd e (by decide), fun e => absurd e (by decide), fun e => absurd e (by decide)⟩ ⟨fun _ => ⟨_, _, rfl, hg2, hb1, rfl⟩, ⟨fun e => absurd e (by decide), fun e => absurd e (by decide), fun e => absurd e (by decide), fun e => absurd e (by decide), fun e => absurd e (by decide), fun e => absurd e (by decide), fun e => absurd e (by decide)⟩⟩
      · obtain rfl := Option.some.inj ho
        obtain ⟨g, c, ev, hgN, hb, hcs⟩ := (hk.dep 9 (by kernel_rfl)).1 rfl
        obtain ⟨c0, ev0, hc1, hc2⟩ := ((hk.dep 6 (by kernel_rfl)).2.2.2.2.2.1 rfl)
        refine wpList_storeRow rfl _ _ _ rfl g c0 ((((show a.eval (.tmp 9) = vs 9 from hk.slot 9 9 (by kernel_rfl) rfl)).trans ev)) ((((show a.eval (.tmp 44) = vs 6 from hk.slot 6 44 (by kernel_rfl) rfl)).trans ev0)) _ _ hb (hc1.trans hcs.symm) (by rw [hc1]; exact zBlk.2) hc2 ?_
        intro w1 hgr _ hb1
        exact hK _ _ ⟨(by rw [if_pos (by decide)]; exact below_of_grown hgr hgN hg2), Keep46.store hgr hb1 hc1, fun e => absurd e (by decide), fun e => absurd e (by decide), fun e => absurd e (by decide)⟩ ⟨fun e => absurd e (by decide), ⟨fun e => absurd e (by decide), fun e => absurd e (by decide), fun e => absurd e (by decide), fun e => absurd e (by decide), fun e => absurd e (by decide), fun e => absurd e (by decide), fun e => absurd e (by decide)⟩⟩
      · obtain rfl := Option.some.inj ho
        refine wpList_pure rfl _ (run_assign _ rfl) (hK _ _ ⟨(by rw [if_neg (by decide)]; exact Below.refl _ _), Keep46.below (Below.refl _ _), fun e => absurd e (by decide), fun e => absurd e (by decide), fun e => absurd e (by decide)⟩ ⟨fun e => absurd e (by decide), ⟨fun e => absurd e (by decide), fun e => absurd e (by decide), fun e => absurd e (by decide), fun e => absurd e (by decide), fun e => absurd e (by decide), fun e => absurd e (by decide), fun e => absurd e (by decide)⟩⟩)
      · obtain rfl := Option.some.inj ho
        refine wpList_pure rfl _ (run_assign _ rfl) (hK _ _ ⟨(by rw [if_neg (by decide)]; exact Below.refl _ _), Keep46.below (Below.refl _ _), fun e => absurd e (by decide), fun e => absurd e (by decide), fun e => absurd e (by decide)⟩ ⟨fun e => absurd e (by decide), ⟨fun e => absurd e (by decide), fun e => absurd e (by decide), fun e => absurd e (by decide), fun e => absurd e (by decide), fun e => absurd e (by decide), fun e => absurd e (by decide), fun _ => (((show a.eval (.tmp 46) = vs 8 from hk.slot 8 46 (by kernel_rfl) rfl)).trans ((hk.dep 8 (by kernel_rfl)).2.2.2.2.2.2.1 rfl))⟩⟩)
    obtain ⟨Lx, -, hBx, -, -⟩ := hGn
    clear Lx
    have e5 := ((hPr 12 (show 12 < 13 by decide)).2.2.2.2.2.2.2 rfl)
    clear hPr
    have hB5 : Below wd.heap.size wd wx := ((Below.refl wd.heap.size wd).drew).trans hBx
    replace h5 := h5.belowSize hB5
    replace hTx := hTx.below hB5
    replace hIx := hIx.below hB5
    replace hG := hG.belowSize hB5
    replace hB := hB.trans (hB5.mono hB.size)
    clear hBx hB5
    simp only [dstsR, List.map_cons, List.map_nil, puts, Nat.reduceAdd, Act.put, List.setIfInBounds_toArray, List.set_cons_zero, List.set_cons_succ, e5]
    clear e5
    obtain ⟨we, hwe⟩ : ∃ y, y = wx := ⟨_, rfl⟩
    rw [← hwe] at h5 hTx hIx hG hB ⊢
    clear hwe wx

    go_simp
    go_upto_region 6 with fail
    refine wp_region_made (by kernel_rfl) (RE we.heap.size 1 2 3 5 11) (RP we.heap.size 10 (fun i v => (i = 0 → v = .string ⟨z.toArray⟩) ∧ (i = 4 → v = .agg (bc (.slice xa b.txs.length xc) b.conf (.slice xa2 b.mem.length xc2))) ∧ (i = 5 → TupP 1 v) ∧ (i = 6 → TupP 1 v) ∧ (i = 7 → AggP v) ∧ (i = 9 → v = .int .i64 1) ∧ (i = 13 → v = .int .i64 1))) (RG we.heap.size we.drew 1 2 3 5) (by kernel_rfl) ⟨Below.refl _ _, Nat.le_refl _, fun _ => ⟨fun e => (by cases e), fun e => (by cases e), fun e => (by cases e)⟩⟩ (fun L i w w' vs v _ _ hw hg hE _ => hg.step (fun e => hw 5 (by subst e; kernel_rfl)) hE) (fun _ _ _ _ _ _ h => h) (fun i j vs w w' u v _ _ hE h => h.stay hE) (fun i o ho a vs wx hk K hK => ?_) (fun vs wx hPr hGn => ?_)
    · obtain ⟨L, hL1, hL2, hL3, hg1, hg2, hg3⟩ := hk.gen
      have hi : i < 14 := (Array.getElem?_eq_some_iff.1 ho).1
      rcases (show i = 0 ∨ i = 1 ∨ i = 2 ∨ i = 3 ∨ i = 4 ∨ i = 5 ∨ i = 6 ∨ i = 7 ∨ i = 8 ∨ i = 9 ∨ i = 10 ∨ i = 11 ∨ i = 12 ∨ i = 13 by omega) with rfl | rfl | rfl | rfl | rfl | rfl | rfl | rfl | rfl | rfl | rfl | rfl | rfl | rfl
      · obtain rfl := Option.some.inj ho
        refine wpList_callR Tryz.func17 (by kernel_rfl) (by kernel_rfl) rfl _ _ rfl #[] (by simp) _ (HZ wx) ?_
        rintro e w1 ⟨rfl, hw1⟩
        have hw2 := hw1.symm
        subst hw2
        exact ⟨_, rfl, hK _ _ ⟨(by rw [if_neg (by decide)]; exact Below.refl _ _), Keep46.below (Below.refl _ _), fun e => absurd e (by decide), fun e => absurd e (by decide), fun e => absurd e (by decide)⟩ ⟨fun e => absurd e (by decide), ⟨fun _ => rfl, fun e => absurd e (by decide), fun e => absurd e (by decide), fun e => absurd e (by decide), fun e => absurd e (by decide), fun e => absurd e (by decide), fun e => absurd e (by decide)⟩⟩⟩
      · obtain rfl := Option.some.inj ho
        refine wpList_bsl1I rfl _ rfl 0 rfl ?_
        intro w1 hw1 _ hb1
        exact hK _ _ ⟨(by rw [if_neg (by decide)]; exact hw1), Keep46.below hw1, fun _ => ⟨_, rfl, hb1⟩, fun e => absurd e (by decide), fun e => absurd e (by decide)⟩ ⟨fun e => absurd e (by decide), ⟨fun e => absurd e (by decide), fun e => absurd e (by decide), fun e => absurd e (by decide), fun e => absurd e (by decide), fun e => absurd e (by decide), fun e => absurd e (by decide), fun e => absurd e (by decide)⟩⟩
      · obtain rfl := Option.some.inj ho
        refine wpList_callR Tryz.func14 (by kernel_rfl) (by kernel_rfl) rfl _ _ rfl #[] (by simp) _ (new_any wx) ?_
        rintro e w1 ⟨rfl, hw1, hS1, _⟩
        exact ⟨_, rfl, hK _ _ ⟨(by rw [if_neg (by decide)]; exact hw1), Keep46.below hw1, fun e => absurd e (by decide), fun _ => ⟨_, rfl, Nat.le_succ_of_le hg2, hS1⟩, fun e => absurd e (by decide)⟩ ⟨fun e => absurd e (by decide), ⟨fun e => absurd e (by decide), fun e => absurd e (by decide), fun e => absurd e (by decide), fun e => absurd e (by decide), fun e => absurd e (by decide), fun e => absurd e (by decide), fun e => absurd e (by decide)⟩⟩⟩
      · obtain rfl := Option.some.inj ho
        refine wpList_callR Tryz.func15 (by kernel_rfl) (by kernel_rfl) rfl _ _ rfl #[] (by simp) _ (Sh.tnew_any wx) ?_
        rintro e w1 ⟨rfl, hb1, hw1⟩
        exact ⟨_, rfl, hK _ _ ⟨(by rw [if_neg (by decide)]; exact hw1), Keep46.below hw1, fun e => absurd e (by decide), fun e => absurd e (by decide), fun _ => ⟨_, rfl, hg2, hb1⟩⟩ ⟨fun e => absurd e (by decide), ⟨fun e => absurd e (by decide), fun e => absurd e (by decide), fun e => absurd e (by decide), fun e => absurd e (by decide), fun e => absurd e (by decide), fun e => absurd e (by decide), fun e => absurd e (by decide)⟩⟩⟩
      · obtain rfl := Option.some.inj ho
        refine wpList_loadRow rfl _ _ rfl B5 (hk.old 5 (by kernel_rfl)) _ _ (h5.belowSize (((Below.refl we.heap.size we).drew).trans hg1)) _ Tryz.underlying30 rfl (bc_info _ _ _) (hK _ _ ⟨(by rw [if_neg (by decide)]; exact Below.refl _ _), Keep46.below (Below.refl _ _), fun e => absurd e (by decide), fun e => absurd e (by decide), fun e => absurd e (by decide)⟩ ⟨fun e => absurd e (by decide), ⟨fun e => absurd e (by decide), fun _ => rfl, fun e => absurd e (by decide), fun e => absurd e (by decide), fun e => absurd e (by decide), fun e => absurd e (by decide), fun e => absurd e (by decide)⟩⟩)
      · obtain rfl := Option.some.inj ho
        have hm : L 5 = false := hL1
        obtain ⟨f1, f2, f3⟩ := hg3 hm
        obtain ⟨gb, eb, hb⟩ := f1 (hL2 1 (by kernel_rfl))
        have s0 := hk.slot 0 48 (by kernel_rfl) rfl
        have s1 := hk.slot 1 49 (by kernel_rfl) rfl
        have s2 := hk.slot 2 50 (by kernel_rfl) rfl
        have s3 := hk.slot 3 51 (by kernel_rfl) rfl
        have s4 := hk.slot 4 52 (by kernel_rfl) rfl
        obtain ⟨bs, es, hbs, hST⟩ := f2 (hL2 2 (by kernel_rfl))
        obtain ⟨bt, et, hbt, hTr⟩ := f3 (hL2 3 (by kernel_rfl))
        rw [((hk.dep 0 (by kernel_rfl)).2.1 rfl)] at s0
        rw [eb] at s1
        rw [es] at s2
        rw [et] at s3
        rw [((hk.dep 4 (by kernel_rfl)).2.2.1 rfl)] at s4
        refine wpList_callR Tryz.func16 (by kernel_rfl) (by kernel_rfl) rfl _ _ rfl _ (by simp only [List.map_toArray, List.map_cons, List.map_nil, Act.eval, s0, s1, s2, s3, s4]; rfl) _ (HM0 b z 0 (some ⟨gb, 0, none⟩) (some ⟨bs, 0, none⟩) (some ⟨bt, 0, none⟩) xa xa2 xc xc2 wx _ hcb (hpl6 _ _) (hTx.below (((Below.refl we.heap.size we).drew).trans hg1)) hb.ia1 (hIx.below (((Below.refl we.heap.size we).drew).trans hg1)) hg2) ?_
        rintro e w1 ⟨v, rfl, hv, hw1, hk1⟩
        exact ⟨_, rfl, hK _ _ ⟨(by rw [if_pos (by decide)]; exact hw1), hk1, fun e => absurd e (by decide), fun e => absurd e (by decide), fun e => absurd e (by decide)⟩ ⟨fun e => absurd e (by decide), ⟨fun e => absurd e (by decide), fun e => absurd e (by decide), fun _ => hv, fun e => absurd e (by decide), fun e => absurd e (by decide), fun e => absurd e (by decide), fun e => absurd e (by decide)⟩⟩⟩
      · obtain rfl := Option.some.inj ho
        refine wpList_pure rfl _ (run_move _ rfl) (hK _ _ ⟨(by rw [if_neg (by decide)]; exact Below.refl _ _), Keep46.below (Below.refl _ _), fun e => absurd e (by decide), fun e => absurd e (by decide), fun e => absurd e (by decide)⟩ ⟨fun e => absurd e (by decide), ⟨fun e => absurd e (by decide), fun e => absurd e (by decide), fun e => absurd e (by decide), fun _ => (by show TupP _ (a.eval (.tmp 53)); rw [(show a.eval (.tmp 53) = vs 5 from hk.slot 5 53 (by kernel_rfl) rfl)]; exact ((hk.dep 5 (by kernel_rfl)).2.2.2.1 rfl)), fun e => absurd e (by decide), fun e => absurd e (by decide), fun e => absurd e (by decide)⟩⟩)
      · obtain rfl := Option.some.inj ho
        obtain ⟨c, st, ev, hc1, hc2⟩ := ((hk.dep 6 (by kernel_rfl)).2.2.2.2.1 rfl)
        have sm := (show a.eval (.tmp 47) = vs 6 from hk.slot 6 47 (by kernel_rfl) rfl)
        rw [ev] at sm
        refine wpList_pure rfl _ (run_extract _ _ rfl _ sm _ rfl) (hK _ _ ⟨(by rw [if_neg (by decide)]; exact Below.refl _ _), Keep46.below (Below.refl _ _), fun e => absurd e (by decide), fun e => absurd e (by decide), fun e => absurd e (by decide)⟩ ⟨fun e => absurd e (by decide), ⟨fun e => absurd e (by decide), fun e => absurd e (by decide), fun e => absurd e (by decide), fun e => absurd e (by decide), fun _ => ⟨c, rfl, hc1, hc2⟩, fun e => absurd e (by decide), fun e => absurd e (by decide)⟩⟩)
      · obtain rfl := Option.some.inj ho
        obtain ⟨c, st, ev, hc1, hc2⟩ := ((hk.dep 6 (by kernel_rfl)).2.2.2.2.1 rfl)
        have sm := (show a.eval (.tmp 47) = vs 6 from hk.slot 6 47 (by kernel_rfl) rfl)
        rw [ev] at sm
        refine wpList_pure rfl _ (run_extract _ _ rfl _ sm _ rfl) (hK _ _ ⟨(by rw [if_neg (by decide)]; exact Below.refl _ _), Keep46.below (Below.refl _ _), fun e => absurd e (by decide), fun e => absurd e (by decide), fun e => absurd e (by decide)⟩ ⟨fun e => absurd e (by decide), ⟨fun e => absurd e (by decide), fun e => absurd e (by decide), fun e => absurd e (by decide), fun e => absurd e (by decide), fun e => absurd e (by decide), fun e => absurd e (by decide), fun e => absurd e (by decide)⟩⟩)
      · obtain rfl := Option.some.inj ho
        obtain ⟨c, st, ev, hc1, hc2⟩ := ((hk.dep 6 (by kernel_rfl)).2.2.2.2.1 rfl)
        have sm := (show a.eval (.tmp 47) = vs 6 from hk.slot 6 47 (by kernel_rfl) rfl)
        rw [ev] at sm
        refine wpList_pure rfl _ (run_extract _ _ rfl _ sm _ rfl) (hK _ _ ⟨(by rw [if_neg (by decide)]; exact Below.refl _ _), Keep46.below (Below.refl _ _), fun e => absurd e (by decide), fun e => absurd e (by decide), fun e => absurd e (by decide)⟩ ⟨fun e => absurd e (by decide), ⟨fun e => absurd e (by decide), fun e => absurd e (by decide), fun e => absurd e (by decide), fun e => absurd e (by decide), fun e => absurd e (by decide), fun _ => rfl, fun e => absurd e (by decide)⟩⟩)
      · obtain rfl := Option.some.inj ho
        refine wpList_allocRow rfl _ rfl _ zBlk.1 ?_
        intro w1 hw1 _ hb1
        exact hK _ _ ⟨(by rw [if_neg (by decide)]; exact hw1), Keep46.below hw1, fun e => absurd e (by decide), fun e => absurd e (by decide), fun e => absurd e (by decide)⟩ ⟨fun _ => ⟨_, _, rfl, hg2, hb1, rfl⟩, ⟨fun e => absurd e (by decide), fun e => absurd e (by decide), fun e => absurd e (by decide), fun e => absurd e (by decide), fun e => absurd e (by decide), fun e => absurd e (by decide), fun e => absurd e (by decide)⟩⟩
      · obtain rfl := Option.some.inj ho
        obtain ⟨g, c, ev, hgN, hb, hcs⟩ := (hk.dep 10 (by kernel_rfl)).1 rfl
        obtain ⟨c0, ev0, hc1, hc2⟩ := ((hk.dep 7 (by kernel_rfl)).2.2.2.2.2.1 rfl)
        refine wpList_storeRow rfl _ _ _ rfl g c0 ((((show a.eval (.tmp 12) = vs 10 from hk.slot 10 12 (by kernel_rfl) rfl)).trans ev)) ((((show a.eval (.tmp 54) = vs 7 from hk.slot 7 54 (by kernel_rfl) rfl)).trans ev0)) _ _ hb (hc1.trans hcs.symm) (by rw [hc1]; exact zBlk.2) hc2 ?_
        intro w1 hgr _ hb1
        exact hK _ _ ⟨(by rw [if_pos (by decide)]; exact below_of_grown hgr hgN hg2), Keep46.store hgr hb1 hc1, fun e => absurd e (by decide), fun e => absurd e (by decide), fun e => absurd e (by decide)⟩ ⟨fun e => absurd e (by decide), ⟨fun e => absurd e (by decide), fun e => absurd e (by decide), fun e => absurd e (by decide), fun e => absurd e (by decide), fun e => absurd e (by decide), fun e => absurd e (by decide), fun e => absurd e (by decide)⟩⟩
      · obtain rfl := Option.some.inj ho
        refine wpList_pure rfl _ (run_assign _ rfl) (hK _ _ ⟨(by rw [if_neg (by decide)]; exact Below.refl _ _), Keep46.below (Below.refl _ _), fun e => absurd e (by decide), fun e => absurd e (by decide), fun e => absurd e (by decide)⟩ ⟨fun e => absurd e (by decide), ⟨fun e => absurd e (by decide), fun e => absurd e (by decide), fun e => absurd e (by decide), fun e => absurd e (by decide), fun e => absurd e (by decide), fun e => absurd e (by decide), fun e => absurd e (by decide)⟩⟩)
      · obtain rfl := Option.some.inj ho
        refine wpList_pure rfl _ (run_assign _ rfl) (hK _ _ ⟨(by rw [if_neg (by decide)]; exact Below.refl _ _), Keep46.below (Below.refl _ _), fun e => absurd e (by decide), fun e => absurd e (by decide), fun e => absurd e (by decide)⟩ ⟨fun e => absurd e (by decide), ⟨fun e => absurd e (by decide), fun e => absurd e (by decide), fun e => absurd e (by decide), fun e => absurd e (by decide), fun e => absurd e (by decide), fun e => absurd e (by decide), fun _ => (((show a.eval (.tmp 56) = vs 9 from hk.slot 9 56 (by kernel_rfl) rfl)).trans ((hk.dep 9 (by kernel_rfl)).2.2.2.2.2.2.1 rfl))⟩⟩)
    obtain ⟨Lx, -, hBx, -, -⟩ := hGn
    clear Lx
    have e6 := ((hPr 13 (show 13 < 14 by decide)).2.2.2.2.2.2.2 rfl)
    clear hPr
    have hB6 : Below we.heap.size we wx := ((Below.refl we.heap.size we).drew).trans hBx
    replace h5 := h5.belowSize hB6
    replace hTx := hTx.below hB6
    replace hIx := hIx.below hB6
    replace hG := hG.belowSize hB6
    replace hB := hB.trans (hB6.mono hB.size)
    clear hBx hB6
    simp only [dstsR, List.map_cons, List.map_nil, puts, Nat.reduceAdd, Act.put, List.setIfInBounds_toArray, List.set_cons_zero, List.set_cons_succ, e6]
    clear e6
    obtain ⟨wf, hwf⟩ : ∃ y, y = wx := ⟨_, rfl⟩
    rw [← hwf] at h5 hTx hIx hG hB ⊢
    clear hwf wx

    go_simp
    go_upto_region 7 with fail
    refine wp_region_made (by kernel_rfl) (RE wf.heap.size 1 2 3 5 11) (RP wf.heap.size 10 (fun i v => (i = 0 → v = .string ⟨prev.toArray⟩) ∧ (i = 4 → v = .agg (bc (.slice xa b.txs.length xc) b.conf (.slice xa2 b.mem.length xc2))) ∧ (i = 5 → TupP er7 v) ∧ (i = 6 → TupP er7 v) ∧ (i = 7 → AggP v) ∧ (i = 9 → v = .int .i64 er7) ∧ (i = 13 → v = .int .i64 er7))) (RG wf.heap.size wf.drew 1 2 3 5) (by kernel_rfl) ⟨Below.refl _ _, Nat.le_refl _, fun _ => ⟨fun e => (by cases e), fun e => (by cases e), fun e => (by cases e)⟩⟩ (fun L i w w' vs v _ _ hw hg hE _ => hg.step (fun e => hw 5 (by subst e; kernel_rfl)) hE) (fun _ _ _ _ _ _ h => h) (fun i j vs w w' u v _ _ hE h => h.stay hE) (fun i o ho a vs wx hk K hK => ?_) (fun vs wx hPr hGn => ?_)
    · obtain ⟨L, hL1, hL2, hL3, hg1, hg2, hg3⟩ := hk.gen
      have hi : i < 14 := (Array.getElem?_eq_some_iff.1 ho).1
      rcases (show i = 0 ∨ i = 1 ∨ i = 2 ∨ i = 3 ∨ i = 4 ∨ i = 5 ∨ i = 6 ∨ i = 7 ∨ i = 8 ∨ i = 9 ∨ i = 10 ∨ i = 11 ∨ i = 12 ∨ i = 13 by omega) with rfl | rfl | rfl | rfl | rfl | rfl | rfl | rfl | rfl | rfl | rfl | rfl | rfl | rfl
      · obtain rfl := Option.some.inj ho
        refine wpList_pure rfl _ (run_move _ rfl) (hK _ _ ⟨(by rw [if_neg (by decide)]; exact Below.refl _ _), Keep46.below (Below.refl _ _), fun e => absurd e (by decide), fun e => absurd e (by decide), fun e => absurd e (by decide)⟩ ⟨fun e => absurd e (by decide), ⟨fun _ => hk.old 1 (by kernel_rfl), fun e => absurd e (by decide), fun e => absurd e (by decide), fun e => absurd e (by decide), fun e => absurd e (by decide), fun e => absurd e (by decide), fun e => absurd e (by decide)⟩⟩)
      · obtain rfl := Option.some.inj ho
        refine wpList_bsl1I rfl _ rfl 0 rfl ?_
        intro w1 hw1 _ hb1
        exact hK _ _ ⟨(by rw [if_neg (by decide)]; exact hw1), Keep46.below hw1, fun _ => ⟨_, rfl, hb1⟩, fun e => absurd e (by decide), fun e => absurd e (by decide)⟩ ⟨fun e => absurd e (by decide), ⟨fun e => absurd e (by decide), fun e => absurd e (by decide), fun e => absurd e (by decide), fun e => absurd e (by decide), fun e => absurd e (by decide), fun e => absurd e (by decide), fun e => absurd e (by decide)⟩⟩
      · obtain rfl := Option.some.inj ho
        refine wpList_callR Tryz.func14 (by kernel_rfl) (by kernel_rfl) rfl _ _ rfl #[] (by simp) _ (new_any wx) ?_
        rintro e w1 ⟨rfl, hw1, hS1, _⟩
        exact ⟨_, rfl, hK _ _ ⟨(by rw [if_neg (by decide)]; exact hw1), Keep46.below hw1, fun e => absurd e (by decide), fun _ => ⟨_, rfl, Nat.le_succ_of_le hg2, hS1⟩, fun e => absurd e (by decide)⟩ ⟨fun e => absurd e (by decide), ⟨fun e => absurd e (by decide), fun e => absurd e (by decide), fun e => absurd e (by decide), fun e => absurd e (by decide), fun e => absurd e (by decide), fun e => absurd e (by decide), fun e => absurd e (by decide)⟩⟩⟩
      · obtain rfl := Option.some.inj ho
        refine wpList_callR Tryz.func15 (by kernel_rfl) (by kernel_rfl) rfl _ _ rfl #[] (by simp) _ (Sh.tnew_any wx) ?_
        rintro e w1 ⟨rfl, hb1, hw1⟩
        exact ⟨_, rfl, hK _ _ ⟨(by rw [if_neg (by decide)]; exact hw1), Keep46.below hw1, fun e => absurd e (by decide), fun e => absurd e (by decide), fun _ => ⟨_, rfl, hg2, hb1⟩⟩ ⟨fun e => absurd e (by decide), ⟨fun e => absurd e (by decide), fun e => absurd e (by decide), fun e => absurd e (by decide), fun e => absurd e (by decide), fun e => absurd e (by decide), fun e => absurd e (by decide), fun e => absurd e (by decide)⟩⟩⟩
      · obtain rfl := Option.some.inj ho
        refine wpList_loadRow rfl _ _ rfl B5 (hk.old 5 (by kernel_rfl)) _ _ (h5.belowSize (((Below.refl wf.heap.size wf).drew).trans hg1)) _ Tryz.underlying30 rfl (bc_info _ _ _) (hK _ _ ⟨(by rw [if_neg (by decide)]; exact Below.refl _ _), Keep46.below (Below.refl _ _), fun e => absurd e (by decide), fun e => absurd e (by decide), fun e => absurd e (by decide)⟩ ⟨fun e => absurd e (by decide), ⟨fun e => absurd e (by decide), fun _ => rfl, fun e => absurd e (by decide), fun e => absurd e (by decide), fun e => absurd e (by decide), fun e => absurd e (by decide), fun e => absurd e (by decide)⟩⟩)
      · obtain rfl := Option.some.inj ho
        have hm : L 5 = false := hL1
        obtain ⟨f1, f2, f3⟩ := hg3 hm
        obtain ⟨gb, eb, hb⟩ := f1 (hL2 1 (by kernel_rfl))
        have s0 := hk.slot 0 58 (by kernel_rfl) rfl
        have s1 := hk.slot 1 59 (by kernel_rfl) rfl
        have s2 := hk.slot 2 60 (by kernel_rfl) rfl
        have s3 := hk.slot 3 61 (by kernel_rfl) rfl
        have s4 := hk.slot 4 62 (by kernel_rfl) rfl
        obtain ⟨bs, es, hbs, hST⟩ := f2 (hL2 2 (by kernel_rfl))
        obtain ⟨bt, et, hbt, hTr⟩ := f3 (hL2 3 (by kernel_rfl))
        rw [((hk.dep 0 (by kernel_rfl)).2.1 rfl)] at s0
        rw [eb] at s1
        rw [es] at s2
        rw [et] at s3
        rw [((hk.dep 4 (by kernel_rfl)).2.2.1 rfl)] at s4
        refine wpList_callR Tryz.func16 (by kernel_rfl) (by kernel_rfl) rfl _ _ rfl _ (by simp only [List.map_toArray, List.map_cons, List.map_nil, Act.eval, s0, s1, s2, s3, s4]; rfl) _ (HM7 b (some ⟨gb, 0, none⟩) bs bt xa xa2 xc xc2 wx _ hcb (EX.new hST hTr (hG.belowSize (((Below.refl wf.heap.size wf).drew).trans hg1)) ⟨Nat.le_trans (hG.two) hbs, Nat.le_trans (hG.two) hbt⟩) (hTx.below (((Below.refl wf.heap.size wf).drew).trans hg1)) hb.ia1 (hIx.below (((Below.refl wf.heap.size wf).drew).trans hg1)) hg2 hbs hbt) ?_
        rintro e w1 ⟨v, rfl, hv, hw1, hk1⟩
        exact ⟨_, rfl, hK _ _ ⟨(by rw [if_pos (by decide)]; exact hw1), hk1, fun e => absurd e (by decide), fun e => absurd e (by decide), fun e => absurd e (by decide)⟩ ⟨fun e => absurd e (by decide), ⟨fun e => absurd e (by decide), fun e => absurd e (by decide), fun _ => hv, fun e => absurd e (by decide), fun e => absurd e (by decide), fun e => absurd e (by decide), fun e => absurd e (by decide)⟩⟩⟩
      · obtain rfl := Option.some.inj ho
        refine wpList_pure rfl _ (run_move _ rfl) (hK _ _ ⟨(by rw [if_neg (by decide)]; exact Below.refl _ _), Keep46.below (Below.refl _ _), fun e => absurd e (by decide), fun e => absurd e (by decide), fun e => absurd e (by decide)⟩ ⟨fun e => absurd e (by decide), ⟨fun e => absurd e (by decide), fun e => absurd e (by decide), fun e => absurd e (by decide), fun _ => (by show TupP _ (a.eval (.tmp 63)); rw [(show a.eval (.tmp 63) = vs 5 from hk.slot 5 63 (by kernel_rfl) rfl)]; exact ((hk.dep 5 (by kernel_rfl)).2.2.2.1 rfl)), fun e => absurd e (by decide), fun e => absurd e (by decide), fun e => absurd e (by decide)⟩⟩)
      · obtain rfl := Option.some.inj ho
        obtain ⟨c, st, ev, hc1, hc2⟩ := ((hk.dep 6 (by kernel_rfl)).2.2.2.2.1 rfl)
        have sm := (show a.eval (.tmp 57) = vs 6 from hk.slot 6 57 (by kernel_rfl) rfl)
        rw [ev] at sm
        refine wpList_pure rfl _ (run_extract _ _ rfl _ sm _ rfl) (hK _ _ ⟨(by rw [if_neg (by decide)]; exact Below.refl _ _), Keep46.below (Below.refl _ _), fun e => absurd e (by decide), fun e => absurd e (by decide), fun e => absurd e (by decide)⟩ ⟨fun e => absurd e (by decide), ⟨fun e => absurd e (by decide), fun e => absurd e (by decide), fun e => absurd e (by decide), fun e => absurd e (by decide), fun _ => ⟨c, rfl, hc1, hc2⟩, fun e => absurd e (by decide), fun e => absurd e (by decide)⟩⟩)
      · obtain rfl := Option.some.inj ho
        obtain ⟨c, st, ev, hc1, hc2⟩ := ((hk.dep 6 (by kernel_rfl)).2.2.2.2.1 rfl)
        have sm := (show a.eval (.tmp 57) = vs 6 from hk.slot 6 57 (by kernel_rfl) rfl)
        rw [ev] at sm
        refine wpList_pure rfl _ (run_extract _ _ rfl _ sm _ rfl) (hK _ _ ⟨(by rw [if_neg (by decide)]; exact Below.refl _ _), Keep46.below (Below.refl _ _), fun e => absurd e (by decide), fun e => absurd e (by decide), fun e => absurd e (by decide)⟩ ⟨fun e => absurd e (by decide), ⟨fun e => absurd e (by decide), fun e => absurd e (by decide), fun e => absurd e (by decide), fun e => absurd e (by decide), fun e => absurd e (by decide), fun e => absurd e (by decide), fun e => absurd e (by decide)⟩⟩)
      · obtain rfl := Option.some.inj ho
        obtain ⟨c, st, ev, hc1, hc2⟩ := ((hk.dep 6 (by kernel_rfl)).2.2.2.2.1 rfl)
        have sm := (show a.eval (.tmp 57) = vs 6 from hk.slot 6 57 (by kernel_rfl) rfl)
        rw [ev] at sm
        refine wpList_pure rfl _ (run_extract _ _ rfl _ sm _ rfl) (hK _ _ ⟨(by rw [if_neg (by decide)]; exact Below.refl _ _), Keep46.below (Below.refl _ _), fun e => absurd e (by decide), fun e => absurd e (by decide), fun e => absurd e (by decide)⟩ ⟨fun e => absurd e (by decide), ⟨fun e => absurd e (by decide), fun e => absurd e (by decide), fun e => absurd e (by decide), fun e => absurd e (by decide), fun e => absurd e (by decide), fun _ => rfl, fun e => absurd e (by decide)⟩⟩)
      · obtain rfl := Option.some.inj ho
        refine wpList_allocRow rfl _ rfl _ zBlk.1 ?_
        intro w1 hw1 _ hb1
        exact hK _ _ ⟨(by rw [if_neg (by decide)]; exact hw1), Keep46.below hw1, fun e => absurd e (by decide), fun e => absurd e (by decide), fun e => absurd e (by decide)⟩ ⟨fun _ => ⟨_, _, rfl, hg2, hb1, rfl⟩, ⟨fun e => absurd e (by decide), fun e => absurd e (by decide), fun e => absurd e (by decide), fun e => absurd e (by decide), fun e => absurd e (by decide), fun e => absurd e (by decide), fun e => absurd e (by decide)⟩⟩
      · obtain rfl := Option.some.inj ho
        obtain ⟨g, c, ev, hgN, hb, hcs⟩ := (hk.dep 10 (by kernel_rfl)).1 rfl
        obtain ⟨c0, ev0, hc1, hc2⟩ := ((hk.dep 7 (by kernel_rfl)).2.2.2.2.2.1 rfl)
        refine wpList_storeRow rfl _ _ _ rfl g c0 ((((show a.eval (.tmp 15) = vs 10 from hk.slot 10 15 (by kernel_rfl) rfl)).trans ev)) ((((show a.eval (.tmp 64) = vs 7 from hk.slot 7 64 (by kernel_rfl) rfl)).trans ev0)) _ _ hb (hc1.trans hcs.symm) (by rw [hc1]; exact zBlk.2) hc2 ?_
        intro w1 hgr _ hb1
        exact hK _ _ ⟨(by rw [if_pos (by decide)]; exact below_of_grown hgr hgN hg2), Keep46.store hgr hb1 hc1, fun e => absurd e (by decide), fun e => absurd e (by decide), fun e => absurd e (by decide)⟩ ⟨fun e => absurd e (by decide), ⟨fun e => absurd e (by decide), fun e => absurd e (by decide), fun e => absurd e (by decide), fun e => absurd e (by decide), fun e => absurd e (by decide), fun e => absurd e (by decide), fun e => absurd e (by decide)⟩⟩
      · obtain rfl := Option.some.inj ho
        refine wpList_pure rfl _ (run_assign _ rfl) (hK _ _ ⟨(by rw [if_neg (by decide)]; exact Below.refl _ _), Keep46.below (Below.refl _ _), fun e => absurd e (by decide), fun e => absurd e (by decide), fun e => absurd e (by decide)⟩ ⟨fun e => absurd e (by decide), ⟨fun e => absurd e (by decide), fun e => absurd e (by decide), fun e => absurd e (by decide), fun e => absurd e (by decide), fun e => absurd e (by decide), fun e => absurd e (by decide), fun e => absurd e (by decide)⟩⟩)
      · obtain rfl := Option.some.inj ho
        refine wpList_pure rfl _ (run_assign _ rfl) (hK _ _ ⟨(by rw [if_neg (by decide)]; exact Below.refl _ _), Keep46.below (Below.refl _ _), fun e => absurd e (by decide), fun e => absurd e (by decide), fun e => absurd e (by decide)⟩ ⟨fun e => absurd e (by decide), ⟨fun e => absurd e (by decide), fun e => absurd e (by decide), fun e => absurd e (by decide), fun e => absurd e (by decide), fun e => absurd e (by decide), fun e => absurd e (by decide), fun _ => (((show a.eval (.tmp 66) = vs 9 from hk.slot 9 66 (by kernel_rfl) rfl)).trans ((hk.dep 9 (by kernel_rfl)).2.2.2.2.2.2.1 rfl))⟩⟩)
    obtain ⟨Lx, -, hBx, -, -⟩ := hGn
    clear Lx
    have e7 := ((hPr 13 (show 13 < 14 by decide)).2.2.2.2.2.2.2 rfl)
    clear hPr
    have hB7 : Below wf.heap.size wf wx := ((Below.refl wf.heap.size wf).drew).trans hBx
    replace h5 := h5.belowSize hB7
    replace hTx := hTx.below hB7
    replace hIx := hIx.below hB7
    replace hG := hG.belowSize hB7
    replace hB := hB.trans (hB7.mono hB.size)
    clear hBx hB7
    simp only [dstsR, List.map_cons, List.map_nil, puts, Nat.reduceAdd, Act.put, List.setIfInBounds_toArray, List.set_cons_zero, List.set_cons_succ, e7]
    clear e7
    obtain ⟨wg, hwg⟩ : ∃ y, y = wx := ⟨_, rfl⟩
    rw [← hwg] at h5 hTx hIx hG hB ⊢
    clear hwg wx

    go_simp
    go_upto_region 11 with (first
      | (go_at_call 30; refine (HX _ _ _ _ _ _ _ _).mono ?_; rintro e wh ⟨rfl, hwh⟩; clear HX; replace hG := hG.belowSize hwh; replace hB := hB.trans (hwh.mono hB.size); clear hwh)
      | (go_at_call 17; refine (HZ _).mono ?_; rintro e w' ⟨rfl, hw'⟩; have hw6 := hw'.symm; subst hw6; clear hw')
      | (go_at_call 14; refine (new_any _).mono ?_; rintro e wl ⟨rfl, hwl, hSl, hsl⟩; clear hsl hSl; replace hG := hG.belowSize hwl; replace hbk := hbk.belowSize hwl; replace hB := hB.trans (hwl.mono hB.size); clear hwl)
      | (go_at_call 15; refine (Sh.tnew_any _).mono ?_; rintro e wm ⟨rfl, hbm, hwm⟩; clear hbm; replace hG := hG.belowSize hwm; replace hbk := hbk.belowSize hwm; replace hB := hB.trans (hwm.mono hB.size); clear hwm)
      | (go_at_call 28; first
        | (refine (HC1 _ _ _ hbi.ia1).mono ?_; rintro e wj ⟨rfl, hwj⟩; clear HC1 hbi; replace hG := hG.belowSize hwj; replace hB := hB.trans (hwj.mono hB.size); clear hwj)
        | (refine (HC2 _ _ _ _ hbk.ia1).mono ?_; rintro e wn ⟨rfl, hwn⟩; clear HC2 hbk; replace hG := hG.belowSize hwn; replace hB := hB.trans (hwn.mono hB.size); clear hwn))
      | (with_reducible refine at_list ?_; first
        | (refine wpList_loadRow (op := ⟨some 68, _, _, _, _, _⟩) rfl _ _ rfl B5 rfl _ _ h5 _ Tryz.underlying30 rfl (bc_info _ _ _) ?_)
        | (refine wpList_bsl1I (op := ⟨some 73, _, _, _, _, _⟩) rfl _ rfl 0 rfl ?_; intro wi hwi hsi hbi; clear hsi; replace hG := hG.belowSize hwi; replace hB := hB.trans (hwi.mono hB.size); clear hwi)
        | (refine wpList_build (o := ⟨some 74, _, _, _, _, _⟩) rfl _ _ rfl builtBk0 ?_)
        | (refine wpList_bsl1I (op := ⟨some 77, _, _, _, _, _⟩) rfl _ rfl 0 rfl ?_; intro wk hwk hsk hbk; clear hsk; replace hG := hG.belowSize hwk; replace hB := hB.trans (hwk.mono hB.size); clear hwk)
        | (refine wpList_build (o := ⟨some 80, _, _, _, _, _⟩) rfl _ _ rfl builtBk0 ?_)))
    clear h5 hTx hIx
    cases q
    · go_wp2_with (go_at_call 13; refine (HA _ hG).mono ?_; rintro e wq ⟨rfl, hwq⟩; clear HA)
      go_ret
      exact ⟨rfl, hB.trans (hwq.mono hB.size)⟩
    · go_wp2_with (go_at_call 13; refine (HA _ hG).mono ?_; rintro e wq ⟨rfl, hwq⟩; clear HA)
      go_ret
      exact ⟨rfl, hB.trans (hwq.mono hB.size)⟩
end
end Go.Proofs.YtjfpfkiccbcedaaGreatDoor
