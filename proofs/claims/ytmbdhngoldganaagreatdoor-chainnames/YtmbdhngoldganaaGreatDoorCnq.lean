/- What ChainNames does where both names may be. -/
import Derived.Test.YtmbdhngoldganaaGreatDoorCnm
namespace Go.Proofs.YtmbdhngoldganaaGreatDoor
open Go Go.RowKit
section
attribute [local go_sem] Oper.semAt_some
set_option maxRecDepth 100000 in
set_option maxHeartbeats 16000000 in
theorem names_good (nx : List UInt8) (lx : List Int) (ax : Option Addr) (cx : Nat) (ny : List UInt8) (ly : List Int) (ay : Option Addr) (cy : Nat) (l : List BT) (a : Option Addr) (cap : Nat) (w : World) (hG : Sh.Glob w) (hIx : IA w ax lx) (hIy : IA w ay ly) (hB : BA w a l) (hl : l.length ≤ maxLen) (hkx : okS nx lx = true) (hky : okS ny ly = true) :
    Calls Tryz.prog 7 #[.agg (suC nx (.slice ax lx.length cx)), .agg (suC ny (.slice ay ly.length cy)), .slice a l.length cap] w fun e w' => e = .returned (.bool true) ∧ Below w.heap.size w w' := by
  have h2w := hG.two
  have HMa := fun w1 (hb : Below w.heap.size w w1) => (made_any nx lx ax cx w1 (hIx.below hb) (hG.belowSize hb)).mono fun e w' h => h.good hkx
  have HMb := fun w1 (hb : Below w.heap.size w w1) => (made_any ny ly ay cy w1 (hIy.below hb) (hG.belowSize hb)).mono fun e w' h => h.good hky
  have HW := fun w1 (hb : Below w.heap.size w w1) => awakeC_any w1 (hG.belowSize hb)
  have HK := fun w1 (hb : Below w.heap.size w w1) => good_any l a cap w w1 hb hB hl
  have hrx := room_new hkx
  have hry := room_new hky
  obtain ⟨_, hmx⟩ := okS_iff.1 hkx
  obtain ⟨_, hmy⟩ := okS_iff.1 hky
  replace hmx := okM_iff.1 hmx
  replace hmy := okM_iff.1 hmy
  have hgx : Hid (gD nx lx = gD nx lx) := rfl
  have iX : ∀ n s, (Tryz.prog.info? 24).map (·.size) = some (suC n s).size := suC_info
  clear hgx
  unfold GdP at HK
  generalize hKe : goodL l = K at *
  have hK8 : K.length ≤ 8 := by rw [← hKe]; exact goodL_len l
  have hKok : ∀ b ∈ K, chkB b = 0 := fun b hb => goodL_ok (l := l) (by rw [hKe]; exact hb)
  clear hKe hkx hky hB hl
  go_enter Tryz.func7, Tryz.ntmps7
  go_upto_region 5 with (first
    | (go_at_call 17; first
      | (refine (HMa _ hB2).mono ?_; rintro e w3 ⟨ca, sa, ta, rxa, rxc, rfl, hA, hw3⟩; clear HMa; have hAlt := hA.lt; replace h3 := h3.belowSize hw3; replace h4 := h4.belowSize hw3; have hB3 := hB2.trans (hw3.mono hB2.size))
      | (refine (HMb _ hB5).mono ?_; rintro e w6 ⟨cb, sb, tb, rya, ryc, rfl, hBc, hw6⟩; clear HMb; replace h3 := h3.belowSize hw6; replace h4 := h4.belowSize hw6; replace h8 := h8.belowSize hw6; have h8lt := h8.lt; replace hA := hA.below hw6; have hB6 := hB5.trans (hw6.mono hB5.size)))
    | (go_at_call 13; refine (HW _ hB8).mono ?_; rintro e w9 ⟨rfl, hw9⟩; clear HW; replace hLV := hLV.below hw9; replace hA := hA.below hw9; replace hBc := hBc.below hw9; have hB9 := hB8.trans (hw9.mono hB8.size))
    | (with_reducible refine at_list ?_; first
      | (refine wpList_boxRow (op := ⟨some 3, _, _, _, _, _⟩) rfl _ _ rfl _ rfl ?_; intro w1 hw1 hs1 h3; clear hs1)
      | (refine wpList_boxRow (op := ⟨some 4, _, _, _, _, _⟩) rfl _ _ rfl _ rfl ?_; intro w2 hw2 hs2 h4; clear hs2; replace h3 := h3.belowSize hw2; have hB2 := hw1.trans (hw2.mono hw1.size))
      | (refine wpList_loadRow (op := ⟨some 21, _, _, _, _, _⟩) rfl _ _ rfl w.heap.size rfl _ _ h3 _ Tryz.underlying24 rfl (iX _ _) ?_)
      | (refine wpList_allocRow (op := ⟨some 8, _, _, _, _, _⟩) rfl _ rfl _ zRc.1 ?_; intro w4 hw4 hs4 h8z; clear hs4; replace h3 := h3.belowSize hw4; replace h4 := h4.belowSize hw4; replace hA := hA.below hw4; have hB4 := hB3.trans (hw4.mono hB3.size))
      | (refine wpList_storeRow (op := ⟨none, .store 45 (.tmp 8) (.tmp 24), _, _, _, _⟩) rfl _ _ _ rfl w3.heap.size (rcC nx (.slice rxa lx.length rxc) (gD nx lx)) rfl rfl _ _ h8z (by simp only [rcC_size]) (rcC_info _ _ _) (rcC_one _ _ _ _ _) ?_; intro w5 hg5 hs5 h8; clear hs5; have k3 := h3.neT h8z (by decide); have k4 := h4.neT h8z (by decide); replace h3 := h3.grown hg5 (fun e => absurd (Option.some.inj e) k3); replace h4 := h4.grown hg5 (fun e => absurd (Option.some.inj e) k4); replace hA := hA.local hg5 h8z (Nat.le_trans h2w hB3.size) (by decide) (rowNone _); have q9 := h8.lt; have hB5 := hB4.trans (below_of_grown hg5 hB3.size hB4.size); clear hg5 h8z hB4 k3 k4)
      | (refine wpList_loadRow (op := ⟨some 27, _, _, _, _, _⟩) rfl _ _ rfl w1.heap.size rfl _ _ h4 _ Tryz.underlying24 rfl (iX _ _) ?_)
      | (refine wpList_allocRow (op := ⟨some 11, _, _, _, _, _⟩) rfl _ rfl _ zRc.1 ?_; intro w7 hw7 hs7 h11z; clear hs7; replace h3 := h3.belowSize hw7; replace h4 := h4.belowSize hw7; replace h8 := h8.belowSize hw7; replace hA := hA.below hw7; replace hBc := hBc.below hw7; have hB7 := hB6.trans (hw7.mono hB6.size))
      | (refine wpList_storeRow (op := ⟨none, .store 45 (.tmp 11) (.tmp 30), _, _, _, _⟩) rfl _ _ _ rfl w6.heap.size (rcC ny (.slice rya ly.length ryc) (gD ny ly)) rfl rfl _ _ h11z (by simp only [rcC_size]) (rcC_info _ _ _) (rcC_one _ _ _ _ _) ?_; intro w8 hg8 hs8 h11; clear hs8; have k3 := h3.neT h11z (by decide); have k4 := h4.neT h11z (by decide); have k8 : w3.heap.size < w6.heap.size := h8lt; replace h3 := h3.grown hg8 (fun e => absurd (Option.some.inj e) k3); replace h4 := h4.grown hg8 (fun e => absurd (Option.some.inj e) k4); replace h8 := h8.grown hg8 (fun e => absurd (Option.some.inj e) (Nat.ne_of_lt k8)); replace hA := hA.local hg8 h11z (Nat.le_trans h2w hB6.size) (by decide) (rowNone _); replace hBc := hBc.local hg8 h11z (Nat.le_trans h2w hB6.size) (by decide) (rowNone _); have hB8 := hB7.trans (below_of_grown hg8 hB6.size hB7.size); have hLV : LV w8 w.heap.size w1.heap.size w3.heap.size w6.heap.size _ _ _ _ := ⟨h3, h4, h8, h11⟩; clear hg8 h11z hB7 k3 k4 k8 h3 h4 h8 h11)))
  obtain ⟨q1, q2, q3⟩ := hAlt
  obtain ⟨q5, q6, q7, q8⟩ := hBc.low
  have n1 : ca ≠ cb := by omega
  have n2 : sa ≠ sb := by omega
  have n3 : ta ≠ tb := by omega
  obtain ⟨B3, hB3e⟩ : ∃ y, y = w.heap.size := ⟨_, rfl⟩
  obtain ⟨B4, hB4e⟩ : ∃ y, y = w1.heap.size := ⟨_, rfl⟩
  obtain ⟨B8, hB8e⟩ : ∃ y, y = w3.heap.size := ⟨_, rfl⟩
  obtain ⟨B11, hB11e⟩ : ∃ y, y = w6.heap.size := ⟨_, rfl⟩
  rw [← hB3e, ← hB4e, ← hB8e, ← hB11e] at hLV ⊢
  have hNA : w.heap.size ≤ w2.heap.size := hB2.size
  have hNB : w.heap.size ≤ w5.heap.size := hB5.size
  generalize w2.heap.size = NA at *
  generalize w5.heap.size = NB at *
  have hst : NMR w w9 NA ca sa ta NB cb sb tb nx ny lx ly K 0 := ⟨_, _, newC ny ly, ⟨hA, hBc, hrx, hry, ⟨n1, n2, n3⟩, fun r e => nomatch e⟩, fun _ => rfl, fun e1 e2 => by subst e1; subst e2; rfl, hB9⟩
  clear hA hBc hw1 hw2 hw3 hw4 hw6 hw7 hw9 hB2 hB3 hB5 hB6 hB8 hB3e hB4e hB8e hB11e q1 q2 q3 q5 q6 q7 q8 hrx hry h8lt q9
  go_wp2_with (go_at_call 18; refine (HK _ hB9).mono ?_; rintro e w10 ⟨ak, ck, lo, dls, rfl, hGB, hw10⟩; clear HK; replace hLV := hLV.below hw10; replace hst := hst.below hw10)
  clear hB9 hw10
  obtain ⟨gx, hgx⟩ : ∃ y, y = gD nx lx := ⟨_, rfl⟩
  obtain ⟨gy, hgy⟩ : ∃ y, y = gD ny ly := ⟨_, rfl⟩
  rw [← hgx, ← hgy] at hLV ⊢
  replace hgx : Hid (gx = gD nx lx) := hgx
  replace hgy : Hid (gy = gD ny ly) := hgy
  go_loopw [14] (fun v14 wl => ∃ i : Nat, i ≤ K.length ∧ v14 = .int .i64 i ∧ NMR w wl NA ca sa ta NB cb sb tb nx ny lx ly K i ∧ LV wl B3 B4 B8 B11 (suC nx (.slice ax lx.length cx)) (suC ny (.slice ay ly.length cy)) (rcC nx (.slice rxa lx.length rxc) gx) (rcC ny (.slice rya ly.length ryc) gy) ∧ GB w wl lo (.slice ak K.length ck) dls K) (fun v14 _ => K.length - (intOf v14).toNat)
  case atStart => exact ⟨0, by omega, rfl, hst, hLV, hGB⟩
  case round =>
    obtain ⟨i, hil, rfl, hN, hLV, hGB⟩ := hrel
    clear hst
    by_cases hlt : i < K.length
    · obtain ⟨g, xa, xa2, xc, xc2, rfl, hR⟩ := hGB.at i hlt
      obtain ⟨slA, slB, cB, hNM, hne, hsm, hW⟩ := hN
      have hbok := hKok _ (List.getElem_mem hlt)
      have htk : K.take (i + 1) = K.take i ++ [K[i]] := by rw [List.take_succ_eq_append_getElem hlt]
      have hpl := plC_snoc (newC nx lx) (K.take i) K[i]
      rw [← htk] at hpl
      have hpht := plC_ht (newC nx lx) (K.take i)
      have hp0 : i = 0 → (plC (newC nx lx) (K.take i)).hash = gD nx lx := fun e => by subst e; rfl
      have hpi : (plC (newC nx lx) (K.take i)).ht = i := by
        rw [hpht, List.length_take]
        show 0 + _ = _
        omega
      have h20 : 20 - i = (20 - (i + 1)) + 1 := by omega
      rw [h20] at hNM
      have hz1 : (0 : Int) ≤ (i : Int) := by omega
      have hz2 : (i : Int) < (K.length : Int) := by omega
      have hltH : Hid (i < K.length) := hlt
      have hplH : Hid (plC (newC nx lx) (K.take (i + 1)) = nextC (plC (newC nx lx) (K.take i)) K[i]) := hpl
      replace hne : Hid (gD nx lx ≠ gD ny ly → cB = newC ny ly) := hne
      replace hsm : Hid (nx = ny → lx = ly → cB = plC (newC nx lx) (K.take i)) := hsm
      clear htk hpl hpht h20
      generalize K[i] = b at *
      generalize plC (newC nx lx) (K.take i) = cA at *
      obtain ⟨rm, hrm⟩ : ∃ y, y = 20 - (i + 1) := ⟨_, rfl⟩
      rw [← hrm] at hNM
      have hrmH : Hid (rm = 20 - (i + 1)) := hrm
      clear hrm
      have ra := hNM.ra
      have rb := hNM.rb
      have HAp := applyC_any NA ca sa ta slA cA wr hNM.a ra.ok b hbok (by have := ra.cnt; omega) (by have := ra.ht; omega) (by have := ra.klen; omega) xa xa2 xc xc2 hR.tx hR.mem
      have HEn := fun w1 (h : CH w1 NB cb sb tb slB cB) => encC_any NB cb sb tb slB cB w1 h rb.ok
      have HEn2 := HEn
      have hbh := mkB_head ra.ok hbok
      have HAd := fun w1 gm cm a2 cap2 (h : CH w1 NB cb sb tb slB cB) (h2 : AB w1 gm a2 cap2 (mkB cA b)) => addCh_any NB cb sb tb slB cB w1 h rb.ok (mkB cA b) hbh (by have := rb.cnt; omega) (by have := rb.ht; omega) (by have := rb.klen; omega) (some ⟨gm, 0, none⟩) a2 cm cap2 h2.cb.ia h2.ta
      change ∀ w1 gm cm a2 cap2, _ → AB w1 gm a2 cap2 (mkB cA b) → Calls Tryz.prog 26 #[.pointer (some ⟨cb, 0, none⟩), .agg (bkv (mkB cA b) gm cm a2 cap2)] w1 _ at HAd
      have hbI : ∀ gm cm a2 cap2, (Tryz.prog.info? 53).map (·.size) = some (bkv (mkB cA b) gm cm a2 cap2).size := fun _ _ _ _ => bk_info _ _ _ _ _ _
      have hb1 : ∀ gm cm a2 cap2, (bkv (mkB cA b) gm cm a2 cap2).all (·.oneCell') = true := fun _ _ _ _ => bk_one _ _ _ _ _ _ _ _ _ _
      have hb6 : ∀ gm cm a2 cap2, (bkv (mkB cA b) gm cm a2 cap2).size = 6 := fun _ _ _ _ => rfl
      have c3x : ∀ w1, LV w1 B3 B4 B8 B11 (suC nx (.slice ax lx.length cx)) (suC ny (.slice ay ly.length cy)) (rcC nx (.slice rxa lx.length rxc) gx) (rcC ny (.slice rya ly.length ryc) gy) → w1.cell? ⟨B8, 3, none⟩ = some (.string ⟨gx.toArray⟩) := fun w1 h => h.b8.cell 3
      have c3y : ∀ w1, LV w1 B3 B4 B8 B11 (suC nx (.slice ax lx.length cx)) (suC ny (.slice ay ly.length cy)) (rcC nx (.slice rxa lx.length rxc) gx) (rcC ny (.slice rya ly.length ryc) gy) → w1.cell? ⟨B11, 3, none⟩ = some (.string ⟨gy.toArray⟩) := fun w1 h => h.b11.cell 3
      have hgo := fun slA' w1 (hO : Own (ownC ca sa ta slA) wr w1) (hr : ∀ r, Sh.slBlk slA' = some r → Sh.slBlk slA = some r ∨ wr.heap.size ≤ r) => hNM.goA (slA' := slA') hbok hO hr
      have hLVo := fun w1 (hO : Own (ownC ca sa ta slA) wr w1) => hLV.own hNM.a hO
      have hGBo := fun w1 (hO : Own (ownC ca sa ta slA) wr w1) => hGB.own hNM.a hO hNA
      have hWo := fun w1 (hO : Own (ownC ca sa ta slA) wr w1) => hW.trans ((hNM.a.ownBelow hO).mono hNA)
      have hnes := hNM.ne
      unfold ApC at HAp
      go_upto_region 13 with (first
        | (go_at_call 19; refine HAp.mono ?_; rintro e w11 ⟨slA', gm, cm, ab, capb, st, sc, rfl, hA1, hAB, hO, hrow⟩; clear HAp; obtain ⟨hB1, rA1, hrow1⟩ := hgo slA' w11 hO hrow; have hLV1 := hLVo w11 hO; have hGB1 := hGBo w11 hO; have hW1 := hWo w11 hO; clear hO hrow hLVo hGBo hWo hgo hLV hGB hW hR hNM)
        | (go_at_call 14; refine (HEn _ hB3).mono ?_; rintro e w14 ⟨rfl, hw14⟩; clear HEn; have hA4 := hA3.below hw14; have hB4 := hB3.below hw14; have hLV4 := hLV3.below hw14; have hGB4 := hGB3.below hw14; have hAB4 := hAB3.stay (Stay.of_below hw14); replace h15 := h15.belowSize hw14; have hW4 := hW3.trans (hw14.mono hW3.size); clear hA3 hB3 hLV3 hGB3 hAB3 hW3 hw14)
        | (with_reducible refine at_list ?_; first
          | (refine wpList_loadOp (op := ⟨some 56, _, _, _, _, _⟩) rfl _ _ rfl g (i * 3) rfl _ hR.rng _ Tryz.underlying58 rfl (bc_info _ _ _) ?_)
          | (refine wpList_allocRow (op := ⟨some 15, _, _, _, _, _⟩) rfl _ rfl _ zBlk.1 ?_; intro w12 hw12 hs12 h15z; clear hs12; have hrA := hA1.rowNew; have hrB := hB1.rowNew; have hA2 := hA1.below hw12; have hB2 := hB1.below hw12; have hLV2 := hLV1.below hw12; have hGB2 := hGB1.below hw12; have hAB2 := hAB.stay (Stay.of_below hw12); have hW2 := hW1.trans (hw12.mono hW1.size); clear hA1 hB1 hLV1 hGB1 hAB hw12)
          | (refine wpList_storeRow (op := ⟨none, .store 53 (.tmp 15) (.tmp 58), _, _, _, _⟩) rfl _ _ _ rfl w11.heap.size (bkv (mkB cA b) gm cm ab capb) rfl rfl _ _ h15z (by rw [hb6, bk_size]) (hbI _ _ _ _) (hb1 _ _ _ _) ?_; intro w13 hg13 hs13 h15; clear hs13; have hA3 := hA2.local hg13 h15z (Nat.le_trans h2w hW1.size) (by decide) hrA; have hB3 := hB2.local hg13 h15z (Nat.le_trans h2w hW1.size) (by decide) hrB; have hLV3 := hLV2.local hg13 h15z; have hGB3 := hGB2.local hg13 h15z (by decide) hW1.size; have hAB3 := hAB2.stay (stay_blk hg13 h15z (by decide)); have hW3 := hW2.trans (below_of_grown hg13 hW1.size hW2.size); clear hg13 h15z hA2 hB2 hLV2 hGB2 hAB2 hW2 hW1)))
      have HMx := fun w1 (hb : Below w.heap.size w w1) => rmemB_any lx ax cx w1 (hIx.below hb) hmx.each hmx.len
      have HMy := fun w1 (hb : Below w.heap.size w w1) => rmemB_any ly ay cy w1 (hIy.below hb) hmy.each hmy.len
      generalize encC cB = ec at *
      by_cases hRt : RightC cB (mkB cA b)
      · have hxy : gx = gy := by
          rw [hgx.out, hgy.out]
          refine Classical.byContradiction fun hgd => ?_
          have e1 := hne.out hgd
          obtain ⟨p1, p2⟩ := right_place hRt
          have p3 : cA.ht + 1 = cB.ht + 1 := p1
          have p4 : cA.hash = cB.hash := p2
          rw [e1] at p3 p4
          have p5 : i = 0 := by
            have : (newC ny ly).ht = 0 := rfl
            omega
          exact hgd ((hp0 p5).symm.trans p4)
        subst hxy
        have HAr := fun gm cm a2 cap2 w1 h h2 => (HAd w1 gm cm a2 cap2 h h2).mono fun e w' h3 => (show e = .returned (.int .i64 0) ∧ ∃ sl', CH w' NB cb sb tb sl' (addC cB (mkB cA b)) ∧ Own (ownC cb sb tb slB) w1 w' ∧ (∀ r, Sh.slBlk sl' = some r → Sh.slBlk slB = some r ∨ w1.heap.size ≤ r) from by
          rcases h3 with ⟨_, h4⟩ | ⟨h4, _⟩
          · exact h4
          · exact absurd hRt h4)
        have rb1 := rb.add hRt hbh
        have hbo := fun w1 (hO : Own (ownC cb sb tb slB) w14 w1) => hB4.apart hA4 hO hnes.1 hnes.2.1 hnes.2.2 (fun r h1 h2 => hrow1 r h1 h2)
        have hLVo := fun w1 (hO : Own (ownC cb sb tb slB) w14 w1) => hLV4.own hB4 hO
        have hGBo := fun w1 (hO : Own (ownC cb sb tb slB) w14 w1) => hGB4.own hB4 hO hNB
        have hWo := fun w1 (hO : Own (ownC cb sb tb slB) w14 w1) => hW4.trans ((hB4.ownBelow hO).mono hNB)
        have hro : ∀ slB', (∀ r, Sh.slBlk slB' = some r → Sh.slBlk slB = some r ∨ w14.heap.size ≤ r) → ∀ r, Sh.slBlk slA' = some r → Sh.slBlk slB' ≠ some r := fun slB' h1 r h2 e => by
          rcases h1 r e with h3 | h3
          · exact hrow1 r h2 h3
          · have := (hA4.blocks (.inr (.inr (.inr h2.symm)))).2
            omega
        have hcc : nx = ny → lx = ly → addC cB (mkB cA b) = nextC cA b := fun e1 e2 => by
          rw [hsm.out e1 e2]
          exact (mkB_right hbok).2
        clear HAd hRt hne hsm HEn2 hp0 hpi
        go_upto_region 17 with (first
          | (go_at_call 26; refine (HAr _ _ _ _ _ hB4 hAB4).mono ?_; rintro e w15 ⟨rfl, slB', hB5, hO5, hrow5⟩; clear HAr; have hA5 := hbo w15 hO5; have hLV5 := hLVo w15 hO5; have hGB5 := hGBo w15 hO5; have hW5 := hWo w15 hO5; have hrw5 := hro slB' hrow5; have cx3 := c3x w15 hLV5; have cy3 := c3y w15 hLV5; clear hO5 hrow5 hbo hLVo hGBo hWo hro hA4 hB4 hAB4 hLV4 hGB4 hW4)
          | (with_reducible refine at_list ?_; first
            | (refine wpList_loadRow (op := ⟨some 66, _, _, _, _, _⟩) rfl _ _ rfl w11.heap.size rfl _ _ h15 _ Tryz.underlying53 rfl (hbI _ _ _ _) ?_)))
        have hN1 : Hid (∀ w', Below w15.heap.size w15 w' → NMR w w' NA ca sa ta NB cb sb tb nx ny lx ly K (i + 1) ∧ LV w' B3 B4 B8 B11 (suC nx (.slice ax lx.length cx)) (suC ny (.slice ay ly.length cy)) (rcC nx (.slice rxa lx.length rxc) gx) (rcC ny (.slice rya ly.length ryc) gx) ∧ GB w w' lo (.slice (some ⟨g, 0, none⟩) K.length ck) dls K) := by
          refine fun w' hb => ⟨⟨slA', slB', addC cB (mkB cA b), ?_, fun e => absurd ((hgx.out.symm.trans hgy.out)) e, fun e1 e2 => by rw [hplH.out]; exact hcc e1 e2, hW5.trans (hb.mono hW5.size)⟩, hLV5.below hb, hGB5.below hb⟩
          rw [hplH.out]
          exact ⟨hA5.below hb, hB5.below hb, hrmH.out ▸ rA1, hrmH.out ▸ rb1, hnes, hrw5⟩
        clear hcc hA5 hB5 hGB5 hrw5 rb1 rA1 h15 c3x c3y cx3 cy3 hnes
        have hH := And.intro hLV5.b3.drew hLV5.b4.drew
        have hWd : Below w.heap.size w w15.drew := hW5.drew
        try go_frame
        by_cases hnm0 : nx = ny
        · have hnm : Hid (nx = ny) := hnm0
          clear hnm0
          refine wp_region_held_drew (S := fun w' : World => Blk w' B3 (suC nx (.slice ax lx.length cx)) 24 ∧ Blk w' B4 (suC ny (.slice ay ly.length cy)) 24) (by kernel_rfl) hH (fun _ => ?_)
          refine wpAnyH_take (i := 0) (oi := ⟨some 81, _, _, _, _, _⟩) (v := .pointer (some ⟨B3, 0, none⟩)) rfl (by kernel_rfl) (by kernel_rfl) (by kernel_rfl) (fun _ _ _ h => h) (Or.inl ⟨by rfl, fun w hSw => by go_simp⟩) hH ?_
          try simp only [Act.put, List.setIfInBounds_toArray, List.set_cons_zero, List.set_cons_succ]
          refine wpAnyH_take (i := 1) (oi := ⟨some 82, _, _, _, _, _⟩) (v := .string ⟨nx.toArray⟩) rfl (by kernel_rfl) (by kernel_rfl) (by kernel_rfl) (fun _ _ _ h => h) (Or.inl ⟨by rfl, fun w hSw => run_loadCellB _ _ rfl _ 0 rfl _ _ hSw.1 _ Tryz.underlying9 rfl _ (rfl)⟩) hH ?_
          try simp only [Act.put, List.setIfInBounds_toArray, List.set_cons_zero, List.set_cons_succ]
          refine wpAnyH_take (i := 2) (oi := ⟨some 83, _, _, _, _, _⟩) (v := .pointer (some ⟨B4, 0, none⟩)) rfl (by kernel_rfl) (by kernel_rfl) (by kernel_rfl) (fun _ _ _ h => h) (Or.inl ⟨by rfl, fun w hSw => by go_simp⟩) hH ?_
          try simp only [Act.put, List.setIfInBounds_toArray, List.set_cons_zero, List.set_cons_succ]
          refine wpAnyH_take (i := 3) (oi := ⟨some 84, _, _, _, _, _⟩) (v := .string ⟨ny.toArray⟩) rfl (by kernel_rfl) (by kernel_rfl) (by kernel_rfl) (fun _ _ _ h => h) (Or.inl ⟨by rfl, fun w hSw => run_loadCellB _ _ rfl _ 0 rfl _ _ hSw.2 _ Tryz.underlying9 rfl _ (rfl)⟩) hH ?_
          try simp only [Act.put, List.setIfInBounds_toArray, List.set_cons_zero, List.set_cons_succ]
          refine wpAnyH_take (i := 4) (oi := ⟨some 85, _, _, _, _, _⟩) (v := .bool true) rfl (by kernel_rfl) (by kernel_rfl) (by kernel_rfl) (fun _ _ _ h => h) (Or.inl ⟨by rfl, fun w hSw => run_eqS rfl rfl rfl (decide_eq_true hnm.out)⟩) hH ?_
          try simp only [Act.put, List.setIfInBounds_toArray, List.set_cons_zero, List.set_cons_succ]
          refine wpAnyH_take (i := 5) (oi := ⟨some 86, _, _, _, _, _⟩) (v := .bool true) rfl (by kernel_rfl) (by kernel_rfl) (by kernel_rfl) (fun _ _ _ h => h) (Or.inl ⟨by rfl, fun w hSw => by go_simp⟩) hH ?_
          try simp only [Act.put, List.setIfInBounds_toArray, List.set_cons_zero, List.set_cons_succ]
          refine wpAnyH_take (i := 6) (oi := ⟨some 87, _, _, _, _, _⟩) (v := .pointer (some ⟨B3, 1, none⟩)) rfl (by kernel_rfl) (by kernel_rfl) (by kernel_rfl) (fun _ _ _ h => h) (Or.inl ⟨by rfl, fun w hSw => by go_simp⟩) hH ?_
          try simp only [Act.put, List.setIfInBounds_toArray, List.set_cons_zero, List.set_cons_succ]
          refine wpAnyH_take (i := 7) (oi := ⟨some 88, _, _, _, _, _⟩) (v := .slice ax lx.length cx) rfl (by kernel_rfl) (by kernel_rfl) (by kernel_rfl) (fun _ _ _ h => h) (Or.inl ⟨by rfl, fun w hSw => run_loadCellB _ _ rfl _ 1 rfl _ _ hSw.1 _ Tryz.underlying22 rfl _ (rfl)⟩) hH ?_
          try simp only [Act.put, List.setIfInBounds_toArray, List.set_cons_zero, List.set_cons_succ]
          refine wpAnyH_take (i := 9) (oi := ⟨some 90, _, _, _, _, _⟩) (v := .pointer (some ⟨B4, 1, none⟩)) rfl (by kernel_rfl) (by kernel_rfl) (by kernel_rfl) (fun _ _ _ h => h) (Or.inl ⟨by rfl, fun w hSw => by go_simp⟩) hH ?_
          try simp only [Act.put, List.setIfInBounds_toArray, List.set_cons_zero, List.set_cons_succ]
          refine wpAnyH_take (i := 10) (oi := ⟨some 91, _, _, _, _, _⟩) (v := .slice ay ly.length cy) rfl (by kernel_rfl) (by kernel_rfl) (by kernel_rfl) (fun _ _ _ h => h) (Or.inl ⟨by rfl, fun w hSw => run_loadCellB _ _ rfl _ 1 rfl _ _ hSw.2 _ Tryz.underlying22 rfl _ (rfl)⟩) hH ?_
          try simp only [Act.put, List.setIfInBounds_toArray, List.set_cons_zero, List.set_cons_succ]
          refine wpAnyH_solo (i := 8) (o := ⟨some 89, _, _, _, _, _⟩) rfl (by kernel_rfl) (fun K hK => ?_)
          refine wpList_callG Tryz.func30 (by kernel_rfl) (by kernel_rfl) (by rfl) _ _ rfl #[.slice ax lx.length cx] (args1 rfl) _ (HMx _ hWd) ?_
          rintro e wE ⟨rfl, hwE⟩
          have hHE := And.intro (hH.1.belowSize hwE) (hH.2.belowSize hwE)
          have hWE := hWd.trans (hwE.mono hWd.size)
          refine ⟨_, rfl, ?_⟩
          refine hK _ _ hHE ?_
          clear hK K
          try simp only [Act.put, List.setIfInBounds_toArray, List.set_cons_zero, List.set_cons_succ]
          refine wpAnyH_solo (i := 11) (o := ⟨some 92, _, _, _, _, _⟩) rfl (by kernel_rfl) (fun K hK => ?_)
          refine wpList_callG Tryz.func30 (by kernel_rfl) (by kernel_rfl) (by rfl) _ _ rfl #[.slice ay ly.length cy] (args1 rfl) _ (HMy _ hWE) ?_
          rintro e wF ⟨rfl, hwF⟩
          have hHF := And.intro (hHE.1.belowSize hwF) (hHE.2.belowSize hwF)
          refine ⟨_, rfl, ?_⟩
          refine hK _ _ hHF ?_
          clear hK K
          try simp only [Act.put, List.setIfInBounds_toArray, List.set_cons_zero, List.set_cons_succ]
          have hEF := ((Below.refl w15.heap.size w15).drew).trans (hwE.trans (hwF.mono hwE.size))
          by_cases hmm0 : memB lx = memB ly
          · have hmm : Hid (memB lx = memB ly) := hmm0
            clear hmm0
            refine wpAnyH_take (i := 12) (oi := ⟨some 93, _, _, _, _, _⟩) (v := .bool true) rfl (by kernel_rfl) (by kernel_rfl) (by kernel_rfl) (fun _ _ _ h => h) (Or.inl ⟨by rfl, fun w hSw => run_eqS rfl rfl rfl (decide_eq_true hmm.out)⟩) hHF ?_
            try simp only [Act.put, List.setIfInBounds_toArray, List.set_cons_zero, List.set_cons_succ]
            refine wpAnyH_take (i := 13) (oi := ⟨some 94, _, _, _, _, _⟩) (v := .bool true) rfl (by kernel_rfl) (by kernel_rfl) (by kernel_rfl) (fun _ _ _ h => h) (Or.inl ⟨by rfl, fun w hSw => by go_simp⟩) hHF ?_
            try simp only [Act.put, List.setIfInBounds_toArray, List.set_cons_zero, List.set_cons_succ]
            refine wpAnyH_take (i := 14) (oi := ⟨some 95, _, _, _, _, _⟩) (v := .bool true) rfl (by kernel_rfl) (by kernel_rfl) (by kernel_rfl) (fun _ _ _ h => h) (Or.inl ⟨by rfl, fun w hSw => by go_simp⟩) hHF ?_
            try simp only [Act.put, List.setIfInBounds_toArray, List.set_cons_zero, List.set_cons_succ]
            refine wpAnyH_take (i := 15) (oi := ⟨some 96, _, _, _, _, _⟩) (v := .int .i64 0) rfl (by kernel_rfl) (by kernel_rfl) (by kernel_rfl) (fun _ _ _ h => h) (Or.inl ⟨by rfl, fun w hSw => by go_simp⟩) hHF ?_
            try simp only [Act.put, List.setIfInBounds_toArray, List.set_cons_zero, List.set_cons_succ]
            refine wpAnyH_take (i := 16) (oi := ⟨some 97, _, _, _, _, _⟩) (v := .bool false) rfl (by kernel_rfl) (by kernel_rfl) (by kernel_rfl) (fun _ _ _ h => h) (Or.inl ⟨by rfl, fun w hSw => run_neE rfl rfl⟩) hHF ?_
            try simp only [Act.put, List.setIfInBounds_toArray, List.set_cons_zero, List.set_cons_succ]
            refine wpAnyH_solo (i := 17) (o := ⟨some 98, _, _, _, _, _⟩) rfl (by kernel_rfl) (fun K hK => ?_)
            refine wpList_pure rfl (.bool false) (by go_simp) ?_
            refine hK _ _ hHF ?_
            clear hK K
            refine wpAnyH_done (by kernel_rfl) ?_ _
            simp only [Act.put]
            go_simp
            go_wp2_with fail
            go_roundw
            case rel => exact ⟨i + 1, hltH.out, by go_num, hN1.out _ (hEF)⟩
            case measure => have := hltH.out; simp [intOf]; omega
          · refine wpAnyH_take (i := 12) (oi := ⟨some 93, _, _, _, _, _⟩) (v := .bool false) rfl (by kernel_rfl) (by kernel_rfl) (by kernel_rfl) (fun _ _ _ h => h) (Or.inl ⟨by rfl, fun w hSw => run_eqS rfl rfl rfl (decide_eq_false hmm0)⟩) hHF ?_
            try simp only [Act.put, List.setIfInBounds_toArray, List.set_cons_zero, List.set_cons_succ]
            refine wpAnyH_take (i := 13) (oi := ⟨some 94, _, _, _, _, _⟩) (v := .bool false) rfl (by kernel_rfl) (by kernel_rfl) (by kernel_rfl) (fun _ _ _ h => h) (Or.inl ⟨by rfl, fun w hSw => by go_simp⟩) hHF ?_
            try simp only [Act.put, List.setIfInBounds_toArray, List.set_cons_zero, List.set_cons_succ]
            refine wpAnyH_take (i := 14) (oi := ⟨some 95, _, _, _, _, _⟩) (v := .bool false) rfl (by kernel_rfl) (by kernel_rfl) (by kernel_rfl) (fun _ _ _ h => h) (Or.inl ⟨by rfl, fun w hSw => by go_simp⟩) hHF ?_
            try simp only [Act.put, List.setIfInBounds_toArray, List.set_cons_zero, List.set_cons_succ]
            refine wpAnyH_take (i := 15) (oi := ⟨some 96, _, _, _, _, _⟩) (v := undef) rfl (by kernel_rfl) (by kernel_rfl) (by kernel_rfl) (fun _ _ _ h => h) (Or.inr ⟨by rfl, rfl⟩) hHF ?_
            try simp only [Act.put, List.setIfInBounds_toArray, List.set_cons_zero, List.set_cons_succ]
            refine wpAnyH_take (i := 16) (oi := ⟨some 97, _, _, _, _, _⟩) (v := undef) rfl (by kernel_rfl) (by kernel_rfl) (by kernel_rfl) (fun _ _ _ h => h) (Or.inr ⟨by rfl, rfl⟩) hHF ?_
            try simp only [Act.put, List.setIfInBounds_toArray, List.set_cons_zero, List.set_cons_succ]
            refine wpAnyH_solo (i := 17) (o := ⟨some 98, _, _, _, _, _⟩) rfl (by kernel_rfl) (fun K hK => ?_)
            refine wpList_pure rfl (.bool false) (by go_simp) ?_
            refine hK _ _ hHF ?_
            clear hK K
            refine wpAnyH_done (by kernel_rfl) ?_ _
            simp only [Act.put]
            go_simp
            go_wp2_with fail
            go_roundw
            case rel => exact ⟨i + 1, hltH.out, by go_num, hN1.out _ (hEF)⟩
            case measure => have := hltH.out; simp [intOf]; omega
        · refine wp_region_held_drew (S := fun w' : World => Blk w' B3 (suC nx (.slice ax lx.length cx)) 24 ∧ Blk w' B4 (suC ny (.slice ay ly.length cy)) 24) (by kernel_rfl) hH (fun _ => ?_)
          refine wpAnyH_take (i := 0) (oi := ⟨some 81, _, _, _, _, _⟩) (v := .pointer (some ⟨B3, 0, none⟩)) rfl (by kernel_rfl) (by kernel_rfl) (by kernel_rfl) (fun _ _ _ h => h) (Or.inl ⟨by rfl, fun w hSw => by go_simp⟩) hH ?_
          try simp only [Act.put, List.setIfInBounds_toArray, List.set_cons_zero, List.set_cons_succ]
          refine wpAnyH_take (i := 1) (oi := ⟨some 82, _, _, _, _, _⟩) (v := .string ⟨nx.toArray⟩) rfl (by kernel_rfl) (by kernel_rfl) (by kernel_rfl) (fun _ _ _ h => h) (Or.inl ⟨by rfl, fun w hSw => run_loadCellB _ _ rfl _ 0 rfl _ _ hSw.1 _ Tryz.underlying9 rfl _ (rfl)⟩) hH ?_
          try simp only [Act.put, List.setIfInBounds_toArray, List.set_cons_zero, List.set_cons_succ]
          refine wpAnyH_take (i := 2) (oi := ⟨some 83, _, _, _, _, _⟩) (v := .pointer (some ⟨B4, 0, none⟩)) rfl (by kernel_rfl) (by kernel_rfl) (by kernel_rfl) (fun _ _ _ h => h) (Or.inl ⟨by rfl, fun w hSw => by go_simp⟩) hH ?_
          try simp only [Act.put, List.setIfInBounds_toArray, List.set_cons_zero, List.set_cons_succ]
          refine wpAnyH_take (i := 3) (oi := ⟨some 84, _, _, _, _, _⟩) (v := .string ⟨ny.toArray⟩) rfl (by kernel_rfl) (by kernel_rfl) (by kernel_rfl) (fun _ _ _ h => h) (Or.inl ⟨by rfl, fun w hSw => run_loadCellB _ _ rfl _ 0 rfl _ _ hSw.2 _ Tryz.underlying9 rfl _ (rfl)⟩) hH ?_
          try simp only [Act.put, List.setIfInBounds_toArray, List.set_cons_zero, List.set_cons_succ]
          refine wpAnyH_take (i := 4) (oi := ⟨some 85, _, _, _, _, _⟩) (v := .bool false) rfl (by kernel_rfl) (by kernel_rfl) (by kernel_rfl) (fun _ _ _ h => h) (Or.inl ⟨by rfl, fun w hSw => run_eqS rfl rfl rfl (decide_eq_false hnm0)⟩) hH ?_
          try simp only [Act.put, List.setIfInBounds_toArray, List.set_cons_zero, List.set_cons_succ]
          refine wpAnyH_take (i := 5) (oi := ⟨some 86, _, _, _, _, _⟩) (v := .bool false) rfl (by kernel_rfl) (by kernel_rfl) (by kernel_rfl) (fun _ _ _ h => h) (Or.inl ⟨by rfl, fun w hSw => by go_simp⟩) hH ?_
          try simp only [Act.put, List.setIfInBounds_toArray, List.set_cons_zero, List.set_cons_succ]
          refine wpAnyH_take (i := 6) (oi := ⟨some 87, _, _, _, _, _⟩) (v := undef) rfl (by kernel_rfl) (by kernel_rfl) (by kernel_rfl) (fun _ _ _ h => h) (Or.inr ⟨by rfl, rfl⟩) hH ?_
          try simp only [Act.put, List.setIfInBounds_toArray, List.set_cons_zero, List.set_cons_succ]
          refine wpAnyH_take (i := 7) (oi := ⟨some 88, _, _, _, _, _⟩) (v := undef) rfl (by kernel_rfl) (by kernel_rfl) (by kernel_rfl) (fun _ _ _ h => h) (Or.inr ⟨by rfl, rfl⟩) hH ?_
          try simp only [Act.put, List.setIfInBounds_toArray, List.set_cons_zero, List.set_cons_succ]
          refine wpAnyH_take (i := 8) (oi := ⟨some 89, _, _, _, _, _⟩) (v := undef) rfl (by kernel_rfl) (by kernel_rfl) (by kernel_rfl) (fun _ _ _ h => h) (Or.inr ⟨by rfl, rfl⟩) hH ?_
          try simp only [Act.put, List.setIfInBounds_toArray, List.set_cons_zero, List.set_cons_succ]
          refine wpAnyH_take (i := 9) (oi := ⟨some 90, _, _, _, _, _⟩) (v := undef) rfl (by kernel_rfl) (by kernel_rfl) (by kernel_rfl) (fun _ _ _ h => h) (Or.inr ⟨by rfl, rfl⟩) hH ?_
          try simp only [Act.put, List.setIfInBounds_toArray, List.set_cons_zero, List.set_cons_succ]
          refine wpAnyH_take (i := 10) (oi := ⟨some 91, _, _, _, _, _⟩) (v := undef) rfl (by kernel_rfl) (by kernel_rfl) (by kernel_rfl) (fun _ _ _ h => h) (Or.inr ⟨by rfl, rfl⟩) hH ?_
          try simp only [Act.put, List.setIfInBounds_toArray, List.set_cons_zero, List.set_cons_succ]
          refine wpAnyH_take (i := 11) (oi := ⟨some 92, _, _, _, _, _⟩) (v := undef) rfl (by kernel_rfl) (by kernel_rfl) (by kernel_rfl) (fun _ _ _ h => h) (Or.inr ⟨by rfl, rfl⟩) hH ?_
          try simp only [Act.put, List.setIfInBounds_toArray, List.set_cons_zero, List.set_cons_succ]
          refine wpAnyH_take (i := 12) (oi := ⟨some 93, _, _, _, _, _⟩) (v := undef) rfl (by kernel_rfl) (by kernel_rfl) (by kernel_rfl) (fun _ _ _ h => h) (Or.inr ⟨by rfl, rfl⟩) hH ?_
          try simp only [Act.put, List.setIfInBounds_toArray, List.set_cons_zero, List.set_cons_succ]
          refine wpAnyH_take (i := 13) (oi := ⟨some 94, _, _, _, _, _⟩) (v := .bool false) rfl (by kernel_rfl) (by kernel_rfl) (by kernel_rfl) (fun _ _ _ h => h) (Or.inl ⟨by rfl, fun w hSw => by go_simp⟩) hH ?_
          try simp only [Act.put, List.setIfInBounds_toArray, List.set_cons_zero, List.set_cons_succ]
          refine wpAnyH_take (i := 14) (oi := ⟨some 95, _, _, _, _, _⟩) (v := .bool false) rfl (by kernel_rfl) (by kernel_rfl) (by kernel_rfl) (fun _ _ _ h => h) (Or.inl ⟨by rfl, fun w hSw => by go_simp⟩) hH ?_
          try simp only [Act.put, List.setIfInBounds_toArray, List.set_cons_zero, List.set_cons_succ]
          refine wpAnyH_take (i := 15) (oi := ⟨some 96, _, _, _, _, _⟩) (v := undef) rfl (by kernel_rfl) (by kernel_rfl) (by kernel_rfl) (fun _ _ _ h => h) (Or.inr ⟨by rfl, rfl⟩) hH ?_
          try simp only [Act.put, List.setIfInBounds_toArray, List.set_cons_zero, List.set_cons_succ]
          refine wpAnyH_take (i := 16) (oi := ⟨some 97, _, _, _, _, _⟩) (v := undef) rfl (by kernel_rfl) (by kernel_rfl) (by kernel_rfl) (fun _ _ _ h => h) (Or.inr ⟨by rfl, rfl⟩) hH ?_
          try simp only [Act.put, List.setIfInBounds_toArray, List.set_cons_zero, List.set_cons_succ]
          refine wpAnyH_solo (i := 17) (o := ⟨some 98, _, _, _, _, _⟩) rfl (by kernel_rfl) (fun K hK => ?_)
          refine wpList_pure rfl (.bool false) (by go_simp) ?_
          refine hK _ _ hH ?_
          clear hK K
          refine wpAnyH_done (by kernel_rfl) ?_ _
          simp only [Act.put]
          go_simp
          go_wp2_with fail
          go_roundw
          case rel => exact ⟨i + 1, hltH.out, by go_num, hN1.out _ ((Below.refl _ _).drew)⟩
          case measure => have := hltH.out; simp [intOf]; omega
      · have HAr := fun gm cm a2 cap2 w1 h h2 => (HAd w1 gm cm a2 cap2 h h2).mono fun e w' h3 => (show ∃ er, er ≠ 0 ∧ e = .returned (.int .i64 er) ∧ Below w1.heap.size w1 w' from by
          rcases h3 with ⟨h4, _⟩ | ⟨_, h4⟩
          · exact absurd h4 hRt
          · exact h4)
        have hSame : Hid (nx = ny → memB lx = memB ly → False) := fun e1 e2 => hRt (by
          rw [hsm.out e1 (memB_inj hmx hmy e2)]
          exact (mkB_right hbok).1)
        clear HAd
        go_upto_region 14 with (first
          | (go_at_call 26; refine (HAr _ _ _ _ _ hB4 hAB4).mono ?_; rintro e w15 ⟨er, her, rfl, hw15⟩; clear HAr; have hA5 := hA4.below hw15; have hB5 := hB4.below hw15; have hLV5 := hLV4.below hw15; have hGB5 := hGB4.below hw15; have hW5 := hW4.trans (hw15.mono hW4.size); have cx3 := c3x w15 hLV5; have cy3 := c3y w15 hLV5; clear hA4 hB4 hAB4 hLV4 hGB4 hW4)
          | (with_reducible refine at_list ?_; first
            | (refine wpList_loadRow (op := ⟨some 66, _, _, _, _, _⟩) rfl _ _ rfl w11.heap.size rfl _ _ h15 _ Tryz.underlying53 rfl (hbI _ _ _ _) ?_)))
        have hN1 : Hid (∀ w', Below w15.heap.size w15 w' → NMR w w' NA ca sa ta NB cb sb tb nx ny lx ly K (i + 1) ∧ LV w' B3 B4 B8 B11 (suC nx (.slice ax lx.length cx)) (suC ny (.slice ay ly.length cy)) (rcC nx (.slice rxa lx.length rxc) gx) (rcC ny (.slice rya ly.length ryc) gy) ∧ GB w w' lo (.slice (some ⟨g, 0, none⟩) K.length ck) dls K) := by
          refine fun w' hb => ⟨⟨slA', slB, cB, ?_, hne.out, fun e1 e2 => ?_, hW5.trans (hb.mono hW5.size)⟩, hLV5.below hb, hGB5.below hb⟩
          · rw [hplH.out]
            exact ⟨hA5.below hb, hB5.below hb, hrmH.out ▸ rA1, (hrmH.out ▸ rb).mono (by omega), hnes, hrow1⟩
          · exact absurd (hSame.out e1 (by rw [e2])) id
        have herB : (er == 0) = false := by rw [beq_eq_false_iff_ne]; exact her
        have herN : ¬ er = 0 := her
        clear hA5 hGB5 rA1 h15 c3x c3y hnes hne hsm hRt hp0 hpi
        by_cases hxy : gx = gy
        · subst hxy
          clear HEn2 hB5
          go_upto_region 17 with fail
          have hH := And.intro hLV5.b3.drew hLV5.b4.drew
          have hWd : Below w.heap.size w w15.drew := hW5.drew
          try go_frame
          by_cases hnm0 : nx = ny
          · have hnm : Hid (nx = ny) := hnm0
            clear hnm0
            refine wp_region_held_drew (S := fun w' : World => Blk w' B3 (suC nx (.slice ax lx.length cx)) 24 ∧ Blk w' B4 (suC ny (.slice ay ly.length cy)) 24) (by kernel_rfl) hH (fun _ => ?_)
            refine wpAnyH_take (i := 0) (oi := ⟨some 81, _, _, _, _, _⟩) (v := .pointer (some ⟨B3, 0, none⟩)) rfl (by kernel_rfl) (by kernel_rfl) (by kernel_rfl) (fun _ _ _ h => h) (Or.inl ⟨by rfl, fun w hSw => by go_simp⟩) hH ?_
            try simp only [Act.put, List.setIfInBounds_toArray, List.set_cons_zero, List.set_cons_succ]
            refine wpAnyH_take (i := 1) (oi := ⟨some 82, _, _, _, _, _⟩) (v := .string ⟨nx.toArray⟩) rfl (by kernel_rfl) (by kernel_rfl) (by kernel_rfl) (fun _ _ _ h => h) (Or.inl ⟨by rfl, fun w hSw => run_loadCellB _ _ rfl _ 0 rfl _ _ hSw.1 _ Tryz.underlying9 rfl _ (rfl)⟩) hH ?_
            try simp only [Act.put, List.setIfInBounds_toArray, List.set_cons_zero, List.set_cons_succ]
            refine wpAnyH_take (i := 2) (oi := ⟨some 83, _, _, _, _, _⟩) (v := .pointer (some ⟨B4, 0, none⟩)) rfl (by kernel_rfl) (by kernel_rfl) (by kernel_rfl) (fun _ _ _ h => h) (Or.inl ⟨by rfl, fun w hSw => by go_simp⟩) hH ?_
            try simp only [Act.put, List.setIfInBounds_toArray, List.set_cons_zero, List.set_cons_succ]
            refine wpAnyH_take (i := 3) (oi := ⟨some 84, _, _, _, _, _⟩) (v := .string ⟨ny.toArray⟩) rfl (by kernel_rfl) (by kernel_rfl) (by kernel_rfl) (fun _ _ _ h => h) (Or.inl ⟨by rfl, fun w hSw => run_loadCellB _ _ rfl _ 0 rfl _ _ hSw.2 _ Tryz.underlying9 rfl _ (rfl)⟩) hH ?_
            try simp only [Act.put, List.setIfInBounds_toArray, List.set_cons_zero, List.set_cons_succ]
            refine wpAnyH_take (i := 4) (oi := ⟨some 85, _, _, _, _, _⟩) (v := .bool true) rfl (by kernel_rfl) (by kernel_rfl) (by kernel_rfl) (fun _ _ _ h => h) (Or.inl ⟨by rfl, fun w hSw => run_eqS rfl rfl rfl (decide_eq_true hnm.out)⟩) hH ?_
            try simp only [Act.put, List.setIfInBounds_toArray, List.set_cons_zero, List.set_cons_succ]
            refine wpAnyH_take (i := 5) (oi := ⟨some 86, _, _, _, _, _⟩) (v := .bool true) rfl (by kernel_rfl) (by kernel_rfl) (by kernel_rfl) (fun _ _ _ h => h) (Or.inl ⟨by rfl, fun w hSw => by go_simp⟩) hH ?_
            try simp only [Act.put, List.setIfInBounds_toArray, List.set_cons_zero, List.set_cons_succ]
            refine wpAnyH_take (i := 6) (oi := ⟨some 87, _, _, _, _, _⟩) (v := .pointer (some ⟨B3, 1, none⟩)) rfl (by kernel_rfl) (by kernel_rfl) (by kernel_rfl) (fun _ _ _ h => h) (Or.inl ⟨by rfl, fun w hSw => by go_simp⟩) hH ?_
            try simp only [Act.put, List.setIfInBounds_toArray, List.set_cons_zero, List.set_cons_succ]
            refine wpAnyH_take (i := 7) (oi := ⟨some 88, _, _, _, _, _⟩) (v := .slice ax lx.length cx) rfl (by kernel_rfl) (by kernel_rfl) (by kernel_rfl) (fun _ _ _ h => h) (Or.inl ⟨by rfl, fun w hSw => run_loadCellB _ _ rfl _ 1 rfl _ _ hSw.1 _ Tryz.underlying22 rfl _ (rfl)⟩) hH ?_
            try simp only [Act.put, List.setIfInBounds_toArray, List.set_cons_zero, List.set_cons_succ]
            refine wpAnyH_take (i := 9) (oi := ⟨some 90, _, _, _, _, _⟩) (v := .pointer (some ⟨B4, 1, none⟩)) rfl (by kernel_rfl) (by kernel_rfl) (by kernel_rfl) (fun _ _ _ h => h) (Or.inl ⟨by rfl, fun w hSw => by go_simp⟩) hH ?_
            try simp only [Act.put, List.setIfInBounds_toArray, List.set_cons_zero, List.set_cons_succ]
            refine wpAnyH_take (i := 10) (oi := ⟨some 91, _, _, _, _, _⟩) (v := .slice ay ly.length cy) rfl (by kernel_rfl) (by kernel_rfl) (by kernel_rfl) (fun _ _ _ h => h) (Or.inl ⟨by rfl, fun w hSw => run_loadCellB _ _ rfl _ 1 rfl _ _ hSw.2 _ Tryz.underlying22 rfl _ (rfl)⟩) hH ?_
            try simp only [Act.put, List.setIfInBounds_toArray, List.set_cons_zero, List.set_cons_succ]
            refine wpAnyH_solo (i := 8) (o := ⟨some 89, _, _, _, _, _⟩) rfl (by kernel_rfl) (fun K hK => ?_)
            refine wpList_callG Tryz.func30 (by kernel_rfl) (by kernel_rfl) (by rfl) _ _ rfl #[.slice ax lx.length cx] (args1 rfl) _ (HMx _ hWd) ?_
            rintro e wE ⟨rfl, hwE⟩
            have hHE := And.intro (hH.1.belowSize hwE) (hH.2.belowSize hwE)
            have hWE := hWd.trans (hwE.mono hWd.size)
            refine ⟨_, rfl, ?_⟩
            refine hK _ _ hHE ?_
            clear hK K
            try simp only [Act.put, List.setIfInBounds_toArray, List.set_cons_zero, List.set_cons_succ]
            refine wpAnyH_solo (i := 11) (o := ⟨some 92, _, _, _, _, _⟩) rfl (by kernel_rfl) (fun K hK => ?_)
            refine wpList_callG Tryz.func30 (by kernel_rfl) (by kernel_rfl) (by rfl) _ _ rfl #[.slice ay ly.length cy] (args1 rfl) _ (HMy _ hWE) ?_
            rintro e wF ⟨rfl, hwF⟩
            have hHF := And.intro (hHE.1.belowSize hwF) (hHE.2.belowSize hwF)
            refine ⟨_, rfl, ?_⟩
            refine hK _ _ hHF ?_
            clear hK K
            try simp only [Act.put, List.setIfInBounds_toArray, List.set_cons_zero, List.set_cons_succ]
            have hEF := ((Below.refl w15.heap.size w15).drew).trans (hwE.trans (hwF.mono hwE.size))
            by_cases hmm0 : memB lx = memB ly
            · exact absurd (hSame.out hnm.out hmm0) id
            · refine wpAnyH_take (i := 12) (oi := ⟨some 93, _, _, _, _, _⟩) (v := .bool false) rfl (by kernel_rfl) (by kernel_rfl) (by kernel_rfl) (fun _ _ _ h => h) (Or.inl ⟨by rfl, fun w hSw => run_eqS rfl rfl rfl (decide_eq_false hmm0)⟩) hHF ?_
              try simp only [Act.put, List.setIfInBounds_toArray, List.set_cons_zero, List.set_cons_succ]
              refine wpAnyH_take (i := 13) (oi := ⟨some 94, _, _, _, _, _⟩) (v := .bool false) rfl (by kernel_rfl) (by kernel_rfl) (by kernel_rfl) (fun _ _ _ h => h) (Or.inl ⟨by rfl, fun w hSw => by go_simp⟩) hHF ?_
              try simp only [Act.put, List.setIfInBounds_toArray, List.set_cons_zero, List.set_cons_succ]
              refine wpAnyH_take (i := 14) (oi := ⟨some 95, _, _, _, _, _⟩) (v := .bool false) rfl (by kernel_rfl) (by kernel_rfl) (by kernel_rfl) (fun _ _ _ h => h) (Or.inl ⟨by rfl, fun w hSw => by go_simp⟩) hHF ?_
              try simp only [Act.put, List.setIfInBounds_toArray, List.set_cons_zero, List.set_cons_succ]
              refine wpAnyH_take (i := 15) (oi := ⟨some 96, _, _, _, _, _⟩) (v := undef) rfl (by kernel_rfl) (by kernel_rfl) (by kernel_rfl) (fun _ _ _ h => h) (Or.inr ⟨by rfl, rfl⟩) hHF ?_
              try simp only [Act.put, List.setIfInBounds_toArray, List.set_cons_zero, List.set_cons_succ]
              refine wpAnyH_take (i := 16) (oi := ⟨some 97, _, _, _, _, _⟩) (v := undef) rfl (by kernel_rfl) (by kernel_rfl) (by kernel_rfl) (fun _ _ _ h => h) (Or.inr ⟨by rfl, rfl⟩) hHF ?_
              try simp only [Act.put, List.setIfInBounds_toArray, List.set_cons_zero, List.set_cons_succ]
              refine wpAnyH_solo (i := 17) (o := ⟨some 98, _, _, _, _, _⟩) rfl (by kernel_rfl) (fun K hK => ?_)
              refine wpList_pure rfl (.bool false) (by go_simp) ?_
              refine hK _ _ hHF ?_
              clear hK K
              refine wpAnyH_done (by kernel_rfl) ?_ _
              simp only [Act.put]
              go_simp
              go_wp2_with fail
              go_roundw
              case rel => exact ⟨i + 1, hltH.out, by go_num, hN1.out _ (hEF)⟩
              case measure => have := hltH.out; simp [intOf]; omega
          · refine wp_region_held_drew (S := fun w' : World => Blk w' B3 (suC nx (.slice ax lx.length cx)) 24 ∧ Blk w' B4 (suC ny (.slice ay ly.length cy)) 24) (by kernel_rfl) hH (fun _ => ?_)
            refine wpAnyH_take (i := 0) (oi := ⟨some 81, _, _, _, _, _⟩) (v := .pointer (some ⟨B3, 0, none⟩)) rfl (by kernel_rfl) (by kernel_rfl) (by kernel_rfl) (fun _ _ _ h => h) (Or.inl ⟨by rfl, fun w hSw => by go_simp⟩) hH ?_
            try simp only [Act.put, List.setIfInBounds_toArray, List.set_cons_zero, List.set_cons_succ]
            refine wpAnyH_take (i := 1) (oi := ⟨some 82, _, _, _, _, _⟩) (v := .string ⟨nx.toArray⟩) rfl (by kernel_rfl) (by kernel_rfl) (by kernel_rfl) (fun _ _ _ h => h) (Or.inl ⟨by rfl, fun w hSw => run_loadCellB _ _ rfl _ 0 rfl _ _ hSw.1 _ Tryz.underlying9 rfl _ (rfl)⟩) hH ?_
            try simp only [Act.put, List.setIfInBounds_toArray, List.set_cons_zero, List.set_cons_succ]
            refine wpAnyH_take (i := 2) (oi := ⟨some 83, _, _, _, _, _⟩) (v := .pointer (some ⟨B4, 0, none⟩)) rfl (by kernel_rfl) (by kernel_rfl) (by kernel_rfl) (fun _ _ _ h => h) (Or.inl ⟨by rfl, fun w hSw => by go_simp⟩) hH ?_
            try simp only [Act.put, List.setIfInBounds_toArray, List.set_cons_zero, List.set_cons_succ]
            refine wpAnyH_take (i := 3) (oi := ⟨some 84, _, _, _, _, _⟩) (v := .string ⟨ny.toArray⟩) rfl (by kernel_rfl) (by kernel_rfl) (by kernel_rfl) (fun _ _ _ h => h) (Or.inl ⟨by rfl, fun w hSw => run_loadCellB _ _ rfl _ 0 rfl _ _ hSw.2 _ Tryz.underlying9 rfl _ (rfl)⟩) hH ?_
            try simp only [Act.put, List.setIfInBounds_toArray, List.set_cons_zero, List.set_cons_succ]
            refine wpAnyH_take (i := 4) (oi := ⟨some 85, _, _, _, _, _⟩) (v := .bool false) rfl (by kernel_rfl) (by kernel_rfl) (by kernel_rfl) (fun _ _ _ h => h) (Or.inl ⟨by rfl, fun w hSw => run_eqS rfl rfl rfl (decide_eq_false hnm0)⟩) hH ?_
            try simp only [Act.put, List.setIfInBounds_toArray, List.set_cons_zero, List.set_cons_succ]
            refine wpAnyH_take (i := 5) (oi := ⟨some 86, _, _, _, _, _⟩) (v := .bool false) rfl (by kernel_rfl) (by kernel_rfl) (by kernel_rfl) (fun _ _ _ h => h) (Or.inl ⟨by rfl, fun w hSw => by go_simp⟩) hH ?_
            try simp only [Act.put, List.setIfInBounds_toArray, List.set_cons_zero, List.set_cons_succ]
            refine wpAnyH_take (i := 6) (oi := ⟨some 87, _, _, _, _, _⟩) (v := undef) rfl (by kernel_rfl) (by kernel_rfl) (by kernel_rfl) (fun _ _ _ h => h) (Or.inr ⟨by rfl, rfl⟩) hH ?_
            try simp only [Act.put, List.setIfInBounds_toArray, List.set_cons_zero, List.set_cons_succ]
            refine wpAnyH_take (i := 7) (oi := ⟨some 88, _, _, _, _, _⟩) (v := undef) rfl (by kernel_rfl) (by kernel_rfl) (by kernel_rfl) (fun _ _ _ h => h) (Or.inr ⟨by rfl, rfl⟩) hH ?_
            try simp only [Act.put, List.setIfInBounds_toArray, List.set_cons_zero, List.set_cons_succ]
            refine wpAnyH_take (i := 8) (oi := ⟨some 89, _, _, _, _, _⟩) (v := undef) rfl (by kernel_rfl) (by kernel_rfl) (by kernel_rfl) (fun _ _ _ h => h) (Or.inr ⟨by rfl, rfl⟩) hH ?_
            try simp only [Act.put, List.setIfInBounds_toArray, List.set_cons_zero, List.set_cons_succ]
            refine wpAnyH_take (i := 9) (oi := ⟨some 90, _, _, _, _, _⟩) (v := undef) rfl (by kernel_rfl) (by kernel_rfl) (by kernel_rfl) (fun _ _ _ h => h) (Or.inr ⟨by rfl, rfl⟩) hH ?_
            try simp only [Act.put, List.setIfInBounds_toArray, List.set_cons_zero, List.set_cons_succ]
            refine wpAnyH_take (i := 10) (oi := ⟨some 91, _, _, _, _, _⟩) (v := undef) rfl (by kernel_rfl) (by kernel_rfl) (by kernel_rfl) (fun _ _ _ h => h) (Or.inr ⟨by rfl, rfl⟩) hH ?_
            try simp only [Act.put, List.setIfInBounds_toArray, List.set_cons_zero, List.set_cons_succ]
            refine wpAnyH_take (i := 11) (oi := ⟨some 92, _, _, _, _, _⟩) (v := undef) rfl (by kernel_rfl) (by kernel_rfl) (by kernel_rfl) (fun _ _ _ h => h) (Or.inr ⟨by rfl, rfl⟩) hH ?_
            try simp only [Act.put, List.setIfInBounds_toArray, List.set_cons_zero, List.set_cons_succ]
            refine wpAnyH_take (i := 12) (oi := ⟨some 93, _, _, _, _, _⟩) (v := undef) rfl (by kernel_rfl) (by kernel_rfl) (by kernel_rfl) (fun _ _ _ h => h) (Or.inr ⟨by rfl, rfl⟩) hH ?_
            try simp only [Act.put, List.setIfInBounds_toArray, List.set_cons_zero, List.set_cons_succ]
            refine wpAnyH_take (i := 13) (oi := ⟨some 94, _, _, _, _, _⟩) (v := .bool false) rfl (by kernel_rfl) (by kernel_rfl) (by kernel_rfl) (fun _ _ _ h => h) (Or.inl ⟨by rfl, fun w hSw => by go_simp⟩) hH ?_
            try simp only [Act.put, List.setIfInBounds_toArray, List.set_cons_zero, List.set_cons_succ]
            refine wpAnyH_take (i := 14) (oi := ⟨some 95, _, _, _, _, _⟩) (v := .bool false) rfl (by kernel_rfl) (by kernel_rfl) (by kernel_rfl) (fun _ _ _ h => h) (Or.inl ⟨by rfl, fun w hSw => by go_simp⟩) hH ?_
            try simp only [Act.put, List.setIfInBounds_toArray, List.set_cons_zero, List.set_cons_succ]
            refine wpAnyH_take (i := 15) (oi := ⟨some 96, _, _, _, _, _⟩) (v := undef) rfl (by kernel_rfl) (by kernel_rfl) (by kernel_rfl) (fun _ _ _ h => h) (Or.inr ⟨by rfl, rfl⟩) hH ?_
            try simp only [Act.put, List.setIfInBounds_toArray, List.set_cons_zero, List.set_cons_succ]
            refine wpAnyH_take (i := 16) (oi := ⟨some 97, _, _, _, _, _⟩) (v := undef) rfl (by kernel_rfl) (by kernel_rfl) (by kernel_rfl) (fun _ _ _ h => h) (Or.inr ⟨by rfl, rfl⟩) hH ?_
            try simp only [Act.put, List.setIfInBounds_toArray, List.set_cons_zero, List.set_cons_succ]
            refine wpAnyH_solo (i := 17) (o := ⟨some 98, _, _, _, _, _⟩) rfl (by kernel_rfl) (fun K hK => ?_)
            refine wpList_pure rfl (.bool false) (by go_simp) ?_
            refine hK _ _ hH ?_
            clear hK K
            refine wpAnyH_done (by kernel_rfl) ?_ _
            simp only [Act.put]
            go_simp
            go_wp2_with fail
            go_roundw
            case rel => exact ⟨i + 1, hltH.out, by go_num, hN1.out _ ((Below.refl _ _).drew)⟩
            case measure => have := hltH.out; simp [intOf]; omega
        · have hxyB : (gx == gy) = false := by rw [beq_eq_false_iff_ne]; exact hxy
          have hxyN : (gx != gy) = true := by rw [bne_iff_ne]; exact hxy
          go_wp2_with (go_at_call 14; refine (HEn2 _ hB5).mono ?_; rintro e w16 ⟨rfl, hw16⟩; clear HEn2)
          go_roundw
          case rel => exact ⟨i + 1, hltH.out, by go_num, hN1.out _ hw16⟩
          case measure => have := hltH.out; simp [intOf]; omega
    · have hz2 : ¬ (i : Int) < (K.length : Int) := by omega
      obtain ⟨_, _, _, _, _, _, hW⟩ := hN
      go_wp2_with fail
      go_ret
      exact ⟨rfl, hW⟩
end
end Go.Proofs.YtmbdhngoldganaaGreatDoor
