/- What ChainCuts does. -/
import Derived.Test.YtmbdhngoldganaaGreatDoorCbl2
import Derived.Test.YtmbdhngoldganaaGreatDoorCnm
namespace Go.Proofs.YtmbdhngoldganaaGreatDoor
open Go Go.RowKit
theorem NM.symm {w : World} {NA ca sa ta : Nat} {slA : Value} {NB cb sb tb : Nat} {slB : Value} {cA cB : CN} {n : Nat} (h : NM w NA ca sa ta slA NB cb sb tb slB cA cB n) : NM w NB cb sb tb slB NA ca sa ta slA cB cA n := ⟨h.b, h.a, h.rb, h.ra, ⟨h.ne.1.symm, h.ne.2.1.symm, h.ne.2.2.symm⟩, fun r h1 h2 => h.row r h2 h1⟩
/-- The one is written, the other one stays. -/
theorem NM.to {w w' : World} {NA ca sa ta : Nat} {slA slA' : Value} {NB cb sb tb : Nat} {slB : Value} {cA cA' cB : CN} {n k : Nat} (h : NM w NA ca sa ta slA NB cb sb tb slB cA cB n) (hA : CH w' NA ca sa ta slA' cA') (hO : Own (ownC ca sa ta slA) w w') (hr : ∀ r, Sh.slBlk slA' = some r → Sh.slBlk slA = some r ∨ w.heap.size ≤ r) (ra : Room cA' k) (hk : k ≤ n) : NM w' NA ca sa ta slA' NB cb sb tb slB cA' cB k :=
  ⟨hA, h.a.apart h.b hO h.ne.1.symm h.ne.2.1.symm h.ne.2.2.symm (fun r hr e => h.row r e hr), ra, h.rb.mono hk, h.ne, fun r h1 e => by
    rcases hr r h1 with h2 | h2
    · exact h.row r h2 e
    · have := (h.b.blocks (.inr (.inr (.inr e.symm)))).2
      omega⟩
theorem GB.at' {w0 w : World} {lo g n cap : Nat} {dls : List (List Value)} {L : List BT} (h : GB w0 w lo (.slice (some ⟨g, 0, none⟩) n cap) dls L) (i : Nat) (hi : i < L.length) : ∃ xa xa2 xc xc2, BR w g (i * 3) L[i] xa xa2 xc xc2 := by
  obtain ⟨g', xa, xa2, xc, xc2, e, h1⟩ := h.at i hi
  simp only [Option.some.injEq, Addr.mk.injEq, and_true] at e
  rw [e]
  exact ⟨xa, xa2, xc, xc2, h1⟩
theorem run_minUe {op : Oper} {a : Act} {w : World} {x y : Operand} {n k r : Nat} (ho : op.op = .call { callee := .builtin .min, args := #[x, y], argTypes := #[36, 36] }) (hx : a.eval x = .int .u64 (n : Nat)) (hy : a.eval y = .int .u64 (k : Nat)) (hr : min n k = r) : (execOp a.eval op).run Tryz.prog w = .ok (.value (.int .u64 (r : Nat))) w := by
  rw [← hr]
  exact run_minU ho hx hy
section
variable {P : Program} {ops : Array Oper} {rest : List Oper} {op : Oper} {a : Act} {w : World} {Q : Exit → Act → World → Prop}
theorem wpList_loadRowG (hw : Region.wanted op (yielded ops a.tmps) = true) (ty : TypeId) (x : Operand) (ho : op.op = .load ty x) (b : Nat) (hx : a.eval x = .pointer (some ⟨b, 0, none⟩))
    (c : Array Value) (t : TypeId) (hb : Blk w b c t) (d : TypeDesc) (hu : P.underlying ty = some d) (hd : d.isRow = true) (hi : (P.info? ty).map (·.size) = some c.size)
    (h : wpList P ops Q rest (a.put op.dst (.agg c)) w) : wpList P ops Q (op :: rest) a w :=
  wpList_runG hw _ _ (by
    unfold execOp
    simp only [ho, hx]
    simp [Instr.loadAt, Instr.sureAddr, hb.loadVar d hu hd hi]) h
end
/-- Two blocks of one making are the same. -/
theorem same_one (b : BK) (hb : OkH b.h) (ht : ∀ x ∈ b.txs, okTx x = true) (hl : b.txs.length ≤ 16) (gm cm : Nat) (a : Option Addr) (cap gm2 cm2 : Nat) (a2 : Option Addr) (cap2 : Nat) (w : World) (h1 : AB w gm a cap b) (h2 : AB w gm2 a2 cap2 b) :
    Calls Tryz.prog 22 #[.agg (bkv b gm cm a cap), .agg (bkv b gm2 cm2 a2 cap2)] w fun e w' => e = .returned (.bool true) ∧ Below w.heap.size w w' := by
  have hm := hb.m.len
  refine (sameB_any b.h b.h b.txs b.txs (by omega) (fun x hx => Nat.le_trans (okTx_of (ht x hx)).len1 (by decide)) (some ⟨gm, 0, none⟩) (some ⟨gm2, 0, none⟩) a a2 cm cm2 cap cap2 w h1.cb.ia h2.cb.ia (by omega) h1.ta h2.ta).mono fun e w' h => ?_
  obtain ⟨y, rfl, h3, h4⟩ := h
  obtain rfl : y = true := h3.2 ⟨rfl, rfl⟩
  exact ⟨rfl, h4⟩
/-- What the first rounds keep. -/
structure NC1 (w wl : World) (NA ca sa ta NB cb sb tb : Nat) (c0 : CN) (K : List BT) (i : Nat) (slA slB : Value) : Prop where
  nm : NM wl NA ca sa ta slA NB cb sb tb slB (plC c0 (K.take i)) (plC c0 (K.take i)) (20 - i)
  kok : KOk (plC c0 (K.take i))
  bel : Below w.heap.size w wl
theorem cut_all {c : CN} (he : c.kept.length = c.ht) (h : Nat) : cutN' c h = min h c.ht := by
  unfold cutN'
  split <;> omega
theorem cut_base {c : CN} (he : c.kept.length = c.ht) (h : Nat) : (cutK c h).ht - (cutK c h).kept.length = min h c.ht := by
  show c.ht - (c.kept.drop (cutN' c h)).length = _
  rw [List.length_drop, cut_all he]
  omega
theorem cut_again {c : CN} (he : c.kept.length = c.ht) (h : Nat) : cutN' (cutK c h) h = 0 := by
  have e := cut_base he h
  unfold cutN'
  rw [e]
  show (if h ≤ min h c.ht then 0 else min h c.ht - min h c.ht) = 0
  split
  · rfl
  · omega
theorem cut_twice {c : CN} (he : c.kept.length = c.ht) (h : Nat) : cutK (cutK c h) h = cutK c h := by
  have e := cut_again he h
  show (⟨c.name, c.first, c.ht, c.hash, c.mem, c.m, c.t, (cutK c h).kept.drop (cutN' (cutK c h) h)⟩ : CN) = _
  rw [e, List.drop_zero]
  rfl
theorem Room.cut {c : CN} {n : Nat} (h : Room c n) (k : Nat) : Room (cutK c k) n := ⟨cutK_ok h.ok k, h.cnt, h.ht, by
  show (c.kept.drop _).length + n ≤ _
  rw [List.length_drop]
  have := h.klen
  omega⟩
theorem builtBa0 : Tryz.prog.built 58 [] = some (bc (.slice none 0 0) false (.slice none 0 0)) := by kernel_rfl
def b00 : BT := ⟨[], false, []⟩
theorem b00_ok : chkB b00 = 0 := by decide
/-- A block of one's own is none that a chain writes. -/
theorem CH.notOwn {w : World} {N cb bs bt : Nat} {sl : Value} {c : CN} {B : Nat} {d : Array Value} (h : CH w N cb bs bt sl c) (hb : Blk w B d 53) (hr : Sh.slBlk sl ≠ some B) : ¬ ownC cb bs bt sl B := fun e => by
  rcases e with e | e | e | e
  · obtain ⟨_, _, _, _, h1, _⟩ := h.blk
    exact hb.neT h1 (by decide) e
  · obtain ⟨mb, h1, _⟩ := h.ex.st.out
    exact hb.neT h1 (by decide) e
  · obtain ⟨q, h1, _⟩ := h.ex.tr
    exact hb.neT (Blk.of_sh h1) (by decide) e
  · exact hr e.symm
section
attribute [local go_sem] Oper.semAt_some
set_option maxRecDepth 100000 in
set_option maxHeartbeats 16000000 in
theorem cuts_good (n : List UInt8) (lm : List Int) (ax : Option Addr) (cx : Nat) (l : List BT) (a : Option Addr) (cap : Nat) (h : Nat) (w : World) (hG : Sh.Glob w) (hI : IA w ax lm) (hB : BA w a l) (hl : l.length ≤ maxLen) (hh : h < 18446744073709551616) (hk : okS n lm = true) :
    Calls Tryz.prog 5 #[.agg (suC n (.slice ax lm.length cx)), .slice a l.length cap, .int .u64 (h : Nat)] w fun e w' => e = .returned (.bool true) ∧ Below w.heap.size w w' := by
  have h2w := hG.two
  have HMa := fun w1 (hb : Below w.heap.size w w1) => (made_any n lm ax cx w1 (hI.below hb) (hG.belowSize hb)).mono fun e w' h => h.good hk
  have HMb := HMa
  have HW := fun w1 (hb : Below w.heap.size w w1) => awakeC_any w1 (hG.belowSize hb)
  have HK := fun w1 (hb : Below w.heap.size w w1) => good_any l a cap w w1 hb hB hl
  have hr0 := room_new hk
  have hK0 := KOk.new n lm
  have iX : ∀ n s, (Tryz.prog.info? 24).map (·.size) = some (suC n s).size := suC_info
  unfold GdP at HK
  generalize hKe : goodL l = K at *
  have hK8 : K.length ≤ 8 := by rw [← hKe]; exact goodL_len l
  have hKok : ∀ b ∈ K, chkB b = 0 := fun b hb => goodL_ok (l := l) (by rw [hKe]; exact hb)
  clear hKe hB hl hk
  generalize gD n lm = gd at *
  have hc00 : (newC n lm).ht = 0 := rfl
  have hc01 : (newC n lm).kept.length = 0 := rfl
  generalize newC n lm = c0 at *
  go_enter Tryz.func5, Tryz.ntmps5
  go_upto_region 5 with (first
    | (go_at_call 17; first
      | (refine (HMa _ hw1).mono ?_; rintro e w3 ⟨ca, sa, ta, rxa, rxc, rfl, hA, hw3⟩; clear HMa; have hAlt := hA.lt; replace h3 := h3.belowSize hw3; have hB3 := hw1.trans (hw3.mono hw1.size))
      | (refine (HMb _ hB5).mono ?_; rintro e w6 ⟨cb, sb, tb, rya, ryc, rfl, hBc, hw6⟩; clear HMb; replace hA := hA.below hw6; have hB6 := hB5.trans (hw6.mono hB5.size)))
    | (go_at_call 13; refine (HW _ hB8).mono ?_; rintro e w9 ⟨rfl, hw9⟩; clear HW; replace hA := hA.below hw9; replace hBc := hBc.below hw9; have hB9 := hB8.trans (hw9.mono hB8.size))
    | (with_reducible refine at_list ?_; first
      | (refine wpList_boxRow (op := ⟨some 3, _, _, _, _, _⟩) rfl _ _ rfl _ rfl ?_; intro w1 hw1 hs1 h3; clear hs1)
      | (refine wpList_loadRow (op := ⟨some 29, _, _, _, _, _⟩) rfl _ _ rfl w.heap.size rfl _ _ h3 _ Tryz.underlying24 rfl (iX _ _) ?_)
      | (refine wpList_allocRow (op := ⟨some 8, _, _, _, _, _⟩) rfl _ rfl _ zRc.1 ?_; intro w4 hw4 hs4 h8z; clear hs4; replace h3 := h3.belowSize hw4; replace hA := hA.below hw4; have hB4 := hB3.trans (hw4.mono hB3.size))
      | (refine wpList_storeRow (op := ⟨none, .store 45 (.tmp 8) (.tmp 32), _, _, _, _⟩) rfl _ _ _ rfl w3.heap.size (rcC n (.slice rxa lm.length rxc) gd) rfl rfl _ _ h8z (by simp only [rcC_size]) (rcC_info _ _ _) (rcC_one _ _ _ _ _) ?_; intro w5 hg5 hs5 h8; clear hs5; have k3 := h3.neT h8z (by decide); replace h3 := h3.grown hg5 (fun e => absurd (Option.some.inj e) k3); replace hA := hA.local hg5 h8z (Nat.le_trans h2w hB3.size) (by decide) (rowNone _); have q9 := h8.lt; have hB5 := hB4.trans (below_of_grown hg5 hB3.size hB4.size); clear hg5 h8z hB4 k3 h8)
      | (refine wpList_loadRow (op := ⟨some 35, _, _, _, _, _⟩) rfl _ _ rfl w.heap.size rfl _ _ h3 _ Tryz.underlying24 rfl (iX _ _) ?_)
      | (refine wpList_allocRow (op := ⟨some 11, _, _, _, _, _⟩) rfl _ rfl _ zRc.1 ?_; intro w7 hw7 hs7 h11z; clear hs7; replace hA := hA.below hw7; replace hBc := hBc.below hw7; have hB7 := hB6.trans (hw7.mono hB6.size))
      | (refine wpList_storeRow (op := ⟨none, .store 45 (.tmp 11) (.tmp 38), _, _, _, _⟩) rfl _ _ _ rfl w6.heap.size (rcC n (.slice rya lm.length ryc) gd) rfl rfl _ _ h11z (by simp only [rcC_size]) (rcC_info _ _ _) (rcC_one _ _ _ _ _) ?_; intro w8 hg8 hs8 h11; clear hs8; replace hA := hA.local hg8 h11z (Nat.le_trans h2w hB6.size) (by decide) (rowNone _); replace hBc := hBc.local hg8 h11z (Nat.le_trans h2w hB6.size) (by decide) (rowNone _); have hB8 := hB7.trans (below_of_grown hg8 hB6.size hB7.size); clear hg8 h11z hB7 h11)))
  obtain ⟨q1, q2, q3⟩ := hAlt
  obtain ⟨q5, q6, q7, q8⟩ := hBc.low
  have n1 : ca ≠ cb := by omega
  have n2 : sa ≠ sb := by omega
  have n3 : ta ≠ tb := by omega
  have hNA : w.heap.size ≤ w1.heap.size := hw1.size
  have hNB : w.heap.size ≤ w5.heap.size := hB5.size
  generalize w1.heap.size = NA at *
  generalize w5.heap.size = NB at *
  have hst : NC1 w w9 NA ca sa ta NB cb sb tb c0 K 0 (.slice none 0 0) (.slice none 0 0) := ⟨⟨hA, hBc, hr0, hr0, ⟨n1, n2, n3⟩, fun r e => nomatch e⟩, hK0, hB9⟩
  clear hA hBc hw1 hw3 hw4 hw6 hw7 hw9 hB3 hB5 hB6 hB8 q1 q2 q3 q5 q6 q7 q8 q9 hr0 hK0 h3 n1 n2 n3
  go_wp2_with (go_at_call 18; refine (HK _ hB9).mono ?_; rintro e w10 ⟨ak, ck, lo, dls, rfl, hGB, hw10⟩; clear HK; have hst2 : NC1 w w10 NA ca sa ta NB cb sb tb c0 K 0 (.slice none 0 0) (.slice none 0 0) := ⟨hst.nm.below hw10, hst.kok, hst.bel.trans (hw10.mono hst.bel.size)⟩)
  clear hB9 hw10 hst
  go_loopw [14] (fun v14 wl => ∃ (i : Nat) (slA slB : Value), i ≤ K.length ∧ v14 = .int .i64 i ∧ NC1 w wl NA ca sa ta NB cb sb tb c0 K i slA slB ∧ GB w wl lo (.slice ak K.length ck) dls K) (fun v14 _ => K.length - (intOf v14).toNat)
  case atStart => exact ⟨0, _, _, by omega, rfl, hst2, hGB⟩
  case round =>
    obtain ⟨i, slA, slB, hil, rfl, hN, hGB⟩ := hrel
    clear hst2
    by_cases hlt : i < K.length
    · obtain ⟨g, xa, xa2, xc, xc2, rfl, hR⟩ := hGB.at i hlt
      obtain ⟨hNM, hKO, hW⟩ := hN
      have hbok := hKok _ (List.getElem_mem hlt)
      have htk : K.take (i + 1) = K.take i ++ [K[i]] := by rw [List.take_succ_eq_append_getElem hlt]
      have hpl := plC_snoc c0 (K.take i) K[i]
      rw [← htk] at hpl
      have h20 : 20 - i = (20 - (i + 1)) + 1 := by omega
      rw [h20] at hNM
      have hz1 : (0 : Int) ≤ (i : Int) := by omega
      have hz2 : (i : Int) < (K.length : Int) := by omega
      have hltH : Hid (i < K.length) := hlt
      have hplH : Hid (plC c0 (K.take (i + 1)) = nextC (plC c0 (K.take i)) K[i]) := hpl
      have hat := fun w1 (hg : GB w w1 lo (.slice (some ⟨g, 0, none⟩) K.length ck) dls K) => hg.at' i hlt
      clear htk hpl h20
      generalize K[i] = b at *
      generalize plC c0 (K.take i) = cA at *
      obtain ⟨rm, hrm⟩ : ∃ y, y = 20 - (i + 1) := ⟨_, rfl⟩
      rw [← hrm] at hNM
      have hrmH : Hid (rm = 20 - (i + 1)) := hrm
      clear hrm
      have ra := hNM.ra
      have HAp := fun N cb bs bt sl w1 xa xa2 xc xc2 (h1 : CH w1 N cb bs bt sl cA) (h2 : BR w1 g (i * 3) b xa xa2 xc xc2) => applyC_any N cb bs bt sl cA w1 h1 ra.ok b hbok (by have := ra.cnt; omega) (by have := ra.ht; omega) (by have := ra.klen; omega) xa xa2 xc xc2 h2.tx h2.mem
      unfold ApC at HAp
      have HAq := HAp
      have r1 := ra.next hbok
      have hKn := hKO.next ra.ok hbok
      have hgoA := fun slA' w1 h1 h2 h3 => hNM.to (w' := w1) (slA' := slA') (cA' := nextC cA b) (k := rm) h1 h2 h3 r1 (Nat.le_succ _)
      have hgoB := fun slA' slB' w1 w2 (hn : NM w1 NA ca sa ta slA' NB cb sb tb slB (nextC cA b) cA rm) h1 h2 h3 => (hn.symm.to (w' := w2) (slA' := slB') (cA' := nextC cA b) (k := rm) h1 h2 h3 r1 (Nat.le_refl _)).symm
      have hGBa := fun w1 (hO : Own (ownC ca sa ta slA) wr w1) => hGB.own hNM.a hO hNA
      have hWa := fun w1 (hO : Own (ownC ca sa ta slA) wr w1) => hW.trans ((hNM.a.ownBelow hO).mono hNA)
      go_wp2_with (first
        | (go_at_call 19; first
          | (refine (HAp _ _ _ _ _ _ _ _ _ _ hNM.a hR).mono ?_; rintro e w11 ⟨slA', gm, cm, ab, capb, st, sc, rfl, hA1, hAB, hO, hrow⟩; clear HAp hAB; have hNM1 := hgoA slA' w11 hA1 hO hrow; have hGB1 := hGBa w11 hO; have hW1 := hWa w11 hO; obtain ⟨ya, ya2, yc, yc2, hR1⟩ := hat w11 hGB1; clear hNM hR hO hrow hgoA hGBa hWa hA1)
          | (refine (HAq _ _ _ _ _ _ _ _ _ _ hNM1.b hR1).mono ?_; rintro e w12 ⟨slB', gm2, cm2, ab2, capb2, st2, sc2, rfl, hB1, hAB2, hO2, hrow2⟩; clear HAq hAB2; have hNM2 := hgoB slA' slB' w11 w12 hNM1 hB1 hO2 hrow2; have hGB2 := hGB1.own hNM1.b hO2 hNB; have hW2 := hW1.trans ((hNM1.b.ownBelow hO2).mono hNB)))
        | (with_reducible refine at_list ?_; first
          | (refine wpList_loadOp (op := ⟨some 59, _, _, _, _, _⟩) rfl _ _ rfl g (i * 3) rfl _ hR.rng _ Tryz.underlying58 rfl (bc_info _ _ _) ?_)
          | (refine wpList_loadOp (op := ⟨some 65, _, _, _, _, _⟩) rfl _ _ rfl g (i * 3) rfl _ hR1.rng _ Tryz.underlying58 rfl (bc_info _ _ _) ?_)))
      go_roundw
      case rel => exact ⟨i + 1, slA', slB', hltH.out, by go_num, ⟨by rw [hplH.out]; exact hrmH.out ▸ hNM2, by rw [hplH.out]; exact hKn, hW2⟩, hGB2⟩
      case measure => have := hltH.out; simp [intOf]; omega
    · have hz2 : ¬ (i : Int) < (K.length : Int) := by omega
      have hi : K.take i = K := List.take_of_length_le (by omega)
      obtain ⟨hNM, hKO, hW⟩ := hN
      rw [hi] at hNM hKO
      have hct := plC_ht c0 K
      have hck := plC_klen c0 K
      rw [hc00, Nat.zero_add] at hct
      rw [hc01, Nat.zero_add] at hck
      have hNM9 : NM wr NA ca sa ta slA NB cb sb tb slB (plC c0 K) (plC c0 K) 10 := ⟨hNM.a, hNM.b, hNM.ra.mono (by omega), hNM.rb.mono (by omega), hNM.ne, hNM.row⟩
      clear hNM hi hc00 hc01
      generalize plC c0 K = c at *
      have hee : c.kept.length = c.ht := by omega
      have hkl : c.kept.length ≤ 1000000 := by omega
      clear hGB hKok
      obtain ⟨wn, hwn⟩ : ∃ y, y = min h K.length := ⟨_, rfl⟩
      have e1 : cutN' c h = wn := by rw [cut_all hee, hct, ← hwn]
      have e2 : (cutK c h).ht - (cutK c h).kept.length = wn := by rw [cut_base hee, hct, ← hwn]
      have e3 := cut_again hee h
      have e4 := cut_twice hee h
      have rc := hNM9.ra.cut h
      have hkl2 : (cutK c h).kept.length ≤ 1000000 := by have := rc.klen; omega
      have HC1 := cutC_any NA ca sa ta slA c wr hNM9.a hNM9.ra.ok hkl h
      unfold CuP at HC1
      rw [e1] at HC1
      have HBs := fun sl w1 (h1 : CH w1 NA ca sa ta sl (cutK c h)) => baseC_any NA ca sa ta sl (cutK c h) w1 h1 rc.ok hkl2
      rw [e2] at HBs
      have HC2 := fun sl w1 (h1 : CH w1 NA ca sa ta sl (cutK c h)) => cutC_any NA ca sa ta sl (cutK c h) w1 h1 rc.ok hkl2 h
      unfold CuP at HC2
      rw [e3, e4] at HC2
      have hto := fun slA' w1 h1 h2 h3 => hNM9.to (w' := w1) (slA' := slA') (cA' := cutK c h) (k := 10) h1 h2 h3 rc (Nat.le_refl _)
      have hto2 := fun slA1 slA' w1 w2 (hn : NM w1 NA ca sa ta slA1 NB cb sb tb slB (cutK c h) c 10) h1 h2 h3 => hn.to (w' := w2) (slA' := slA') (cA' := cutK c h) (k := 10) h1 h2 h3 rc (Nat.le_refl _)
      have hWo := fun w1 (hO : Own (ownC ca sa ta slA) wr w1) => hW.trans ((hNM9.a.ownBelow hO).mono hNA)
      have hwn6 : wn ≤ 1000000 := by omega
      have hK6 : K.length ≤ 1000000 := by omega
      have hwnH : Hid (wn = min h K.length) := hwn
      have e2H : Hid ((cutK c h).ht - (cutK c h).kept.length = wn) := e2
      have hkc : Hid ((cutK c h).kept = c.kept.drop wn) := by
        show c.kept.drop (cutN' c h) = _
        rw [e1]
      clear hwn e1 e2 e3 e4
      go_upto_region 15 with (first
        | (go_at_call 20; first
          | (refine HC1.mono ?_; rintro e w11 ⟨rfl, sl1, hA1, hO1, hr1⟩; clear HC1; have hNM1 := hto sl1 w11 hA1 hO1 hr1; have hW1 := hWo w11 hO1; clear hO1 hr1 hA1 hNM9 hto hWo)
          | (refine (HC2 _ _ hNM2.a).mono ?_; rintro e w13 ⟨rfl, sl2, hA3, hO3, hr3⟩; clear HC2; have hNM3 := hto2 sl1 sl2 w12 w13 hNM2 hA3 hO3 hr3; have hW3 := hW2.trans ((hNM2.a.ownBelow hO3).mono hNA); clear hO3 hr3 hA3 hNM2 hto2))
        | (go_at_call 15; refine (HBs _ _ hNM1.a).mono ?_; rintro e w12 ⟨rfl, hw12⟩; clear HBs; have hNM2 := hNM1.below hw12; have hW2 := hW1.trans (hw12.mono hW1.size); clear hNM1)
        | (with_reducible refine at_list ?_; first
          | (refine wpList_run (op := ⟨some 73, _, _, _, _, _⟩) rfl _ _ (run_convU rfl rfl hK6) ?_)
          | (refine wpList_run (op := ⟨some 74, _, _, _, _, _⟩) rfl _ _ (run_minUe rfl rfl rfl hwnH.out.symm) ?_)
          | (refine wpList_run (op := ⟨some 76, _, _, _, _, _⟩) rfl _ _ (run_convU rfl rfl hwn6) ?_)))
      have hKc := hKO.cut h
      have hcht : Hid ((cutK c h).ht = c.ht) := rfl
      have hbkI : ∀ (b : BK) gm cm a cap, (Tryz.prog.info? 53).map (·.size) = some (bkv b gm cm a cap).size := fun _ _ _ _ _ => bk_info _ _ _ _ _ _
      have hbk1 : ∀ (b : BK) gm cm a cap, (bkv b gm cm a cap).all (·.oneCell') = true := fun _ _ _ _ _ => bk_one _ _ _ _ _ _ _ _ _ _
      have hbk6 : ∀ (b : BK) gm cm a cap, (bkv b gm cm a cap).size = 6 := fun _ _ _ _ _ => rfl
      have hb0I : (Tryz.prog.info? 53).map (·.size) = some bk0.size := bk_info _ _ _ _ _ _
      have hb01 : bk0.all (·.oneCell') = true := bk_one _ _ _ _ _ _ _ _ _ _
      have hb06 : bk0.size = 6 := rfl
      have hmkE : Hid (mkB (cutK c h) b00 = mkB c b00) := rfl
      have henE : Hid (encC (nextC (cutK c h) b00) = encC (nextC c b00)) := rfl
      generalize cutK c h = c' at *
      go_wp2_with fail
      go_loopw [17] (fun v17 wl => ∃ i : Nat, 1 ≤ i ∧ i ≤ K.length + 1 ∧ v17 = .int .u64 i ∧ NM wl NA ca sa ta sl2 NB cb sb tb slB c' c 10 ∧ Below w.heap.size w wl) (fun v17 _ => K.length + 1 - (intOf v17).toNat)
      case atStart => exact ⟨1, by omega, by omega, rfl, hNM3, hW3⟩
      case round =>
        obtain ⟨j, hj1, hj2, rfl, hNM, hW⟩ := hrel
        clear hNM3 hW3
        by_cases hlt : j ≤ K.length
        · have hz2 : (j : Int) ≤ (K.length : Int) := by omega
          have hwr : (j : Int) + 1 ≤ 18446744073709551615 := by omega
          have hk : j - 1 < c.kept.length := by omega
          have hjH : Hid (1 ≤ j ∧ j ≤ K.length) := ⟨hj1, hlt⟩
          have HQ := fun w1 (h1 : CH w1 NB cb sb tb slB c) => blockC_got NB cb sb tb slB c w1 h1 hNM.rb.ok hKO hkl j (j - 1) hk (by omega)
          obtain ⟨kb1, kb2, kb3⟩ := hKO _ (List.getElem_mem hk)
          unfold BlP at HQ
          by_cases hw1 : j ≤ wn
          · have hzw : ¬ (wn : Int) < (j : Int) := by omega
            have hzwN : ¬ wn < j := by omega
            have hzwB : decide (wn < j) = false := decide_eq_false hzwN
            have HP := blockC_none NA ca sa ta sl2 c' wr hNM.a rc.ok hkl2 j (by rw [e2H.out]; exact hw1)
            unfold BnP at HP
            clear hj1 hj2 hlt hw1
            generalize c.kept[j - 1] = b at *
            clear hk
            generalize bk0 = k0 at *
            go_wp2_with (first
              | (go_at_call 21; first
                | (refine HP.mono ?_; rintro e w14 ⟨rfl, hw14⟩; clear HP; have hNM1 := hNM.below hw14; have hW1 := hW.trans (hw14.mono hW.size); have hrA := hNM1.a.rowNew; have hrB := hNM1.b.rowNew)
                | (refine (HQ _ hNM3.b).mono ?_; rintro e w17 ⟨gm2, cm2, a2, cap2, rfl, hAB2, hw17⟩; clear HQ; have hNM4 := hNM3.below hw17; have hW4 := hW3.trans (hw17.mono hW3.size); have hrA2 := hNM4.a.rowNew; have hrB2 := hNM4.b.rowNew))
              | (with_reducible refine at_list ?_; first
                | (refine wpList_run (op := ⟨some 94, _, _, _, _, _⟩) rfl _ _ (run_convU rfl rfl hK6) ?_)
                | (refine wpList_allocRow (op := ⟨some 18, _, _, _, _, _⟩) rfl _ rfl _ zBlk.1 ?_; intro w15 hw15 hs15 h18; clear hs15; have hNM2 := hNM1.below hw15; have hW2 := hW1.trans (hw15.mono hW1.size))
                | (refine wpList_storeRow (op := ⟨none, .store 53 (.tmp 18) (.tmp 102), _, _, _, _⟩) rfl _ _ _ rfl w14.heap.size k0 rfl rfl _ _ h18 (by rw [hb06, bk_size]) hb0I hb01 ?_; intro w16 hg16 hs16 h18b; clear hs16; have hNM3 := hNM2.local hg16 h18 (Nat.le_trans h2w hW1.size) (by decide) hrA hrB; have hW3 := hW2.trans (below_of_grown hg16 hW1.size hW2.size); clear hg16 h18)
                | (refine wpList_allocRow (op := ⟨some 20, _, _, _, _, _⟩) rfl _ rfl _ zBlk.1 ?_; intro w18 hw18 hs18 h20; clear hs18; have hNM5 := hNM4.below hw18; have hW5 := hW4.trans (hw18.mono hW4.size))
                | (refine wpList_storeRow (op := ⟨none, .store 53 (.tmp 20) (.tmp 108), _, _, _, _⟩) rfl _ _ _ rfl w17.heap.size (bkv b gm2 cm2 a2 cap2) rfl rfl _ _ h20 (by rw [hbk6, bk_size]) (hbkI _ _ _ _ _) (hbk1 _ _ _ _ _) ?_; intro w19 hg19 hs19 h20b; clear hs19; have hNM6 := hNM5.local hg19 h20 (Nat.le_trans h2w hW4.size) (by decide) hrA2 hrB2; have hW6 := hW5.trans (below_of_grown hg19 hW4.size hW5.size))))
            go_roundw
            case rel => exact ⟨j + 1, by omega, by have := hjH.out.2; omega, by go_num, hNM6, hW6⟩
            case measure => have := hjH.out; simp [intOf]; omega
          · have hzw : (wn : Int) < (j : Int) := by omega
            have hk2 : j - wn - 1 < c'.kept.length := by rw [hkc.out, List.length_drop]; omega
            have HP := blockC_got NA ca sa ta sl2 c' wr hNM.a rc.ok hKc hkl2 j (j - wn - 1) hk2 (by rw [e2H.out]; omega)
            have hbe : c'.kept[j - wn - 1] = c.kept[j - 1] := by
              have : c'.kept[j - wn - 1]? = c.kept[j - 1]? := by
                rw [hkc.out, List.getElem?_drop]
                congr 1
                omega
              rw [List.getElem?_eq_getElem hk2, List.getElem?_eq_getElem hk] at this
              exact Option.some.inj this
            rw [hbe] at HP
            unfold BlP at HP
            clear hbe hk2 hj1 hj2 hlt hw1
            generalize c.kept[j - 1] = b at *
            have HS := fun gm cm a cap gm2 cm2 a2 cap2 w1 (h1 : AB w1 gm a cap b) (h2 : AB w1 gm2 a2 cap2 b) => same_one b kb1 kb2 kb3 gm cm a cap gm2 cm2 a2 cap2 w1 h1 h2
            go_wp2_with (first
              | (go_at_call 21; first
                | (refine HP.mono ?_; rintro e w14 ⟨gm1, cm1, a1, cap1, rfl, hAB1, hw14⟩; clear HP; have hNM1 := hNM.below hw14; have hW1 := hW.trans (hw14.mono hW.size); have hrA := hNM1.a.rowNew; have hrB := hNM1.b.rowNew)
                | (refine (HQ _ hNM3.b).mono ?_; rintro e w17 ⟨gm2, cm2, a2, cap2, rfl, hAB2, hw17⟩; clear HQ; have hNM4 := hNM3.below hw17; have hW4 := hW3.trans (hw17.mono hW3.size); have hrA2 := hNM4.a.rowNew; have hrB2 := hNM4.b.rowNew; replace h18b := h18b.belowSize hw17; replace hAB1 := hAB1.stay (Stay.of_below hw17)))
              | (go_at_call 22; refine (HS _ _ _ _ _ _ _ _ _ hAB1 hAB2).mono ?_; rintro e w20 ⟨rfl, hw20⟩; clear HS; have hNM7 := hNM6.below hw20; have hW7 := hW6.trans (hw20.mono hW6.size))
              | (with_reducible refine at_list ?_; first
                | (refine wpList_run (op := ⟨some 94, _, _, _, _, _⟩) rfl _ _ (run_convU rfl rfl hK6) ?_)
                | (refine wpList_allocRow (op := ⟨some 18, _, _, _, _, _⟩) rfl _ rfl _ zBlk.1 ?_; intro w15 hw15 hs15 h18; clear hs15; have hNM2 := hNM1.below hw15; have hW2 := hW1.trans (hw15.mono hW1.size); replace hAB1 := hAB1.stay (Stay.of_below hw15))
                | (refine wpList_storeRow (op := ⟨none, .store 53 (.tmp 18) (.tmp 102), _, _, _, _⟩) rfl _ _ _ rfl w14.heap.size (bkv b gm1 cm1 a1 cap1) rfl rfl _ _ h18 (by rw [hbk6, bk_size]) (hbkI _ _ _ _ _) (hbk1 _ _ _ _ _) ?_; intro w16 hg16 hs16 h18b; clear hs16; have hNM3 := hNM2.local hg16 h18 (Nat.le_trans h2w hW1.size) (by decide) hrA hrB; have hW3 := hW2.trans (below_of_grown hg16 hW1.size hW2.size); replace hAB1 := hAB1.stay (stay_blk hg16 h18 (by decide)); clear hg16 h18)
                | (refine wpList_allocRow (op := ⟨some 20, _, _, _, _, _⟩) rfl _ rfl _ zBlk.1 ?_; intro w18 hw18 hs18 h20; clear hs18; have hNM5 := hNM4.below hw18; have hW5 := hW4.trans (hw18.mono hW4.size); have h1820 : w14.heap.size < w17.heap.size := h18b.lt; replace h18b := h18b.belowSize hw18; replace hAB1 := hAB1.stay (Stay.of_below hw18); replace hAB2 := hAB2.stay (Stay.of_below hw18))
                | (refine wpList_storeRow (op := ⟨none, .store 53 (.tmp 20) (.tmp 108), _, _, _, _⟩) rfl _ _ _ rfl w17.heap.size (bkv b gm2 cm2 a2 cap2) rfl rfl _ _ h20 (by rw [hbk6, bk_size]) (hbkI _ _ _ _ _) (hbk1 _ _ _ _ _) ?_; intro w19 hg19 hs19 h20b; clear hs19; have hNM6 := hNM5.local hg19 h20 (Nat.le_trans h2w hW4.size) (by decide) hrA2 hrB2; have hW6 := hW5.trans (below_of_grown hg19 hW4.size hW5.size); replace h18b := h18b.grown hg19 (fun e => absurd (Option.some.inj e) (Nat.ne_of_lt h1820)); replace hAB1 := hAB1.stay (stay_blk hg19 h20 (by decide)); replace hAB2 := hAB2.stay (stay_blk hg19 h20 (by decide)))
                | (refine wpList_loadRowG (op := ⟨some 124, _, _, _, _, _⟩) rfl _ _ rfl w14.heap.size rfl _ _ h18b _ Tryz.underlying53 rfl (hbkI _ _ _ _ _) ?_)
                | (refine wpList_loadRowG (op := ⟨some 125, _, _, _, _, _⟩) rfl _ _ rfl w17.heap.size rfl _ _ h20b _ Tryz.underlying53 rfl (hbkI _ _ _ _ _) ?_)))
            go_roundw
            case rel => exact ⟨j + 1, by omega, by have := hjH.out.2; omega, by go_num, hNM7, hW7⟩
            case measure => have := hjH.out; simp [intOf]; omega
        · have hz2 : ¬ (j : Int) ≤ (K.length : Int) := by omega
          have rb := hNM.rb
          have HA1 := applyC_any NA ca sa ta sl2 c' wr hNM.a rc.ok b00 b00_ok (by have := rc.cnt; omega) (by have := rc.ht; omega) (by have := rc.klen; omega) none none 0 0 (TA.nil _ _) (fun i x hx => by cases hx)
          have HB1 := fun w1 (h1 : CH w1 NB cb sb tb slB c) => applyC_any NB cb sb tb slB c w1 h1 rb.ok b00 b00_ok (by have := rb.cnt; omega) (by have := rb.ht; omega) (by have := rb.klen; omega) none none 0 0 (TA.nil _ _) (fun i x hx => by cases hx)
          unfold ApC at HA1 HB1
          rw [hmkE.out] at HA1
          change Calls Tryz.prog 19 #[.pointer (some ⟨ca, 0, none⟩), .agg (bc (.slice none 0 0) false (.slice none 0 0))] wr _ at HA1
          change ∀ w1, _ → Calls Tryz.prog 19 #[.pointer (some ⟨cb, 0, none⟩), .agg (bc (.slice none 0 0) false (.slice none 0 0))] w1 _ at HB1
          have r1 := rc.next (n := 9) b00_ok
          have r2 := rb.next (n := 9) b00_ok
          have hto1 := fun slA' w1 h1 h2 h3 => hNM.to (w' := w1) (slA' := slA') (cA' := nextC c' b00) (k := 9) h1 h2 h3 r1 (by omega)
          have hto2 := fun slA' slB' w1 w2 (hn : NM w1 NA ca sa ta slA' NB cb sb tb slB (nextC c' b00) c 9) h1 h2 h3 => (hn.symm.to (w' := w2) (slA' := slB') (cA' := nextC c b00) (k := 9) h1 h2 h3 r2 (Nat.le_refl _)).symm
          have hWo := fun w1 (hO : Own (ownC ca sa ta sl2) wr w1) => hW.trans ((hNM.a.ownBelow hO).mono hNA)
          have HE1 := fun sl w1 (h1 : CH w1 NA ca sa ta sl (nextC c' b00)) => encC_any NA ca sa ta sl _ w1 h1 r1.ok
          have HE2 := fun sl w1 (h1 : CH w1 NB cb sb tb sl (nextC c b00)) => encC_any NB cb sb tb sl _ w1 h1 r2.ok
          rw [henE.out] at HE1
          have kb1 := mkB_head (c := c) rb.ok b00_ok
          obtain ⟨kb2, kb3⟩ := mkB_txs (c := c) b00_ok
          have HS := fun gm cm a cap gm2 cm2 a2 cap2 w1 (h1 : AB w1 gm a cap (mkB c b00)) (h2 : AB w1 gm2 a2 cap2 (mkB c b00)) => same_one (mkB c b00) kb1 kb2 kb3 gm cm a cap gm2 cm2 a2 cap2 w1 h1 h2
          generalize encC (nextC c b00) = ec at *
          have hABt : ∀ {wx wy : World} {gm : Nat} {a2 : Option Addr} {cap2 : Nat}, AB wx gm a2 cap2 (mkB c b00) → Stay wx wy → AB wy gm a2 cap2 (mkB c b00) := fun h k => h.stay k
          generalize mkB c b00 = b at *
          clear hmkE henE hj1 hj2 hlt kb1 kb2 kb3
          go_wp2_with (first
            | (go_at_call 19; first
              | (refine HA1.mono ?_; rintro e w14 ⟨slA', gm1, cm1, a1, cap1, st1, sc1, rfl, hA1, hAB1, hO1, hr1⟩; clear HA1; have hNM1 := hto1 slA' w14 hA1 hO1 hr1; have hW1 := hWo w14 hO1; have hrA := hNM1.a.rowNew; have hrB := hNM1.b.rowNew; clear hO1 hr1 hA1 hto1 hWo)
              | (refine (HB1 _ hNM3.b).mono ?_; rintro e w17 ⟨slB', gm2, cm2, a2, cap2, st2, sc2, rfl, hB1, hAB2, hO2, hr2⟩; clear HB1; have hNM4 := hto2 slA' slB' w16 w17 hNM3 hB1 hO2 hr2; have hW4 := hW3.trans ((hNM3.b.ownBelow hO2).mono hNB); have hrA2 := hNM4.a.rowNew; have hrB2 := hNM4.b.rowNew; have hst2 := hNM3.b.stayOwn hO2; replace hAB1 := hABt hAB1 hst2; have h22n := hNM3.b.notOwn h22b hg22; replace h22b := h22b.own hO2 h22n; clear hO2 hr2 hB1 hto2 hst2 h22n))
            | (go_at_call 22; refine (HS _ _ _ _ _ _ _ _ _ hAB1 hAB2).mono ?_; rintro e w20 ⟨rfl, hw20⟩; clear HS; have hNM7 := hNM6.below hw20; have hW7 := hW6.trans (hw20.mono hW6.size))
            | (go_at_call 14; first
              | (refine (HE1 _ _ hNM7.a).mono ?_; rintro e w21 ⟨rfl, hw21⟩; clear HE1; have hNM8 := hNM7.below hw21; have hW8 := hW7.trans (hw21.mono hW7.size))
              | (refine (HE2 _ _ hNM8.b).mono ?_; rintro e w22 ⟨rfl, hw22⟩; clear HE2; have hW9 := hW8.trans (hw22.mono hW8.size)))
            | (with_reducible refine at_list ?_; first
              | (refine wpList_run (op := ⟨some 94, _, _, _, _, _⟩) rfl _ _ (run_convU rfl rfl hK6) ?_)
              | (refine wpList_build (o := ⟨some 132, _, _, _, _, _⟩) rfl _ _ rfl builtBa0 ?_)
              | (refine wpList_build (o := ⟨some 139, _, _, _, _, _⟩) rfl _ _ rfl builtBa0 ?_)
              | (refine wpList_allocRow (op := ⟨some 22, _, _, _, _, _⟩) rfl _ rfl _ zBlk.1 ?_; intro w15 hw15 hs15 h22; clear hs15; have hNM2 := hNM1.below hw15; have hW2 := hW1.trans (hw15.mono hW1.size); replace hAB1 := hABt hAB1 (Stay.of_below hw15))
              | (refine wpList_storeRow (op := ⟨none, .store 53 (.tmp 22) (.tmp 134), _, _, _, _⟩) rfl _ _ _ rfl w14.heap.size (bkv b gm1 cm1 a1 cap1) rfl rfl _ _ h22 (by rw [hbk6, bk_size]) (hbkI _ _ _ _ _) (hbk1 _ _ _ _ _) ?_; intro w16 hg16 hs16 h22b; clear hs16; have hNM3 := hNM2.local hg16 h22 (Nat.le_trans h2w hW1.size) (by decide) hrA hrB; have hW3 := hW2.trans (below_of_grown hg16 hW1.size hW2.size); replace hAB1 := hABt hAB1 (stay_blk hg16 h22 (by decide)); have hg22 := hrB; clear hg16 h22)
              | (refine wpList_allocRow (op := ⟨some 25, _, _, _, _, _⟩) rfl _ rfl _ zBlk.1 ?_; intro w18 hw18 hs18 h25; clear hs18; have hNM5 := hNM4.below hw18; have hW5 := hW4.trans (hw18.mono hW4.size); have h2225 : w14.heap.size < w17.heap.size := h22b.lt; replace h22b := h22b.belowSize hw18; replace hAB1 := hABt hAB1 (Stay.of_below hw18); replace hAB2 := hABt hAB2 (Stay.of_below hw18))
              | (refine wpList_storeRow (op := ⟨none, .store 53 (.tmp 25) (.tmp 141), _, _, _, _⟩) rfl _ _ _ rfl w17.heap.size (bkv b gm2 cm2 a2 cap2) rfl rfl _ _ h25 (by rw [hbk6, bk_size]) (hbkI _ _ _ _ _) (hbk1 _ _ _ _ _) ?_; intro w19 hg19 hs19 h25b; clear hs19; have hNM6 := hNM5.local hg19 h25 (Nat.le_trans h2w hW4.size) (by decide) hrA2 hrB2; have hW6 := hW5.trans (below_of_grown hg19 hW4.size hW5.size); replace h22b := h22b.grown hg19 (fun e => absurd (Option.some.inj e) (Nat.ne_of_lt h2225)); replace hAB1 := hABt hAB1 (stay_blk hg19 h25 (by decide)); replace hAB2 := hABt hAB2 (stay_blk hg19 h25 (by decide)))
              | (refine wpList_loadRowG (op := ⟨some 151, _, _, _, _, _⟩) rfl _ _ rfl w14.heap.size rfl _ _ h22b _ Tryz.underlying53 rfl (hbkI _ _ _ _ _) ?_)
              | (refine wpList_loadRowG (op := ⟨some 152, _, _, _, _, _⟩) rfl _ _ rfl w17.heap.size rfl _ _ h25b _ Tryz.underlying53 rfl (hbkI _ _ _ _ _) ?_)))
          go_ret
          exact ⟨rfl, hW9⟩
set_option maxRecDepth 100000 in
set_option maxHeartbeats 16000000 in
theorem cuts_bad (n : List UInt8) (lm : List Int) (ax : Option Addr) (cx : Nat) (sv : Value) (h : Int) (w : World) (hG : Sh.Glob w) (hI : IA w ax lm) (hk : okS n lm = false) :
    Calls Tryz.prog 5 #[.agg (suC n (.slice ax lm.length cx)), sv, .int .u64 h] w fun e w' => e = .returned (.bool true) ∧ Below w.heap.size w w' := by
  have HMa := fun w1 (hb : Below w.heap.size w w1) => (made_any n lm ax cx w1 (hI.below hb) (hG.belowSize hb)).mono fun e w' h => h.out
  have HMb := HMa
  have HW := fun w1 (hb : Below w.heap.size w w1) => awakeC_any w1 (hG.belowSize hb)
  have HW2 := HW
  have iX : ∀ n s, (Tryz.prog.info? 24).map (·.size) = some (suC n s).size := suC_info
  rw [hk] at HMa HMb
  go_enter Tryz.func5, Tryz.ntmps5
  go_wp2_with (first
    | (go_at_call 17; first
      | (refine (HMa _ hw1).mono ?_; rintro e w3 ⟨px, rx, rfl, hw3, rxi, rxo, rx7⟩; clear HMa; replace h3 := h3.belowSize hw3; have hB3 := hw1.trans (hw3.mono hw1.size))
      | (refine (HMb _ hB5).mono ?_; rintro e w6 ⟨py, ry, rfl, hw6, ryi, ryo, ry7⟩; clear HMb; have hB6 := hB5.trans (hw6.mono hB5.size)))
    | (go_at_call 13; first
      | (refine (HW _ hB8).mono ?_; rintro e w9 ⟨rfl, hw9⟩; clear HW; have hB9 := hB8.trans (hw9.mono hB8.size))
      | (refine (HW2 _ hB9).mono ?_; rintro e wA ⟨rfl, hwA⟩; clear HW2; have hBA := hB9.trans (hwA.mono hB9.size)))
    | (with_reducible refine at_list ?_; first
      | (refine wpList_boxRow (op := ⟨some 3, _, _, _, _, _⟩) rfl _ _ rfl _ rfl ?_; intro w1 hw1 hs1 h3; clear hs1)
      | (refine wpList_loadRow (op := ⟨some 29, _, _, _, _, _⟩) rfl _ _ rfl w.heap.size rfl _ _ h3 _ Tryz.underlying24 rfl (iX _ _) ?_)
      | (refine wpList_allocRow (op := ⟨some 8, _, _, _, _, _⟩) rfl _ rfl _ zRc.1 ?_; intro w4 hw4 hs4 h8z; clear hs4; replace h3 := h3.belowSize hw4; have hB4 := hB3.trans (hw4.mono hB3.size))
      | (refine wpList_storeRow (op := ⟨none, .store 45 (.tmp 8) (.tmp 32), _, _, _, _⟩) rfl _ _ _ rfl w3.heap.size rx rfl rfl _ _ h8z (by rw [rx7, rcC_size]) rxi rxo ?_; intro w5 hg5 hs5 h8; clear hs5; have k3 := h3.neT h8z (by decide); replace h3 := h3.grown hg5 (fun e => absurd (Option.some.inj e) k3); have hB5 := hB4.trans (below_of_grown hg5 hB3.size hB4.size); clear hg5 h8z hB4 k3)
      | (refine wpList_loadRow (op := ⟨some 35, _, _, _, _, _⟩) rfl _ _ rfl w.heap.size rfl _ _ h3 _ Tryz.underlying24 rfl (iX _ _) ?_)
      | (refine wpList_allocRow (op := ⟨some 11, _, _, _, _, _⟩) rfl _ rfl _ zRc.1 ?_; intro w7 hw7 hs7 h11z; clear hs7; have hB7 := hB6.trans (hw7.mono hB6.size))
      | (refine wpList_storeRow (op := ⟨none, .store 45 (.tmp 11) (.tmp 38), _, _, _, _⟩) rfl _ _ _ rfl w6.heap.size ry rfl rfl _ _ h11z (by rw [ry7, rcC_size]) ryi ryo ?_; intro w8 hg8 hs8 h11; clear hs8; have hB8 := hB7.trans (below_of_grown hg8 hB6.size hB7.size); clear hg8 h11z hB7)))
  go_ret
  exact ⟨rfl, hBA⟩
end
theorem chainCuts_any (n : List UInt8) (lm : List Int) (ax : Option Addr) (cx : Nat) (l : List BT) (a : Option Addr) (cap : Nat) (h : Nat) (w : World) (hG : Sh.Glob w) (hI : IA w ax lm) (hB : BA w a l) (hl : l.length ≤ maxLen) (hh : h < 18446744073709551616) :
    Calls Tryz.prog 5 #[.agg (suC n (.slice ax lm.length cx)), .slice a l.length cap, .int .u64 (h : Nat)] w fun e w' => e = .returned (.bool true) ∧ Below w.heap.size w w' := by
  cases hk : okS n lm
  · exact cuts_bad n lm ax cx _ _ w hG hI hk
  · exact cuts_good n lm ax cx l a cap h w hG hI hB hl hh hk
end Go.Proofs.YtmbdhngoldganaaGreatDoor
