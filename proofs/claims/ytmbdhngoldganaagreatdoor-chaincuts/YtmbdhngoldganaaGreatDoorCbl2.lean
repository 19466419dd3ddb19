/- What Block of a chain does. -/
import Derived.Test.YtmbdhngoldganaaGreatDoorCct
namespace Go.Proofs.YtmbdhngoldganaaGreatDoor
open Go Go.RowKit
/-- What is kept may be. -/
def KOk (c : CN) : Prop := ∀ b ∈ c.kept, OkH b.h ∧ (∀ x ∈ b.txs, okTx x = true) ∧ b.txs.length ≤ 16
theorem KOk.new (n : List UInt8) (l : List Int) : KOk (newC n l) := fun b hb => by cases hb
theorem KOk.next {c : CN} {b : BT} (h : KOk c) (hc : OkC c) (hb : chkB b = 0) : KOk (nextC c b) := fun x hx => by
  rcases List.mem_append.1 hx with hx | hx
  · exact h x hx
  · rw [List.mem_singleton.1 hx]
    exact ⟨mkB_head hc hb, (mkB_txs hb).1, (mkB_txs hb).2⟩
theorem KOk.cut {c : CN} (h : KOk c) (n : Nat) : KOk (cutK c n) := fun x hx => h x (List.mem_of_mem_drop hx)
/-- What Block leaves where there is none. -/
def BnP (w : World) (e : Ending) (w' : World) : Prop := e = .returned (.tuple #[.agg bk0, .int .i64 2]) ∧ Below w.heap.size w w'
def BlP (w : World) (b : BK) (e : Ending) (w' : World) : Prop := ∃ gm cm a cap, e = .returned (.tuple #[.agg (bkv b gm cm a cap), .int .i64 0]) ∧ AB w' gm a cap b ∧ Below w.heap.size w w'
section
attribute [local go_sem] Oper.semAt_some
set_option maxRecDepth 100000 in
set_option maxHeartbeats 4000000 in
theorem blockC_none (N cb bs bt : Nat) (sl : Value) (c : CN) (w : World) (hc : CH w N cb bs bt sl c) (hok : OkC c) (hkl : c.kept.length ≤ 1000000) (h : Nat) (hn : h ≤ c.ht - c.kept.length) :
    Calls Tryz.prog 21 #[.pointer (some ⟨cb, 0, none⟩), .int .u64 (h : Nat)] w (BnP w) := by
  have HB := fun w1 (hb : Below w.heap.size w w1) => baseC_any N cb bs bt sl c w1 (hc.below hb) hok hkl
  have hbI : (h : Int) ≤ ((c.ht - c.kept.length : Nat) : Int) := by omega
  generalize c.ht - c.kept.length = base at *
  go_enter Tryz.func21, Tryz.ntmps21
  go_wp2_with (first
    | (go_at_call 15; refine (HB _ hw2).mono ?_; rintro e w1 ⟨rfl, hw1⟩; clear HB; replace h4 := h4.belowSize hw1; have hB1 := hw2.trans (hw1.mono hw2.size))
    | (with_reducible refine at_list ?_; first
      | (refine wpList_allocRow (op := ⟨some 4, _, _, _, _, _⟩) rfl _ rfl _ zBlk.1 ?_; intro w2 hw2 hs2 h4; clear hs2)
      | (refine wpList_build (o := ⟨some 25, _, _, _, _, _⟩) rfl _ _ rfl builtBk0 ?_)
      | (refine wpList_storeRow (op := ⟨none, .store 53 (.tmp 4) (.tmp 25), _, _, _, _⟩) rfl _ _ _ rfl w.heap.size (bk 0 [] [] [] (.slice none 0 0) (.slice none 0 0)) rfl rfl _ _ h4 (by simp only [bk_size]) (bk_info _ _ _ _ _ _) (bk_one _ _ _ _ _ _ _ _ _ _) ?_; intro w3 hg3 hs3 h4b; clear hs3)))
  refine bodyPost_ret (v := .tuple #[.agg bk0, .int .i64 2]) ?_ rfl ⟨rfl, hB1.trans (below_of_grown hg3 (Nat.le_refl _) hB1.size)⟩
  exact res_cv rfl _ _ w.heap.size _ _ _ _ rfl rfl h4b Tryz.underlying53 rfl (bk_info _ _ _ _ _ _)
set_option maxRecDepth 100000 in
set_option maxHeartbeats 4000000 in
theorem blockC_got (N cb bs bt : Nat) (sl : Value) (c : CN) (w : World) (hc : CH w N cb bs bt sl c) (hok : OkC c) (hK : KOk c) (hkl : c.kept.length ≤ 1000000) (h k : Nat) (hk : k < c.kept.length) (hh : h = c.ht - c.kept.length + k + 1) :
    Calls Tryz.prog 21 #[.pointer (some ⟨cb, 0, none⟩), .int .u64 (h : Nat)] w (BlP w c.kept[k]) := by
  have HB := fun w1 (hb : Below w.heap.size w w1) => baseC_any N cb bs bt sl c w1 (hc.below hb) hok hkl
  have hkt := hok.kept
  have hht := hok.ht
  obtain ⟨gf, cf, gm0, cm0, hC, hCf, hCm⟩ := hc.blk
  obtain ⟨dls, hGL, hBL⟩ := hc.kept
  obtain ⟨cc, hcc, hKB⟩ := hBL.each k hk
  obtain ⟨hbh, hbt, hbl⟩ := hK _ (List.getElem_mem hk)
  have hkd : k < dls.length := by rw [hBL.len]; exact hk
  rw [List.getElem?_eq_getElem hkd] at hcc
  obtain ⟨ka, kc, hsl, hel⟩ := hGL.sl
  obtain ⟨g, hka, hcl⟩ := hel k hkd
  subst hka
  rw [hBL.len] at hsl
  subst hsl
  have hcc2 := Option.some.inj hcc
  rw [hcc2] at hcl
  obtain ⟨gm, cm, a, cap, rfl, hAB⟩ := hKB.ab
  have h1I : ¬ (h : Int) ≤ ((c.ht - c.kept.length : Nat) : Int) := by omega
  have h2I : ¬ (c.ht : Int) < (h : Int) := by omega
  have e1 : h - (c.ht - c.kept.length) = k + 1 := by omega
  have hb1 : c.ht - c.kept.length ≤ h := by omega
  have hb2 : h < 18446744073709551616 := by omega
  have hkn : (k : Int) < (c.kept.length : Int) := by omega
  have hk0 : (0 : Int) ≤ (k : Int) := by omega
  have hm0 := hbh.m.pos
  have hm1 := hbh.m.len
  generalize c.kept[k] = b at *
  have HCl := fun w1 (hb : Below w.heap.size w w1) => cloneB_any b.h.height b.h.prev b.h.txr b.h.str b.h.mem hm0 (by omega) b.txs hbt (by omega) (some ⟨gm, 0, none⟩) cm a cap w1 (hAB.stay (Stay.of_below hb)).cb.ia (hAB.stay (Stay.of_below hb)).ta
  have hrng : ∀ w1, Below w.heap.size w w1 → w1.rangeAt g (k * 6) (bkv b gm cm a cap).toList := fun w1 hb j v hv => (hb.cell (World.block_lt_of_cell? _ _ (hcl j v hv))).trans (hcl j v hv)
  have hc2 := fun w1 (hb : Below w.heap.size w w1) => ((hC.belowSize hb).cell 2).trans (chC_g2 _ _ _ _ _ _ _ _)
  have hc7 := fun w1 (hb : Below w.heap.size w w1) => ((hC.belowSize hb).cell 7).trans (chC_g7 _ _ _ _ _ _ _ _)
  change ∀ w1, _ → Calls Tryz.prog 62 #[.agg (bkv b gm cm a cap)] w1 _ at HCl
  have hPost : Hid (∀ w3 w4 gm' cm' lo' a' cap' dl', Below w.heap.size w w3 → Sh.GL w3 95 3 lo' (.slice a' b.txs.length cap') dl' → TXL w3 0 97 dl' b.txs → CB w3 gm' b.h.mem → Blk w3 w.heap.size (bk 0 [] [] [] (.slice none 0 0) (.slice none 0 0)) 53 → w3.grownBy w4 (some w.heap.size) → BlP w b (.returned (.tuple #[.agg (bkv b gm' cm' a' cap'), .int .i64 0])) w4) := fun w3 w4 gm' cm' lo' a' cap' dl' b1 b2 b3 b4 b5 b6 => by
    have hst := stay_blk b6 b5 (by decide)
    exact ⟨gm', cm', a', cap', rfl, ⟨b4.stay hst, lo', dl', GLtx.stay b2 hst, b3.stay hst⟩, b1.trans (below_of_grown b6 (Nat.le_refl _) b1.size)⟩
  have hbi : ∀ gm cm a cap, (Tryz.prog.info? 53).map (·.size) = some (bkv b gm cm a cap).size := fun _ _ _ _ => bk_info _ _ _ _ _ _
  have hbo : ∀ gm cm a cap, (bkv b gm cm a cap).all (·.oneCell') = true := fun _ _ _ _ => bk_one _ _ _ _ _ _ _ _ _ _
  have hb6 : ∀ gm cm a cap, (bkv b gm cm a cap).size = 6 := fun _ _ _ _ => rfl
  unfold ClnP at HCl
  change ∀ w1, _ → Calls Tryz.prog 62 _ w1 (fun e w' => ∃ gm cm lo a cap dls, e = .returned (.agg (bkv b gm cm a cap)) ∧ _) at HCl
  generalize BlP w b = Post at *
  generalize c.ht - c.kept.length = base at *
  clear hc hok hK hkl hkt hht hCf hCm hGL hBL hh hcc hcc2 hel hcl hAB hKB hbh hbt hbl hm0 hm1 hC hkd
  go_enter Tryz.func21, Tryz.ntmps21
  go_wp2_with (first
    | (go_at_call 15; refine (HB _ hw2).mono ?_; rintro e w1 ⟨rfl, hw1⟩; clear HB; replace h4 := h4.belowSize hw1; have hB1 := hw2.trans (hw1.mono hw2.size); have c2 := hc2 _ hB1; have c7 := hc7 _ hB1; have hrg := hrng _ hB1)
    | (go_at_call 62; refine (HCl _ hB1).mono ?_; rintro e w3 ⟨gm', cm', lo', a', cap', dl', rfl, b1, b2, b3, b4, b5, b6⟩; clear HCl; replace h4 := h4.belowSize b4; have hB3 := hB1.trans (b4.mono hB1.size))
    | (with_reducible refine at_list ?_; first
      | (refine wpList_allocRow (op := ⟨some 4, _, _, _, _, _⟩) rfl _ rfl _ zBlk.1 ?_; intro w2 hw2 hs2 h4; clear hs2)
      | (refine wpList_run (op := ⟨some 32, _, _, _, _, _⟩) rfl _ _ (run_subUe rfl rfl rfl hb1 hb2 e1) ?_)
      | (refine wpList_run (op := ⟨some 33, _, _, _, _, _⟩) rfl _ _ (run_subUe (n := k + 1) (k := 1) (r := k) rfl rfl rfl (by omega) (by omega) (by omega)) ?_)
      | (refine wpList_loadOp (op := ⟨some 35, _, _, _, _, _⟩) rfl _ _ rfl g (k * 6) rfl _ hrg _ Tryz.underlying53 rfl (hbi _ _ _ _) ?_)
      | (refine wpList_storeRow (op := ⟨none, .store 53 (.tmp 4) (.tmp 36), _, _, _, _⟩) rfl _ _ _ rfl w.heap.size (bkv b gm' cm' a' cap') rfl rfl _ _ h4 (by rw [hb6, bk_size]) (hbi _ _ _ _) (hbo _ _ _ _) ?_; intro w4 hg4 hs4 h4b; clear hs4)))
  refine bodyPost_ret (v := .tuple #[.agg (bkv b gm' cm' a' cap'), .int .i64 0]) ?_ rfl (hPost.out w3 w4 gm' cm' lo' a' cap' dl' hB3 b1 b2 b3 h4 hg4)
  exact res_cv rfl _ _ w.heap.size _ _ _ _ rfl rfl h4b Tryz.underlying53 rfl (hbi _ _ _ _)
end
end Go.Proofs.YtmbdhngoldganaaGreatDoor
