/- What Add of a chain does. What Tip, Base, Genesis, Get and State of a chain do. -/
import Derived.Test.YtmbdhngoldganaaGreatDoorCap
namespace Go.Proofs.YtmbdhngoldganaaGreatDoor
open Go Go.RowKit
/-- A chain with a block more. -/
def addC (c : CN) (b : BK) : CN := ⟨c.name, c.first, b.h.height, hD b.h, b.h.mem, exS c.m b.txs, exR c.m c.t b.txs, c.kept ++ [b]⟩
/-- Is a block right behind a chain? -/
def RightC (c : CN) (b : BK) : Prop := RightB c.m c.t (c.ht + 1) c.hash c.mem b.h b.txs
/-- What one makes is right for one that stands where it stood, and comes to the same. -/
theorem mkB_right {c : CN} {b : BT} (hb : chkB b = 0) : RightC c (mkB c b) ∧ addC c (mkB c b) = nextC c b := by
  obtain ⟨h1, h2, h3⟩ := ex_again c.m c.t b.txs
  obtain ⟨k1, k2, k3, _⟩ := chkB_zero hb
  refine ⟨⟨?_, (mkB_txs hb).1, (mkB_txs hb).2, ?_, h3⟩, ?_⟩
  · show nxM c b = c.mem ∨ exD c.m b.txs = []
    unfold nxM
    cases hcf : b.conf
    · exact .inl rfl
    · rw [(k3 hcf).1]
      exact .inr rfl
  · show hMk c.m c.t (exD c.m b.txs) (c.ht + 1) c.hash (nxM c b) = hMk c.m c.t b.txs (c.ht + 1) c.hash (nxM c b)
    unfold hMk
    rw [h2, h3]
  · show (⟨c.name, c.first, c.ht + 1, hD (mkB c b).h, nxM c b, exS c.m (exD c.m b.txs), exR c.m c.t (exD c.m b.txs), c.kept ++ [mkB c b]⟩ : CN) = _
    rw [h1, h2]
    rfl
/-- What Add leaves. -/
def AdC (w : World) (N cb bs bt : Nat) (sl : Value) (c : CN) (b : BK) (e : Ending) (w' : World) : Prop :=
  (RightC c b ∧ e = .returned (.int .i64 0) ∧ ∃ sl', CH w' N cb bs bt sl' (addC c b) ∧ Own (ownC cb bs bt sl) w w' ∧ (∀ r, Sh.slBlk sl' = some r → Sh.slBlk sl = some r ∨ w.heap.size ≤ r)) ∨ (¬ RightC c b ∧ ∃ er, er ≠ 0 ∧ e = .returned (.int .i64 er) ∧ Below w.heap.size w w')
set_option maxRecDepth 100000 in
set_option maxHeartbeats 8000000 in
theorem addCh_any (N cb bs bt : Nat) (sl : Value) (c : CN) (w : World) (hc : CH w N cb bs bt sl c) (hok : OkC c) (b : BK) (hbh : OkH b.h) (hcnt : c.t.cnt ≤ 3300) (hh : c.ht + 1 < 18446744073709551616) (hkl : c.kept.length ≤ 1000000) (am a : Option Addr) (cm cap : Nat) (hI : IA w am b.h.mem) (hT : TA w a b.txs) :
    Calls Tryz.prog 26 #[.pointer (some ⟨cb, 0, none⟩), .agg (bk b.h.height b.h.prev b.h.txr b.h.str (.slice am b.h.mem.length cm) (.slice a b.txs.length cap))] w (AdC w N cb bs bt sl c b) := by
  obtain ⟨gf, cf, gm0, cm0, hC, hCf, hCm⟩ := hc.blk
  obtain ⟨dls0, hGL, hBL⟩ := hc.kept
  obtain ⟨hN2, hNc, hNs, hNt⟩ := hc.low
  have hclt := hC.lt
  have hE := hc.ex
  obtain ⟨mb, hS1, _⟩ := hE.st.out
  obtain ⟨qt, hS2, _⟩ := hE.tr
  replace hS2 := Blk.of_sh hS2
  have hlts := hE.lts
  have hltt := hE.ltt
  have HC := fun w1 (hb1 : Below w.heap.size w w1) => checkBlk_any b.h hbh b.txs c.hash hok.hash (c.ht + 1) (Nat.succ_ne_zero _) c.mem hok.mem (some ⟨gm0, 0, none⟩) am a cm0 cm cap bs bt c.m c.t w1 (hE.below hb1) hok.sz hok.canon hcnt (hT.below hb1) (hI.below hb1) (hCm.ia.below hb1)
  have n1 : cb ≠ bs := hC.neT hS1 (by decide)
  have n2 : cb ≠ bt := hC.neT hS2 (by decide)
  have n3 : w.heap.size ≠ bs := by omega
  have n4 : w.heap.size ≠ bt := by omega
  go_enter Tryz.func26, Tryz.ntmps26
  go_upto_region 3 with (with_reducible refine at_list ?_; first
      | (refine wpList_boxRow (op := ⟨some 3, _, _, _, _, _⟩) rfl _ _ rfl _ rfl ?_; intro w1 hw1 hs1 h3; clear hs1))
  have hH := And.intro (hC.belowSize hw1).drew h3.drew
  have hB1d : Below w.heap.size w w1.drew := hw1.drew
  replace hS1 := (hS1.belowSize hw1).drew
  replace hS2 := (hS2.belowSize hw1).drew
  clear h3
  try go_frame
  refine Sh.wp_region_L (S := fun w' : World => Blk w' cb (chC c.name (.slice (some ⟨gf, 0, none⟩) c.first.length cf) c.ht c.hash (.slice (some ⟨gm0, 0, none⟩) c.mem.length cm0) bs bt sl) 103 ∧ Blk w' w.heap.size (bk b.h.height b.h.prev b.h.txr b.h.str (.slice am b.h.mem.length cm) (.slice a b.txs.length cap)) 53) (z := 26) (by kernel_rfl) ?_
  refine Sh.wpAnyL_take (i := 0) (oi := ⟨some 8, _, _, _, _, _⟩) (v := .pointer (some ⟨cb, 0, none⟩)) rfl (by kernel_rfl) (by kernel_rfl) (by kernel_rfl) (by kernel_rfl) (fun _ _ _ h => h) (Or.inl ⟨by rfl, fun w hSw => by go_simp⟩) hH ?_
  try simp only [Act.put, List.setIfInBounds_toArray, List.set_cons_zero, List.set_cons_succ]
  refine Sh.wpAnyL_take (i := 1) (oi := ⟨some 9, _, _, _, _, _⟩) (v := .pointer (some ⟨cb, 0, none⟩)) rfl (by kernel_rfl) (by kernel_rfl) (by kernel_rfl) (by kernel_rfl) (fun _ _ _ h => h) (Or.inl ⟨by rfl, fun w hSw => by go_simp⟩) hH ?_
  try simp only [Act.put, List.setIfInBounds_toArray, List.set_cons_zero, List.set_cons_succ]
  refine Sh.wpAnyL_take (i := 2) (oi := ⟨some 10, _, _, _, _, _⟩) (v := .pointer (some ⟨cb, 2, none⟩)) rfl (by kernel_rfl) (by kernel_rfl) (by kernel_rfl) (by kernel_rfl) (fun _ _ _ h => h) (Or.inl ⟨by rfl, fun w hSw => by go_simp⟩) hH ?_
  try simp only [Act.put, List.setIfInBounds_toArray, List.set_cons_zero, List.set_cons_succ]
  refine Sh.wpAnyL_take (i := 3) (oi := ⟨some 11, _, _, _, _, _⟩) (v := .pointer (some ⟨cb, 3, none⟩)) rfl (by kernel_rfl) (by kernel_rfl) (by kernel_rfl) (by kernel_rfl) (fun _ _ _ h => h) (Or.inl ⟨by rfl, fun w hSw => by go_simp⟩) hH ?_
  try simp only [Act.put, List.setIfInBounds_toArray, List.set_cons_zero, List.set_cons_succ]
  refine Sh.wpAnyL_take (i := 4) (oi := ⟨some 12, _, _, _, _, _⟩) (v := .string ⟨c.hash.toArray⟩) rfl (by kernel_rfl) (by kernel_rfl) (by kernel_rfl) (by kernel_rfl) (fun _ _ _ h => h) (Or.inl ⟨by rfl, fun w hSw => run_loadCellB _ _ rfl _ 3 rfl _ _ hSw.1 _ Tryz.underlying9 rfl _ (chC_g3 _ _ _ _ _ _ _ _)⟩) hH ?_
  try simp only [Act.put, List.setIfInBounds_toArray, List.set_cons_zero, List.set_cons_succ]
  refine Sh.wpAnyL_take (i := 5) (oi := ⟨some 13, _, _, _, _, _⟩) (v := .pointer (some ⟨cb, 0, none⟩)) rfl (by kernel_rfl) (by kernel_rfl) (by kernel_rfl) (by kernel_rfl) (fun _ _ _ h => h) (Or.inl ⟨by rfl, fun w hSw => by go_simp⟩) hH ?_
  try simp only [Act.put, List.setIfInBounds_toArray, List.set_cons_zero, List.set_cons_succ]
  refine Sh.wpAnyL_take (i := 6) (oi := ⟨some 14, _, _, _, _, _⟩) (v := .pointer (some ⟨cb, 0, none⟩)) rfl (by kernel_rfl) (by kernel_rfl) (by kernel_rfl) (by kernel_rfl) (fun _ _ _ h => h) (Or.inl ⟨by rfl, fun w hSw => by go_simp⟩) hH ?_
  try simp only [Act.put, List.setIfInBounds_toArray, List.set_cons_zero, List.set_cons_succ]
  refine Sh.wpAnyL_take (i := 7) (oi := ⟨some 15, _, _, _, _, _⟩) (v := .pointer (some ⟨cb, 2, none⟩)) rfl (by kernel_rfl) (by kernel_rfl) (by kernel_rfl) (by kernel_rfl) (fun _ _ _ h => h) (Or.inl ⟨by rfl, fun w hSw => by go_simp⟩) hH ?_
  try simp only [Act.put, List.setIfInBounds_toArray, List.set_cons_zero, List.set_cons_succ]
  refine Sh.wpAnyL_take (i := 8) (oi := ⟨some 16, _, _, _, _, _⟩) (v := .pointer (some ⟨cb, 2, none⟩)) rfl (by kernel_rfl) (by kernel_rfl) (by kernel_rfl) (by kernel_rfl) (fun _ _ _ h => h) (Or.inl ⟨by rfl, fun w hSw => by go_simp⟩) hH ?_
  try simp only [Act.put, List.setIfInBounds_toArray, List.set_cons_zero, List.set_cons_succ]
  refine Sh.wpAnyL_take (i := 9) (oi := ⟨some 17, _, _, _, _, _⟩) (v := .int .u64 (c.ht : Nat)) rfl (by kernel_rfl) (by kernel_rfl) (by kernel_rfl) (by kernel_rfl) (fun _ _ _ h => h) (Or.inl ⟨by rfl, fun w hSw => run_loadCellB _ _ rfl _ 2 rfl _ _ hSw.1 _ Tryz.underlying36 rfl _ (chC_g2 _ _ _ _ _ _ _ _)⟩) hH ?_
  try simp only [Act.put, List.setIfInBounds_toArray, List.set_cons_zero, List.set_cons_succ]
  refine Sh.wpAnyL_take (i := 10) (oi := ⟨some 18, _, _, _, _, _⟩) (v := .int .u64 ((c.ht + 1 : Nat) : Int)) rfl (by kernel_rfl) (by kernel_rfl) (by kernel_rfl) (by kernel_rfl) (fun _ _ _ h => h) (Or.inl ⟨by rfl, fun w hSw => run_addU rfl rfl hh⟩) hH ?_
  try simp only [Act.put, List.setIfInBounds_toArray, List.set_cons_zero, List.set_cons_succ]
  refine Sh.wpAnyL_take (i := 11) (oi := ⟨some 19, _, _, _, _, _⟩) (v := .pointer (some ⟨cb, 0, none⟩)) rfl (by kernel_rfl) (by kernel_rfl) (by kernel_rfl) (by kernel_rfl) (fun _ _ _ h => h) (Or.inl ⟨by rfl, fun w hSw => by go_simp⟩) hH ?_
  try simp only [Act.put, List.setIfInBounds_toArray, List.set_cons_zero, List.set_cons_succ]
  refine Sh.wpAnyL_take (i := 12) (oi := ⟨some 20, _, _, _, _, _⟩) (v := .pointer (some ⟨cb, 0, none⟩)) rfl (by kernel_rfl) (by kernel_rfl) (by kernel_rfl) (by kernel_rfl) (fun _ _ _ h => h) (Or.inl ⟨by rfl, fun w hSw => by go_simp⟩) hH ?_
  try simp only [Act.put, List.setIfInBounds_toArray, List.set_cons_zero, List.set_cons_succ]
  refine Sh.wpAnyL_take (i := 13) (oi := ⟨some 21, _, _, _, _, _⟩) (v := .pointer (some ⟨cb, 2, none⟩)) rfl (by kernel_rfl) (by kernel_rfl) (by kernel_rfl) (by kernel_rfl) (fun _ _ _ h => h) (Or.inl ⟨by rfl, fun w hSw => by go_simp⟩) hH ?_
  try simp only [Act.put, List.setIfInBounds_toArray, List.set_cons_zero, List.set_cons_succ]
  refine Sh.wpAnyL_take (i := 14) (oi := ⟨some 22, _, _, _, _, _⟩) (v := .pointer (some ⟨cb, 4, none⟩)) rfl (by kernel_rfl) (by kernel_rfl) (by kernel_rfl) (by kernel_rfl) (fun _ _ _ h => h) (Or.inl ⟨by rfl, fun w hSw => by go_simp⟩) hH ?_
  try simp only [Act.put, List.setIfInBounds_toArray, List.set_cons_zero, List.set_cons_succ]
  refine Sh.wpAnyL_take (i := 15) (oi := ⟨some 23, _, _, _, _, _⟩) (v := .slice (some ⟨gm0, 0, none⟩) c.mem.length cm0) rfl (by kernel_rfl) (by kernel_rfl) (by kernel_rfl) (by kernel_rfl) (fun _ _ _ h => h) (Or.inl ⟨by rfl, fun w hSw => run_loadCellB _ _ rfl _ 4 rfl _ _ hSw.1 _ Tryz.underlying22 rfl _ (chC_g4 _ _ _ _ _ _ _ _)⟩) hH ?_
  try simp only [Act.put, List.setIfInBounds_toArray, List.set_cons_zero, List.set_cons_succ]
  refine Sh.wpAnyL_take (i := 16) (oi := ⟨some 24, _, _, _, _, _⟩) (v := .pointer (some ⟨cb, 0, none⟩)) rfl (by kernel_rfl) (by kernel_rfl) (by kernel_rfl) (by kernel_rfl) (fun _ _ _ h => h) (Or.inl ⟨by rfl, fun w hSw => by go_simp⟩) hH ?_
  try simp only [Act.put, List.setIfInBounds_toArray, List.set_cons_zero, List.set_cons_succ]
  refine Sh.wpAnyL_take (i := 17) (oi := ⟨some 25, _, _, _, _, _⟩) (v := .pointer (some ⟨cb, 0, none⟩)) rfl (by kernel_rfl) (by kernel_rfl) (by kernel_rfl) (by kernel_rfl) (fun _ _ _ h => h) (Or.inl ⟨by rfl, fun w hSw => by go_simp⟩) hH ?_
  try simp only [Act.put, List.setIfInBounds_toArray, List.set_cons_zero, List.set_cons_succ]
  refine Sh.wpAnyL_take (i := 18) (oi := ⟨some 26, _, _, _, _, _⟩) (v := .pointer (some ⟨cb, 5, none⟩)) rfl (by kernel_rfl) (by kernel_rfl) (by kernel_rfl) (by kernel_rfl) (fun _ _ _ h => h) (Or.inl ⟨by rfl, fun w hSw => by go_simp⟩) hH ?_
  try simp only [Act.put, List.setIfInBounds_toArray, List.set_cons_zero, List.set_cons_succ]
  refine Sh.wpAnyL_take (i := 19) (oi := ⟨some 27, _, _, _, _, _⟩) (v := .pointer (some ⟨bs, 0, none⟩)) rfl (by kernel_rfl) (by kernel_rfl) (by kernel_rfl) (by kernel_rfl) (fun _ _ _ h => h) (Or.inl ⟨by rfl, fun w hSw => run_loadCellB _ _ rfl _ 5 rfl _ _ hSw.1 _ Tryz.underlying72 rfl _ (chC_g5 _ _ _ _ _ _ _ _)⟩) hH ?_
  try simp only [Act.put, List.setIfInBounds_toArray, List.set_cons_zero, List.set_cons_succ]
  refine Sh.wpAnyL_take (i := 20) (oi := ⟨some 28, _, _, _, _, _⟩) (v := .pointer (some ⟨cb, 0, none⟩)) rfl (by kernel_rfl) (by kernel_rfl) (by kernel_rfl) (by kernel_rfl) (fun _ _ _ h => h) (Or.inl ⟨by rfl, fun w hSw => by go_simp⟩) hH ?_
  try simp only [Act.put, List.setIfInBounds_toArray, List.set_cons_zero, List.set_cons_succ]
  refine Sh.wpAnyL_take (i := 21) (oi := ⟨some 29, _, _, _, _, _⟩) (v := .pointer (some ⟨cb, 0, none⟩)) rfl (by kernel_rfl) (by kernel_rfl) (by kernel_rfl) (by kernel_rfl) (fun _ _ _ h => h) (Or.inl ⟨by rfl, fun w hSw => by go_simp⟩) hH ?_
  try simp only [Act.put, List.setIfInBounds_toArray, List.set_cons_zero, List.set_cons_succ]
  refine Sh.wpAnyL_take (i := 22) (oi := ⟨some 30, _, _, _, _, _⟩) (v := .pointer (some ⟨cb, 6, none⟩)) rfl (by kernel_rfl) (by kernel_rfl) (by kernel_rfl) (by kernel_rfl) (fun _ _ _ h => h) (Or.inl ⟨by rfl, fun w hSw => by go_simp⟩) hH ?_
  try simp only [Act.put, List.setIfInBounds_toArray, List.set_cons_zero, List.set_cons_succ]
  refine Sh.wpAnyL_take (i := 23) (oi := ⟨some 31, _, _, _, _, _⟩) (v := .pointer (some ⟨bt, 0, none⟩)) rfl (by kernel_rfl) (by kernel_rfl) (by kernel_rfl) (by kernel_rfl) (fun _ _ _ h => h) (Or.inl ⟨by rfl, fun w hSw => run_loadCellB _ _ rfl _ 6 rfl _ _ hSw.1 _ Tryz.underlying100 rfl _ (chC_g6 _ _ _ _ _ _ _ _)⟩) hH ?_
  try simp only [Act.put, List.setIfInBounds_toArray, List.set_cons_zero, List.set_cons_succ]
  refine Sh.wpAnyL_take (i := 24) (oi := ⟨some 32, _, _, _, _, _⟩) (v := .agg (bk b.h.height b.h.prev b.h.txr b.h.str (.slice am b.h.mem.length cm) (.slice a b.txs.length cap))) rfl (by kernel_rfl) (by kernel_rfl) (by kernel_rfl) (by kernel_rfl) (fun _ _ _ h => h) (Or.inl ⟨by rfl, fun w hSw => run_loadMid _ _ rfl _ 0 rfl _ hSw.2.rangeAll _ Tryz.underlying53 rfl (bk_info _ _ _ _ _ _)⟩) hH ?_
  try simp only [Act.put, List.setIfInBounds_toArray, List.set_cons_zero, List.set_cons_succ]
  refine Sh.wpAnyL_solo (i := 25) (o := ⟨some 33, _, _, _, _, _⟩) rfl (by kernel_rfl) (fun K hK => ?_)
  refine wpList_callR Tryz.func69 (by kernel_rfl) (by kernel_rfl) rfl _ _ rfl #[.string ⟨c.hash.toArray⟩, .int .u64 ((c.ht + 1 : Nat) : Int), .slice (some ⟨gm0, 0, none⟩) c.mem.length cm0, .pointer (some ⟨bs, 0, none⟩), .pointer (some ⟨bt, 0, none⟩), .agg (bk b.h.height b.h.prev b.h.txr b.h.str (.slice am b.h.mem.length cm) (.slice a b.txs.length cap))] (args6 rfl rfl rfl rfl rfl rfl) _ (HC _ hB1d) ?_
  rintro e w7 (⟨hR, rfl, hE7, hT7⟩ | ⟨hR, er, her, rfl, hw7⟩)
  · refine ⟨_, rfl, ?_⟩
    have hH7 := And.intro (hH.1.two hT7 n1 n2) (hH.2.two hT7 n3 n4)
    refine hK _ _ (fun _ => hH7) ?_
    clear hK K HC
    try simp only [Act.put, List.setIfInBounds_toArray, List.set_cons_zero, List.set_cons_succ]
    refine Sh.wpAnyL_solo (i := 26) (o := ⟨some 5, _, _, _, _, _⟩) rfl (by kernel_rfl) (fun K hK => ?_)
    refine wpList_pure rfl (.int .i64 0) (run_assignV _ rfl _ rfl) ?_
    refine hK _ _ (fun e => absurd rfl e) ?_
    clear hK K
    refine Sh.wpAnyL_done (by kernel_rfl) ?_ _
    simp only [Act.put]
    go_simp
    have hO2 := Own.of_two hT7
    have hst2 : Stay w1.drew w7 := Stay.of_own hO2 (fun i _ e => by
      rcases e with rfl | rfl
      · exact ⟨_, _, _, hS1.out, by decide, by decide, by decide⟩
      · exact ⟨_, _, _, hS2.out, by decide, by decide, by decide⟩)
    have hGL3 := (hGL.below hw1).drew
    have hGLc := GLown hGL3 hO2 (fun r hr e => by
      obtain ⟨cur, hcur⟩ := GLtyped hGL3 hr
      rcases e with rfl | rfl
      · exact hcur.neT hS1 (by decide) rfl
      · exact hcur.neT hS2 (by decide) rfl)
    have hst0 : Stay w w7 := (Stay.of_below hB1d).trans hst2
    have hBLc := hBL.stay hst0
    have hCfc := hCf.stay hst0
    have hOw : Own (ownC cb bs bt sl) w w7 := (Own.of_below hB1d).trans hO2 (fun i _ e => e.elim (fun e => .inr (.inl e)) (fun e => .inr (.inr (.inl e))))
    have hE1 := hE.below hB1d
    have HK := keepC_any b hbh hR.ok (Nat.le_trans hR.len (by decide)) am a cm cap N cb bs bt c.name _ c.ht c.hash _ sl dls0 w7 hH7.1 hGLc (by rw [hBL.len]; exact hkl) ⟨hN2, hNc⟩ hE7.glob ((hI.below hB1d).two hT7 hE1) ((hT.below hB1d).two hT7 hE1)
    have hCc := hH7.1
    have h3c := hH7.2
    have hszc : w.heap.size < w7.heap.size := h3c.lt
    have hPost : Hid (∀ w5 sl' gm' cm' cc, Blk w5 cb (chC c.name (.slice (some ⟨gf, 0, none⟩) c.first.length cf) b.h.height (hD b.h) (.slice (some ⟨gm', 0, none⟩) b.h.mem.length cm') bs bt sl') 103 → CB w5 gm' b.h.mem → Sh.GL w5 53 6 N sl' (dls0 ++ [cc]) → KB w5 cc b → Own (fun i => i = cb ∨ some i = Sh.slBlk sl) w7 w5 → (∀ r, Sh.slBlk sl' = some r → Sh.slBlk sl = some r ∨ w7.heap.size ≤ r) → AdC w N cb bs bt sl c b (.returned (.int .i64 0)) w5) := by
      refine fun w5 sl' gm' cm' cc k1 k2 k3 k4 k5 k6 => ?_
      have hty : ∀ i, i < w7.heap.size → i = cb ∨ some i = Sh.slBlk sl → 2 ≤ i ∧ ∃ d u fr, w7.heap[i]? = some (.cells d u fr) ∧ (u = 103 ∨ u = 53) := fun i _ e => by
        rcases e with rfl | e
        · exact ⟨by omega, _, _, _, hCc.out, .inl rfl⟩
        · obtain ⟨cur, hcur⟩ := GLtyped hGLc e.symm
          exact ⟨Nat.le_trans hN2 (hGLc.lt i e.symm).1, _, _, _, hcur.out, .inr rfl⟩
      have hst5 : Stay w7 w5 := Stay.of_own k5 (fun i hi e => by
        obtain ⟨_, d, u, fr, h1, h2⟩ := hty i hi e
        exact ⟨d, u, fr, h1, by rcases h2 with rfl | rfl <;> decide⟩)
      have hE5 := hE7.own k5 (fun i hi e => by
        obtain ⟨h0, d, u, fr, h1, h2⟩ := hty i hi e
        exact ⟨h0, d, u, fr, h1, by rcases h2 with rfl | rfl <;> decide⟩)
      refine .inl ⟨hR, rfl, sl', ⟨⟨gf, cf, gm', cm', k1, hCfc.stay hst5, k2⟩, hE5, ⟨_, k3, (hBLc.stay hst5).snoc k4⟩, hN2, hNc, hNs, hNt⟩, hOw.trans k5 (fun i _ e => ?_), fun r hr => ?_⟩
      · rcases e with e | e
        · exact .inl e
        · exact .inr (.inr (.inr e))
      · rcases k6 r hr with h1 | h1
        · exact .inl h1
        · exact .inr (by omega)
    clear hGLc hBLc hCfc hOw hE7 hC hGL hBL hE hS1 hS2 hc hB1d hT hI hCf hH hH7 hE1 hst0 hst2 hO2 hGL3 hw1 hT7 hR hCc hCm
    generalize AdC w N cb bs bt sl c b = Post at *
    go_wp2_with (first
      | (go_at_call 60; refine HK.mono ?_; rintro e w5 ⟨rfl, sl', gm', cm', cc, k1, k2, k3, k4, k5, k6⟩; clear HK)
      | (with_reducible refine at_list ?_; first
        | (refine wpList_loadRow (op := ⟨some 38, _, _, _, _, _⟩) rfl _ _ rfl w.heap.size rfl _ _ h3c _ Tryz.underlying53 rfl (bk_info _ _ _ _ _ _) ?_)))
    exact hPost.out w5 sl' gm' cm' cc k1 k2 k3 k4 k5 k6
  · refine ⟨_, rfl, ?_⟩
    have hH7 := And.intro (hH.1.belowSize hw7) (hH.2.belowSize hw7)
    refine hK _ _ (fun _ => hH7) ?_
    clear hK K HC
    try simp only [Act.put, List.setIfInBounds_toArray, List.set_cons_zero, List.set_cons_succ]
    refine Sh.wpAnyL_solo (i := 26) (o := ⟨some 5, _, _, _, _, _⟩) rfl (by kernel_rfl) (fun K hK => ?_)
    refine wpList_pure rfl (.int .i64 er) (run_assignV _ rfl _ rfl) ?_
    refine hK _ _ (fun e => absurd rfl e) ?_
    clear hK K
    refine Sh.wpAnyL_done (by kernel_rfl) ?_ _
    simp only [Act.put]
    go_simp
    have hne : (er != 0) = true := by simpa using her
    have hPost : Hid (AdC w N cb bs bt sl c b (.returned (.int .i64 er)) w7) := .inr ⟨hR, er, her, rfl, hB1d.trans (hw7.mono hB1d.size)⟩
    clear hC hGL hBL hE hS1 hS2 hc hB1d hT hI hCf hH hH7 hw1 hR hCm hw7 her
    generalize AdC w N cb bs bt sl c b = Post at *
    go_wp2_with fail
    exact hPost.out
end Go.Proofs.YtmbdhngoldganaaGreatDoor
namespace Go.Proofs.YtmbdhngoldganaaGreatDoor
open Go Go.RowKit
section
variable {op : Oper} {a : Act} {w : World}
theorem run_convU {x : Operand} {n : Nat} (ho : op.op = .convert 3 36 x) (hx : a.eval x = .int .i64 (n : Nat)) (hn : n ≤ 1000000) : (execOp a.eval op).run Tryz.prog w = .ok (.value (.int .u64 (n : Nat))) w := by
  have hwr : IntKind.u64.wrap (n : Int) = (n : Int) := by
    unfold IntKind.wrap
    simp [IntKind.bits, IntKind.signed]
    omega
  unfold execOp
  simp only [ho, hx]
  simp [go_sem]
  exact hwr
theorem run_subU {x y : Operand} {n k : Nat} (ho : op.op = .binOp .sub 36 x y 36) (hx : a.eval x = .int .u64 (n : Nat)) (hy : a.eval y = .int .u64 (k : Nat)) (hk : k ≤ n) (hn : n < 18446744073709551616) : (execOp a.eval op).run Tryz.prog w = .ok (.value (.int .u64 ((n - k : Nat) : Int))) w := by
  have hwr : IntKind.u64.wrap ((n : Int) - (k : Int)) = ((n - k : Nat) : Int) := by
    unfold IntKind.wrap
    simp [IntKind.bits, IntKind.signed]
    omega
  unfold execOp
  simp only [ho, hx, hy]
  simp [go_sem]
  exact hwr
end
theorem CH.nkept {w : World} {N cb bs bt : Nat} {sl : Value} {c : CN} (h : CH w N cb bs bt sl c) : ∃ ka kc, sl = .slice ka c.kept.length kc := by
  obtain ⟨dls, h1, h2⟩ := h.kept
  obtain ⟨ka, kc, h3, _⟩ := h1.sl
  exact ⟨ka, kc, by rw [h3, h2.len]⟩
set_option maxRecDepth 100000 in
set_option maxHeartbeats 2000000 in
theorem baseC_any (N cb bs bt : Nat) (sl : Value) (c : CN) (w : World) (hc : CH w N cb bs bt sl c) (hok : OkC c) (hkl : c.kept.length ≤ 1000000) :
    Calls Tryz.prog 15 #[.pointer (some ⟨cb, 0, none⟩)] w fun e w' => e = .returned (.int .u64 ((c.ht - c.kept.length : Nat) : Int)) ∧ Below w.heap.size w w' := by
  obtain ⟨gf, cf, gm0, cm0, hC, _, _⟩ := hc.blk
  obtain ⟨ka, kc, rfl⟩ := hc.nkept
  have hle := hok.kept
  have hlt := hok.ht
  go_enter Tryz.func15, Tryz.ntmps15
  go_upto_region 3 with fail
  have hH := hC.drew
  try go_frame
  refine Sh.wp_region_L (S := fun w' : World => Blk w' cb (chC c.name (.slice (some ⟨gf, 0, none⟩) c.first.length cf) c.ht c.hash (.slice (some ⟨gm0, 0, none⟩) c.mem.length cm0) bs bt (.slice ka c.kept.length kc)) 103) (z := 12) (by kernel_rfl) ?_
  refine Sh.wpAnyL_take (i := 0) (oi := ⟨some 5, _, _, _, _, _⟩) (v := .pointer (some ⟨cb, 0, none⟩)) rfl (by kernel_rfl) (by kernel_rfl) (by kernel_rfl) (by kernel_rfl) (fun _ _ _ h => h) (Or.inl ⟨by rfl, fun w hSw => by go_simp⟩) hH ?_
  try simp only [Act.put, List.setIfInBounds_toArray, List.set_cons_zero, List.set_cons_succ]
  refine Sh.wpAnyL_take (i := 1) (oi := ⟨some 6, _, _, _, _, _⟩) (v := .pointer (some ⟨cb, 0, none⟩)) rfl (by kernel_rfl) (by kernel_rfl) (by kernel_rfl) (by kernel_rfl) (fun _ _ _ h => h) (Or.inl ⟨by rfl, fun w hSw => by go_simp⟩) hH ?_
  try simp only [Act.put, List.setIfInBounds_toArray, List.set_cons_zero, List.set_cons_succ]
  refine Sh.wpAnyL_take (i := 2) (oi := ⟨some 7, _, _, _, _, _⟩) (v := .pointer (some ⟨cb, 2, none⟩)) rfl (by kernel_rfl) (by kernel_rfl) (by kernel_rfl) (by kernel_rfl) (fun _ _ _ h => h) (Or.inl ⟨by rfl, fun w hSw => by go_simp⟩) hH ?_
  try simp only [Act.put, List.setIfInBounds_toArray, List.set_cons_zero, List.set_cons_succ]
  refine Sh.wpAnyL_take (i := 3) (oi := ⟨some 8, _, _, _, _, _⟩) (v := .pointer (some ⟨cb, 2, none⟩)) rfl (by kernel_rfl) (by kernel_rfl) (by kernel_rfl) (by kernel_rfl) (fun _ _ _ h => h) (Or.inl ⟨by rfl, fun w hSw => by go_simp⟩) hH ?_
  try simp only [Act.put, List.setIfInBounds_toArray, List.set_cons_zero, List.set_cons_succ]
  refine Sh.wpAnyL_take (i := 4) (oi := ⟨some 9, _, _, _, _, _⟩) (v := .int .u64 (c.ht : Nat)) rfl (by kernel_rfl) (by kernel_rfl) (by kernel_rfl) (by kernel_rfl) (fun _ _ _ h => h) (Or.inl ⟨by rfl, fun w hSw => run_loadCellB _ _ rfl _ 2 rfl _ _ hSw _ Tryz.underlying36 rfl _ (chC_g2 _ _ _ _ _ _ _ _)⟩) hH ?_
  try simp only [Act.put, List.setIfInBounds_toArray, List.set_cons_zero, List.set_cons_succ]
  refine Sh.wpAnyL_take (i := 5) (oi := ⟨some 10, _, _, _, _, _⟩) (v := .pointer (some ⟨cb, 0, none⟩)) rfl (by kernel_rfl) (by kernel_rfl) (by kernel_rfl) (by kernel_rfl) (fun _ _ _ h => h) (Or.inl ⟨by rfl, fun w hSw => by go_simp⟩) hH ?_
  try simp only [Act.put, List.setIfInBounds_toArray, List.set_cons_zero, List.set_cons_succ]
  refine Sh.wpAnyL_take (i := 6) (oi := ⟨some 11, _, _, _, _, _⟩) (v := .pointer (some ⟨cb, 0, none⟩)) rfl (by kernel_rfl) (by kernel_rfl) (by kernel_rfl) (by kernel_rfl) (fun _ _ _ h => h) (Or.inl ⟨by rfl, fun w hSw => by go_simp⟩) hH ?_
  try simp only [Act.put, List.setIfInBounds_toArray, List.set_cons_zero, List.set_cons_succ]
  refine Sh.wpAnyL_take (i := 7) (oi := ⟨some 12, _, _, _, _, _⟩) (v := .pointer (some ⟨cb, 7, none⟩)) rfl (by kernel_rfl) (by kernel_rfl) (by kernel_rfl) (by kernel_rfl) (fun _ _ _ h => h) (Or.inl ⟨by rfl, fun w hSw => by go_simp⟩) hH ?_
  try simp only [Act.put, List.setIfInBounds_toArray, List.set_cons_zero, List.set_cons_succ]
  refine Sh.wpAnyL_take (i := 8) (oi := ⟨some 13, _, _, _, _, _⟩) (v := .slice ka c.kept.length kc) rfl (by kernel_rfl) (by kernel_rfl) (by kernel_rfl) (by kernel_rfl) (fun _ _ _ h => h) (Or.inl ⟨by rfl, fun w hSw => run_loadCellB _ _ rfl _ 7 rfl _ _ hSw _ Tryz.underlying101 rfl _ (chC_g7 _ _ _ _ _ _ _ _)⟩) hH ?_
  try simp only [Act.put, List.setIfInBounds_toArray, List.set_cons_zero, List.set_cons_succ]
  refine Sh.wpAnyL_take (i := 9) (oi := ⟨some 14, _, _, _, _, _⟩) (v := .int .i64 (c.kept.length : Nat)) rfl (by kernel_rfl) (by kernel_rfl) (by kernel_rfl) (by kernel_rfl) (fun _ _ _ h => h) (Or.inl ⟨by rfl, fun w hSw => by go_simp⟩) hH ?_
  try simp only [Act.put, List.setIfInBounds_toArray, List.set_cons_zero, List.set_cons_succ]
  refine Sh.wpAnyL_take (i := 10) (oi := ⟨some 15, _, _, _, _, _⟩) (v := .int .u64 (c.kept.length : Nat)) rfl (by kernel_rfl) (by kernel_rfl) (by kernel_rfl) (by kernel_rfl) (fun _ _ _ h => h) (Or.inl ⟨by rfl, fun w hSw => run_convU rfl rfl hkl⟩) hH ?_
  try simp only [Act.put, List.setIfInBounds_toArray, List.set_cons_zero, List.set_cons_succ]
  refine Sh.wpAnyL_take (i := 11) (oi := ⟨some 16, _, _, _, _, _⟩) (v := .int .u64 ((c.ht - c.kept.length : Nat) : Int)) rfl (by kernel_rfl) (by kernel_rfl) (by kernel_rfl) (by kernel_rfl) (fun _ _ _ h => h) (Or.inl ⟨by rfl, fun w hSw => run_subU rfl rfl rfl hle hlt⟩) hH ?_
  try simp only [Act.put, List.setIfInBounds_toArray, List.set_cons_zero, List.set_cons_succ]
  refine Sh.wpAnyL_solo (i := 12) (o := ⟨some 2, _, _, _, _, _⟩) rfl (by kernel_rfl) (fun K hK => ?_)
  refine wpList_pure rfl (.int .u64 ((c.ht - c.kept.length : Nat) : Int)) (run_assignV _ rfl _ rfl) ?_
  refine hK _ _ (fun e => absurd rfl e) ?_
  clear hK K
  refine Sh.wpAnyL_done (by kernel_rfl) ?_ _
  simp only [Act.put]
  go_simp
  go_wp2_with fail
  go_ret
  exact ⟨rfl, (Below.refl _ _).drew⟩
set_option maxRecDepth 100000 in
set_option maxHeartbeats 2000000 in
theorem genC_any (N cb bs bt : Nat) (sl : Value) (c : CN) (w : World) (hc : CH w N cb bs bt sl c) (hok : OkC c) :
    Calls Tryz.prog 27 #[.pointer (some ⟨cb, 0, none⟩)] w fun e w' => e = .returned (.string ⟨(gD c.name c.first).toArray⟩) ∧ Below w.heap.size w w' := by
  obtain ⟨gf, cf, gm0, cm0, hC, hCf, _⟩ := hc.blk
  have hG := hc.ex.glob
  go_enter Tryz.func27, Tryz.ntmps27
  go_upto_region 3 with fail
  have hH := hC.drew
  try go_frame
  refine Sh.wp_region_L (S := fun w' : World => Blk w' cb (chC c.name (.slice (some ⟨gf, 0, none⟩) c.first.length cf) c.ht c.hash (.slice (some ⟨gm0, 0, none⟩) c.mem.length cm0) bs bt sl) 103) (z := 9) (by kernel_rfl) ?_
  refine Sh.wpAnyL_take (i := 0) (oi := ⟨some 5, _, _, _, _, _⟩) (v := .pointer (some ⟨cb, 0, none⟩)) rfl (by kernel_rfl) (by kernel_rfl) (by kernel_rfl) (by kernel_rfl) (fun _ _ _ h => h) (Or.inl ⟨by rfl, fun w hSw => by go_simp⟩) hH ?_
  try simp only [Act.put, List.setIfInBounds_toArray, List.set_cons_zero, List.set_cons_succ]
  refine Sh.wpAnyL_take (i := 1) (oi := ⟨some 6, _, _, _, _, _⟩) (v := .pointer (some ⟨cb, 0, none⟩)) rfl (by kernel_rfl) (by kernel_rfl) (by kernel_rfl) (by kernel_rfl) (fun _ _ _ h => h) (Or.inl ⟨by rfl, fun w hSw => by go_simp⟩) hH ?_
  try simp only [Act.put, List.setIfInBounds_toArray, List.set_cons_zero, List.set_cons_succ]
  refine Sh.wpAnyL_take (i := 2) (oi := ⟨some 7, _, _, _, _, _⟩) (v := .pointer (some ⟨cb, 0, none⟩)) rfl (by kernel_rfl) (by kernel_rfl) (by kernel_rfl) (by kernel_rfl) (fun _ _ _ h => h) (Or.inl ⟨by rfl, fun w hSw => by go_simp⟩) hH ?_
  try simp only [Act.put, List.setIfInBounds_toArray, List.set_cons_zero, List.set_cons_succ]
  refine Sh.wpAnyL_take (i := 3) (oi := ⟨some 8, _, _, _, _, _⟩) (v := .string ⟨c.name.toArray⟩) rfl (by kernel_rfl) (by kernel_rfl) (by kernel_rfl) (by kernel_rfl) (fun _ _ _ h => h) (Or.inl ⟨by rfl, fun w hSw => run_loadCellB _ _ rfl _ 0 rfl _ _ hSw _ Tryz.underlying9 rfl _ (chC_g0 _ _ _ _ _ _ _ _)⟩) hH ?_
  try simp only [Act.put, List.setIfInBounds_toArray, List.set_cons_zero, List.set_cons_succ]
  refine Sh.wpAnyL_take (i := 4) (oi := ⟨some 9, _, _, _, _, _⟩) (v := .pointer (some ⟨cb, 0, none⟩)) rfl (by kernel_rfl) (by kernel_rfl) (by kernel_rfl) (by kernel_rfl) (fun _ _ _ h => h) (Or.inl ⟨by rfl, fun w hSw => by go_simp⟩) hH ?_
  try simp only [Act.put, List.setIfInBounds_toArray, List.set_cons_zero, List.set_cons_succ]
  refine Sh.wpAnyL_take (i := 5) (oi := ⟨some 10, _, _, _, _, _⟩) (v := .pointer (some ⟨cb, 0, none⟩)) rfl (by kernel_rfl) (by kernel_rfl) (by kernel_rfl) (by kernel_rfl) (fun _ _ _ h => h) (Or.inl ⟨by rfl, fun w hSw => by go_simp⟩) hH ?_
  try simp only [Act.put, List.setIfInBounds_toArray, List.set_cons_zero, List.set_cons_succ]
  refine Sh.wpAnyL_take (i := 6) (oi := ⟨some 11, _, _, _, _, _⟩) (v := .pointer (some ⟨cb, 1, none⟩)) rfl (by kernel_rfl) (by kernel_rfl) (by kernel_rfl) (by kernel_rfl) (fun _ _ _ h => h) (Or.inl ⟨by rfl, fun w hSw => by go_simp⟩) hH ?_
  try simp only [Act.put, List.setIfInBounds_toArray, List.set_cons_zero, List.set_cons_succ]
  refine Sh.wpAnyL_take (i := 7) (oi := ⟨some 12, _, _, _, _, _⟩) (v := .slice (some ⟨gf, 0, none⟩) c.first.length cf) rfl (by kernel_rfl) (by kernel_rfl) (by kernel_rfl) (by kernel_rfl) (fun _ _ _ h => h) (Or.inl ⟨by rfl, fun w hSw => run_loadCellB _ _ rfl _ 1 rfl _ _ hSw _ Tryz.underlying22 rfl _ (chC_g1 _ _ _ _ _ _ _ _)⟩) hH ?_
  try simp only [Act.put, List.setIfInBounds_toArray, List.set_cons_zero, List.set_cons_succ]
  refine Sh.wpAnyL_solo (i := 8) (o := ⟨some 13, _, _, _, _, _⟩) rfl (by kernel_rfl) (fun K hK => ?_)
  refine wpList_callR Tryz.func70 (by kernel_rfl) (by kernel_rfl) rfl _ _ rfl #[.string ⟨c.name.toArray⟩, .slice (some ⟨gf, 0, none⟩) c.first.length cf] (args2 rfl rfl) _ (genesis_any c.name hok.name c.first (okM_iff.1 hok.first) _ cf _ hCf.drew.ia hG.drew) ?_
  rintro e w1 ⟨rfl, hw1⟩
  refine ⟨_, rfl, ?_⟩
  refine hK _ _ (fun _ => hH.belowSize hw1) ?_
  clear hK K
  try simp only [Act.put, List.setIfInBounds_toArray, List.set_cons_zero, List.set_cons_succ]
  refine Sh.wpAnyL_solo (i := 9) (o := ⟨some 2, _, _, _, _, _⟩) rfl (by kernel_rfl) (fun K hK => ?_)
  refine wpList_pure rfl (.string ⟨(gD c.name c.first).toArray⟩) (run_assignV _ rfl _ rfl) ?_
  refine hK _ _ (fun e => absurd rfl e) ?_
  clear hK K
  refine Sh.wpAnyL_done (by kernel_rfl) ?_ _
  simp only [Act.put]
  go_simp
  go_wp2_with fail
  go_ret
  exact ⟨rfl, (Below.refl w.heap.size w).drew.trans hw1⟩
set_option maxRecDepth 100000 in
set_option maxHeartbeats 2000000 in
theorem tipC_any (N cb bs bt : Nat) (sl : Value) (c : CN) (w : World) (hc : CH w N cb bs bt sl c) (hok : OkC c) :
    Calls Tryz.prog 16 #[.pointer (some ⟨cb, 0, none⟩)] w fun e w' => ∃ g cap, e = .returned (.agg (tpC c.ht c.hash (.slice (some ⟨g, 0, none⟩) c.mem.length cap))) ∧ CB w' g c.mem ∧ Below w.heap.size w w' := by
  obtain ⟨gf, cf, gm0, cm0, hC, _, hCm⟩ := hc.blk
  have hm := okM_iff.1 hok.mem
  have h16 := hm.len
  have h0 := hm.pos
  have HC := fun w1 (hb : Below w.heap.size w w1) => scloneI_any (some ⟨gm0, 0, none⟩) c.mem cm0 w1 (hCm.below hb).ia h0 (by omega)
  go_enter Tryz.func16, Tryz.ntmps16
  go_wp2_with (first
    | (go_at_call 54; refine (HC _ hB4).mono ?_; rintro e w5 ⟨g, cap, rfl, hg, hw5, hCB⟩; clear HC; replace h3b := h3b.belowSize hw5; replace h2 := h2.belowSize hw5; have hB5 := hB4.trans (hw5.mono hB4.size))
    | (with_reducible refine at_list ?_; first
      | (refine wpList_allocRow (op := ⟨some 2, _, _, _, _, _⟩) rfl _ rfl _ zTip.1 ?_; intro w1 hw1 hs1 h2; replace hs1 := hs1.symm; have hC1 := hC.belowSize hw1)
      | (refine wpList_loadOp (op := ⟨some 10, _, _, _, _, _⟩) rfl _ _ rfl cb 2 rfl (tpC c.ht c.hash (.slice (some ⟨gm0, 0, none⟩) c.mem.length cm0)) (chC_tip hC1) _ Tryz.underlying39 rfl (tpC_info _ _ _) ?_)
      | (refine wpList_allocRow (op := ⟨some 3, _, _, _, _, _⟩) rfl _ rfl _ zTip.1 ?_; intro w3 hw3 hs3 h3; replace hs3 := hs3.symm; replace h2 := h2.belowSize hw3; have hB3 := hw1.trans (hw3.mono hw1.size))
      | (refine wpList_storeRow (op := ⟨none, .store 39 (.tmp 3) (.tmp 10), _, _, _, _⟩) rfl _ _ _ rfl w1.heap.size (tpC c.ht c.hash (.slice (some ⟨gm0, 0, none⟩) c.mem.length cm0)) rfl rfl _ _ h3 (by simp only [tpC_size]) (tpC_info _ _ _) (tpC_one _ _ _ _ _) ?_; intro w4 hg4 hs4 h3b; clear hs4; have hne : w.heap.size < w1.heap.size := (by omega); replace h2 := h2.grown hg4 (fun e => absurd (Option.some.inj e) (Nat.ne_of_lt hne)); have hB4 := hB3.trans (below_of_grown hg4 hw1.size hB3.size); clear hg4 h3)
      | (refine wpList_loadCell (op := ⟨some 12, _, _, _, _, _⟩) rfl _ _ rfl w1.heap.size 2 rfl _ _ h3b _ Tryz.underlying22 rfl _ rfl ?_)
      | (refine wpList_storeCell (op := ⟨none, .store 22 (.tmp 14) (.tmp 13), _, _, _, _⟩) rfl _ _ _ rfl w1.heap.size 2 rfl (.slice (some ⟨g, 0, none⟩) c.mem.length cap) rfl _ _ h3b (by kernel_rfl) rfl rfl (by rw [tpC_size]; decide) ?_; intro w6 hg6 hs6 h3c; clear hs6; rw [tpC_set2] at h3c; replace h2 := h2.grown hg6 (fun e => absurd (Option.some.inj e) (Nat.ne_of_lt hne)); replace hCB := hCB.other hg6 h3b (by decide); have hB6 := hB5.trans (below_of_grown hg6 hw1.size hB5.size); clear hg6)
      | (refine wpList_loadRow (op := ⟨some 15, _, _, _, _, _⟩) rfl _ _ rfl w1.heap.size rfl _ _ h3c _ Tryz.underlying39 rfl (tpC_info _ _ _) ?_)
      | (refine wpList_storeRow (op := ⟨none, .store 39 (.tmp 2) (.tmp 15), _, _, _, _⟩) rfl _ _ _ rfl w.heap.size (tpC c.ht c.hash (.slice (some ⟨g, 0, none⟩) c.mem.length cap)) rfl rfl _ _ h2 (by simp only [tpC_size]) (tpC_info _ _ _) (tpC_one _ _ _ _ _) ?_; intro w7 hg7 hs7 h2b; clear hs7; replace hCB := hCB.other hg7 h2 (by decide); have hB7 := hB6.trans (below_of_grown hg7 (Nat.le_refl _) hB6.size))))
  refine bodyPost_ret (v := .agg (tpC c.ht c.hash (.slice (some ⟨g, 0, none⟩) c.mem.length cap))) ?_ rfl ⟨g, cap, rfl, hCB, hB7⟩
  exact results_cell_row rfl _ _ w.heap.size _ _ _ _ rfl h2b.out Tryz.underlying39 rfl (tpC_info _ _ _)
set_option maxRecDepth 100000 in
set_option maxHeartbeats 2000000 in
theorem getC_any (N cb bs bt : Nat) (sl : Value) (c : CN) (w : World) (hc : CH w N cb bs bt sl c) (k : List UInt8) (hk : k.length ≤ 1000) :
    Calls Tryz.prog 23 #[.pointer (some ⟨cb, 0, none⟩), .string ⟨k.toArray⟩] w fun e w' => e = .returned (.tuple #[.string ⟨(valM c.m (kOf k)).toArray⟩, .bool (hasM c.m (kOf k))]) ∧ Below w.heap.size w w' := by
  obtain ⟨gf, cf, gm0, cm0, hC, _, _⟩ := hc.blk
  have HG := get_st bs c.m k w hc.ex.st (by omega)
  have c5 := (hC.cell 5).trans (chC_g5 _ _ _ _ _ _ _ _)
  generalize valM c.m (kOf k) = v at *
  generalize hasM c.m (kOf k) = is at *
  go_enter Tryz.func23, Tryz.ntmps23
  go_wp2_with (go_at_call 66; refine HG.mono ?_; rintro e w1 ⟨rfl, hw1⟩; clear HG)
  go_ret2
  exact ⟨rfl, hw1⟩
end Go.Proofs.YtmbdhngoldganaaGreatDoor
