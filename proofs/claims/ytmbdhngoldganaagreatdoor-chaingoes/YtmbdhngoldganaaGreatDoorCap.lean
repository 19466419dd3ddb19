/- What Apply of a chain does. -/
import Derived.Test.YtmbdhngoldganaaGreatDoorChd
namespace Go.Proofs.YtmbdhngoldganaaGreatDoor
open Go Go.RowKit
section
variable {op : Oper} {a : Act} {w : World}
theorem run_addU {x : Operand} {n : Nat} (ho : op.op = .binOp .add 36 x (.const (.int .u64 1)) 36) (hx : a.eval x = .int .u64 (n : Nat)) (hn : n + 1 < 18446744073709551616) : (execOp a.eval op).run Tryz.prog w = .ok (.value (.int .u64 ((n + 1 : Nat) : Int))) w := by
  have hwr : IntKind.u64.wrap ((n : Int) + 1) = ((n + 1 : Nat) : Int) := by
    unfold IntKind.wrap
    simp [IntKind.bits, IntKind.signed]
    omega
  unfold execOp
  simp only [ho, hx]
  simp [go_sem]
  exact hwr
end
/-- What Make has left: the block, and what was told. -/
structure MkD (w w' : World) (bs bt : Nat) (c : CN) (b : BT) (gm : Nat) (a : Option Addr) (cap : Nat) (st : Value) : Prop where
  dn : ∃ lo dls, DN w w' bs bt lo (exS c.m b.txs) (exR c.m c.t b.txs) (.slice a (exD c.m b.txs).length cap) st dls (exD c.m b.txs) (exE c.m b.txs)
  cb : CB w' gm (nxM c b)
/-- What Apply leaves. -/
def ApC (w : World) (N cb bs bt : Nat) (sl : Value) (c : CN) (b : BT) (e : Ending) (w' : World) : Prop :=
  ∃ sl' gm cm a cap sa sc, e = .returned (.tuple #[.agg (bkv (mkB c b) gm cm a cap), .slice sa b.txs.length sc, .int .i64 0]) ∧ CH w' N cb bs bt sl' (nextC c b) ∧ AB w' gm a cap (mkB c b) ∧ Own (ownC cb bs bt sl) w w' ∧ (∀ r, Sh.slBlk sl' = some r → Sh.slBlk sl = some r ∨ w.heap.size ≤ r)
set_option maxRecDepth 100000 in
set_option maxHeartbeats 8000000 in
theorem applyC_any (N cb bs bt : Nat) (sl : Value) (c : CN) (w : World) (hc : CH w N cb bs bt sl c) (hok : OkC c) (b : BT) (hb : chkB b = 0) (hcnt : c.t.cnt ≤ 3300) (hh : c.ht + 1 < 18446744073709551616) (hkl : c.kept.length ≤ 1000000) (xa xa2 : Option Addr) (xc xc2 : Nat) (hT : TA w xa b.txs) (hI2 : IA w xa2 b.mem) :
    Calls Tryz.prog 19 #[.pointer (some ⟨cb, 0, none⟩), .agg (bc (.slice xa b.txs.length xc) b.conf (.slice xa2 b.mem.length xc2))] w (ApC w N cb bs bt sl c b) := by
  obtain ⟨gf, cf, gm0, cm0, hC, hCf, hCm⟩ := hc.blk
  obtain ⟨dls0, hGL, hBL⟩ := hc.kept
  obtain ⟨hN2, hNc, hNs, hNt⟩ := hc.low
  have hclt := hC.lt
  have hE := hc.ex
  have h2w := hE.glob.two
  obtain ⟨mb, hS1, _⟩ := hE.st.out
  obtain ⟨qt, hS2, _⟩ := hE.tr
  replace hS2 := Blk.of_sh hS2
  have hlts := hE.lts
  have hltt := hE.ltt
  have HM := fun w1 (hb1 : Below w.heap.size w w1) => make_any b hb c.hash hok.hash (c.ht + 1) (Nat.succ_ne_zero _) c.mem hok.mem (some ⟨gm0, 0, none⟩) cm0 bs bt c.m c.t xa xa2 xc xc2 w1 (hE.below hb1) hok.sz hok.canon hcnt (hT.below hb1) (hCm.ia.below hb1) (hI2.below hb1)
  have n1 : cb ≠ bs := hC.neT hS1 (by decide)
  have n2 : cb ≠ bt := hC.neT hS2 (by decide)
  have n3 : w.heap.size ≠ bs := by omega
  have n4 : w.heap.size ≠ bt := by omega
  go_enter Tryz.func19, Tryz.ntmps19
  go_upto_region 3 with (with_reducible refine at_list ?_; first
      | (refine wpList_boxRow (op := ⟨some 3, _, _, _, _, _⟩) rfl _ _ rfl _ rfl ?_; intro w1 hw1 hs1 h3; replace hs1 := hs1.symm)
      | (refine wpList_allocRow (op := ⟨some 4, _, _, _, _, _⟩) rfl _ rfl _ zBlk.1 ?_; intro w3 hw3 hs3 h4; replace hs3 := hs3.symm; replace h3 := h3.belowSize hw3; have hB3 := hw1.trans (hw3.mono hw1.size)))
  obtain ⟨B4, hB4e⟩ : ∃ y, y = w1.heap.size := ⟨_, rfl⟩
  rw [← hB4e] at h4 ⊢
  have hB4w : w.heap.size < B4 ∧ B4 < w3.heap.size := by omega
  have hH := And.intro (hC.belowSize hB3).drew h3.drew
  have hB3d : Below w.heap.size w w3.drew := hB3.drew
  replace HM := fun w1 (hb1 : Below w3.drew.heap.size w3.drew w1) => HM w1 (hB3d.trans (hb1.mono hB3d.size))
  replace hS1 := (hS1.belowSize hB3).drew
  replace hS2 := (hS2.belowSize hB3).drew
  clear hB4e hw1 hw3 hs1 hs3 h3
  try go_frame
  go_cut [7, 8, 9] from 13 to 42 (fun s7 s8 s9 wx => ∃ B7 gm cm a cap st, s7 = .pointer (some ⟨B7, 0, none⟩) ∧ s8 = st ∧ s9 = .int .i64 0 ∧ w.heap.size ≤ B7 ∧ Blk wx B7 (bkv (mkB c b) gm cm a cap) 53 ∧ MkD w3.drew wx bs bt c b gm a cap st)
  case first =>
    refine Sh.wp_region_L (S := fun w' : World => Blk w' cb (chC c.name (.slice (some ⟨gf, 0, none⟩) c.first.length cf) c.ht c.hash (.slice (some ⟨gm0, 0, none⟩) c.mem.length cm0) bs bt sl) 103 ∧ Blk w' w.heap.size (bc (.slice xa b.txs.length xc) b.conf (.slice xa2 b.mem.length xc2)) 58) (z := 33) (by kernel_rfl) ?_
    refine Sh.wpAnyL_take (i := 0) (oi := ⟨some 14, _, _, _, _, _⟩) (v := .pointer (some ⟨cb, 0, none⟩)) rfl (by kernel_rfl) (by kernel_rfl) (by kernel_rfl) (by kernel_rfl) (fun _ _ _ h => h) (Or.inl ⟨by rfl, fun w hSw => by go_simp⟩) hH ?_
    try simp only [Act.put, List.setIfInBounds_toArray, List.set_cons_zero, List.set_cons_succ]
    refine Sh.wpAnyL_take (i := 1) (oi := ⟨some 15, _, _, _, _, _⟩) (v := .pointer (some ⟨cb, 0, none⟩)) rfl (by kernel_rfl) (by kernel_rfl) (by kernel_rfl) (by kernel_rfl) (fun _ _ _ h => h) (Or.inl ⟨by rfl, fun w hSw => by go_simp⟩) hH ?_
    try simp only [Act.put, List.setIfInBounds_toArray, List.set_cons_zero, List.set_cons_succ]
    refine Sh.wpAnyL_take (i := 2) (oi := ⟨some 16, _, _, _, _, _⟩) (v := .pointer (some ⟨cb, 2, none⟩)) rfl (by kernel_rfl) (by kernel_rfl) (by kernel_rfl) (by kernel_rfl) (fun _ _ _ h => h) (Or.inl ⟨by rfl, fun w hSw => by go_simp⟩) hH ?_
    try simp only [Act.put, List.setIfInBounds_toArray, List.set_cons_zero, List.set_cons_succ]
    refine Sh.wpAnyL_take (i := 3) (oi := ⟨some 17, _, _, _, _, _⟩) (v := .pointer (some ⟨cb, 3, none⟩)) rfl (by kernel_rfl) (by kernel_rfl) (by kernel_rfl) (by kernel_rfl) (fun _ _ _ h => h) (Or.inl ⟨by rfl, fun w hSw => by go_simp⟩) hH ?_
    try simp only [Act.put, List.setIfInBounds_toArray, List.set_cons_zero, List.set_cons_succ]
    refine Sh.wpAnyL_take (i := 4) (oi := ⟨some 18, _, _, _, _, _⟩) (v := .string ⟨c.hash.toArray⟩) rfl (by kernel_rfl) (by kernel_rfl) (by kernel_rfl) (by kernel_rfl) (fun _ _ _ h => h) (Or.inl ⟨by rfl, fun w hSw => run_loadCellB _ _ rfl _ 3 rfl _ _ hSw.1 _ Tryz.underlying9 rfl _ (chC_g3 _ _ _ _ _ _ _ _)⟩) hH ?_
    try simp only [Act.put, List.setIfInBounds_toArray, List.set_cons_zero, List.set_cons_succ]
    refine Sh.wpAnyL_take (i := 5) (oi := ⟨some 19, _, _, _, _, _⟩) (v := .pointer (some ⟨cb, 0, none⟩)) rfl (by kernel_rfl) (by kernel_rfl) (by kernel_rfl) (by kernel_rfl) (fun _ _ _ h => h) (Or.inl ⟨by rfl, fun w hSw => by go_simp⟩) hH ?_
    try simp only [Act.put, List.setIfInBounds_toArray, List.set_cons_zero, List.set_cons_succ]
    refine Sh.wpAnyL_take (i := 6) (oi := ⟨some 20, _, _, _, _, _⟩) (v := .pointer (some ⟨cb, 0, none⟩)) rfl (by kernel_rfl) (by kernel_rfl) (by kernel_rfl) (by kernel_rfl) (fun _ _ _ h => h) (Or.inl ⟨by rfl, fun w hSw => by go_simp⟩) hH ?_
    try simp only [Act.put, List.setIfInBounds_toArray, List.set_cons_zero, List.set_cons_succ]
    refine Sh.wpAnyL_take (i := 7) (oi := ⟨some 21, _, _, _, _, _⟩) (v := .pointer (some ⟨cb, 2, none⟩)) rfl (by kernel_rfl) (by kernel_rfl) (by kernel_rfl) (by kernel_rfl) (fun _ _ _ h => h) (Or.inl ⟨by rfl, fun w hSw => by go_simp⟩) hH ?_
    try simp only [Act.put, List.setIfInBounds_toArray, List.set_cons_zero, List.set_cons_succ]
    refine Sh.wpAnyL_take (i := 8) (oi := ⟨some 22, _, _, _, _, _⟩) (v := .pointer (some ⟨cb, 2, none⟩)) rfl (by kernel_rfl) (by kernel_rfl) (by kernel_rfl) (by kernel_rfl) (fun _ _ _ h => h) (Or.inl ⟨by rfl, fun w hSw => by go_simp⟩) hH ?_
    try simp only [Act.put, List.setIfInBounds_toArray, List.set_cons_zero, List.set_cons_succ]
    refine Sh.wpAnyL_take (i := 9) (oi := ⟨some 23, _, _, _, _, _⟩) (v := .int .u64 (c.ht : Nat)) rfl (by kernel_rfl) (by kernel_rfl) (by kernel_rfl) (by kernel_rfl) (fun _ _ _ h => h) (Or.inl ⟨by rfl, fun w hSw => run_loadCellB _ _ rfl _ 2 rfl _ _ hSw.1 _ Tryz.underlying36 rfl _ (chC_g2 _ _ _ _ _ _ _ _)⟩) hH ?_
    try simp only [Act.put, List.setIfInBounds_toArray, List.set_cons_zero, List.set_cons_succ]
    refine Sh.wpAnyL_take (i := 10) (oi := ⟨some 24, _, _, _, _, _⟩) (v := .int .u64 ((c.ht + 1 : Nat) : Int)) rfl (by kernel_rfl) (by kernel_rfl) (by kernel_rfl) (by kernel_rfl) (fun _ _ _ h => h) (Or.inl ⟨by rfl, fun w hSw => run_addU rfl rfl hh⟩) hH ?_
    try simp only [Act.put, List.setIfInBounds_toArray, List.set_cons_zero, List.set_cons_succ]
    refine Sh.wpAnyL_take (i := 11) (oi := ⟨some 25, _, _, _, _, _⟩) (v := .pointer (some ⟨cb, 0, none⟩)) rfl (by kernel_rfl) (by kernel_rfl) (by kernel_rfl) (by kernel_rfl) (fun _ _ _ h => h) (Or.inl ⟨by rfl, fun w hSw => by go_simp⟩) hH ?_
    try simp only [Act.put, List.setIfInBounds_toArray, List.set_cons_zero, List.set_cons_succ]
    refine Sh.wpAnyL_take (i := 12) (oi := ⟨some 26, _, _, _, _, _⟩) (v := .pointer (some ⟨cb, 0, none⟩)) rfl (by kernel_rfl) (by kernel_rfl) (by kernel_rfl) (by kernel_rfl) (fun _ _ _ h => h) (Or.inl ⟨by rfl, fun w hSw => by go_simp⟩) hH ?_
    try simp only [Act.put, List.setIfInBounds_toArray, List.set_cons_zero, List.set_cons_succ]
    refine Sh.wpAnyL_take (i := 13) (oi := ⟨some 27, _, _, _, _, _⟩) (v := .pointer (some ⟨cb, 2, none⟩)) rfl (by kernel_rfl) (by kernel_rfl) (by kernel_rfl) (by kernel_rfl) (fun _ _ _ h => h) (Or.inl ⟨by rfl, fun w hSw => by go_simp⟩) hH ?_
    try simp only [Act.put, List.setIfInBounds_toArray, List.set_cons_zero, List.set_cons_succ]
    refine Sh.wpAnyL_take (i := 14) (oi := ⟨some 28, _, _, _, _, _⟩) (v := .pointer (some ⟨cb, 4, none⟩)) rfl (by kernel_rfl) (by kernel_rfl) (by kernel_rfl) (by kernel_rfl) (fun _ _ _ h => h) (Or.inl ⟨by rfl, fun w hSw => by go_simp⟩) hH ?_
    try simp only [Act.put, List.setIfInBounds_toArray, List.set_cons_zero, List.set_cons_succ]
    refine Sh.wpAnyL_take (i := 15) (oi := ⟨some 29, _, _, _, _, _⟩) (v := .slice (some ⟨gm0, 0, none⟩) c.mem.length cm0) rfl (by kernel_rfl) (by kernel_rfl) (by kernel_rfl) (by kernel_rfl) (fun _ _ _ h => h) (Or.inl ⟨by rfl, fun w hSw => run_loadCellB _ _ rfl _ 4 rfl _ _ hSw.1 _ Tryz.underlying22 rfl _ (chC_g4 _ _ _ _ _ _ _ _)⟩) hH ?_
    try simp only [Act.put, List.setIfInBounds_toArray, List.set_cons_zero, List.set_cons_succ]
    refine Sh.wpAnyL_take (i := 16) (oi := ⟨some 30, _, _, _, _, _⟩) (v := .pointer (some ⟨cb, 0, none⟩)) rfl (by kernel_rfl) (by kernel_rfl) (by kernel_rfl) (by kernel_rfl) (fun _ _ _ h => h) (Or.inl ⟨by rfl, fun w hSw => by go_simp⟩) hH ?_
    try simp only [Act.put, List.setIfInBounds_toArray, List.set_cons_zero, List.set_cons_succ]
    refine Sh.wpAnyL_take (i := 17) (oi := ⟨some 31, _, _, _, _, _⟩) (v := .pointer (some ⟨cb, 0, none⟩)) rfl (by kernel_rfl) (by kernel_rfl) (by kernel_rfl) (by kernel_rfl) (fun _ _ _ h => h) (Or.inl ⟨by rfl, fun w hSw => by go_simp⟩) hH ?_
    try simp only [Act.put, List.setIfInBounds_toArray, List.set_cons_zero, List.set_cons_succ]
    refine Sh.wpAnyL_take (i := 18) (oi := ⟨some 32, _, _, _, _, _⟩) (v := .pointer (some ⟨cb, 5, none⟩)) rfl (by kernel_rfl) (by kernel_rfl) (by kernel_rfl) (by kernel_rfl) (fun _ _ _ h => h) (Or.inl ⟨by rfl, fun w hSw => by go_simp⟩) hH ?_
    try simp only [Act.put, List.setIfInBounds_toArray, List.set_cons_zero, List.set_cons_succ]
    refine Sh.wpAnyL_take (i := 19) (oi := ⟨some 33, _, _, _, _, _⟩) (v := .pointer (some ⟨bs, 0, none⟩)) rfl (by kernel_rfl) (by kernel_rfl) (by kernel_rfl) (by kernel_rfl) (fun _ _ _ h => h) (Or.inl ⟨by rfl, fun w hSw => run_loadCellB _ _ rfl _ 5 rfl _ _ hSw.1 _ Tryz.underlying72 rfl _ (chC_g5 _ _ _ _ _ _ _ _)⟩) hH ?_
    try simp only [Act.put, List.setIfInBounds_toArray, List.set_cons_zero, List.set_cons_succ]
    refine Sh.wpAnyL_take (i := 20) (oi := ⟨some 34, _, _, _, _, _⟩) (v := .pointer (some ⟨cb, 0, none⟩)) rfl (by kernel_rfl) (by kernel_rfl) (by kernel_rfl) (by kernel_rfl) (fun _ _ _ h => h) (Or.inl ⟨by rfl, fun w hSw => by go_simp⟩) hH ?_
    try simp only [Act.put, List.setIfInBounds_toArray, List.set_cons_zero, List.set_cons_succ]
    refine Sh.wpAnyL_take (i := 21) (oi := ⟨some 35, _, _, _, _, _⟩) (v := .pointer (some ⟨cb, 0, none⟩)) rfl (by kernel_rfl) (by kernel_rfl) (by kernel_rfl) (by kernel_rfl) (fun _ _ _ h => h) (Or.inl ⟨by rfl, fun w hSw => by go_simp⟩) hH ?_
    try simp only [Act.put, List.setIfInBounds_toArray, List.set_cons_zero, List.set_cons_succ]
    refine Sh.wpAnyL_take (i := 22) (oi := ⟨some 36, _, _, _, _, _⟩) (v := .pointer (some ⟨cb, 6, none⟩)) rfl (by kernel_rfl) (by kernel_rfl) (by kernel_rfl) (by kernel_rfl) (fun _ _ _ h => h) (Or.inl ⟨by rfl, fun w hSw => by go_simp⟩) hH ?_
    try simp only [Act.put, List.setIfInBounds_toArray, List.set_cons_zero, List.set_cons_succ]
    refine Sh.wpAnyL_take (i := 23) (oi := ⟨some 37, _, _, _, _, _⟩) (v := .pointer (some ⟨bt, 0, none⟩)) rfl (by kernel_rfl) (by kernel_rfl) (by kernel_rfl) (by kernel_rfl) (fun _ _ _ h => h) (Or.inl ⟨by rfl, fun w hSw => run_loadCellB _ _ rfl _ 6 rfl _ _ hSw.1 _ Tryz.underlying100 rfl _ (chC_g6 _ _ _ _ _ _ _ _)⟩) hH ?_
    try simp only [Act.put, List.setIfInBounds_toArray, List.set_cons_zero, List.set_cons_succ]
    refine Sh.wpAnyL_take (i := 24) (oi := ⟨some 38, _, _, _, _, _⟩) (v := .agg (bc (.slice xa b.txs.length xc) b.conf (.slice xa2 b.mem.length xc2))) rfl (by kernel_rfl) (by kernel_rfl) (by kernel_rfl) (by kernel_rfl) (fun _ _ _ h => h) (Or.inl ⟨by rfl, fun w hSw => run_loadMid _ _ rfl _ 0 rfl _ hSw.2.rangeAll _ Tryz.underlying58 rfl (bc_info _ _ _)⟩) hH ?_
    try simp only [Act.put, List.setIfInBounds_toArray, List.set_cons_zero, List.set_cons_succ]
    refine Sh.wpAnyL_duo (i := 25) (k := 30) (o := ⟨some 39, _, _, _, _, _⟩) (p := ⟨some 7, _, _, _, _, _⟩) rfl rfl (by kernel_rfl) ?_ ?_
    · -- the call first
      intro K hK
      refine wpList_callR Tryz.func59 (by kernel_rfl) (by kernel_rfl) rfl _ _ rfl #[.string ⟨c.hash.toArray⟩, .int .u64 ((c.ht + 1 : Nat) : Int), .slice (some ⟨gm0, 0, none⟩) c.mem.length cm0, .pointer (some ⟨bs, 0, none⟩), .pointer (some ⟨bt, 0, none⟩), .agg (bc (.slice xa b.txs.length xc) b.conf (.slice xa2 b.mem.length xc2))] (args6 rfl rfl rfl rfl rfl rfl) _ (HM _ (Below.refl _ _)) ?_
      rintro e w7 ⟨lo, a, cap, st, dls, gm, cm, rfl, hD, hCB, hgm⟩
      have hH7 := And.intro (hH.1.two hD.two n1 n2) (hH.2.two hD.two n3 n4)
      refine ⟨.tuple #[.agg (bkv (mkB c b) gm cm a cap), st, .int .i64 0], rfl, ?_⟩
      refine hK _ _ (fun _ => hH7) ?_
      clear hK K
      try simp only [Act.put, List.setIfInBounds_toArray, List.set_cons_zero, List.set_cons_succ]
      refine Sh.wpAnyL_take (i := 26) (oi := ⟨some 13, _, _, _, _, _⟩) (v := .tuple #[.agg (bkv (mkB c b) gm cm a cap), st, .int .i64 0]) rfl (by kernel_rfl) (by kernel_rfl) (by kernel_rfl) (by kernel_rfl) (fun _ _ _ h => h) (Or.inl ⟨by rfl, fun w hSw => by go_simp⟩) hH7 ?_
      try simp only [Act.put, List.setIfInBounds_toArray, List.set_cons_zero, List.set_cons_succ]
      refine Sh.wpAnyL_take (i := 27) (oi := ⟨some 40, _, _, _, _, _⟩) (v := .agg (bkv (mkB c b) gm cm a cap)) rfl (by kernel_rfl) (by kernel_rfl) (by kernel_rfl) (by kernel_rfl) (fun _ _ _ h => h) (Or.inl ⟨by rfl, fun w hSw => run_extract _ _ rfl _ rfl _ rfl⟩) hH7 ?_
      try simp only [Act.put, List.setIfInBounds_toArray, List.set_cons_zero, List.set_cons_succ]
      refine Sh.wpAnyL_take (i := 28) (oi := ⟨some 41, _, _, _, _, _⟩) (v := st) rfl (by kernel_rfl) (by kernel_rfl) (by kernel_rfl) (by kernel_rfl) (fun _ _ _ h => h) (Or.inl ⟨by rfl, fun w hSw => run_extract _ _ rfl _ rfl _ rfl⟩) hH7 ?_
      try simp only [Act.put, List.setIfInBounds_toArray, List.set_cons_zero, List.set_cons_succ]
      refine Sh.wpAnyL_take (i := 29) (oi := ⟨some 42, _, _, _, _, _⟩) (v := .int .i64 0) rfl (by kernel_rfl) (by kernel_rfl) (by kernel_rfl) (by kernel_rfl) (fun _ _ _ h => h) (Or.inl ⟨by rfl, fun w hSw => run_extract _ _ rfl _ rfl _ rfl⟩) hH7 ?_
      try simp only [Act.put, List.setIfInBounds_toArray, List.set_cons_zero, List.set_cons_succ]
      refine Sh.wpAnyL_solo (i := 30) (o := ⟨some 7, _, _, _, _, _⟩) rfl (by kernel_rfl) (fun K hK => ?_)
      refine wpList_allocRow rfl _ rfl _ zBlk.1 ?_
      intro w8 hw8 hs8 hb8
      clear hs8
      have hH8 := And.intro (hH7.1.belowSize hw8) (hH7.2.belowSize hw8)
      refine hK _ _ (fun _ => hH8) ?_
      clear hK K
      try simp only [Act.put, List.setIfInBounds_toArray, List.set_cons_zero, List.set_cons_succ]
      refine Sh.wpAnyL_solo (i := 31) (o := ⟨none, _, _, _, _, _⟩) rfl (by kernel_rfl) (fun K hK => ?_)
      refine wpList_storeRow rfl _ _ _ rfl w7.heap.size (bkv (mkB c b) gm cm a cap) rfl rfl _ _ hb8 (by rfl) (bk_info _ _ _ _ _ _) (bk_one _ _ _ _ _ _ _ _ _ _) ?_
      intro w9 hg9 hs9 hb9
      clear hs9
      have e1 : cb ≠ w7.heap.size := fun e => by have := hD.two.size; have : w3.drew.heap.size = w3.heap.size := rfl; omega
      have e2 : w.heap.size ≠ w7.heap.size := fun e => by have := hD.two.size; have : w3.drew.heap.size = w3.heap.size := rfl; omega
      have hH9 := And.intro (hH8.1.grown hg9 (fun e => e1 (Option.some.inj e))) (hH8.2.grown hg9 (fun e => e2 (Option.some.inj e)))
      refine hK _ _ (fun _ => hH9) ?_
      clear hK K
      try simp only [Act.put]
      refine Sh.wpAnyL_solo (i := 32) (o := ⟨some 8, _, _, _, _, _⟩) rfl (by kernel_rfl) (fun K hK => ?_)
      refine wpList_pure rfl st (run_assignV _ rfl _ rfl) ?_
      refine hK _ _ (fun _ => hH9) ?_
      clear hK K
      try simp only [Act.put, List.setIfInBounds_toArray, List.set_cons_zero, List.set_cons_succ]
      refine Sh.wpAnyL_solo (i := 33) (o := ⟨some 9, _, _, _, _, _⟩) rfl (by kernel_rfl) (fun K hK => ?_)
      refine wpList_pure rfl (.int .i64 0) (run_assignV _ rfl _ rfl) ?_
      refine hK _ _ (fun e => absurd rfl e) ?_
      clear hK K
      refine Sh.wpAnyL_done (by kernel_rfl) ?_ _
      simp only [Act.put]
      go_simp
      go_wp2_with fail
      go_meet
      case rel =>
        refine ⟨w7.heap.size, gm, cm, a, cap, st, rfl, rfl, rfl, Nat.le_trans hB3.size hD.two.size, hb9, ?_⟩
        have hD8 := hD.below hw8
        have hD9 := hD8.other hg9 hb8 hD.two.size (by decide) (fun r hr e => by have := (hD.dn.lt r hr).2; omega)
        exact ⟨⟨lo, dls, hD9⟩, (hCB.below hw8).other hg9 hb8 (by decide)⟩
    · -- the variable first
      intro K hK
      refine wpList_allocRow rfl _ rfl _ zBlk.1 ?_
      intro w6 hw6 hs6 hb6
      clear hs6
      have hH6 := And.intro (hH.1.belowSize hw6) (hH.2.belowSize hw6)
      refine hK _ _ (fun _ => hH6) ?_
      clear hK K
      try simp only [Act.put, List.setIfInBounds_toArray, List.set_cons_zero, List.set_cons_succ]
      refine Sh.wpAnyL_solo (i := 25) (o := ⟨some 39, _, _, _, _, _⟩) rfl (by kernel_rfl) (fun K hK => ?_)
      refine wpList_callR Tryz.func59 (by kernel_rfl) (by kernel_rfl) rfl _ _ rfl #[.string ⟨c.hash.toArray⟩, .int .u64 ((c.ht + 1 : Nat) : Int), .slice (some ⟨gm0, 0, none⟩) c.mem.length cm0, .pointer (some ⟨bs, 0, none⟩), .pointer (some ⟨bt, 0, none⟩), .agg (bc (.slice xa b.txs.length xc) b.conf (.slice xa2 b.mem.length xc2))] (args6 rfl rfl rfl rfl rfl rfl) _ (HM _ hw6) ?_
      rintro e w7 ⟨lo, a, cap, st, dls, gm, cm, rfl, hD, hCB, hgm⟩
      have hH7 := And.intro (hH6.1.two hD.two n1 n2) (hH6.2.two hD.two n3 n4)
      refine ⟨.tuple #[.agg (bkv (mkB c b) gm cm a cap), st, .int .i64 0], rfl, ?_⟩
      refine hK _ _ (fun _ => hH7) ?_
      clear hK K
      try simp only [Act.put, List.setIfInBounds_toArray, List.set_cons_zero, List.set_cons_succ]
      refine Sh.wpAnyL_take (i := 26) (oi := ⟨some 13, _, _, _, _, _⟩) (v := .tuple #[.agg (bkv (mkB c b) gm cm a cap), st, .int .i64 0]) rfl (by kernel_rfl) (by kernel_rfl) (by kernel_rfl) (by kernel_rfl) (fun _ _ _ h => h) (Or.inl ⟨by rfl, fun w hSw => by go_simp⟩) hH7 ?_
      try simp only [Act.put, List.setIfInBounds_toArray, List.set_cons_zero, List.set_cons_succ]
      refine Sh.wpAnyL_take (i := 27) (oi := ⟨some 40, _, _, _, _, _⟩) (v := .agg (bkv (mkB c b) gm cm a cap)) rfl (by kernel_rfl) (by kernel_rfl) (by kernel_rfl) (by kernel_rfl) (fun _ _ _ h => h) (Or.inl ⟨by rfl, fun w hSw => run_extract _ _ rfl _ rfl _ rfl⟩) hH7 ?_
      try simp only [Act.put, List.setIfInBounds_toArray, List.set_cons_zero, List.set_cons_succ]
      refine Sh.wpAnyL_take (i := 28) (oi := ⟨some 41, _, _, _, _, _⟩) (v := st) rfl (by kernel_rfl) (by kernel_rfl) (by kernel_rfl) (by kernel_rfl) (fun _ _ _ h => h) (Or.inl ⟨by rfl, fun w hSw => run_extract _ _ rfl _ rfl _ rfl⟩) hH7 ?_
      try simp only [Act.put, List.setIfInBounds_toArray, List.set_cons_zero, List.set_cons_succ]
      refine Sh.wpAnyL_take (i := 29) (oi := ⟨some 42, _, _, _, _, _⟩) (v := .int .i64 0) rfl (by kernel_rfl) (by kernel_rfl) (by kernel_rfl) (by kernel_rfl) (fun _ _ _ h => h) (Or.inl ⟨by rfl, fun w hSw => run_extract _ _ rfl _ rfl _ rfl⟩) hH7 ?_
      try simp only [Act.put, List.setIfInBounds_toArray, List.set_cons_zero, List.set_cons_succ]
      have m1 := hb6.neT (hS1.belowSize hw6) (by decide)
      have m2 := hb6.neT (hS2.belowSize hw6) (by decide)
      have hb8 := hb6.two hD.two m1 m2
      refine Sh.wpAnyL_solo (i := 31) (o := ⟨none, _, _, _, _, _⟩) rfl (by kernel_rfl) (fun K hK => ?_)
      refine wpList_storeRow rfl _ _ _ rfl w3.drew.heap.size (bkv (mkB c b) gm cm a cap) rfl rfl _ _ hb8 (by rfl) (bk_info _ _ _ _ _ _) (bk_one _ _ _ _ _ _ _ _ _ _) ?_
      intro w9 hg9 hs9 hb9
      clear hs9
      have e1 : cb ≠ w3.drew.heap.size := fun e => by have : w3.drew.heap.size = w3.heap.size := rfl; omega
      have e2 : w.heap.size ≠ w3.drew.heap.size := fun e => by have : w3.drew.heap.size = w3.heap.size := rfl; omega
      have hH9 := And.intro (hH7.1.grown hg9 (fun e => e1 (Option.some.inj e))) (hH7.2.grown hg9 (fun e => e2 (Option.some.inj e)))
      refine hK _ _ (fun _ => hH9) ?_
      clear hK K
      try simp only [Act.put]
      refine Sh.wpAnyL_solo (i := 32) (o := ⟨some 8, _, _, _, _, _⟩) rfl (by kernel_rfl) (fun K hK => ?_)
      refine wpList_pure rfl st (run_assignV _ rfl _ rfl) ?_
      refine hK _ _ (fun _ => hH9) ?_
      clear hK K
      try simp only [Act.put, List.setIfInBounds_toArray, List.set_cons_zero, List.set_cons_succ]
      refine Sh.wpAnyL_solo (i := 33) (o := ⟨some 9, _, _, _, _, _⟩) rfl (by kernel_rfl) (fun K hK => ?_)
      refine wpList_pure rfl (.int .i64 0) (run_assignV _ rfl _ rfl) ?_
      refine hK _ _ (fun e => absurd rfl e) ?_
      clear hK K
      refine Sh.wpAnyL_done (by kernel_rfl) ?_ _
      simp only [Act.put]
      go_simp
      go_wp2_with fail
      go_meet
      case rel =>
        refine ⟨w3.drew.heap.size, gm, cm, a, cap, st, rfl, rfl, rfl, hB3.size, hb9, ?_⟩
        have hD8 := hD.start hw6 (Nat.le_trans h2w hB3.size)
        have hD9 := hD8.other hg9 hb8 (Nat.le_refl _) (by decide) (fun r hr e => by have := (hD.dn.lt r hr).1; have := hD.lo1; have := hb6.lt; omega)
        exact ⟨⟨lo, dls, hD9⟩, hCB.other hg9 hb8 (by decide)⟩
  case rest =>
    obtain ⟨B7, gm, cm, a, cap, st, rfl, rfl, rfl, hB7, hb7, hMD⟩ := hcut
    obtain ⟨lo, dls, hD⟩ := hMD.dn
    have hCB := hMD.cb
    clear hMD HM
    have hCc := hH.1.two hD.two n1 n2
    have h4c := h4.drew.two hD.two (h4.drew.neT hS1 (by decide)) (h4.drew.neT hS2 (by decide))
    have hO2 := Own.of_two hD.two
    have hst2 : Stay w3.drew wc := Stay.of_own hO2 (fun i _ e => by
      rcases e with rfl | rfl
      · exact ⟨_, _, _, hS1.out, by decide, by decide, by decide⟩
      · exact ⟨_, _, _, hS2.out, by decide, by decide, by decide⟩)
    have hGL3 := (hGL.below hB3).drew
    have hGLc := GLown hGL3 hO2 (fun r hr e => by
      obtain ⟨cur, hcur⟩ := GLtyped hGL3 hr
      rcases e with rfl | rfl
      · exact hcur.neT hS1 (by decide) rfl
      · exact hcur.neT hS2 (by decide) rfl)
    have hst0 : Stay w wc := (Stay.of_below hB3d).trans hst2
    have hBLc := hBL.stay hst0
    have hCfc := hCf.stay hst0
    have hTAc : TA wc a (mkB c b).txs := (AB.mk (b := mkB c b) hCB ⟨lo, dls, hD.dn, hD.tx⟩).ta
    have hOw : Own (ownC cb bs bt sl) w wc := (Own.of_below hB3d).trans hO2 (fun i _ e => e.elim (fun e => .inr (.inl e)) (fun e => .inr (.inr (.inl e))))
    have HK : Calls Tryz.prog 60 #[.pointer (some ⟨cb, 0, none⟩), .agg (bkv (mkB c b) gm cm a cap)] wc (KpP wc N cb c.name (.slice (some ⟨gf, 0, none⟩) c.first.length cf) bs bt sl dls0 (mkB c b)) :=
      keepC_any (mkB c b) (mkB_head hok hb) (mkB_txs hb).1 (Nat.le_trans (mkB_txs hb).2 (by decide)) (some ⟨gm, 0, none⟩) a cm cap N cb bs bt c.name _ c.ht c.hash _ sl dls0 wc hCc hGLc (by rw [hBL.len]; exact hkl) ⟨hN2, hNc⟩ hD.ex.glob hCB.ia hTAc
    obtain ⟨sa, sc, est, _⟩ := hD.tld.sl
    rw [ecs_len, exE_len] at est
    subst est
    have hEc := hD.ex
    have hABc : AB wc gm a cap (mkB c b) := ⟨hCB, lo, dls, hD.dn, hD.tx⟩
    have hszc : w3.heap.size ≤ wc.heap.size := hD.two.size
    clear hD hCB hGL3 hO2 hH hst2 hst0 hTAc hCm
    have hbvI : ∀ (w1 : World) (B : Nat), (Tryz.prog.info? 53).map (·.size) = some (bkv (mkB c b) gm cm a cap).size := fun _ _ => bk_info _ _ _ _ _ _
    have hb1 : (bkv (mkB c b) gm cm a cap).all (·.oneCell') = true := bk_one _ _ _ _ _ _ _ _ _ _
    have hbs6 : (bkv (mkB c b) gm cm a cap).size = 6 := rfl
    have hPost : Hid (∀ w5 w6 sl' gm' cm' cc, Blk w5 cb (chC c.name (.slice (some ⟨gf, 0, none⟩) c.first.length cf) (mkB c b).h.height (hD (mkB c b).h) (.slice (some ⟨gm', 0, none⟩) (mkB c b).h.mem.length cm') bs bt sl') 103 → CB w5 gm' (mkB c b).h.mem → Sh.GL w5 53 6 N sl' (dls0 ++ [cc]) → KB w5 cc (mkB c b) → Own (fun i => i = cb ∨ some i = Sh.slBlk sl) wc w5 → (∀ r, Sh.slBlk sl' = some r → Sh.slBlk sl = some r ∨ wc.heap.size ≤ r) → w5.grownBy w6 (some B4) → ApC w N cb bs bt sl c b (.returned (.tuple #[.agg (bkv (mkB c b) gm cm a cap), .slice sa b.txs.length sc, .int .i64 0])) w6) := by
      refine fun w5 w6 sl' gm' cm' cc k1 k2 k3 k4 k5 k6 k7 => ?_
      have hty : ∀ i, i < wc.heap.size → i = cb ∨ some i = Sh.slBlk sl → 2 ≤ i ∧ ∃ d u fr, wc.heap[i]? = some (.cells d u fr) ∧ (u = 103 ∨ u = 53) := fun i _ e => by
        rcases e with rfl | e
        · exact ⟨by omega, _, _, _, hCc.out, .inl rfl⟩
        · obtain ⟨cur, hcur⟩ := GLtyped hGLc e.symm
          exact ⟨Nat.le_trans hN2 (hGLc.lt i e.symm).1, _, _, _, hcur.out, .inr rfl⟩
      have hst5 : Stay wc w5 := Stay.of_own k5 (fun i hi e => by
        obtain ⟨_, d, u, fr, h1, h2⟩ := hty i hi e
        exact ⟨d, u, fr, h1, by rcases h2 with rfl | rfl <;> decide⟩)
      have hE5 := hEc.own k5 (fun i hi e => by
        obtain ⟨h0, d, u, fr, h1, h2⟩ := hty i hi e
        exact ⟨h0, d, u, fr, h1, by rcases h2 with rfl | rfl <;> decide⟩)
      have hnr : some B4 ≠ Sh.slBlk sl := fun e => by have := (hGL.lt B4 e.symm).2; omega
      have h45 : Blk w5 B4 (bk 0 [] [] [] (.slice none 0 0) (.slice none 0 0)) 53 := h4c.own k5 (fun e => by
        rcases e with e | e
        · exact h4c.neT hCc (by decide) e
        · exact hnr e)
      have hrn : Sh.slBlk sl' ≠ some B4 := fun e => by
        rcases k6 B4 e with h1 | h1
        · exact hnr h1.symm
        · omega
      have hCH5 : CH w5 N cb bs bt sl' (nextC c b) := ⟨⟨gf, cf, gm', cm', k1, hCfc.stay hst5, k2⟩, hE5, ⟨_, k3, (hBLc.stay hst5).snoc k4⟩, hN2, hNc, hNs, hNt⟩
      have hst6 : Stay w5 w6 := Stay.of_own (Own.of_grown k7) (fun i _ e => (by obtain rfl := Option.some.inj e; exact ⟨_, _, _, h45.out, by decide, by decide, by decide⟩))
      refine ⟨sl', gm, cm, a, cap, sa, sc, rfl, hCH5.local k7 h45 (by omega) (by decide) hrn, (hABc.stay hst5).stay hst6, (hOw.trans k5 (fun i _ e => ?_)).trans (Own.of_grown k7) (fun i hi e => ?_), fun r hr => ?_⟩
      · rcases e with e | e
        · exact .inl e
        · exact .inr (.inr (.inr e))
      · have := Option.some.inj e
        omega
      · rcases k6 r hr with h1 | h1
        · exact .inl h1
        · exact .inr (by omega)
    have hb7n : ∀ w5, Own (fun i => i = cb ∨ some i = Sh.slBlk sl) wc w5 → Blk w5 B7 (bkv (mkB c b) gm cm a cap) 53 ∧ Blk w5 B4 (bk 0 [] [] [] (.slice none 0 0) (.slice none 0 0)) 53 := fun w5 k5 => ⟨hb7.own k5 (fun e => by
        rcases e with e | e
        · exact hb7.neT hCc (by decide) e
        · have := (hGL.lt B7 e.symm).2; omega), h4c.own k5 (fun e => by
        rcases e with e | e
        · exact h4c.neT hCc (by decide) e
        · have := (hGL.lt B4 e.symm).2; omega)⟩
    clear hGLc hBLc hCfc hOw hEc hABc hC hGL hBL hE hS1 hS2 hc hB3 hB3d h4 hT hI2 hCf
    generalize ApC w N cb bs bt sl c b = Post at *
    generalize bkv (mkB c b) gm cm a cap = BV at *
    go_wp2_with (first
      | (go_at_call 60; refine HK.mono ?_; rintro e w5 ⟨rfl, sl', gm', cm', cc, k1, k2, k3, k4, k5, k6⟩; clear HK; obtain ⟨hb7k, h4k⟩ := hb7n w5 k5)
      | (with_reducible refine at_list ?_; first
        | (refine wpList_loadRow (op := ⟨some 48, _, _, _, _, _⟩) rfl _ _ rfl B7 rfl _ _ hb7 _ Tryz.underlying53 rfl (hbvI wc 0) ?_)
        | (refine wpList_loadRow (op := ⟨some 50, _, _, _, _, _⟩) rfl _ _ rfl B7 rfl _ _ hb7k _ Tryz.underlying53 rfl (hbvI wc 0) ?_)
        | (refine wpList_storeRow (op := ⟨none, .store 53 (.tmp 4) (.tmp 50), _, _, _, _⟩) rfl _ _ _ rfl B4 BV rfl rfl _ _ h4k (by rw [hbs6, bk_size]) (hbvI wc 0) hb1 ?_; intro w6 hg6 hs6 h46)))
    refine bodyPost_ret (v := .tuple #[.agg BV, .slice sa b.txs.length sc, .int .i64 0]) ?_ rfl (hPost.out w5 w6 sl' gm' cm' cc k1 k2 k3 k4 k5 k6 hg6)
    exact res_ctt rfl _ _ B4 _ _ _ _ _ rfl rfl rfl h46 Tryz.underlying53 rfl (hbvI wc 0)
end Go.Proofs.YtmbdhngoldganaaGreatDoor
