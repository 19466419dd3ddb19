/- What keep of a chain does. Where a chain goes: the block of a batch, and what stands behind it. -/
import Derived.Test.YtmbdhngoldganaaGreatDoorCnx
namespace Go.Proofs.YtmbdhngoldganaaGreatDoor
open Go Go.RowKit
theorem bk_g0 (ht : Nat) (p t s : List UInt8) (sm st : Value) : (bk ht p t s sm st)[0]? = some (.int .u64 (ht : Nat)) := rfl
theorem bk_g4 (ht : Nat) (p t s : List UInt8) (sm st : Value) : (bk ht p t s sm st)[4]? = some sm := rfl
theorem infoBk : ∃ i, Tryz.prog.info? 53 = some i ∧ i.zero = some (.agg (bk 0 [] [] [] (.slice none 0 0) (.slice none 0 0))) ∧ i.size = 6 ∧ i.bytes ≤ 256 := by
  have h : (Tryz.prog.info? 53).map (fun i => (i.zero, i.size, i.bytes)) = some (some (.agg (bk 0 [] [] [] (.slice none 0 0) (.slice none 0 0))), 6, 104) := by kernel_rfl
  cases hq : Tryz.prog.info? 53 with
  | none => rw [hq] at h; cases h
  | some i =>
    rw [hq] at h
    simp only [Option.map_some, Option.some.injEq, Prod.mk.injEq] at h
    exact ⟨i, rfl, h.1, h.2.1, by rw [h.2.2]; decide⟩
theorem bk_all (ht : Nat) (p t s : List UInt8) (a2 : Option Addr) (n2 cap2 : Nat) (a : Option Addr) (n cap : Nat) : ∀ u ∈ (bk ht p t s (.slice a2 n2 cap2) (.slice a n cap)).toList, u.oneCell' = true := by
  intro u hu
  simp [bk] at hu
  rcases hu with rfl | rfl | rfl | rfl | rfl | rfl <;> rfl
theorem bslBk (ht : Nat) (p t s : List UInt8) (a2 : Option Addr) (n2 cap2 : Nat) (a : Option Addr) (n cap : Nat) (w : World) : (Instr.buildSlice 101 1 #[(0, .agg (bk ht p t s (.slice a2 n2 cap2) (.slice a n cap)))]).run Tryz.prog w = .ok (.slice (some ⟨w.heap.size, 0, none⟩) 1 1) (w.alloc (.cells (bk ht p t s (.slice a2 n2 cap2) (.slice a n cap)) 53)) := by
  have hr6 : Array.range 6 = #[0, 1, 2, 3, 4, 5] := by decide
  simp [Instr.buildSlice, run_underlying Tryz.underlying101, sizeOf_run zBlk.2, Sem.run_bind, Instr.fill, newRow, zBlk.1, bk, Value.cells, hr6]
theorem run_bslBk {op : Oper} {a : Act} {w : World} (x : Operand) (ho : op.op = .buildSlice 101 1 #[(0, x)]) (ht : Nat) (p t s : List UInt8) (a2 : Option Addr) (n2 cap2 : Nat) (a1 : Option Addr) (n cap : Nat) (hx : a.eval x = .agg (bk ht p t s (.slice a2 n2 cap2) (.slice a1 n cap))) : (execOp a.eval op).run Tryz.prog w = .ok (.value (.slice (some ⟨w.heap.size, 0, none⟩) 1 1)) (w.alloc (.cells (bk ht p t s (.slice a2 n2 cap2) (.slice a1 n cap)) 53)) := by
  unfold execOp
  have e : (#[(0, x)] : Array (Nat × Operand)).map (fun (i, x) => (i, a.eval x)) = #[(0, .agg (bk ht p t s (.slice a2 n2 cap2) (.slice a1 n cap)))] := by simp [hx]
  have hr := bslBk ht p t s a2 n2 cap2 a1 n cap w
  rw [← e] at hr
  simp only [ho, Sem.run_bind, hr, Result.andThen_ok]
  rfl
theorem builtTip3 (ht : Nat) (h : List UInt8) (a : Option Addr) (n cap : Nat) : Tryz.prog.built 39 [(0, .int .u64 (ht : Nat)), (1, .string ⟨h.toArray⟩), (2, .slice a n cap)] = some (tpC ht h (.slice a n cap)) := by kernel_rfl
theorem chC_spl (name : List UInt8) (sf : Value) (ht : Nat) (hash : List UInt8) (sm : Value) (bs bt : Nat) (sk : Value) (ht2 : Nat) (hash2 : List UInt8) (sm2 : Value) : spl (chC name sf ht hash sm bs bt sk) 2 (tpC ht2 hash2 sm2).toList = chC name sf ht2 hash2 sm2 bs bt sk := rfl
/-- What keep leaves. -/
def KpP (w : World) (N bc : Nat) (name : List UInt8) (sf : Value) (bs bt : Nat) (sl : Value) (dls : List (List Value)) (b : BK) (e : Ending) (w' : World) : Prop :=
  e = .returned (.tuple #[]) ∧ ∃ sl' gm cm c, Blk w' bc (chC name sf b.h.height (hD b.h) (.slice (some ⟨gm, 0, none⟩) b.h.mem.length cm) bs bt sl') 103 ∧ CB w' gm b.h.mem ∧ Sh.GL w' 53 6 N sl' (dls ++ [c]) ∧ KB w' c b ∧ Own (fun i => i = bc ∨ some i = Sh.slBlk sl) w w' ∧ (∀ r, Sh.slBlk sl' = some r → Sh.slBlk sl = some r ∨ w.heap.size ≤ r)
set_option maxRecDepth 100000 in
set_option maxHeartbeats 4000000 in
theorem keepC_any (b : BK) (hok : OkH b.h) (htx : ∀ x ∈ b.txs, okTx x = true) (hl : b.txs.length ≤ 1000) (am a : Option Addr) (cm cap : Nat) (N bc bs bt : Nat) (name : List UInt8) (sf : Value) (ht : Nat) (hash : List UInt8) (sm sl : Value) (dls : List (List Value)) (w : World)
    (hC : Blk w bc (chC name sf ht hash sm bs bt sl) 103) (hGL : Sh.GL w 53 6 N sl dls) (hdl : dls.length ≤ 1000000) (hN : 2 ≤ N ∧ N ≤ bc) (hG : Sh.Glob w) (hI : IA w am b.h.mem) (hT : TA w a b.txs) :
    Calls Tryz.prog 60 #[.pointer (some ⟨bc, 0, none⟩), .agg (bk b.h.height b.h.prev b.h.txr b.h.str (.slice am b.h.mem.length cm) (.slice a b.txs.length cap))] w (KpP w N bc name sf bs bt sl dls b) := by
  obtain ⟨⟨h, p, t, s, mem⟩, txs⟩ := b
  dsimp only at *
  have hm0 := hok.m.pos
  have hm1 := hok.m.len
  have hclt := hC.lt
  dsimp only at hm0 hm1
  have HK := fun w1 (h1 : IA w1 am mem) (h2 : TA w1 a txs) => cloneB_any h p t s mem hm0 (by omega) txs htx hl am cm a cap w1 h1 h2
  have HH := fun gm c w1 (h1 : IA w1 (some ⟨gm, 0, none⟩) mem) (h2 : Sh.Glob w1) => hashH_any ⟨h, p, t, s, mem⟩ hok (some ⟨gm, 0, none⟩) c w1 h1 h2
  have hhd : Hid (hD ⟨h, p, t, s, mem⟩ = hD ⟨h, p, t, s, mem⟩) := rfl
  unfold KpP
  dsimp only at HH ⊢
  generalize hdd : hD ⟨h, p, t, s, mem⟩ = hd at *
  clear hhd hdd
  obtain ⟨ie, ei, ez, es, eb⟩ := infoBk
  go_enter Tryz.func60, Tryz.ntmps60
  go_upto_region 2 with (first
    | (go_at_call 62; refine (HK _ (hI.below hw1) (hT.below hw1)).mono ?_; rintro e w2 ⟨gm, cm2, lo2, a2, cap2, dl2, rfl, hGx, hTx, hCB, hw2, hlo2, hlo3⟩; clear HK; have hB2 := hw1.trans (hw2.mono hw1.size); clear hw2 h3)
    | (with_reducible refine at_list ?_; first
      | (refine wpList_boxRow (op := ⟨some 3, _, _, _, _, _⟩) rfl _ _ rfl _ rfl ?_; intro w1 hw1 hs1 h3; clear hs1)
      | (refine wpList_loadRow (op := ⟨some 5, _, _, _, _, _⟩) rfl _ _ rfl w.heap.size rfl _ _ h3 _ Tryz.underlying53 rfl (bk_info _ _ _ _ _ _) ?_)
      | (refine wpList_allocRow (op := ⟨some 4, _, _, _, _, _⟩) rfl _ rfl _ zBlk.1 ?_; intro w3 hw3 hs3 h4; clear hs3; have hB3 := hB2.trans (hw3.mono hB2.size); replace hCB := hCB.below hw3; replace hGx := hGx.below hw3; replace hTx := hTx.below hw3; clear hw3)
      | (refine wpList_storeRow (op := ⟨none, .store 53 (.tmp 4) (.tmp 6), _, _, _, _⟩) rfl _ _ _ rfl w2.heap.size (bk h p t s (.slice (some ⟨gm, 0, none⟩) mem.length cm2) (.slice a2 txs.length cap2)) rfl rfl _ _ h4 (by simp only [bk_size]) (bk_info _ _ _ _ _ _) (bk_one _ _ _ _ _ _ _ _ _ _) ?_; intro w4 hg4 hs4 h4b; clear hs4; have hst4 : Stay w3 w4 := Stay.of_own (Own.of_grown hg4) (fun i _ e => (by obtain rfl := Option.some.inj e; exact ⟨_, _, _, h4.out, by decide, by decide, by decide⟩)); replace hCB := hCB.stay hst4; replace hGx := GLtx.stay hGx hst4; replace hTx := hTx.stay hst4; have hB4 := hB3.trans (below_of_grown hg4 hB2.size hB3.size); clear hg4 h4 hB3 hst4)))
  obtain ⟨B4, hB4e⟩ : ∃ y, y = w2.heap.size := ⟨_, rfl⟩
  rw [← hB4e] at h4b ⊢
  have hB4w : w.heap.size ≤ B4 := by rw [hB4e]; exact hB2.size
  clear hB4e hB2 hw1
  have hC4 := hC.belowSize hB4
  have hGL4 := hGL.below hB4
  have hN4 : N ≤ w4.drew.heap.size := Nat.le_trans hN.2 (Nat.le_of_lt hC4.lt)
  have hH := And.intro hC4.drew h4b.drew
  try go_frame
  go_cut [] from 7 to 16 (fun wx => ∃ sl1 dls1, Hid (dls1 = dls ++ [(bk h p t s (.slice (some ⟨gm, 0, none⟩) mem.length cm2) (.slice a2 txs.length cap2)).toList]) ∧ Blk wx bc (chC name sf ht hash sm bs bt sl1) 103 ∧ Sh.GL wx 53 6 N sl1 dls1 ∧ Own (fun i => i = bc ∨ some i = Sh.slBlk sl) w4 wx ∧ Blk wx B4 (bk h p t s (.slice (some ⟨gm, 0, none⟩) mem.length cm2) (.slice a2 txs.length cap2)) 53 ∧ (∀ r, Sh.slBlk sl1 = some r → Sh.slBlk sl = some r ∨ w.heap.size ≤ r))
  case first =>
    refine Sh.wp_region_L (S := fun w' : World => Blk w' bc (chC name sf ht hash sm bs bt sl) 103 ∧ Blk w' B4 (bk h p t s (.slice (some ⟨gm, 0, none⟩) mem.length cm2) (.slice a2 txs.length cap2)) 53) (z := 10) (by kernel_rfl) ?_
    refine Sh.wpAnyL_take (i := 0) (oi := ⟨some 7, _, _, _, _, _⟩) (v := .pointer (some ⟨bc, 0, none⟩)) rfl (by kernel_rfl) (by kernel_rfl) (by kernel_rfl) (by kernel_rfl) (fun _ _ _ h => h) (Or.inl ⟨by rfl, fun w hSw => by go_simp⟩) hH ?_
    try simp only [Act.put, List.setIfInBounds_toArray, List.set_cons_zero, List.set_cons_succ]
    refine Sh.wpAnyL_take (i := 1) (oi := ⟨some 8, _, _, _, _, _⟩) (v := .pointer (some ⟨bc, 0, none⟩)) rfl (by kernel_rfl) (by kernel_rfl) (by kernel_rfl) (by kernel_rfl) (fun _ _ _ h => h) (Or.inl ⟨by rfl, fun w hSw => by go_simp⟩) hH ?_
    try simp only [Act.put, List.setIfInBounds_toArray, List.set_cons_zero, List.set_cons_succ]
    refine Sh.wpAnyL_take (i := 2) (oi := ⟨some 9, _, _, _, _, _⟩) (v := .pointer (some ⟨bc, 0, none⟩)) rfl (by kernel_rfl) (by kernel_rfl) (by kernel_rfl) (by kernel_rfl) (fun _ _ _ h => h) (Or.inl ⟨by rfl, fun w hSw => by go_simp⟩) hH ?_
    try simp only [Act.put, List.setIfInBounds_toArray, List.set_cons_zero, List.set_cons_succ]
    refine Sh.wpAnyL_take (i := 3) (oi := ⟨some 10, _, _, _, _, _⟩) (v := .pointer (some ⟨bc, 7, none⟩)) rfl (by kernel_rfl) (by kernel_rfl) (by kernel_rfl) (by kernel_rfl) (fun _ _ _ h => h) (Or.inl ⟨by rfl, fun w hSw => by go_simp⟩) hH ?_
    try simp only [Act.put, List.setIfInBounds_toArray, List.set_cons_zero, List.set_cons_succ]
    refine Sh.wpAnyL_take (i := 4) (oi := ⟨some 11, _, _, _, _, _⟩) (v := sl) rfl (by kernel_rfl) (by kernel_rfl) (by kernel_rfl) (by kernel_rfl) (fun _ _ _ h => h) (Or.inl ⟨by rfl, fun w hSw => run_loadCellB _ _ rfl _ 7 rfl _ _ hSw.1 _ Tryz.underlying101 rfl _ (chC_g7 _ _ _ _ _ _ _ _)⟩) hH ?_
    try simp only [Act.put, List.setIfInBounds_toArray, List.set_cons_zero, List.set_cons_succ]
    refine Sh.wpAnyL_take (i := 5) (oi := ⟨some 12, _, _, _, _, _⟩) (v := .agg (bk h p t s (.slice (some ⟨gm, 0, none⟩) mem.length cm2) (.slice a2 txs.length cap2))) rfl (by kernel_rfl) (by kernel_rfl) (by kernel_rfl) (by kernel_rfl) (fun _ _ _ h => h) (Or.inl ⟨by rfl, fun w hSw => run_loadMid _ _ rfl _ 0 rfl _ hSw.2.rangeAll _ Tryz.underlying53 rfl (bk_info _ _ _ _ _ _)⟩) hH ?_
    try simp only [Act.put, List.setIfInBounds_toArray, List.set_cons_zero, List.set_cons_succ]
    refine Sh.wpAnyL_solo (i := 6) (o := ⟨some 13, _, _, _, _, _⟩) rfl (by kernel_rfl) (fun K hK => ?_)
    refine wpList_run rfl _ _ (run_bslBk _ rfl _ _ _ _ _ _ _ _ _ _ rfl) ?_
    have hwA : Below w4.drew.heap.size w4.drew (w4.drew.alloc (.cells (bk h p t s (.slice (some ⟨gm, 0, none⟩) mem.length cm2) (.slice a2 txs.length cap2)) 53)) := (Below.refl _ _).alloc (Nat.le_refl _) _
    have hbA : Blk (w4.drew.alloc (.cells (bk h p t s (.slice (some ⟨gm, 0, none⟩) mem.length cm2) (.slice a2 txs.length cap2)) 53)) w4.drew.heap.size (bk h p t s (.slice (some ⟨gm, 0, none⟩) mem.length cm2) (.slice a2 txs.length cap2)) 53 := Blk.new _ _ _
    have hH2 := And.intro (hH.1.belowSize hwA) (hH.2.belowSize hwA)
    refine hK _ _ (fun _ => hH2) ?_
    clear hK K
    generalize w4.drew.alloc (.cells (bk h p t s (.slice (some ⟨gm, 0, none⟩) mem.length cm2) (.slice a2 txs.length cap2)) 53) = wA at *
    try simp only [Act.put, List.setIfInBounds_toArray, List.set_cons_zero, List.set_cons_succ]
    refine Sh.wpAnyL_solo (i := 7) (o := ⟨some 14, _, _, _, _, _⟩) rfl (by kernel_rfl) (fun K hK => ?_)
    refine Sh.wpList_appendGLR rfl _ _ _ _ rfl 6 N sl dls (Nat.le_trans hN4 hwA.size) rfl (hGL4.drew.below hwA) _ 1 rfl (bk h p t s (.slice (some ⟨gm, 0, none⟩) mem.length cm2) (.slice a2 txs.length cap2)).toList rfl (bk_all _ _ _ _ _ _ _ _ _ _) _ (Blk.sh hbA) ie _ rfl Tryz.underlying101 ei ez es eb hdl ?_
    intro wB sl1 hgB hG1 hrow
    have hr1 : some bc ≠ Sh.slBlk sl := fun e => hGL4.ne (Blk.sh hC4) (.inl (by decide)) bc e.symm rfl
    have hr2 : some B4 ≠ Sh.slBlk sl := fun e => by have := (hGL.lt B4 e.symm).2; omega
    have hH3 := And.intro (hH2.1.grown hgB hr1) (hH2.2.grown hgB hr2)
    refine hK _ _ (fun _ => hH3) ?_
    clear hK K
    obtain ⟨sb, sbc, rfl, _⟩ := hG1.sl
    try simp only [Act.put, List.setIfInBounds_toArray, List.set_cons_zero, List.set_cons_succ]
    refine Sh.wpAnyL_solo (i := 8) (o := ⟨some 15, _, _, _, _, _⟩) rfl (by kernel_rfl) (fun K hK => ?_)
    refine wpList_pure rfl (.pointer (some ⟨bc, 0, none⟩)) (by go_simp) ?_
    refine hK _ _ (fun _ => hH3) ?_
    clear hK K
    try simp only [Act.put, List.setIfInBounds_toArray, List.set_cons_zero, List.set_cons_succ]
    refine Sh.wpAnyL_solo (i := 9) (o := ⟨some 16, _, _, _, _, _⟩) rfl (by kernel_rfl) (fun K hK => ?_)
    refine wpList_pure rfl (.pointer (some ⟨bc, 7, none⟩)) (by go_simp) ?_
    refine hK _ _ (fun _ => hH3) ?_
    clear hK K
    try simp only [Act.put, List.setIfInBounds_toArray, List.set_cons_zero, List.set_cons_succ]
    refine Sh.wpAnyL_solo (i := 10) (o := ⟨none, _, _, _, _, _⟩) rfl (by kernel_rfl) (fun K hK => ?_)
    refine wpList_storeCell rfl _ _ _ rfl bc 7 rfl (.slice sb (dls ++ [(bk h p t s (.slice (some ⟨gm, 0, none⟩) mem.length cm2) (.slice a2 txs.length cap2)).toList]).length sbc) rfl _ _ hH3.1 (by kernel_rfl) rfl rfl (by rw [chC_size]; decide) ?_
    intro wC hgC hsC hbC
    clear hsC
    rw [chC_set7] at hbC
    refine hK _ _ (fun e => absurd rfl e) ?_
    clear hK K
    refine Sh.wpAnyL_done (by kernel_rfl) ?_ _
    simp only [Act.put]
    go_simp
    go_wp2_with fail
    go_meet
    case rel =>
      have ho1 : Own (fun i => i = bc ∨ some i = Sh.slBlk sl) w4 wA := Own.of_below ((Below.refl w4.heap.size w4).drew.trans hwA)
      have hbl : B4 ≠ bc := fun e => by omega
      refine ⟨_, _, rfl, hbC, hG1.grown hgC (hG1.ne (Blk.sh hH3.1) (.inl (by decide))), (ho1.trans (Own.of_grown hgB) (fun i _ e => .inr e)).trans (Own.of_grown hgC) (fun i _ e => .inl (Option.some.inj e)), hH3.2.grown hgC (fun e => hbl (Option.some.inj e)), fun r hr => ?_⟩
      rcases hrow r hr with h1 | h1
      · exact .inl h1
      · exact .inr (Nat.le_trans hB4.size (Nat.le_trans hwA.size h1))
  case rest =>
    obtain ⟨sl1, dls1, hd1, hbC, hG1, hO, hB4c, hrow⟩ := hcut
    clear hH hC4 hGL4 hN4
    have hst : Stay w4 wc := Stay.of_own hO (fun i hi e => by
      rcases e with rfl | e
      · exact ⟨_, _, _, (hC.belowSize hB4).out, by decide, by decide, by decide⟩
      · rcases (hGL.below hB4).2 with ⟨_, rfl⟩ | ⟨g, cp, h4, rfl, h5⟩
        · cases e
        · obtain ⟨cur, h6, _⟩ := h5.out
          obtain rfl : i = g := by simpa [Sh.slBlk] using e
          exact ⟨_, _, _, h6, by decide, by decide, by decide⟩)
    have hCBC := hCB.stay hst
    have hGC : Sh.Glob wc := (hG.belowSize hB4).below (hO.below (N := 2) (fun i _ e => by
      rcases e with rfl | e
      · omega
      · have := ((hGL.below hB4).lt i e.symm).1; omega) (Nat.le_trans hG.two hB4.size)) (Nat.le_refl _)
    have hGxC := GLtx.stay hGx hst
    have hTxC := hTx.stay hst
    have hJ := And.intro hbC.drew hB4c.drew
    have hOw := (Own.of_below (O := fun i => i = bc ∨ some i = Sh.slBlk sl) hB4).trans hO (fun i _ e => e)
    clear hO hst
    go_upto_region 3 with fail
    try go_frame
    refine Sh.wp_region_L (S := fun w' : World => Blk w' bc (chC name sf ht hash sm bs bt sl1) 103 ∧ Blk w' B4 (bk h p t s (.slice (some ⟨gm, 0, none⟩) mem.length cm2) (.slice a2 txs.length cap2)) 53) (z := 13) (by kernel_rfl) ?_
    refine Sh.wpAnyL_take (i := 0) (oi := ⟨some 17, _, _, _, _, _⟩) (v := .pointer (some ⟨bc, 0, none⟩)) rfl (by kernel_rfl) (by kernel_rfl) (by kernel_rfl) (by kernel_rfl) (fun _ _ _ h => h) (Or.inl ⟨by rfl, fun w hSw => by go_simp⟩) hJ ?_
    try simp only [Act.put, List.setIfInBounds_toArray, List.set_cons_zero, List.set_cons_succ]
    refine Sh.wpAnyL_take (i := 1) (oi := ⟨some 18, _, _, _, _, _⟩) (v := .pointer (some ⟨B4, 0, none⟩)) rfl (by kernel_rfl) (by kernel_rfl) (by kernel_rfl) (by kernel_rfl) (fun _ _ _ h => h) (Or.inl ⟨by rfl, fun w hSw => by go_simp⟩) hJ ?_
    try simp only [Act.put, List.setIfInBounds_toArray, List.set_cons_zero, List.set_cons_succ]
    refine Sh.wpAnyL_take (i := 2) (oi := ⟨some 19, _, _, _, _, _⟩) (v := .pointer (some ⟨B4, 0, none⟩)) rfl (by kernel_rfl) (by kernel_rfl) (by kernel_rfl) (by kernel_rfl) (fun _ _ _ h => h) (Or.inl ⟨by rfl, fun w hSw => by go_simp⟩) hJ ?_
    try simp only [Act.put, List.setIfInBounds_toArray, List.set_cons_zero, List.set_cons_succ]
    refine Sh.wpAnyL_take (i := 3) (oi := ⟨some 20, _, _, _, _, _⟩) (v := .int .u64 (h : Nat)) rfl (by kernel_rfl) (by kernel_rfl) (by kernel_rfl) (by kernel_rfl) (fun _ _ _ h => h) (Or.inl ⟨by rfl, fun w hSw => run_loadCellB _ _ rfl _ 0 rfl _ _ hSw.2 _ Tryz.underlying36 rfl _ (bk_g0 _ _ _ _ _ _)⟩) hJ ?_
    try simp only [Act.put, List.setIfInBounds_toArray, List.set_cons_zero, List.set_cons_succ]
    refine Sh.wpAnyL_take (i := 4) (oi := ⟨some 21, _, _, _, _, _⟩) (v := .pointer (some ⟨B4, 0, none⟩)) rfl (by kernel_rfl) (by kernel_rfl) (by kernel_rfl) (by kernel_rfl) (fun _ _ _ h => h) (Or.inl ⟨by rfl, fun w hSw => by go_simp⟩) hJ ?_
    try simp only [Act.put, List.setIfInBounds_toArray, List.set_cons_zero, List.set_cons_succ]
    refine Sh.wpAnyL_take (i := 5) (oi := ⟨some 22, _, _, _, _, _⟩) (v := .agg (hA h p t s (.slice (some ⟨gm, 0, none⟩) mem.length cm2))) rfl (by kernel_rfl) (by kernel_rfl) (by kernel_rfl) (by kernel_rfl) (fun _ _ _ h => h) (Or.inl ⟨by rfl, fun w hSw => run_loadMid _ _ rfl _ 0 rfl _ (bk_head hSw.2) _ Tryz.underlying50 rfl (hA_info _ _ _ _ _)⟩) hJ ?_
    try simp only [Act.put, List.setIfInBounds_toArray, List.set_cons_zero, List.set_cons_succ]
    refine Sh.wpAnyL_take (i := 7) (oi := ⟨some 24, _, _, _, _, _⟩) (v := .pointer (some ⟨B4, 0, none⟩)) rfl (by kernel_rfl) (by kernel_rfl) (by kernel_rfl) (by kernel_rfl) (fun _ _ _ h => h) (Or.inl ⟨by rfl, fun w hSw => by go_simp⟩) hJ ?_
    try simp only [Act.put, List.setIfInBounds_toArray, List.set_cons_zero, List.set_cons_succ]
    refine Sh.wpAnyL_take (i := 8) (oi := ⟨some 25, _, _, _, _, _⟩) (v := .pointer (some ⟨B4, 4, none⟩)) rfl (by kernel_rfl) (by kernel_rfl) (by kernel_rfl) (by kernel_rfl) (fun _ _ _ h => h) (Or.inl ⟨by rfl, fun w hSw => by go_simp⟩) hJ ?_
    try simp only [Act.put, List.setIfInBounds_toArray, List.set_cons_zero, List.set_cons_succ]
    refine Sh.wpAnyL_take (i := 9) (oi := ⟨some 26, _, _, _, _, _⟩) (v := .slice (some ⟨gm, 0, none⟩) mem.length cm2) rfl (by kernel_rfl) (by kernel_rfl) (by kernel_rfl) (by kernel_rfl) (fun _ _ _ h => h) (Or.inl ⟨by rfl, fun w hSw => run_loadCellB _ _ rfl _ 4 rfl _ _ hSw.2 _ Tryz.underlying22 rfl _ (bk_g4 _ _ _ _ _ _)⟩) hJ ?_
    try simp only [Act.put, List.setIfInBounds_toArray, List.set_cons_zero, List.set_cons_succ]
    refine Sh.wpAnyL_solo (i := 6) (o := ⟨some 23, _, _, _, _, _⟩) rfl (by kernel_rfl) (fun K hK => ?_)
    refine wpList_callR Tryz.func109 (by kernel_rfl) (by kernel_rfl) rfl _ _ rfl #[.agg (hA h p t s (.slice (some ⟨gm, 0, none⟩) mem.length cm2))] (args1 rfl) _ (HH gm cm2 _ hCBC.drew.ia hGC.drew) ?_
    rintro e wD ⟨rfl, hwD⟩
    have hJ2 := And.intro (hJ.1.belowSize hwD) (hJ.2.belowSize hwD)
    refine ⟨_, rfl, ?_⟩
    refine hK _ _ (fun _ => hJ2) ?_
    clear hK K
    try simp only [Act.put, List.setIfInBounds_toArray, List.set_cons_zero, List.set_cons_succ]
    refine Sh.wpAnyL_take (i := 10) (oi := ⟨some 27, _, _, _, _, _⟩) (v := .agg (tpC h hd (.slice (some ⟨gm, 0, none⟩) mem.length cm2))) rfl (by kernel_rfl) (by kernel_rfl) (by kernel_rfl) (by kernel_rfl) (fun _ _ _ h => h) (Or.inl ⟨by rfl, fun w hSw => run_built3 _ 0 1 2 _ _ _ rfl (.int .u64 (h : Nat)) (.string ⟨hd.toArray⟩) (.slice (some ⟨gm, 0, none⟩) mem.length cm2) rfl rfl rfl _ (builtTip3 h hd _ _ _)⟩) hJ2 ?_
    try simp only [Act.put, List.setIfInBounds_toArray, List.set_cons_zero, List.set_cons_succ]
    refine Sh.wpAnyL_solo (i := 11) (o := ⟨some 28, _, _, _, _, _⟩) rfl (by kernel_rfl) (fun K hK => ?_)
    refine wpList_pure rfl (.pointer (some ⟨bc, 0, none⟩)) (by go_simp) ?_
    refine hK _ _ (fun _ => hJ2) ?_
    clear hK K
    try simp only [Act.put, List.setIfInBounds_toArray, List.set_cons_zero, List.set_cons_succ]
    refine Sh.wpAnyL_solo (i := 12) (o := ⟨some 29, _, _, _, _, _⟩) rfl (by kernel_rfl) (fun K hK => ?_)
    refine wpList_pure rfl (.pointer (some ⟨bc, 2, none⟩)) (by go_simp) ?_
    refine hK _ _ (fun _ => hJ2) ?_
    clear hK K
    try simp only [Act.put, List.setIfInBounds_toArray, List.set_cons_zero, List.set_cons_succ]
    refine Sh.wpAnyL_solo (i := 13) (o := ⟨none, _, _, _, _, _⟩) rfl (by kernel_rfl) (fun K hK => ?_)
    refine wpList_storePart rfl _ _ _ rfl bc 2 (tpC h hd (.slice (some ⟨gm, 0, none⟩) mem.length cm2)) rfl rfl _ _ hJ2.1 (by rw [chC_size, tpC_size]; decide) (tpC_info _ _ _) (tpC_one _ _ _ _ _) ?_
    intro wE hgE hsE hbE
    clear hsE
    rw [chC_spl] at hbE
    refine hK _ _ (fun e => absurd rfl e) ?_
    clear hK K
    refine Sh.wpAnyL_done (by kernel_rfl) ?_ _
    simp only [Act.put]
    go_simp
    go_wp2_with fail
    have hD0 : Below wc.heap.size wc wD := (Below.refl wc.heap.size wc).drew.trans hwD
    have hstE : Stay wD wE := Stay.of_own (Own.of_grown hgE) (fun i _ e => (by obtain rfl := Option.some.inj e; exact ⟨_, _, _, hJ2.1.out, by decide, by decide, by decide⟩))
    refine bodyPost_end (results_none rfl _ _ _) rfl ⟨rfl, sl1, gm, cm2, _, hbE, (hCBC.below hD0).stay hstE, ?_, ⟨gm, cm2, lo2, a2, cap2, dl2, rfl, (hCBC.below hD0).stay hstE, GLtx.stay (hGxC.below hD0) hstE, (hTxC.below hD0).stay hstE⟩, (hOw.trans (Own.of_below hD0) (fun i _ e => e)).trans (Own.of_grown hgE) (fun i _ e => .inl (Option.some.inj e)), hrow⟩
    have := (hG1.below hD0).grown hgE ((hG1.below hD0).ne (Blk.sh hJ2.1) (.inl (by decide)))
    rw [hd1.out] at this
    exact this
end Go.Proofs.YtmbdhngoldganaaGreatDoor
namespace Go.Proofs.YtmbdhngoldganaaGreatDoor
open Go Go.RowKit
theorem EX.own {O : Nat → Prop} {w w' : World} {bs bt : Nat} {m : List KV} {t : Tr} (h : EX w bs bt m t) (k : Own O w w') (hO : ∀ i, i < w.heap.size → O i → 2 ≤ i ∧ ∃ c u fr, w.heap[i]? = some (.cells c u fr) ∧ u ≠ 167 ∧ u ≠ 215 ∧ u ≠ 196) : EX w' bs bt m t := by
  have hk : ∀ (i : Nat) d u fr, w.heap[i]? = some (Obj.cells d u fr) → u = 167 ∨ u = 215 ∨ u = 196 → w'.heap[i]? = some (Obj.cells d u fr) := fun i d u fr h1 a1 => by
    have hi : i < w.heap.size := (Array.getElem?_eq_some_iff.1 h1).1
    refine (k.block i hi (fun e => ?_)).trans h1
    obtain ⟨_, d', u', fr', h3, h4, h5, h6⟩ := hO i hi e
    rw [h1] at h3
    simp only [Option.some.injEq, Obj.cells.injEq] at h3
    obtain ⟨_, rfl, _⟩ := h3
    rcases a1 with a1 | a1 | a1
    · exact h4 a1
    · exact h5 a1
    · exact h6 a1
  refine ⟨?_, ?_, h.glob.below (k.below (N := 2) (fun i hi e => (hO i hi e).1) h.glob.two) (Nat.le_refl _), h.two⟩
  · obtain ⟨mb, h1, h2⟩ := h.st.out
    refine ⟨⟨mb, ⟨hk _ _ _ _ h1.out (.inl rfl)⟩, ?_⟩⟩
    obtain ⟨es, clock, k1, k2⟩ := h2
    have hi : mb < w.heap.size := (Array.getElem?_eq_some_iff.1 k1).1
    refine ⟨es, clock, (k.block mb hi (fun e => ?_)).trans k1, k2⟩
    obtain ⟨_, d', u', fr', h3, _⟩ := hO mb hi e
    rw [k1] at h3
    cases h3
  · obtain ⟨q, h1, h2⟩ := h.tr
    exact ⟨q, Blk.sh ⟨hk _ _ _ _ (Blk.of_sh h1).out (.inr (.inl rfl))⟩, h2.keep fun i d h3 => Blk.sh ⟨hk i d _ _ (Blk.of_sh h3).out (.inr (.inr rfl))⟩⟩
theorem GLown {O : Nat → Prop} {w w' : World} {u : TypeId} {k lo : Nat} {sl : Value} {ls : List (List Value)} (h : Sh.GL w u k lo sl ls) (hk : Own O w w') (hO : ∀ r, Sh.slBlk sl = some r → ¬ O r) : Sh.GL w' u k lo sl ls := by
  refine ⟨h.1, ?_⟩
  rcases h.2 with h2 | ⟨g, cap, h2, h3, h4⟩
  · exact .inl h2
  · obtain ⟨cur, k1, k2⟩ := h4.out
    exact .inr ⟨g, cap, h2, h3, ⟨cur, (hk.block g (Array.getElem?_eq_some_iff.1 k1).1 (hO g (by rw [h3]; rfl))).trans k1, k2⟩⟩
theorem GLtyped {w : World} {u : TypeId} {k lo : Nat} {sl : Value} {ls : List (List Value)} (h : Sh.GL w u k lo sl ls) {r : Nat} (hr : Sh.slBlk sl = some r) : ∃ cur, Blk w r cur u := by
  rcases h.2 with ⟨_, rfl⟩ | ⟨g, cap, h2, rfl, h4⟩
  · cases hr
  · obtain ⟨cur, k1, k2⟩ := h4.out
    obtain rfl : g = r := Option.some.inj hr
    exact ⟨cur, ⟨k1⟩⟩
/-- Something else is written. -/
theorem CH.local {w w' : World} {N cb bs bt : Nat} {sl : Value} {c : CN} {B : Nat} {d : Array Value} {u : TypeId} (h : CH w N cb bs bt sl c) (hg : w.grownBy w' (some B)) (hB : Blk w B d u) (h2 : 2 ≤ B)
    (hu : u ≠ 103 ∧ u ≠ 167 ∧ u ≠ 215 ∧ u ≠ 196 ∧ u ≠ 3 ∧ u ≠ 95 ∧ u ≠ 97) (hr : Sh.slBlk sl ≠ some B) : CH w' N cb bs bt sl c := by
  obtain ⟨u1, u2, u3, u4, u5, u6, u7⟩ := hu
  have hst : Stay w w' := Stay.of_own (Own.of_grown hg) (fun i _ e => (by obtain rfl := Option.some.inj e; exact ⟨_, _, _, hB.out, u5, u6, u7⟩))
  obtain ⟨gf, cf, gm, cm, h3, h4, h5⟩ := h.blk
  obtain ⟨dls, h6, h7⟩ := h.kept
  exact ⟨⟨gf, cf, gm, cm, h3.grown hg (fun e => h3.neT hB (Ne.symm u1) (Option.some.inj e)), h4.stay hst, h5.stay hst⟩, h.ex.other hg hB u2 u3 (Ne.symm u4) h2, ⟨dls, h6.grown hg (fun r h8 e => hr (by rw [h8]; exact e)), h7.stay hst⟩, h.low⟩
/-- A block's cells, and its memory. -/
def bkv (b : BK) (gm cm : Nat) (a : Option Addr) (cap : Nat) : Array Value := bk b.h.height b.h.prev b.h.txr b.h.str (.slice (some ⟨gm, 0, none⟩) b.h.mem.length cm) (.slice a b.txs.length cap)
structure AB (w : World) (gm : Nat) (a : Option Addr) (cap : Nat) (b : BK) : Prop where
  cb : CB w gm b.h.mem
  tx : ∃ lo dls, Sh.GL w 95 3 lo (.slice a b.txs.length cap) dls ∧ TXL w 0 97 dls b.txs
theorem AB.stay {w w' : World} {gm : Nat} {a : Option Addr} {cap : Nat} {b : BK} (h : AB w gm a cap b) (k : Stay w w') : AB w' gm a cap b := by
  obtain ⟨lo, dls, h1, h2⟩ := h.tx
  exact ⟨h.cb.stay k, lo, dls, GLtx.stay h1 k, h2.stay k⟩
theorem AB.ta {w : World} {gm : Nat} {a : Option Addr} {cap : Nat} {b : BK} (h : AB w gm a cap b) : TA w a b.txs := by
  obtain ⟨lo, dls, h1, h2⟩ := h.tx
  obtain ⟨a', cap', e, h3⟩ := TXL.ta h1 h2
  simp only [Value.slice.injEq] at e
  rw [e.1]
  exact h3
/-- The block of a batch, behind a chain; the chain behind it. -/
def nxM (c : CN) (b : BT) : List Int := if b.conf = true then b.mem else c.mem
def mkB (c : CN) (b : BT) : BK := ⟨hMk c.m c.t b.txs (c.ht + 1) c.hash (nxM c b), exD c.m b.txs⟩
def nextC (c : CN) (b : BT) : CN := ⟨c.name, c.first, c.ht + 1, hD (mkB c b).h, nxM c b, exS c.m b.txs, exR c.m c.t b.txs, c.kept ++ [mkB c b]⟩
theorem hD_len (h : HH) : (hD h).length = 32 := Sh.digest_length _
theorem nxM_ok {c : CN} {b : BT} (hb : chkB b = 0) (hm : okM c.mem = true) : okM (nxM c b) = true := by
  obtain ⟨l, cf, bn⟩ := b
  exact mem_of_chk hb hm
theorem mkB_head {c : CN} {b : BT} (hc : OkC c) (hb : chkB b = 0) : OkH (mkB c b).h := ⟨Nat.succ_ne_zero _, hc.hash, root_len _ Sh.digest_length _, Sh.hashT_len _, okM_iff.1 (nxM_ok hb hc.mem)⟩
theorem mkB_txs {c : CN} {b : BT} (hb : chkB b = 0) : (∀ x ∈ (mkB c b).txs, okTx x = true) ∧ (mkB c b).txs.length ≤ 16 := by
  obtain ⟨h1, h2, _, _⟩ := chkB_zero hb
  exact ⟨fun x hx => h1 x (exD_mem hx), Nat.le_trans (exD_len _ _) h2⟩
theorem nextC_ok {c : CN} {b : BT} (hc : OkC c) (hb : chkB b = 0) (hh : c.ht + 1 < 18446744073709551616) : OkC (nextC c b) :=
  ⟨hc.first, nxM_ok hb hc.mem, hD_len _, hc.name, hc.sz.exS _, (exR_ok (chkB_zero hb).1 hc.canon).1, hh, by
    show (c.kept ++ [mkB c b]).length ≤ c.ht + 1
    rw [List.length_append]
    exact Nat.succ_le_succ hc.kept⟩
theorem nextC_cnt {c : CN} {b : BT} (hc : OkC c) (hb : chkB b = 0) : (nextC c b).t.cnt ≤ c.t.cnt + 144 := by
  obtain ⟨h1, h2, _, _⟩ := chkB_zero hb
  have := (exR_ok (m := c.m) h1 hc.canon).2
  show (exR c.m c.t b.txs).cnt ≤ _
  omega
end Go.Proofs.YtmbdhngoldganaaGreatDoor
