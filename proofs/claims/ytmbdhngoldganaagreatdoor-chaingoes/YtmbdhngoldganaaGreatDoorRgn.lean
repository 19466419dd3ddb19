/- What Make does: a block is made. What awake of the block's law does. A region that draws its order, whatever it holds: each operation leaves a value with a property; whatever the order, behind the region each has its own. -/
import Derived.Test.YtmbdhngoldganaaGreatDoorMka
import Derived.Deep.Cut
import Derived.Test.YtmbdhngoldganaaGreatDoorRow
import Derived.RegionTactic
namespace Go.Proofs.YtmbdhngoldganaaGreatDoor
open Go Go.RowKit
set_option maxRecDepth 100000 in
set_option maxHeartbeats 4000000 in
theorem make_txs (l : List TX) (hok : ∀ x ∈ l, okTx x = true) (hl : l.length ≤ 16) (p : List UInt8) (hp : p.length = 32) (ht : Nat) (hh : ht ≠ 0) (mem mn : List Int) (hm : okM mem = true) (hc : chkB ⟨l, false, mn⟩ = 0) (am an : Option Addr) (cm cn : Nat) (bs bt : Nat) (m : List KV) (t : Tr) (a : Option Addr) (cap : Nat) (w : World) (hE : EX w bs bt m t) (hS : Sz m) (hC : Tr.Canon 0 t) (hn : t.cnt ≤ 3300) (hT : TA w a l) (hI : IA w am mem) (hI2 : IA w an mn) :
    Calls Tryz.prog 59 #[.string ⟨p.toArray⟩, .int .u64 (ht : Nat), .slice am mem.length cm, .pointer (some ⟨bs, 0, none⟩), .pointer (some ⟨bt, 0, none⟩), .agg (bc (.slice a l.length cap) false (.slice an mn.length cn))] w (MkP w bs bt m t ht p l mem) := by
  have HK := fun w1 (h : TA w1 a l) (k : IA w1 an mn) => checkB_any ⟨l, false, mn⟩ a an cap cn w1 h k
  have HP := fun w1 (h : IA w1 am mem) => place_any p ht mem am cm (some ⟨bs, 0, none⟩) (some ⟨bt, 0, none⟩) w1 h
  have hpl : plE (some ⟨bs, 0, none⟩) (some ⟨bt, 0, none⟩) ht p mem = 0 := if_neg (by simp [hh, hp, hm])
  rw [hc] at HK
  rw [hpl] at HP
  clear hc hpl
  have HX := fun w1 (h1 : EX w1 bs bt m t) (h2 : TA w1 a l) => exec_any l hok hl bs bt m t a cap false an mn.length cn w1 h1 hS hC hn h2
  have hokD : ∀ x ∈ exD m l, okTx x = true := fun x hx => hok x (exD_mem hx)
  have hlD : (exD m l).length ≤ 16 := Nat.le_trans (exD_len m l) hl
  have HR := fun a cap w1 (h1 : TA w1 a (exD m l)) (h2 : Sh.Glob w1) => txRoot_any (exD m l) hokD hlD a cap w1 h1 h2
  have HT := fun q w1 (h1 : Sh.Blk w1 bt #[.pointer q] 215) (h2 : Sh.HF w1 (exR m t l) q) => Sh.troot_any bt q (exR m t l) w1 h1 h2
  obtain ⟨hm0, hm1⟩ := okM_pos hm
  have HCl := fun w1 (h : IA w1 am mem) => scloneI_any am mem cm w1 h hm0 (by omega)
  have h2w := hE.glob.two
  have hbs := hE.lts
  have hbt := hE.ltt
  unfold MkP
  unfold ExP at HX
  clear hok hl hokD hlD hm1 hp hh hm
  generalize rootD Sh.digest (bys (exD m l)) = tr at *
  generalize (exR m t l).hash Sh.TgD = sr at *
  generalize exR m t l = t' at *
  generalize exS m l = m' at *
  generalize exD m l = D at *
  generalize exE m l = Er at *
  go_enter Tryz.func59, Tryz.ntmps59
  go_upto_region 11 with (first
    | (go_at_call 104; refine (HK _ (hT.below hB) (hI2.below hB)).mono ?_; rintro e w3 ⟨rfl, hw3⟩; clear HK; have hz3 := hw3.size; replace h11 := h11.belowSize hw3; replace h12 := h12.belowSize hw3; replace hB := hB.trans (hw3.mono hB.size); have c1 := (h11.cell 1).trans (bc_g1 _ _ _); have c2 := (h11.cell 2).trans (bc_g2 _ _ _))
    | (go_at_call 105; refine (HP _ (hI.below hB)).mono ?_; rintro e w' ⟨rfl, hw'⟩; have hw6 := hw'.symm; subst hw6; clear HP hw')
    | (go_at_call 106; refine (HX _ (hE.below hB) (hT.below hB)).mono ?_; rintro e w4 ⟨lo, sd, st, dls, rfl, hD⟩; clear HX c1 c2 h11; have hIx := (hI.below hB).two hD.two (hE.below hB); replace h12 := h12.two hD.two (by omega) (by omega); have hlw : w3.heap.size ≤ lo := hD.lo1; have hl12 : w1.heap.size < lo := (by omega); replace hD := hD.start hB h2w; obtain ⟨ad, capd, rfl, hTA⟩ := TXL.ta hD.dn hD.tx)
    | (go_at_call 107; refine (HR _ _ _ hTA hD.ex.glob).mono ?_; rintro e w5 ⟨rfl, hw5⟩; clear HR hTA; replace hD := hD.below hw5; replace h12 := h12.belowSize hw5; replace hIx := hIx.below hw5; clear hw5; obtain ⟨q, hq1, hq2⟩ := hD.ex.tr)
    | (go_at_call 108; refine (HT _ _ hq1 hq2).mono ?_; rintro e w6 ⟨rfl, hw6⟩; clear HT hq1 hq2; replace hD := hD.below hw6; replace h12 := h12.belowSize hw6; replace hIx := hIx.below hw6; clear hw6)
    | (go_at_call 54; refine (HCl _ hIx).mono ?_; rintro e w7 ⟨gm, cg, rfl, hgm, hw7, hCB⟩; clear HCl hIx; have hgm2 := Nat.le_trans hD.two.size hgm; have hl7 := hCB.lt; replace hD := hD.below hw7; replace h12 := h12.belowSize hw7; clear hw7)
    | (with_reducible refine at_list ?_; first
      | (refine wpList_boxRow (op := ⟨some 11, _, _, _, _, _⟩) rfl _ _ rfl _ rfl ?_; intro w1 hw1 hs1 h11; replace hs1 := hs1.symm)
      | (refine wpList_allocRow (op := ⟨some 12, _, _, _, _, _⟩) rfl _ rfl _ zBlk.1 ?_; intro w2 hw2 hs2 h12; replace hs2 := hs2.symm; replace h11 := h11.belowSize hw2; have hB := hw1.trans (hw2.mono hw1.size))
      | (refine wpList_loadRow (op := ⟨some 20, _, _, _, _, _⟩) rfl _ _ rfl w.heap.size rfl _ _ h11 _ Tryz.underlying58 rfl (bc_info _ _ _) ?_)
      | (refine wpList_loadRow (op := ⟨some 43, _, _, _, _, _⟩) rfl _ _ rfl w.heap.size rfl _ _ h11 _ Tryz.underlying58 rfl (bc_info _ _ _) ?_)
      | (refine wpList_build (o := ⟨some 55, _, _, _, _, _⟩) rfl _ _ rfl (builtH ht p tr sr (some ⟨gm, 0, none⟩) mem.length cg) ?_)
      | (refine wpList_allocRow (op := ⟨some 19, _, _, _, _, _⟩) rfl _ rfl _ zH0.1 ?_; intro w8 hw8 hs8 h19; clear hs8; replace hD := hD.below hw8; replace h12 := h12.belowSize hw8; replace hCB := hCB.below hw8; clear hw8)
      | (refine wpList_storeRow (op := ⟨none, .store 50 (.tmp 19) (.tmp 55), _, _, _, _⟩) rfl _ _ _ rfl w7.heap.size (hA ht p tr sr (.slice (some ⟨gm, 0, none⟩) mem.length cg)) rfl rfl _ _ h19 (by simp only [hA_size]) (hA_info _ _ _ _ _) (hA_one _ _ _ _ _ _ _) ?_; intro w9 hg9 hs9 h9; clear hs9; have hn12 := h12.neT h19 (by decide); have hlo7 : w.heap.size ≤ w7.heap.size := (by omega); have hne7 : ∀ r, Sh.slBlk (.slice ad D.length capd) = some r → r ≠ w7.heap.size := hne7 hD h19; replace hD := hD.other hg9 h19 hlo7 (by decide) hne7; replace h12 := h12.grown hg9 (fun e => absurd (Option.some.inj e) hn12); replace hCB := hCB.other hg9 h19 (by decide); clear hg9 h19 hne7)))
  go_wp2_with (with_reducible refine at_list ?_; first
      | (refine wpList_storeRow (op := ⟨none, .store 53 (.tmp 12) (.tmp 58), _, _, _, _⟩) rfl _ _ _ rfl w1.heap.size (bk ht p tr sr (.slice (some ⟨gm, 0, none⟩) mem.length cg) (.slice ad D.length capd)) rfl rfl _ _ h12 (by simp only [bk_size]) (bk_info _ _ _ _ _ _) (bk_one _ _ _ _ _ _ _ _ _ _) ?_; intro wA hgA hsA hA12; clear hsA; replace hD := hD.other hgA h12 hw1.size (by decide) (fun r e => Nat.ne_of_gt (Nat.lt_of_lt_of_le hl12 (hD.dn.lt r e).1)); replace hCB := hCB.other hgA h12 (by decide); clear hgA h12)
      | (refine wpList_loadRow (op := ⟨some 56, _, _, _, _, _⟩) rfl _ _ rfl w7.heap.size rfl _ _ h9 _ Tryz.underlying50 rfl (hA_info _ _ _ _ _) ?_)
      | (refine wpList_run (op := ⟨some 58, _, _, _, _, _⟩) rfl _ _ (run_built2 _ _ _ _ _ rfl _ _ rfl rfl _ (builtBk ht p tr sr ad (some ⟨gm, 0, none⟩) D.length capd mem.length cg)) ?_))
  refine bodyPost_ret (v := .tuple #[.agg (bk ht p tr sr (.slice (some ⟨gm, 0, none⟩) mem.length cg) (.slice ad D.length capd)), st, .int .i64 0]) ?_ rfl ⟨lo, ad, capd, st, dls, gm, cg, rfl, hD, hCB, hgm2⟩
  exact res_ctt rfl _ _ w1.heap.size _ _ _ _ _ rfl rfl rfl hA12 Tryz.underlying53 rfl (bk_info _ _ _ _ _ _)
set_option maxRecDepth 100000 in
set_option maxHeartbeats 4000000 in
theorem make_conf (l : List TX) (hok : ∀ x ∈ l, okTx x = true) (hl : l.length ≤ 16) (p : List UInt8) (hp : p.length = 32) (ht : Nat) (hh : ht ≠ 0) (mem mn : List Int) (hm : okM mem = true) (hmn : okM mn = true) (hc : chkB ⟨l, true, mn⟩ = 0) (am an : Option Addr) (cm cn : Nat) (bs bt : Nat) (m : List KV) (t : Tr) (a : Option Addr) (cap : Nat) (w : World) (hE : EX w bs bt m t) (hS : Sz m) (hC : Tr.Canon 0 t) (hn : t.cnt ≤ 3300) (hT : TA w a l) (hI : IA w am mem) (hI2 : IA w an mn) :
    Calls Tryz.prog 59 #[.string ⟨p.toArray⟩, .int .u64 (ht : Nat), .slice am mem.length cm, .pointer (some ⟨bs, 0, none⟩), .pointer (some ⟨bt, 0, none⟩), .agg (bc (.slice a l.length cap) true (.slice an mn.length cn))] w (MkP w bs bt m t ht p l mn) := by
  have HK := fun w1 (h : TA w1 a l) (k : IA w1 an mn) => checkB_any ⟨l, true, mn⟩ a an cap cn w1 h k
  have HP := fun w1 (h : IA w1 am mem) => place_any p ht mem am cm (some ⟨bs, 0, none⟩) (some ⟨bt, 0, none⟩) w1 h
  have hpl : plE (some ⟨bs, 0, none⟩) (some ⟨bt, 0, none⟩) ht p mem = 0 := if_neg (by simp [hh, hp, hm])
  rw [hc] at HK
  rw [hpl] at HP
  clear hc hpl
  have HX := fun w1 (h1 : EX w1 bs bt m t) (h2 : TA w1 a l) => exec_any l hok hl bs bt m t a cap true an mn.length cn w1 h1 hS hC hn h2
  have hokD : ∀ x ∈ exD m l, okTx x = true := fun x hx => hok x (exD_mem hx)
  have hlD : (exD m l).length ≤ 16 := Nat.le_trans (exD_len m l) hl
  have HR := fun a cap w1 (h1 : TA w1 a (exD m l)) (h2 : Sh.Glob w1) => txRoot_any (exD m l) hokD hlD a cap w1 h1 h2
  have HT := fun q w1 (h1 : Sh.Blk w1 bt #[.pointer q] 215) (h2 : Sh.HF w1 (exR m t l) q) => Sh.troot_any bt q (exR m t l) w1 h1 h2
  obtain ⟨hm0, hm1⟩ := okM_pos hmn
  have HCl := fun w1 (h : IA w1 an mn) => scloneI_any an mn cn w1 h hm0 (by omega)
  have h2w := hE.glob.two
  have hbs := hE.lts
  have hbt := hE.ltt
  unfold MkP
  unfold ExP at HX
  clear hok hl hokD hlD hm1 hp hh hm hmn
  generalize rootD Sh.digest (bys (exD m l)) = tr at *
  generalize (exR m t l).hash Sh.TgD = sr at *
  generalize exR m t l = t' at *
  generalize exS m l = m' at *
  generalize exD m l = D at *
  generalize exE m l = Er at *
  go_enter Tryz.func59, Tryz.ntmps59
  go_upto_region 11 with (first
    | (go_at_call 104; refine (HK _ (hT.below hB) (hI2.below hB)).mono ?_; rintro e w3 ⟨rfl, hw3⟩; clear HK; have hz3 := hw3.size; replace h11 := h11.belowSize hw3; replace h12 := h12.belowSize hw3; replace hB := hB.trans (hw3.mono hB.size); have c1 := (h11.cell 1).trans (bc_g1 _ _ _); have c2 := (h11.cell 2).trans (bc_g2 _ _ _))
    | (go_at_call 105; refine (HP _ (hI.below hB)).mono ?_; rintro e w' ⟨rfl, hw'⟩; have hw6 := hw'.symm; subst hw6; clear HP hw')
    | (go_at_call 106; refine (HX _ (hE.below hB) (hT.below hB)).mono ?_; rintro e w4 ⟨lo, sd, st, dls, rfl, hD⟩; clear HX c1 c2 h11; have hIx := (hI2.below hB).two hD.two (hE.below hB); replace h12 := h12.two hD.two (by omega) (by omega); have hlw : w3.heap.size ≤ lo := hD.lo1; have hl12 : w1.heap.size < lo := (by omega); replace hD := hD.start hB h2w; obtain ⟨ad, capd, rfl, hTA⟩ := TXL.ta hD.dn hD.tx)
    | (go_at_call 107; refine (HR _ _ _ hTA hD.ex.glob).mono ?_; rintro e w5 ⟨rfl, hw5⟩; clear HR hTA; replace hD := hD.below hw5; replace h12 := h12.belowSize hw5; replace hIx := hIx.below hw5; clear hw5; obtain ⟨q, hq1, hq2⟩ := hD.ex.tr)
    | (go_at_call 108; refine (HT _ _ hq1 hq2).mono ?_; rintro e w6 ⟨rfl, hw6⟩; clear HT hq1 hq2; replace hD := hD.below hw6; replace h12 := h12.belowSize hw6; replace hIx := hIx.below hw6; clear hw6)
    | (go_at_call 54; refine (HCl _ hIx).mono ?_; rintro e w7 ⟨gm, cg, rfl, hgm, hw7, hCB⟩; clear HCl hIx; have hgm2 := Nat.le_trans hD.two.size hgm; have hl7 := hCB.lt; replace hD := hD.below hw7; replace h12 := h12.belowSize hw7; clear hw7)
    | (with_reducible refine at_list ?_; first
      | (refine wpList_boxRow (op := ⟨some 11, _, _, _, _, _⟩) rfl _ _ rfl _ rfl ?_; intro w1 hw1 hs1 h11; replace hs1 := hs1.symm)
      | (refine wpList_allocRow (op := ⟨some 12, _, _, _, _, _⟩) rfl _ rfl _ zBlk.1 ?_; intro w2 hw2 hs2 h12; replace hs2 := hs2.symm; replace h11 := h11.belowSize hw2; have hB := hw1.trans (hw2.mono hw1.size))
      | (refine wpList_loadRow (op := ⟨some 20, _, _, _, _, _⟩) rfl _ _ rfl w.heap.size rfl _ _ h11 _ Tryz.underlying58 rfl (bc_info _ _ _) ?_)
      | (refine wpList_loadRow (op := ⟨some 43, _, _, _, _, _⟩) rfl _ _ rfl w.heap.size rfl _ _ h11 _ Tryz.underlying58 rfl (bc_info _ _ _) ?_)
      | (refine wpList_build (o := ⟨some 55, _, _, _, _, _⟩) rfl _ _ rfl (builtH ht p tr sr (some ⟨gm, 0, none⟩) mn.length cg) ?_)
      | (refine wpList_allocRow (op := ⟨some 19, _, _, _, _, _⟩) rfl _ rfl _ zH0.1 ?_; intro w8 hw8 hs8 h19; clear hs8; replace hD := hD.below hw8; replace h12 := h12.belowSize hw8; replace hCB := hCB.below hw8; clear hw8)
      | (refine wpList_storeRow (op := ⟨none, .store 50 (.tmp 19) (.tmp 55), _, _, _, _⟩) rfl _ _ _ rfl w7.heap.size (hA ht p tr sr (.slice (some ⟨gm, 0, none⟩) mn.length cg)) rfl rfl _ _ h19 (by simp only [hA_size]) (hA_info _ _ _ _ _) (hA_one _ _ _ _ _ _ _) ?_; intro w9 hg9 hs9 h9; clear hs9; have hn12 := h12.neT h19 (by decide); have hlo7 : w.heap.size ≤ w7.heap.size := (by omega); have hne7 : ∀ r, Sh.slBlk (.slice ad D.length capd) = some r → r ≠ w7.heap.size := hne7 hD h19; replace hD := hD.other hg9 h19 hlo7 (by decide) hne7; replace h12 := h12.grown hg9 (fun e => absurd (Option.some.inj e) hn12); replace hCB := hCB.other hg9 h19 (by decide); clear hg9 h19 hne7)))
  go_wp2_with (with_reducible refine at_list ?_; first
      | (refine wpList_storeRow (op := ⟨none, .store 53 (.tmp 12) (.tmp 58), _, _, _, _⟩) rfl _ _ _ rfl w1.heap.size (bk ht p tr sr (.slice (some ⟨gm, 0, none⟩) mn.length cg) (.slice ad D.length capd)) rfl rfl _ _ h12 (by simp only [bk_size]) (bk_info _ _ _ _ _ _) (bk_one _ _ _ _ _ _ _ _ _ _) ?_; intro wA hgA hsA hA12; clear hsA; replace hD := hD.other hgA h12 hw1.size (by decide) (fun r e => Nat.ne_of_gt (Nat.lt_of_lt_of_le hl12 (hD.dn.lt r e).1)); replace hCB := hCB.other hgA h12 (by decide); clear hgA h12)
      | (refine wpList_loadRow (op := ⟨some 56, _, _, _, _, _⟩) rfl _ _ rfl w7.heap.size rfl _ _ h9 _ Tryz.underlying50 rfl (hA_info _ _ _ _ _) ?_)
      | (refine wpList_run (op := ⟨some 58, _, _, _, _, _⟩) rfl _ _ (run_built2 _ _ _ _ _ rfl _ _ rfl rfl _ (builtBk ht p tr sr ad (some ⟨gm, 0, none⟩) D.length capd mn.length cg)) ?_))
  refine bodyPost_ret (v := .tuple #[.agg (bk ht p tr sr (.slice (some ⟨gm, 0, none⟩) mn.length cg) (.slice ad D.length capd)), st, .int .i64 0]) ?_ rfl ⟨lo, ad, capd, st, dls, gm, cg, rfl, hD, hCB, hgm2⟩
  exact res_ctt rfl _ _ w1.heap.size _ _ _ _ _ rfl rfl rfl hA12 Tryz.underlying53 rfl (bk_info _ _ _ _ _ _)
/-- Make, of a batch that may be, where a block can stand. -/
theorem make_any (b : BT) (hc : chkB b = 0) (p : List UInt8) (hp : p.length = 32) (ht : Nat) (hh : ht ≠ 0) (mem : List Int) (hm : okM mem = true) (am : Option Addr) (cm : Nat) (bs bt : Nat) (m : List KV) (t : Tr) (a a2 : Option Addr) (cap cap2 : Nat) (w : World) (hE : EX w bs bt m t) (hS : Sz m) (hC : Tr.Canon 0 t) (hn : t.cnt ≤ 3300) (hT : TA w a b.txs) (hI : IA w am mem) (hI2 : IA w a2 b.mem) :
    Calls Tryz.prog 59 #[.string ⟨p.toArray⟩, .int .u64 (ht : Nat), .slice am mem.length cm, .pointer (some ⟨bs, 0, none⟩), .pointer (some ⟨bt, 0, none⟩), .agg (bc (.slice a b.txs.length cap) b.conf (.slice a2 b.mem.length cap2))] w (MkP w bs bt m t ht p b.txs (if b.conf = true then b.mem else mem)) := by
  obtain ⟨h1, h2, h3, _⟩ := chkB_zero hc
  obtain ⟨l, c, mn⟩ := b
  dsimp only at *
  cases c
  · rw [if_neg (by exact Bool.noConfusion)]
    exact make_txs l h1 h2 p hp ht hh mem mn hm hc am a2 cm cap2 bs bt m t a cap w hE hS hC hn hT hI hI2
  · rw [if_pos rfl]
    exact make_conf l h1 h2 p hp ht hh mem mn hm (h3 rfl).2 hc am a2 cm cap2 bs bt m t a cap w hE hS hC hn hT hI hI2
end Go.Proofs.YtmbdhngoldganaaGreatDoor
namespace Go.Proofs.YtmbdhngoldganaaGreatDoor
open Go Go.RowKit
theorem EX.new {w : World} {b bt : Nat} (h : ST w b []) (ht : Sh.Blk w bt #[.pointer none] 215) (hG : Sh.Glob w) (h2 : 2 ≤ b ∧ 2 ≤ bt) : EX w b bt [] .emp := ⟨h, ⟨none, ht, rfl⟩, hG, h2⟩
def ob1 : O := ⟨1, [97], [49]⟩
def tb1 : TX := ⟨1, 1, [ob1]⟩
theorem tb1_ok : okTx tb1 = true := by decide
theorem tb1_run : runM [] tb1.ops = some [([107, 97], [49])] := by decide
theorem tb1_end (lb : List UInt8) : putM (nOf 1) lb [([107, 97], [49])] = [([107, 97], [49]), (nOf 1, lb)] := by
  have h1 : delM (nOf 1) [([107, 97], [49])] = [([107, 97], [49])] := by decide
  have h2 : bytesBefore (nOf 1) [107, 97] = false := by decide
  unfold putM
  rw [h1]
  unfold insM
  simp only [h2]
  rfl
theorem tb1_e : apE [] tb1 = 0 := apE_ok tb1_ok rfl tb1_run (by
  have e : endM tb1 [([107, 97], [49])] = putM (nOf 1) (lastB 1 (idB tb1)) [([107, 97], [49])] := rfl
  rw [e, tb1_end]
  decide)
theorem tb1_m : apM [] tb1 = [([107, 97], [49]), (nOf 1, lastB 1 (idB tb1))] := by
  rw [apM_ok tb1_e tb1_run]
  exact tb1_end _
theorem builtOb1 : Tryz.prog.built 97 [(0, .int .i64 1), (1, .string ⟨#[97]⟩), (2, .string ⟨#[49]⟩)] = some (opc ob1) := by kernel_rfl
theorem builtTb (n : Int) (k v : Nat) (hk : n = (k : Nat)) : Tryz.prog.built 95 [(0, .int .u64 1), (1, .int .u64 n), (2, .slice (some ⟨v, 0, none⟩) 1 1)] = some (txc 1 k (.slice (some ⟨v, 0, none⟩) 1 1)) := by subst hk; kernel_rfl
theorem Blk.ia1 {w : World} {g : Nat} {x : Int} (h : Blk w g #[.int .i64 x] 3) : IA w (some ⟨g, 0, none⟩) [x] := fun i v hv => by
  refine ⟨g, 0, rfl, ?_⟩
  rw [Nat.zero_add, h.cell]
  have hi : i < 1 := (List.getElem?_eq_some_iff.1 hv).1
  obtain rfl : i = 0 := by omega
  simp at hv
  subst hv
  rfl
theorem Blk.sl1 {w : World} {g : Nat} {o : O} (h : Blk w g (opc o) 97) : SL w (some ⟨g, 0, none⟩) [o] := fun i hi => by
  have h0 : i = 0 := by simp at hi; omega
  subst h0
  exact ⟨g, 0, rfl, fun j v hv => by rw [Nat.zero_mul, Nat.add_zero, Nat.zero_add, h.cell]; have hv2 : (opc o).toList[j]? = some v := hv; simpa using hv2⟩
end Go.Proofs.YtmbdhngoldganaaGreatDoor
namespace Go.Proofs.YtmbdhngoldganaaGreatDoor
open Go Go.RowKit
/-- Operation i waits for k. -/
def waitsB (ops : Array Oper) (i k : Nat) : Bool := ((ops[i]?).map (·.after.any fun e => e.on == k && Region.binds .any e)).getD false
/-- Whoever writes slot t waits for i. -/
def oldB (ops : Array Oper) (i t : Nat) : Bool := (List.range ops.size).all fun k => ((ops[k]?).map fun o => o.dst != some t || waitsB ops k i).getD true
theorem waitsB_spec {ops : Array Oper} {i k : Nat} (h : waitsB ops i k = true) : ∃ o, ops[i]? = some o ∧ ∃ e ∈ o.after, Region.binds .any e = true ∧ e.on = k := by
  unfold waitsB at h
  cases ho : ops[i]? with
  | none => rw [ho] at h; cases h
  | some o =>
    rw [ho] at h
    simp only [Option.map_some, Option.getD_some, Array.any_eq_true] at h
    obtain ⟨j, hj, h⟩ := h
    rw [Bool.and_eq_true] at h
    exact ⟨o, rfl, o.after[j], Array.getElem_mem hj, h.2, by simpa using h.1⟩
def cntF (l : List Bool) : Nat := (l.filter (!·)).length
theorem cntF_set : ∀ (l : List Bool) (i : Nat), l[i]? = some false → cntF (l.set i true) + 1 = cntF l
  | b :: l, 0, h => by
    have hb : b = false := by simpa using h
    subst hb
    rfl
  | b :: l, i + 1, h => by
    have := cntF_set l i (by simpa using h)
    cases b
    · simp only [cntF, List.set_cons_succ] at *; simp at *; omega
    · simp only [cntF, List.set_cons_succ] at *; simp at *; omega
theorem cntF_pos : ∀ (l : List Bool) (i : Nat), l[i]? = some false → 0 < cntF l := fun l i h => by have := cntF_set l i h; omega
theorem mem_readyM {ops : Array Oper} {listed : Array Bool} {i : Nat} (hs : listed.size = ops.size) : i ∈ Region.ready .any ops listed ↔ listed[i]? = some false ∧ ∀ k, waitsB ops i k = true → listed.getD k false = true := by
  unfold Region.ready
  rw [List.mem_filter, List.mem_range, Bool.and_eq_true]
  constructor
  · rintro ⟨h1, h2, h3⟩
    have hl : i < listed.size := by omega
    refine ⟨?_, fun k hk => ?_⟩
    · simp [hl] at h2 ⊢; exact h2
    · obtain ⟨o, ho, e, he, hb, rfl⟩ := waitsB_spec hk
      rw [ho] at h3
      simp only [Option.map_some, Option.getD_some] at h3
      have := Array.all_eq_true_iff_forall_mem.1 h3 e he
      rw [hb] at this
      simpa using this
  · rintro ⟨h1, h2⟩
    have hl : i < listed.size := (Array.getElem?_eq_some_iff.1 h1).1
    have hi : i < ops.size := by omega
    refine ⟨hi, by simp [h1], ?_⟩
    rw [Array.getElem?_eq_getElem hi]
    simp only [Option.map_some, Option.getD_some]
    rw [Array.all_eq_true_iff_forall_mem]
    intro e he
    by_cases hb : Region.binds .any e = true
    · have hw : waitsB ops i e.on = true := by
        unfold waitsB
        rw [Array.getElem?_eq_getElem hi]
        simp only [Option.map_some, Option.getD_some, Array.any_eq_true]
        obtain ⟨j, hj, rfl⟩ := Array.mem_iff_getElem.1 he
        exact ⟨j, hj, by simp [hb]⟩
      simp [hb]
      simpa using h2 e.on hw
    · simp [hb]
theorem getD_setB (l : Array Bool) (i j : Nat) (hi : i < l.size) : (l.setIfInBounds i true).getD j false = if j = i then true else l.getD j false := by
  by_cases h : j = i
  · subst h; simp [hi]
  · rw [if_neg h]
    simp only [Array.getD_eq_getD_getElem?, Array.getElem?_setIfInBounds, if_neg (fun e => h (Eq.symm e))]
theorem put_same {a : Act} {d : Nat} (v : Value) (h : d < a.tmps.size) : (a.put (some d) v).tmps.getD d undef = v := by
  simp [Act.put, h]
theorem put_other {a : Act} {dst : Option Tmp} {t : Nat} (v : Value) (h : dst ≠ some t) : (a.put dst v).tmps.getD t undef = a.tmps.getD t undef := by
  cases dst with
  | none => rfl
  | some d =>
    have hne : d ≠ t := fun e => h (by rw [e])
    simp only [Act.put, Array.getD_eq_getD_getElem?, Array.getElem?_setIfInBounds, if_neg hne]
theorem put_size (a : Act) (dst : Option Tmp) (v : Value) : (a.put dst v).tmps.size = a.tmps.size := by cases dst <;> simp [Act.put]
theorem put_defers (a : Act) (dst : Option Tmp) (v : Value) : (a.put dst v).defers = a.defers := by cases dst <;> simp [Act.put]
/-- Values put into slots, one behind the other. -/
def puts (vs : Nat → Value) : Nat → List (Option Tmp) → Act → Act
  | _, [], a => a
  | i, d :: r, a => puts vs (i + 1) r (a.put d (vs i))
theorem puts_size (vs : Nat → Value) : ∀ (ds : List (Option Tmp)) (i : Nat) (a : Act), (puts vs i ds a).tmps.size = a.tmps.size
  | [], _, _ => rfl
  | d :: r, i, a => by rw [puts, puts_size vs r, put_size]
theorem puts_defers (vs : Nat → Value) : ∀ (ds : List (Option Tmp)) (i : Nat) (a : Act), (puts vs i ds a).defers = a.defers
  | [], _, _ => rfl
  | d :: r, i, a => by rw [puts, puts_defers vs r, put_defers]
theorem puts_getD (vs : Nat → Value) (a : Act) (t : Nat) : ∀ (ds : List (Option Tmp)) (i : Nat) (b : Act), b.tmps.size = a.tmps.size → (∀ (j d : Nat), ds[j]? = some (some d) → d < a.tmps.size ∧ vs (i + j) = a.tmps.getD d undef) →
    (b.tmps.getD t undef = a.tmps.getD t undef ∨ ∃ j : Nat, ds[j]? = some (some t)) → (puts vs i ds b).tmps.getD t undef = a.tmps.getD t undef
  | [], _, b, _, _, h => by
    rcases h with h | ⟨j, h⟩
    · exact h
    · simp at h
  | d :: r, i, b, hs, hv, h => by
    rw [puts]
    refine puts_getD vs a t r (i + 1) _ (by rw [put_size, hs]) (fun j e he => ?_) ?_
    · have := hv (j + 1) e (by simpa using he)
      rw [show i + 1 + j = i + (j + 1) from by omega]
      exact this
    · by_cases hd : d = some t
      · subst hd
        obtain ⟨h1, h2⟩ := hv 0 t rfl
        left
        rw [put_same _ (by rw [hs]; exact h1), ← h2]
        rfl
      · rw [put_other _ hd]
        rcases h with h | ⟨j, h⟩
        · exact .inl h
        · cases j with
          | zero => simp at h; exact absurd h hd
          | succ j => exact .inr ⟨j, by simpa using h⟩
/-- What is asked of a region: none waits for a later one, no two write one slot, each slot is there. -/
def madeB (ops : Array Oper) (n : Nat) : Bool :=
  ((List.range ops.size).all fun i => ((ops[i]?).map fun o => o.after.all fun e => !Region.binds .any e || decide (e.on < i)).getD true) &&
  ((List.range ops.size).all fun i => (List.range ops.size).all fun k => i == k || ((ops[i]?).map fun o => ((ops[k]?).map fun q => o.dst.isNone || o.dst != q.dst).getD true).getD true) &&
  ((List.range ops.size).all fun i => ((ops[i]?).map fun o => match o.dst with | some d => decide (d < n) | none => true).getD true)
def updV (vs : Nat → Value) (i : Nat) (v : Value) : Nat → Value := fun k => if k = i then v else vs k
theorem updV_same (vs : Nat → Value) (i : Nat) (v : Value) : updV vs i v i = v := if_pos rfl
theorem updV_other {vs : Nat → Value} {i k : Nat} {v : Value} (h : k ≠ i) : updV vs i v k = vs k := if_neg h
/-- The one exit replaced. -/
def QK (Q : Exit → Act → World → Prop) (K : Act → World → Prop) : Exit → Act → World → Prop
  | .normal, a, w => K a w
  | e, a, w => Q e a w
section
variable {P : Program} {ops : Array Oper} {Q : Exit → Act → World → Prop}
theorem wp_QK {o : Oper} {a : Act} {w : World} {K : Act → World → Prop} (h : o.wp P a w (wpList P ops (QK Q K) []) (QK Q K)) : o.wp P a w K Q := by
  have hl : LetsOut (QK Q K) → LetsOut Q := fun ⟨a, w, h⟩ => ⟨a, w, h⟩
  unfold Oper.wp at h ⊢
  generalize (execOp a.eval o).run P w = r at h ⊢
  match r, h with
  | .ok (.value v) w', h => exact h
  | .ok .skip w', h => exact h
  | .ok (.defer d) w', h => exact h
  | .ok (.enter f args) w', h =>
    refine Calls.mono h fun e w'' h => ?_
    match e, h with
    | .returned v, h => exact h
    | .panicked c, h => exact h
    | .outgrown, h => exact hl h
  | .ok (.row row args) w', h => exact Rows.mono h fun v w'' h => h
  | .halt (.panic v) w', h => exact h
theorem wpOp_list {i : Nat} {o : Oper} {K : Act → World → Prop} {a : Act} {w : World} (ho : ops[i]? = some o) (h : wpList P ops (QK Q K) [o] a w) : wpOp P ops Q i K a w := by
  unfold wpOp
  rw [ho]
  unfold wpList at h
  show if Region.wanted o (yielded ops a.tmps) = true then _ else _
  split
  · rename_i hw
    rw [if_pos hw] at h
    rcases h with h | ⟨h1, a', w', h2⟩
    · exact .inl (wp_QK h)
    · exact .inr ⟨h1, a', w', h2⟩
  · rename_i hw
    rw [if_neg hw] at h
    exact h
variable {E : Nat → (Nat → Value) → World → World → Value → Prop} {Pr : Nat → (Nat → Value) → World → Value → Prop} {G : (Nat → Bool) → (Nat → Value) → World → Prop}
/-- What is known where operation i comes up. -/
structure KnownR (ops : Array Oper) (Pr : Nat → (Nat → Value) → World → Value → Prop) (G : (Nat → Bool) → (Nat → Value) → World → Prop) (a0 : Act) (i : Nat) (vs : Nat → Value) (a : Act) (w : World) : Prop where
  gen : ∃ L : Nat → Bool, L i = false ∧ (∀ k, waitsB ops i k = true → L k = true) ∧ (∀ j k, L j = true → waitsB ops j k = true → L k = true) ∧ G L vs w
  dep : ∀ k, waitsB ops i k = true → Pr k vs w (vs k)
  slot : ∀ (k d : Nat), waitsB ops i k = true → ((ops[k]?).bind (·.dst)) = some d → a.tmps.getD d undef = vs k
  old : ∀ (t : Nat), oldB ops i t = true → a.tmps.getD t undef = a0.tmps.getD t undef
structure InvR (ops : Array Oper) (Pr : Nat → (Nat → Value) → World → Value → Prop) (G : (Nat → Bool) → (Nat → Value) → World → Prop) (a0 : Act) (listed : Array Bool) (vs : Nat → Value) (a : Act) (w : World) : Prop where
  size : listed.size = ops.size
  gen : G (fun k => listed.getD k false) vs w
  closed : ∀ (i k : Nat), listed.getD i false = true → waitsB ops i k = true → listed.getD k false = true
  frame : ∀ t : Nat, (∀ i : Nat, listed.getD i false = true → ((ops[i]?).bind (·.dst)) ≠ some t) → a.tmps.getD t undef = a0.tmps.getD t undef
  slots : ∀ (i d : Nat), listed.getD i false = true → ((ops[i]?).bind (·.dst)) = some d → a.tmps.getD d undef = vs i
  vals : ∀ i : Nat, listed.getD i false = true → Pr i vs w (vs i)
  tsize : a.tmps.size = a0.tmps.size
  defers : a.defers = a0.defers
theorem InvR.step {a0 a : Act} {w w' : World} {listed : Array Bool} {vs : Nat → Value} {i : Nat} {o : Oper} {v : Value} (hB : madeB ops a0.tmps.size = true)
    (hG : ∀ L i w w' vs v, i < ops.size → L i = false → (∀ k, waitsB ops i k = true → L k = true) → G L vs w → E i vs w w' v → Pr i vs w' v → G (fun k => k == i || L k) (updV vs i v) w')
    (hcong : ∀ i vs vs' w v, (∀ k, waitsB ops i k = true → vs k = vs' k) → Pr i vs w v → Pr i vs' w v)
    (hst : ∀ i j vs w w' u v, i ≠ j → waitsB ops j i = false → E i vs w w' u → Pr j vs w v → Pr j vs w' v)
    (h : InvR ops Pr G a0 listed vs a w) (ho : ops[i]? = some o) (hun : listed[i]? = some false)
    (hw : ∀ k, waitsB ops i k = true → listed.getD k false = true) (hE : E i vs w w' v) (hv : Pr i vs w' v) : InvR ops Pr G a0 (listed.setIfInBounds i true) (updV vs i v) (a.put o.dst v) w' := by
  have hi : i < ops.size := (Array.getElem?_eq_some_iff.1 ho).1
  have hil : i < listed.size := by rw [h.size]; exact hi
  have hdo : ((ops[i]?).bind (·.dst)) = o.dst := by rw [ho]; rfl
  have hli : listed.getD i false = false := by simp [Array.getD_eq_getD_getElem?, hun]
  unfold madeB at hB
  rw [Bool.and_eq_true, Bool.and_eq_true] at hB
  obtain ⟨⟨hB1, hB2⟩, hB3⟩ := hB
  have hnw : ∀ j, listed.getD j false = true → waitsB ops j i = false := fun j hj => by
    cases hq : waitsB ops j i
    · rfl
    · have := h.closed j i hj hq
      rw [hli] at this
      cases this
  have hselfw : waitsB ops i i = false := by
    cases hq : waitsB ops i i
    · rfl
    · have := hw i hq
      rw [hli] at this
      cases this
  have hupd : ∀ j, j ≠ i → updV vs i v j = vs j := fun j hj => if_neg hj
  have hupi : updV vs i v i = v := if_pos rfl
  refine ⟨by simp [h.size], ?_, fun j k hj hk => ?_, fun t ht => ?_, fun j d hj hd => ?_, fun j hj => ?_, by rw [put_size, h.tsize], by rw [put_defers, h.defers]⟩
  · have := hG _ i w w' vs v hi hli hw h.gen hE hv
    have e : (fun k => (listed.setIfInBounds i true).getD k false) = fun k => k == i || listed.getD k false := by
      funext k
      rw [getD_setB _ _ _ hil]
      by_cases hk : k = i <;> simp [hk]
    rw [e]
    exact this
  · rw [getD_setB _ _ _ hil] at hj ⊢
    by_cases e : j = i
    · subst e
      rw [hw k hk]
      split <;> rfl
    · rw [if_neg e] at hj
      rw [h.closed j k hj hk]
      split <;> rfl
  · have h1 := ht i (by rw [getD_setB _ _ _ hil, if_pos rfl])
    rw [hdo] at h1
    rw [put_other _ h1]
    refine h.frame t (fun j hj => ht j ?_)
    rw [getD_setB _ _ _ hil, hj]
    split <;> rfl
  · rw [getD_setB _ _ _ hil] at hj
    by_cases e : j = i
    · subst e
      rw [hdo] at hd
      have h3 := List.all_eq_true.1 hB3 j (List.mem_range.2 hi)
      rw [ho] at h3
      simp only [Option.map_some, Option.getD_some, hd] at h3
      rw [hd, put_same _ (by rw [h.tsize]; exact of_decide_eq_true h3), hupi]
    · rw [if_neg e] at hj
      have hne : o.dst ≠ some d := by
        intro e2
        have h1 := List.all_eq_true.1 (List.all_eq_true.1 hB2 i (List.mem_range.2 hi)) j
        cases hoj : ops[j]? with
        | none => rw [hoj] at hd; cases hd
        | some oj =>
          have hjs : j < ops.size := (Array.getElem?_eq_some_iff.1 hoj).1
          have h1 := h1 (List.mem_range.2 hjs)
          rw [hoj] at hd
          have hd : oj.dst = some d := hd
          rw [ho, hoj] at h1
          simp only [Option.map_some, Option.getD_some, e2, hd] at h1
          simp at h1
          exact e h1.symm
      rw [put_other _ hne, hupd j e]
      exact h.slots j d hj hd
  · rw [getD_setB _ _ _ hil] at hj
    by_cases e : j = i
    · subst e
      rw [hupi]
      exact hcong j vs _ w' v (fun k hk => (hupd k (fun e => by subst e; rw [hselfw] at hk; cases hk)).symm) hv
    · rw [if_neg e] at hj
      rw [hupd j e]
      refine hcong j vs _ w' _ (fun k hk => (hupd k (fun e2 => ?_)).symm) (hst i j vs w w' v _ (fun e2 => e e2.symm) (hnw j hj) hE (h.vals j hj))
      subst e2
      rw [hnw j hj] at hk
      cases hk
def dstsR (ops : Array Oper) : List (Option Tmp) := ops.toList.map (·.dst)
theorem dstsR_get {i : Nat} {d : Nat} : (dstsR ops)[i]? = some (some d) ↔ ((ops[i]?).bind (·.dst)) = some d := by
  unfold dstsR
  rw [List.getElem?_map, Array.getElem?_toList]
  cases ops[i]? with
  | none => simp
  | some o => simp
theorem InvR.all {a0 a : Act} {w : World} {listed : Array Bool} {vs : Nat → Value} (hB : madeB ops a0.tmps.size = true) (h : InvR ops Pr G a0 listed vs a w) (hall : ∀ i, i < ops.size → listed.getD i false = true) : a = puts vs 0 (dstsR ops) a0 := by
  unfold madeB at hB
  rw [Bool.and_eq_true, Bool.and_eq_true] at hB
  obtain ⟨_, hB3⟩ := hB
  have hlt : ∀ {j d : Nat}, ((ops[j]?).bind (·.dst)) = some d → j < ops.size ∧ d < a0.tmps.size := fun {j d} hd => by
    cases hoj : ops[j]? with
    | none => rw [hoj] at hd; cases hd
    | some oj =>
      have hjs : j < ops.size := (Array.getElem?_eq_some_iff.1 hoj).1
      rw [hoj] at hd
      have hd : oj.dst = some d := hd
      have h3 := List.all_eq_true.1 hB3 j (List.mem_range.2 hjs)
      rw [hoj] at h3
      simp only [Option.map_some, Option.getD_some, hd] at h3
      exact ⟨hjs, of_decide_eq_true h3⟩
  obtain ⟨at1, ad⟩ := a
  have hsz := h.tsize
  have hdf := h.defers
  have e1 : ∀ t : Nat, (puts vs 0 (dstsR ops) a0).tmps.getD t undef = at1.getD t undef := fun t => by
    refine puts_getD _ ⟨at1, ad⟩ t _ 0 a0 hsz.symm (fun j d hj => ?_) ?_
    · have hj := dstsR_get.1 hj
      obtain ⟨h1, h2⟩ := hlt hj
      refine ⟨by rw [hsz]; exact h2, ?_⟩
      rw [Nat.zero_add]
      exact (h.slots j d (hall j h1) hj).symm
    · by_cases he : ∃ j : Nat, (dstsR ops)[j]? = some (some t)
      · exact .inr he
      · left
        exact (h.frame t (fun i hi hd => he ⟨i, dstsR_get.2 hd⟩)).symm
  have e2 := puts_size vs (dstsR ops) 0 a0
  have e3 := puts_defers vs (dstsR ops) 0 a0
  generalize puts vs 0 (dstsR ops) a0 = b at *
  obtain ⟨bt, bd⟩ := b
  simp only at e1 e2 e3 hsz hdf
  have : at1 = bt := by
    apply Array.ext (by omega)
    intro t h1 h2
    have := e1 t
    simp only [Array.getD_eq_getD_getElem?, Array.getElem?_eq_getElem h1, Array.getElem?_eq_getElem h2, Option.getD_some] at this
    exact this.symm
  rw [this, e3, hdf]
theorem wpAny_made {a0 : Act} (hB : madeB ops a0.tmps.size = true)
    (hG : ∀ L i w w' vs v, i < ops.size → L i = false → (∀ k, waitsB ops i k = true → L k = true) → G L vs w → E i vs w w' v → Pr i vs w' v → G (fun k => k == i || L k) (updV vs i v) w')
    (hcong : ∀ i vs vs' w v, (∀ k, waitsB ops i k = true → vs k = vs' k) → Pr i vs w v → Pr i vs' w v)
    (hst : ∀ i j vs w w' u v, i ≠ j → waitsB ops j i = false → E i vs w w' u → Pr j vs w v → Pr j vs w' v)
    (hop : ∀ i o, ops[i]? = some o → ∀ a vs w, KnownR ops Pr G a0 i vs a w → ∀ K : Act → World → Prop, (∀ v w', E i vs w w' v → Pr i vs w' v → K (a.put o.dst v) w') → wpList P ops (QK Q K) [o] a w)
    (hfin : ∀ vs w, (∀ i, i < ops.size → Pr i vs w (vs i)) → (∃ L, (∀ i, i < ops.size → L i = true) ∧ G L vs w) → Q .normal (puts vs 0 (dstsR ops) a0) w) :
    ∀ (fuel : Nat) (listed : Array Bool) (vs : Nat → Value) (a : Act) (w : World), InvR ops Pr G a0 listed vs a w → cntF listed.toList = fuel → wpAny P .any ops Q fuel listed a w := by
  have hend : ∀ (listed : Array Bool) (vs : Nat → Value) (a : Act) (w : World), InvR ops Pr G a0 listed vs a w → (∀ i, i < ops.size → listed.getD i false = true) → Q .normal a w := fun listed vs a w h hall => by
    rw [h.all hB hall]
    exact hfin vs w (fun i hi => h.vals i (hall i hi)) ⟨_, hall, h.gen⟩
  have hlist : ∀ (listed : Array Bool), listed.size = ops.size → Region.ready .any ops listed = [] → ∀ m i, i < m → i < ops.size → listed.getD i false = true := fun listed hs hr => by
    have hB' := hB
    unfold madeB at hB'
    rw [Bool.and_eq_true, Bool.and_eq_true] at hB'
    obtain ⟨⟨hB1, _⟩, _⟩ := hB'
    intro m
    induction m with
    | zero => intro i hi; omega
    | succ m ihm =>
      intro i hi his
      by_cases hlt : i < m
      · exact ihm i hlt his
      · have hil : i < listed.size := by rw [hs]; exact his
        by_cases hb : listed[i] = true
        · simp [hil, hb]
        · have : i ∈ Region.ready .any ops listed := (mem_readyM hs).2 ⟨by simp [hil]; simpa using hb, fun k hk => by
            obtain ⟨o, ho, e, he, hbn, rfl⟩ := waitsB_spec hk
            have h1 := List.all_eq_true.1 hB1 i (List.mem_range.2 his)
            rw [ho] at h1
            simp only [Option.map_some, Option.getD_some] at h1
            have h2 := Array.all_eq_true_iff_forall_mem.1 h1 e he
            rw [hbn] at h2
            have h2 : e.on < i := by simpa using h2
            exact ihm e.on (by omega) (by omega)⟩
          rw [hr] at this
          cases this
  intro fuel
  induction fuel with
  | zero =>
    intro listed vs a w h hc
    have hall : ∀ i, i < ops.size → listed.getD i false = true := fun i hi => by
      have hil : i < listed.size := by rw [h.size]; exact hi
      by_cases hb : listed[i] = true
      · simp [hil, hb]
      · have := cntF_pos listed.toList i (by simp [hil]; simpa using hb)
        omega
    refine ⟨?_, hend listed vs a w h hall⟩
    rw [List.eq_nil_iff_forall_not_mem]
    intro i hi
    obtain ⟨hun, _⟩ := (mem_readyM h.size).1 hi
    have hil : i < listed.size := (Array.getElem?_eq_some_iff.1 hun).1
    have := hall i (by rw [← h.size]; exact hil)
    simp [Array.getD_eq_getD_getElem?, hun] at this
  | succ fuel ih =>
    intro listed vs a w h hc
    refine ⟨fun hr => hend listed vs a w h (fun i hi => hlist listed h.size hr (i + 1) i (by omega) hi), fun i hi => ?_⟩
    obtain ⟨hun, hwt⟩ := (mem_readyM h.size).1 hi
    have hil : i < listed.size := (Array.getElem?_eq_some_iff.1 hun).1
    have his : i < ops.size := by rw [← h.size]; exact hil
    have hli : listed.getD i false = false := by simp [Array.getD_eq_getD_getElem?, hun]
    have ho : ops[i]? = some ops[i] := Array.getElem?_eq_getElem his
    refine wpOp_list ho (hop i _ ho a vs w ⟨⟨_, hli, hwt, h.closed, h.gen⟩, fun k hk => h.vals k (hwt k hk), fun k d hk hd => h.slots k d (hwt k hk) hd, fun t ht => h.frame t (fun k hk hd => ?_)⟩ _ (fun v w' hE hv => ih _ _ _ _ (h.step hB hG hcong hst ho hun hwt hE hv) ?_))
    · have hks : k < ops.size := by
        cases hok : ops[k]? with
        | none => rw [hok] at hd; cases hd
        | some _ => exact (Array.getElem?_eq_some_iff.1 hok).1
      have h1 := List.all_eq_true.1 ht k (List.mem_range.2 hks)
      rw [Array.getElem?_eq_getElem hks] at hd h1
      have hd : ops[k].dst = some t := hd
      simp only [Option.map_some, Option.getD_some, hd, bne_self_eq_false, Bool.false_or] at h1
      have h2 := h.closed k i hk h1
      rw [hli] at h2
      cases h2
    · have := cntF_set listed.toList i (by simpa using hun)
      simp only [Array.toList_setIfInBounds]
      omega
theorem cntF_rep (n : Nat) : cntF (List.replicate n false) = n := by
  unfold cntF
  rw [List.filter_eq_self.2 (fun x hx => by rw [(List.mem_replicate.1 hx).2]; rfl), List.length_replicate]
/-- The law: a region that draws its order. -/
theorem wp_region_made {id : Nat} {a0 : Act} {w : World} (hm : P.follows .mixedOrders = true) (E : Nat → (Nat → Value) → World → World → Value → Prop) (Pr : Nat → (Nat → Value) → World → Value → Prop) (G : (Nat → Bool) → (Nat → Value) → World → Prop)
    (hB : madeB ops a0.tmps.size = true) (h0 : G (fun _ => false) (fun _ => undef) w.drew)
    (hG : ∀ L i w w' vs v, i < ops.size → L i = false → (∀ k, waitsB ops i k = true → L k = true) → G L vs w → E i vs w w' v → Pr i vs w' v → G (fun k => k == i || L k) (updV vs i v) w')
    (hcong : ∀ i vs vs' w v, (∀ k, waitsB ops i k = true → vs k = vs' k) → Pr i vs w v → Pr i vs' w v)
    (hst : ∀ i j vs w w' u v, i ≠ j → waitsB ops j i = false → E i vs w w' u → Pr j vs w v → Pr j vs w' v)
    (hop : ∀ i o, ops[i]? = some o → ∀ a vs w, KnownR ops Pr G a0 i vs a w → ∀ K : Act → World → Prop, (∀ v w', E i vs w w' v → Pr i vs w' v → K (a.put o.dst v) w') → wpList P ops (QK Q K) [o] a w)
    (hfin : ∀ vs w, (∀ i, i < ops.size → Pr i vs w (vs i)) → (∃ L, (∀ i, i < ops.size → L i = true) ∧ G L vs w) → Q .normal (puts vs 0 (dstsR ops) a0) w) : (Code.region id ops true).wp P Q a0 w := by
  refine wp_region_any hm ?_
  have hgf : ∀ k : Nat, (Array.replicate ops.size false).getD k false = false := fun k => by
    simp only [Array.getD_eq_getD_getElem?, Array.getElem?_replicate]
    split <;> rfl
  refine wpAny_made hB hG hcong hst hop hfin _ _ (fun _ => undef) a0 _ ⟨by simp, ?_, fun i k hi => ?_, fun _ _ => rfl, fun i d hi => ?_, fun i hi => ?_, rfl, rfl⟩ ?_
  · have e : (fun k => (Array.replicate ops.size false).getD k false) = fun _ => false := funext hgf
    rw [e]
    exact h0
  · rw [hgf] at hi; cases hi
  · rw [hgf] at hi; cases hi
  · rw [hgf] at hi; cases hi
  · rw [Array.toList_replicate, cntF_rep]
theorem run_callF {f : FuncId} {op : Oper} {a : Act} {w : World} {fn : Func} (hf : P.funcs[f]? = some fn) (hn : (fn.name == "runtime.NumGoroutine") = false) (hb : fn.body.isNone = false) (xs : Array Operand) (tys : Array TypeId) (ho : op.op = .call { callee := .value (.func f), args := xs, argTypes := tys }) : (execOp a.eval op).run P w = .ok (.enter f (xs.map a.eval)) w := by
  unfold execOp
  simp only [ho]
  have hn' : ¬ fn.name = "runtime.NumGoroutine" := by simpa using hn
  have hb' : ¬ fn.body = none := fun e => by rw [e] at hb; cases hb
  simp [resolve, invoke, Act.eval, Deferred.ofValue, callFunc, hf, hn', hb']
/-- A call by its contract. -/
theorem wpList_callR {rest : List Oper} {op : Oper} {a : Act} {w : World} {f : FuncId} {fn : Func} (hf : P.funcs[f]? = some fn) (hn : (fn.name == "runtime.NumGoroutine") = false) (hb : fn.body.isNone = false) (hgd : op.guard = none) (xs : Array Operand) (tys : Array TypeId) (ho : op.op = .call { callee := .value (.func f), args := xs, argTypes := tys })
    (args : Array Value) (hargs : xs.map a.eval = args) (R : Ending → World → Prop) (hc : Calls P f args w R) (h : ∀ e w', R e w' → ∃ v, e = .returned v ∧ wpList P ops Q rest (a.put op.dst v) w') : wpList P ops Q (op :: rest) a w := by
  refine wpList_plain hgd fun K hK => ?_
  unfold Oper.wp
  rw [run_callF hf hn hb xs tys ho, Oper.upon_enter, hargs]
  refine hc.mono fun e w'' hh => ?_
  obtain ⟨v, rfl, h2⟩ := h e w'' hh
  exact hK _ _ h2
/-- An operation without memory. -/
theorem wpList_pure {rest : List Oper} {op : Oper} {a : Act} {w : World} (hgd : op.guard = none) (v : Value) (hr : (execOp a.eval op).run P w = .ok (.value v) w) (h : wpList P ops Q rest (a.put op.dst v) w) : wpList P ops Q (op :: rest) a w := wpList_run hgd v w hr h
theorem run_move {op : Oper} {a : Act} {w : World} (x : Operand) (ho : op.op = .move x) : (execOp a.eval op).run P w = .ok (.value (a.eval x)) w := by
  unfold execOp
  simp [ho]
theorem run_assign {op : Oper} {a : Act} {w : World} (x : Operand) (ho : op.op = .assign x) : (execOp a.eval op).run P w = .ok (.value (a.eval x)) w := by
  unfold execOp
  simp [ho]
theorem run_extract {op : Oper} {a : Act} {w : World} (x : Operand) (k : Nat) (ho : op.op = .extract x k) (vs : Array Value) (hx : a.eval x = .tuple vs) (v : Value) (hv : vs[k]? = some v) : (execOp a.eval op).run P w = .ok (.value v) w := by
  unfold execOp
  simp [ho, hx, Instr.extract, hv]
end
end Go.Proofs.YtmbdhngoldganaaGreatDoor
