/- What Batch does. -/
import Derived.Test.YtmbdhngoldganaaGreatDoorBcb
namespace Go.Proofs.YtmbdhngoldganaaGreatDoor
open Go Go.RowKit
theorem run_loadMid {P : Program} {op : Oper} {a : Act} {w : World} (ty : TypeId) (x : Operand) (ho : op.op = .load ty x) (b o : Nat) (hx : a.eval x = .pointer (some ⟨b, o, none⟩))
    (c : Array Value) (hb : w.rangeAt b o c.toList) (d : TypeDesc) (hu : P.underlying ty = some d) (hd : d.isRow = true) (hi : (P.info? ty).map (·.size) = some c.size) :
    (execOp a.eval op).run P w = .ok (.value (.agg c)) w := by
  have hl := run_loadVar_mid (P := P) w b o ty c.toList d hb hu hd (by simpa using hi)
  rw [Array.toArray_toList] at hl
  unfold execOp
  simp only [ho, hx]
  simp [Instr.loadAt, Instr.sureAddr, hl]
theorem range_keep {w w' : World} {g o : Nat} {l : List Value} (h : Below w.heap.size w w') (hr : w.rangeAt g o l) : w'.rangeAt g o l := fun j v hv => by
  have h3 := hr j v hv
  rw [h.cell (World.block_lt_of_cell? _ _ h3)]
  exact h3
theorem range_low {w w' : World} {B g o : Nat} {l : List Value} (h : Below B w w') (hg : g < B) (hr : w.rangeAt g o l) : w'.rangeAt g o l := fun j v hv => by
  have h3 := hr j v hv
  rw [h.cell (show (⟨g, o + j, none⟩ : Addr).block < B from hg)]
  exact h3
theorem txc_len (c n : Nat) (v : Value) : (txc c n v).toList.length = 3 := rfl
theorem txc_all (c n : Nat) (a : Option Addr) (k cap : Nat) : ∀ u ∈ (txc c n (.slice a k cap)).toList, u.oneCell' = true := by
  intro u hu
  simp [txc] at hu
  rcases hu with rfl | rfl | rfl <;> rfl
/-- The transactions of a batch as the document has it. -/
def rb17 (l : List TX) : List TX := (l.take 17).map cut9
/-- What Batch leaves. -/
def BatP (w : World) (L : List TX) (c : Bool) (sm : Value) (e : Ending) (w' : World) : Prop := ∃ a' cap', e = .returned (.agg (bc (.slice a' L.length cap') c sm)) ∧ TA w' a' L ∧ Below w.heap.size w w'
section
attribute [local go_sem] Oper.semAt_some
set_option maxRecDepth 100000 in
set_option maxHeartbeats 4000000 in
theorem batch_any (l : List TX) (c : Bool) (a a2 : Option Addr) (cap n2 cap2 : Nat) (w : World) (h : TA w a l) :
    Calls Tryz.prog 58 #[.agg (bc (.slice a l.length cap) c (.slice a2 n2 cap2))] w (BatP w (rb17 l) c (.slice a2 n2 cap2)) := by
  obtain ⟨ii, hi, hz, hs, hby⟩ := infoRtx
  go_enter Tryz.func58, Tryz.ntmps58
  go_wp2_with (with_reducible refine at_list ?_; first
    | (refine wpList_boxRow (op := ⟨some 1, _, _, _, _, _⟩) rfl _ _ rfl _ rfl ?_; intro w1 hw1 hs1 h1; replace hs1 := hs1.symm; have HB := hw1; clear hw1)
    | (refine wpList_allocRow (op := ⟨some 2, _, _, _, _, _⟩) rfl _ rfl _ zRB.1 ?_; intro w2 hw2 hs2 h2; replace hs2 := hs2.symm; replace h1 := h1.belowSize hw2; replace HB := HB.trans (hw2.mono HB.size); clear hw2; have c1 := (h1.cell 1).trans (bc_g1 _ _ _); have c2 := (h1.cell 2).trans (bc_g2 _ _ _))
    | (refine wpList_allocRow (op := ⟨some 3, _, _, _, _, _⟩) rfl _ rfl _ zRB.1 ?_; intro w3 hw3 hs3 h3; replace hs3 := hs3.symm; clear c1 c2; have hB2 := HB.size; replace h1 := h1.belowSize hw3; replace h2 := h2.belowSize hw3; replace HB := HB.trans (hw3.mono HB.size); clear hw3)
    | (refine wpList_storeRow (op := ⟨none, .store 125 (.tmp 3) (.tmp 9), _, _, _, _⟩) rfl _ _ _ rfl w2.heap.size (bc (.slice none 0 0) c (.slice a2 n2 cap2)) rfl rfl _ _ h3 (by simp only [bc_size]) (by rw [bc_size]; exact zRB.2) (bc_one _ _ _ _ _ _ _) ?_; intro w4 hg4 hs4 hb4; clear hs4; replace h1 := h1.grown hg4 (by simp; omega); replace h2 := h2.grown hg4 (by simp; omega); replace HB := HB.trans (below_of_grown hg4 hB2 HB.size); replace h3 := hb4; clear hb4 hg4))
  obtain ⟨B2, hB20⟩ : ∃ B, B = w1.heap.size := ⟨_, rfl⟩
  obtain ⟨B3, hB30⟩ : ∃ B, B = w2.heap.size := ⟨_, rfl⟩
  rw [← hB20] at h2 ⊢
  rw [← hB30] at h3 ⊢
  have k2 : w.heap.size < B2 := by omega
  have k3 : B2 < B3 := by omega
  have hl3 := h3.lt
  clear hB20 hB30 hs1 hs2 hs3 hB2
  obtain ⟨lo, hlo⟩ : ∃ lo, lo = B3 + 1 := ⟨_, rfl⟩
  have hlow : lo ≤ w4.heap.size := by omega
  go_loopw [4] (fun v4 wl => ∃ (i : Nat) (ls : List (List Value)) (sa : Option Addr) (sc : Nat), i ≤ l.length ∧ i ≤ 17 ∧ v4 = .int .i64 i ∧ Below w.heap.size w wl ∧ lo ≤ wl.heap.size ∧ Blk wl w.heap.size (bc (.slice a l.length cap) c (.slice a2 n2 cap2)) 58 ∧ Blk wl B2 (bc (.slice none 0 0) false (.slice none 0 0)) 125 ∧ Blk wl B3 (bc (.slice sa ls.length sc) c (.slice a2 n2 cap2)) 125 ∧ Sh.GL wl 91 3 lo (.slice sa ls.length sc) ls ∧ TXL wl w.heap.size 146 ls ((l.take i).map cut9)) (fun v4 _ => 17 - (intOf v4).toNat)
  case atStart => exact ⟨0, [], none, 0, by omega, by omega, rfl, HB, hlow, h1, h2, h3, Sh.GL.nil _ _ _ _, by rw [List.take_zero]; exact TXL.nil _ _ _⟩
  case round =>
    obtain ⟨i, ls, sa, sc, hil, hi17, rfl, hB, hlw, b1, b2, b3, hG, hT⟩ := hrel
    clear h1 h2 h3 HB hlow hl3
    have c0 := (b1.cell 0).trans (bc_g0 _ _ _)
    by_cases hlt : i < l.length
    · by_cases hlt2 : i < 17
      · obtain ⟨g, o, rfl⟩ := h.ex (by omega)
        obtain ⟨xa, xc, hr, hsl, hx1, hx2⟩ := (h.below hB).at i hlt
        have HF := fun w1 (k : SL w1 xa l[i].ops) => ref_any l[i].client l[i].nonce l[i].ops xa xc w1 k
        have hls := hT.len
        have hln : ls.length ≤ 17 := by rw [hls, List.length_map, List.length_take]; omega
        have hsn : Hid ((l.take (i + 1)).map cut9 = (l.take i).map cut9 ++ [cut9 l[i]]) := by
          rw [List.take_succ_eq_append_getElem hlt, List.map_append]; exact rfl
        have hgw : g < w.heap.size := by
          obtain ⟨_, _, hr0, _⟩ := h.at i hlt
          exact World.block_lt_of_cell? _ _ (hr0 0 _ rfl)
        have hz1 : (0 : Int) ≤ (i : Int) := by omega
        have hz2 : (i : Int) < (l.length : Int) := by omega
        have hz3 : (i : Int) < 17 := by omega
        generalize hli : l[i] = t at *
        clear hli hls
        unfold RefP at HF
        generalize (l.take i).map cut9 = L at *
        go_wp2_with fail
        clear c0
        replace hB := hB.drew
        replace hG := hG.drew
        replace hT := hT.below ((Below.refl _ _).drew)
        replace b2 := b2.drew
        have hlw' : lo ≤ wr.drew.heap.size := hlw
        refine wp_region_held_drew (S := fun w' => Blk w' w.heap.size (bc (.slice (some ⟨g, o, none⟩) l.length cap) c (.slice a2 n2 cap2)) 58 ∧ w'.rangeAt g (o + i * 3) (txc t.client t.nonce (.slice xa t.ops.length xc)).toList) (by kernel_rfl) ⟨b1.drew, range_keep ((Below.refl _ _).drew) hr⟩ (fun hHeld => ?_)
        replace hsl := hsl.below ((Below.refl _ _).drew)
        replace b3 := b3.drew
        clear b1 hr
        refine wpAnyH_take (i := 0) (oi := ⟨some 21, _, _, _, _, _⟩) (v := .pointer (some ⟨B3, 0, none⟩)) rfl (by kernel_rfl) (by kernel_rfl) (by kernel_rfl) (fun _ _ _ h => h) (Or.inl ⟨by rfl, fun w hSw => by go_simp⟩) hHeld ?_
        refine wpAnyH_take (i := 2) (oi := ⟨some 23, _, _, _, _, _⟩) (v := .pointer (some ⟨w.heap.size, 0, none⟩)) rfl (by kernel_rfl) (by kernel_rfl) (by kernel_rfl) (fun _ _ _ h => h) (Or.inl ⟨by rfl, fun w hSw => by go_simp⟩) hHeld ?_
        refine wpAnyH_take (i := 4) (oi := ⟨some 25, _, _, _, _, _⟩) (v := .int .i64 i) rfl (by kernel_rfl) (by kernel_rfl) (by kernel_rfl) (fun _ _ _ h => h) (Or.inl ⟨by rfl, fun w hSw => by go_simp⟩) hHeld ?_
        simp only [Act.put, List.setIfInBounds_toArray, List.set_cons_zero, List.set_cons_succ]
        refine wpAnyH_take (i := 3) (oi := ⟨some 24, _, _, _, _, _⟩) (v := .slice (some ⟨g, o, none⟩) l.length cap) rfl (by kernel_rfl) (by kernel_rfl) (by kernel_rfl) (fun _ _ _ h => h) (Or.inl ⟨by rfl, fun w hSw => run_loadCellB _ _ rfl _ 0 rfl _ _ hSw.1 _ Tryz.underlying51 rfl _ (bc_g0 _ _ _)⟩) hHeld ?_
        simp only [Act.put, List.setIfInBounds_toArray, List.set_cons_zero, List.set_cons_succ]
        refine wpAnyH_take (i := 5) (oi := ⟨some 26, _, _, _, _, _⟩) (v := .pointer (some ⟨g, o + i * 3, none⟩)) rfl (by kernel_rfl) (by kernel_rfl) (by kernel_rfl) (fun _ _ _ h => h) (Or.inl ⟨by rfl, fun w hSw => by go_simp⟩) hHeld ?_
        simp only [Act.put, List.setIfInBounds_toArray, List.set_cons_zero, List.set_cons_succ]
        refine wpAnyH_take (i := 6) (oi := ⟨some 27, _, _, _, _, _⟩) (v := .agg (txc t.client t.nonce (.slice xa t.ops.length xc))) rfl (by kernel_rfl) (by kernel_rfl) (by kernel_rfl) (fun _ _ _ h => h) (Or.inl ⟨by rfl, fun w hSw => run_loadMid _ _ rfl _ _ rfl _ hSw.2 _ Tryz.underlying95 rfl (by rw [txc_size]; exact zTx.2)⟩) hHeld ?_
        simp only [Act.put, List.setIfInBounds_toArray, List.set_cons_zero, List.set_cons_succ]
        try simp only [Act.put, List.setIfInBounds_toArray, List.set_cons_zero, List.set_cons_succ]
        refine wpAnyH_ready (rs := [1, 7]) (by kernel_rfl) (by simp) ?_
        refine AllReadyH.cons (o := ⟨some 22, .load 123 (.tmp 21), _, _, _, _⟩) rfl (fun K hK => ?_) (AllReadyH.cons (o := ⟨some 28, .call ⟨.value (.func 36), #[.tmp 27], #[95]⟩, _, _, _, _⟩) rfl (fun K hK => ?_) AllReadyH.nil)
        · skip
          rw [if_pos (by rfl)]
          refine wp_run _ _ (run_loadCellB _ _ rfl B3 0 rfl _ _ b3 _ Tryz.underlying123 rfl (.slice sa ls.length sc) (bc_g0 _ _ _)) ?_
          refine hK.out _ _ hHeld (fun _ => ?_)
          clear hK K
          try simp only [Act.put, List.setIfInBounds_toArray, List.set_cons_zero, List.set_cons_succ]
          refine wpAnyH_ready (rs := [7]) (by kernel_rfl) (by simp) ?_
          refine AllReadyH.cons (o := ⟨some 28, .call ⟨.value (.func 36), #[.tmp 27], #[95]⟩, _, _, _, _⟩) rfl (fun K hK => ?_) AllReadyH.nil
          rw [if_pos (by rfl)]
          go_simp
          refine (HF _ hsl).mono ?_
          rintro e wA ⟨slA, rfl, hwA, hOA⟩
          have hHx : (_ ∧ _) := ⟨hHeld.1.belowSize hwA, range_keep hwA hHeld.2⟩
          refine hK.out _ _ hHx (fun _ => ?_)
          clear hK K hHeld
          have hHeld := hHx
          clear hHx
          replace hlw' := Nat.le_trans hlw' hwA.size
          replace hG := hG.below hwA
          replace hT := hT.below hwA
          replace b2 := b2.belowSize hwA
          replace b3 := b3.belowSize hwA
          replace hB := hB.trans (hwA.mono hB.size)
          obtain ⟨aA, capA, rfl, hSA⟩ := hOA.sl
          have hNA : NB wA w.heap.size 146 aA := hOA.nb
          clear hOA hwA
          try simp only [Act.put, List.setIfInBounds_toArray, List.set_cons_zero, List.set_cons_succ]
          refine wpAnyH_ready (rs := [8]) (by kernel_rfl) (by simp) ?_
          refine AllReadyH.cons (o := ⟨some 29, .buildSlice 123 1 #[(0, .tmp 28)], _, _, _, _⟩) rfl (fun K hK => ?_) AllReadyH.nil
          rw [if_pos (by rfl)]
          refine wp_bslRtx _ rfl t.client t.nonce aA (t.ops.take 9).length capA rfl ?_
          intro wB hwB hsB hbB
          have hHx : (_ ∧ _) := ⟨hHeld.1.belowSize hwB, range_keep hwB hHeld.2⟩
          refine hK.out _ _ hHx (fun _ => ?_)
          clear hK K hHeld
          have hHeld := hHx
          clear hHx
          clear hsB
          replace hlw' := Nat.le_trans hlw' hwB.size
          replace hG := hG.below hwB
          replace hT := hT.below hwB
          replace b2 := b2.belowSize hwB
          replace b3 := b3.belowSize hwB
          replace hSA := hSA.below hwB
          replace hNA := hNA.below hwB
          replace hB := hB.trans (hwB.mono hB.size)
          clear hwB
          try simp only [Act.put, List.setIfInBounds_toArray, List.set_cons_zero, List.set_cons_succ]
          refine wpAnyH_ready (rs := [9]) (by kernel_rfl) (by simp) ?_
          refine AllReadyH.cons (o := ⟨some 30, .call ⟨.builtin .append, #[.tmp 22, .tmp 29], #[123, 123]⟩, _, _, _, _⟩) rfl (fun K hK => ?_) AllReadyH.nil
          refine Sh.step_appGL rfl _ _ _ _ rfl 3 lo (.slice sa ls.length sc) ls hlw' rfl hG _ 1 rfl (txc t.client t.nonce (.slice aA (t.ops.take 9).length capA)).toList (txc_len _ _ _) (txc_all _ _ _ _ _) _ (Blk.sh hbB) ii _ rfl Tryz.underlying123 hi hz hs hby (Nat.le_trans hln (by decide)) ?_
          intro wC sl1 hgC hG1
          have hbs : Beside wB w.heap.size 146 (Sh.slBlk (.slice sa ls.length sc)) := GLbeside hG (by omega) (by decide)
          have hBC : Below w.heap.size wB wC := below_row hgC (fun r e => (hbs r e).1) hB.size
          have hrow : ∀ i, i < lo → some i ≠ Sh.slBlk (.slice sa ls.length sc) := fun i hi e => by have := (hG.lt i e.symm).1; omega
          have hHx : (_ ∧ _) := ⟨hHeld.1.grown hgC (hrow _ (by omega)), range_low hBC hgw hHeld.2⟩
          refine hK.out _ _ hHx (fun _ => ?_)
          clear hK K hHeld
          have hHeld := hHx
          clear hHx
          replace b2 := b2.grown hgC (hrow _ (by omega))
          replace b3 := b3.grown hgC (hrow _ (by omega))
          replace hT := hT.grown hgC hbs
          replace hSA := hSA.turn hNA hgC hbs
          replace hNA := hNA.grown hgC hbs
          replace hB := hB.trans hBC
          have hlwC : lo ≤ wC.heap.size := Nat.le_trans hlw' hgC.size
          have hT1 := hT.snoc ⟨t.client, t.nonce, t.ops.take 9⟩ aA capA hSA hNA hx1 hx2
          obtain ⟨sb, sbc, rfl, _⟩ := hG1.sl
          clear hbs hBC hrow hgC hG hlw' hSA hNA hbB
          try simp only [Act.put, List.setIfInBounds_toArray, List.set_cons_zero, List.set_cons_succ]
          refine wpAnyH_take (i := 10) (oi := ⟨some 31, _, _, _, _, _⟩) (v := .pointer (some ⟨B3, 0, none⟩)) rfl (by kernel_rfl) (by kernel_rfl) (by kernel_rfl) (fun _ _ _ h => h) (Or.inl ⟨by rfl, fun w hSw => by go_simp⟩) hHeld ?_
          try simp only [Act.put, List.setIfInBounds_toArray, List.set_cons_zero, List.set_cons_succ]
          refine wpAnyH_ready (rs := [11]) (by kernel_rfl) (by simp) ?_
          refine AllReadyH.cons (o := ⟨none, .store 123 (.tmp 31) (.tmp 30), _, _, _, _⟩) rfl (fun K hK => ?_) AllReadyH.nil
          rw [if_pos (by rfl)]
          refine wp_storeCellB _ _ _ rfl B3 0 rfl (.slice sb (ls ++ [(txc t.client t.nonce (.slice aA (t.ops.take 9).length capA)).toList]).length sbc) rfl _ _ b3 iSlRT rfl rfl (by rw [bc_size]; decide) ?_
          intro wD hgD hsD hbD
          rw [bc_set0] at hbD
          clear hsD
          have hHx : (_ ∧ _) := ⟨hHeld.1.grown hgD (by simp; omega), range_low (below_of_grown hgD (show w.heap.size ≤ B3 by omega) hB.size) hgw hHeld.2⟩
          refine hK.out _ _ hHx (fun _ => ?_)
          clear hK K hHeld
          have b1 := hHx.1
          clear hHx
          have hbD3 : Beside wC w.heap.size 146 (some B3) := fun r e => by
            have e := Option.some.inj e
            subst e
            exact ⟨by omega, _, _, _, b3.out, by decide⟩
          replace hT1 := hT1.grown hgD hbD3
          replace hG1 := hG1.grown hgD (hG1.ne (Blk.sh b3) (.inr (by omega)))
          replace b2 := b2.grown hgD (by simp; omega)
          replace hB := hB.trans (below_of_grown hgD (show w.heap.size ≤ B3 by omega) hB.size)
          have hlwD : lo ≤ wD.heap.size := Nat.le_trans hlwC hgD.size
          clear hgD hbD3 b3 hlwC hT
          generalize ls ++ [(txc t.client t.nonce (.slice aA (t.ops.take 9).length capA)).toList] = ls2 at *
          refine wpAnyH_done (by kernel_rfl) ?_ _
          simp only [Act.put]
          go_simp
          go_wp2_with fail
          go_roundw
          case rel => exact ⟨i + 1, ls2, sb, sbc, by omega, by omega, by go_num, hB, hlwD, b1, b2, hbD, hG1, by rw [hsn.out]; exact hT1⟩
          case measure => simp [intOf]; omega
        · skip
          rw [if_pos (by rfl)]
          go_simp
          refine (HF _ hsl).mono ?_
          rintro e wA ⟨slA, rfl, hwA, hOA⟩
          have hHx : (_ ∧ _) := ⟨hHeld.1.belowSize hwA, range_keep hwA hHeld.2⟩
          refine hK.out _ _ hHx (fun _ => ?_)
          clear hK K hHeld
          have hHeld := hHx
          clear hHx
          replace hlw' := Nat.le_trans hlw' hwA.size
          replace hG := hG.below hwA
          replace hT := hT.below hwA
          replace b2 := b2.belowSize hwA
          replace b3 := b3.belowSize hwA
          replace hB := hB.trans (hwA.mono hB.size)
          obtain ⟨aA, capA, rfl, hSA⟩ := hOA.sl
          have hNA : NB wA w.heap.size 146 aA := hOA.nb
          clear hOA hwA
          try simp only [Act.put, List.setIfInBounds_toArray, List.set_cons_zero, List.set_cons_succ]
          refine wpAnyH_ready (rs := [1, 8]) (by kernel_rfl) (by simp) ?_
          refine AllReadyH.cons (o := ⟨some 22, .load 123 (.tmp 21), _, _, _, _⟩) rfl (fun K hK => ?_) (AllReadyH.cons (o := ⟨some 29, .buildSlice 123 1 #[(0, .tmp 28)], _, _, _, _⟩) rfl (fun K hK => ?_) AllReadyH.nil)
          · skip
            rw [if_pos (by rfl)]
            refine wp_run _ _ (run_loadCellB _ _ rfl B3 0 rfl _ _ b3 _ Tryz.underlying123 rfl (.slice sa ls.length sc) (bc_g0 _ _ _)) ?_
            refine hK.out _ _ hHeld (fun _ => ?_)
            clear hK K
            try simp only [Act.put, List.setIfInBounds_toArray, List.set_cons_zero, List.set_cons_succ]
            refine wpAnyH_ready (rs := [8]) (by kernel_rfl) (by simp) ?_
            refine AllReadyH.cons (o := ⟨some 29, .buildSlice 123 1 #[(0, .tmp 28)], _, _, _, _⟩) rfl (fun K hK => ?_) AllReadyH.nil
            rw [if_pos (by rfl)]
            refine wp_bslRtx _ rfl t.client t.nonce aA (t.ops.take 9).length capA rfl ?_
            intro wB hwB hsB hbB
            have hHx : (_ ∧ _) := ⟨hHeld.1.belowSize hwB, range_keep hwB hHeld.2⟩
            refine hK.out _ _ hHx (fun _ => ?_)
            clear hK K hHeld
            have hHeld := hHx
            clear hHx
            clear hsB
            replace hlw' := Nat.le_trans hlw' hwB.size
            replace hG := hG.below hwB
            replace hT := hT.below hwB
            replace b2 := b2.belowSize hwB
            replace b3 := b3.belowSize hwB
            replace hSA := hSA.below hwB
            replace hNA := hNA.below hwB
            replace hB := hB.trans (hwB.mono hB.size)
            clear hwB
            try simp only [Act.put, List.setIfInBounds_toArray, List.set_cons_zero, List.set_cons_succ]
            refine wpAnyH_ready (rs := [9]) (by kernel_rfl) (by simp) ?_
            refine AllReadyH.cons (o := ⟨some 30, .call ⟨.builtin .append, #[.tmp 22, .tmp 29], #[123, 123]⟩, _, _, _, _⟩) rfl (fun K hK => ?_) AllReadyH.nil
            refine Sh.step_appGL rfl _ _ _ _ rfl 3 lo (.slice sa ls.length sc) ls hlw' rfl hG _ 1 rfl (txc t.client t.nonce (.slice aA (t.ops.take 9).length capA)).toList (txc_len _ _ _) (txc_all _ _ _ _ _) _ (Blk.sh hbB) ii _ rfl Tryz.underlying123 hi hz hs hby (Nat.le_trans hln (by decide)) ?_
            intro wC sl1 hgC hG1
            have hbs : Beside wB w.heap.size 146 (Sh.slBlk (.slice sa ls.length sc)) := GLbeside hG (by omega) (by decide)
            have hBC : Below w.heap.size wB wC := below_row hgC (fun r e => (hbs r e).1) hB.size
            have hrow : ∀ i, i < lo → some i ≠ Sh.slBlk (.slice sa ls.length sc) := fun i hi e => by have := (hG.lt i e.symm).1; omega
            have hHx : (_ ∧ _) := ⟨hHeld.1.grown hgC (hrow _ (by omega)), range_low hBC hgw hHeld.2⟩
            refine hK.out _ _ hHx (fun _ => ?_)
            clear hK K hHeld
            have hHeld := hHx
            clear hHx
            replace b2 := b2.grown hgC (hrow _ (by omega))
            replace b3 := b3.grown hgC (hrow _ (by omega))
            replace hT := hT.grown hgC hbs
            replace hSA := hSA.turn hNA hgC hbs
            replace hNA := hNA.grown hgC hbs
            replace hB := hB.trans hBC
            have hlwC : lo ≤ wC.heap.size := Nat.le_trans hlw' hgC.size
            have hT1 := hT.snoc ⟨t.client, t.nonce, t.ops.take 9⟩ aA capA hSA hNA hx1 hx2
            obtain ⟨sb, sbc, rfl, _⟩ := hG1.sl
            clear hbs hBC hrow hgC hG hlw' hSA hNA hbB
            try simp only [Act.put, List.setIfInBounds_toArray, List.set_cons_zero, List.set_cons_succ]
            refine wpAnyH_take (i := 10) (oi := ⟨some 31, _, _, _, _, _⟩) (v := .pointer (some ⟨B3, 0, none⟩)) rfl (by kernel_rfl) (by kernel_rfl) (by kernel_rfl) (fun _ _ _ h => h) (Or.inl ⟨by rfl, fun w hSw => by go_simp⟩) hHeld ?_
            try simp only [Act.put, List.setIfInBounds_toArray, List.set_cons_zero, List.set_cons_succ]
            refine wpAnyH_ready (rs := [11]) (by kernel_rfl) (by simp) ?_
            refine AllReadyH.cons (o := ⟨none, .store 123 (.tmp 31) (.tmp 30), _, _, _, _⟩) rfl (fun K hK => ?_) AllReadyH.nil
            rw [if_pos (by rfl)]
            refine wp_storeCellB _ _ _ rfl B3 0 rfl (.slice sb (ls ++ [(txc t.client t.nonce (.slice aA (t.ops.take 9).length capA)).toList]).length sbc) rfl _ _ b3 iSlRT rfl rfl (by rw [bc_size]; decide) ?_
            intro wD hgD hsD hbD
            rw [bc_set0] at hbD
            clear hsD
            have hHx : (_ ∧ _) := ⟨hHeld.1.grown hgD (by simp; omega), range_low (below_of_grown hgD (show w.heap.size ≤ B3 by omega) hB.size) hgw hHeld.2⟩
            refine hK.out _ _ hHx (fun _ => ?_)
            clear hK K hHeld
            have b1 := hHx.1
            clear hHx
            have hbD3 : Beside wC w.heap.size 146 (some B3) := fun r e => by
              have e := Option.some.inj e
              subst e
              exact ⟨by omega, _, _, _, b3.out, by decide⟩
            replace hT1 := hT1.grown hgD hbD3
            replace hG1 := hG1.grown hgD (hG1.ne (Blk.sh b3) (.inr (by omega)))
            replace b2 := b2.grown hgD (by simp; omega)
            replace hB := hB.trans (below_of_grown hgD (show w.heap.size ≤ B3 by omega) hB.size)
            have hlwD : lo ≤ wD.heap.size := Nat.le_trans hlwC hgD.size
            clear hgD hbD3 b3 hlwC hT
            generalize ls ++ [(txc t.client t.nonce (.slice aA (t.ops.take 9).length capA)).toList] = ls2 at *
            refine wpAnyH_done (by kernel_rfl) ?_ _
            simp only [Act.put]
            go_simp
            go_wp2_with fail
            go_roundw
            case rel => exact ⟨i + 1, ls2, sb, sbc, by omega, by omega, by go_num, hB, hlwD, b1, b2, hbD, hG1, by rw [hsn.out]; exact hT1⟩
            case measure => simp [intOf]; omega
          · skip
            rw [if_pos (by rfl)]
            refine wp_bslRtx _ rfl t.client t.nonce aA (t.ops.take 9).length capA rfl ?_
            intro wB hwB hsB hbB
            have hHx : (_ ∧ _) := ⟨hHeld.1.belowSize hwB, range_keep hwB hHeld.2⟩
            refine hK.out _ _ hHx (fun _ => ?_)
            clear hK K hHeld
            have hHeld := hHx
            clear hHx
            clear hsB
            replace hlw' := Nat.le_trans hlw' hwB.size
            replace hG := hG.below hwB
            replace hT := hT.below hwB
            replace b2 := b2.belowSize hwB
            replace b3 := b3.belowSize hwB
            replace hSA := hSA.below hwB
            replace hNA := hNA.below hwB
            replace hB := hB.trans (hwB.mono hB.size)
            clear hwB
            try simp only [Act.put, List.setIfInBounds_toArray, List.set_cons_zero, List.set_cons_succ]
            refine wpAnyH_ready (rs := [1]) (by kernel_rfl) (by simp) ?_
            refine AllReadyH.cons (o := ⟨some 22, .load 123 (.tmp 21), _, _, _, _⟩) rfl (fun K hK => ?_) AllReadyH.nil
            rw [if_pos (by rfl)]
            refine wp_run _ _ (run_loadCellB _ _ rfl B3 0 rfl _ _ b3 _ Tryz.underlying123 rfl (.slice sa ls.length sc) (bc_g0 _ _ _)) ?_
            refine hK.out _ _ hHeld (fun _ => ?_)
            clear hK K
            try simp only [Act.put, List.setIfInBounds_toArray, List.set_cons_zero, List.set_cons_succ]
            refine wpAnyH_ready (rs := [9]) (by kernel_rfl) (by simp) ?_
            refine AllReadyH.cons (o := ⟨some 30, .call ⟨.builtin .append, #[.tmp 22, .tmp 29], #[123, 123]⟩, _, _, _, _⟩) rfl (fun K hK => ?_) AllReadyH.nil
            refine Sh.step_appGL rfl _ _ _ _ rfl 3 lo (.slice sa ls.length sc) ls hlw' rfl hG _ 1 rfl (txc t.client t.nonce (.slice aA (t.ops.take 9).length capA)).toList (txc_len _ _ _) (txc_all _ _ _ _ _) _ (Blk.sh hbB) ii _ rfl Tryz.underlying123 hi hz hs hby (Nat.le_trans hln (by decide)) ?_
            intro wC sl1 hgC hG1
            have hbs : Beside wB w.heap.size 146 (Sh.slBlk (.slice sa ls.length sc)) := GLbeside hG (by omega) (by decide)
            have hBC : Below w.heap.size wB wC := below_row hgC (fun r e => (hbs r e).1) hB.size
            have hrow : ∀ i, i < lo → some i ≠ Sh.slBlk (.slice sa ls.length sc) := fun i hi e => by have := (hG.lt i e.symm).1; omega
            have hHx : (_ ∧ _) := ⟨hHeld.1.grown hgC (hrow _ (by omega)), range_low hBC hgw hHeld.2⟩
            refine hK.out _ _ hHx (fun _ => ?_)
            clear hK K hHeld
            have hHeld := hHx
            clear hHx
            replace b2 := b2.grown hgC (hrow _ (by omega))
            replace b3 := b3.grown hgC (hrow _ (by omega))
            replace hT := hT.grown hgC hbs
            replace hSA := hSA.turn hNA hgC hbs
            replace hNA := hNA.grown hgC hbs
            replace hB := hB.trans hBC
            have hlwC : lo ≤ wC.heap.size := Nat.le_trans hlw' hgC.size
            have hT1 := hT.snoc ⟨t.client, t.nonce, t.ops.take 9⟩ aA capA hSA hNA hx1 hx2
            obtain ⟨sb, sbc, rfl, _⟩ := hG1.sl
            clear hbs hBC hrow hgC hG hlw' hSA hNA hbB
            try simp only [Act.put, List.setIfInBounds_toArray, List.set_cons_zero, List.set_cons_succ]
            refine wpAnyH_take (i := 10) (oi := ⟨some 31, _, _, _, _, _⟩) (v := .pointer (some ⟨B3, 0, none⟩)) rfl (by kernel_rfl) (by kernel_rfl) (by kernel_rfl) (fun _ _ _ h => h) (Or.inl ⟨by rfl, fun w hSw => by go_simp⟩) hHeld ?_
            try simp only [Act.put, List.setIfInBounds_toArray, List.set_cons_zero, List.set_cons_succ]
            refine wpAnyH_ready (rs := [11]) (by kernel_rfl) (by simp) ?_
            refine AllReadyH.cons (o := ⟨none, .store 123 (.tmp 31) (.tmp 30), _, _, _, _⟩) rfl (fun K hK => ?_) AllReadyH.nil
            rw [if_pos (by rfl)]
            refine wp_storeCellB _ _ _ rfl B3 0 rfl (.slice sb (ls ++ [(txc t.client t.nonce (.slice aA (t.ops.take 9).length capA)).toList]).length sbc) rfl _ _ b3 iSlRT rfl rfl (by rw [bc_size]; decide) ?_
            intro wD hgD hsD hbD
            rw [bc_set0] at hbD
            clear hsD
            have hHx : (_ ∧ _) := ⟨hHeld.1.grown hgD (by simp; omega), range_low (below_of_grown hgD (show w.heap.size ≤ B3 by omega) hB.size) hgw hHeld.2⟩
            refine hK.out _ _ hHx (fun _ => ?_)
            clear hK K hHeld
            have b1 := hHx.1
            clear hHx
            have hbD3 : Beside wC w.heap.size 146 (some B3) := fun r e => by
              have e := Option.some.inj e
              subst e
              exact ⟨by omega, _, _, _, b3.out, by decide⟩
            replace hT1 := hT1.grown hgD hbD3
            replace hG1 := hG1.grown hgD (hG1.ne (Blk.sh b3) (.inr (by omega)))
            replace b2 := b2.grown hgD (by simp; omega)
            replace hB := hB.trans (below_of_grown hgD (show w.heap.size ≤ B3 by omega) hB.size)
            have hlwD : lo ≤ wD.heap.size := Nat.le_trans hlwC hgD.size
            clear hgD hbD3 b3 hlwC hT
            generalize ls ++ [(txc t.client t.nonce (.slice aA (t.ops.take 9).length capA)).toList] = ls2 at *
            refine wpAnyH_done (by kernel_rfl) ?_ _
            simp only [Act.put]
            go_simp
            go_wp2_with fail
            go_roundw
            case rel => exact ⟨i + 1, ls2, sb, sbc, by omega, by omega, by go_num, hB, hlwD, b1, b2, hbD, hG1, by rw [hsn.out]; exact hT1⟩
            case measure => simp [intOf]; omega
      · have hz2 : (i : Int) < (l.length : Int) := by omega
        have hz3 : ¬ (i : Int) < 17 := by omega
        have hE : Hid (l.take 17 = l.take i) := by rw [show i = 17 from by omega]; exact rfl
        rw [← hE.out] at hT
        clear hE
        obtain ⟨xa, xc, e0, hTA⟩ := TXL.ta hG hT
        replace hT : TXL wr w.heap.size 146 ls (rb17 l) := hT
        have hlenL : Hid (ls.length = (rb17 l).length) := hT.len
        clear e0 hTA
        go_wp2_with (with_reducible refine at_list ?_; first
          | (refine wpList_loadRow (op := ⟨some 32, _, _, _, _, _⟩) rfl _ _ rfl B3 rfl _ _ b3 _ Tryz.underlying125 rfl (by rw [bc_size]; exact zRB.2) ?_)
          | (refine wpList_storeRow (op := ⟨none, .store 125 (.tmp 2) (.tmp 32), _, _, _, _⟩) rfl _ _ _ rfl B2 (bc (.slice sa ls.length sc) c (.slice a2 n2 cap2)) rfl rfl _ _ b2 (by simp only [bc_size]) (by rw [bc_size]; exact zRB.2) (bc_one _ _ _ _ _ _ _) ?_; intro w9 hg9 hs9 hb9))
        have hbD2 : Beside wr w.heap.size 146 (some B2) := fun r e => by
          have e := Option.some.inj e
          subst e
          exact ⟨by omega, _, _, _, b2.out, by decide⟩
        have hT9 := hT.grown hg9 hbD2
        have hG9 := hG.grown hg9 (hG.ne (Blk.sh b2) (.inr (by omega)))
        obtain ⟨ya, yc, e1, hTA9⟩ := TXL.ta hG9 hT9
        simp only [Value.slice.injEq] at e1
        obtain ⟨rfl, _, rfl⟩ := e1
        refine bodyPost_ret (v := .agg (bc (.slice sa ls.length sc) c (.slice a2 n2 cap2))) ?_ rfl ⟨sa, sc, by rw [hlenL.out], hTA9, hB.trans (below_of_grown hg9 (by omega) hB.size)⟩
        exact results_cell_row rfl _ _ B2 _ _ _ _ rfl hb9.out Tryz.underlying125 rfl (by rw [bc_size]; exact zRB.2)
    · have hz2 : ¬ (i : Int) < (l.length : Int) := by omega
      have hE : Hid (l.take 17 = l.take i) := by rw [List.take_of_length_le (by omega), List.take_of_length_le (by omega)]; exact rfl
      rw [← hE.out] at hT
      clear hE
      obtain ⟨xa, xc, e0, hTA⟩ := TXL.ta hG hT
      replace hT : TXL wr w.heap.size 146 ls (rb17 l) := hT
      have hlenL : Hid (ls.length = (rb17 l).length) := hT.len
      clear e0 hTA
      go_wp2_with (with_reducible refine at_list ?_; first
        | (refine wpList_loadRow (op := ⟨some 32, _, _, _, _, _⟩) rfl _ _ rfl B3 rfl _ _ b3 _ Tryz.underlying125 rfl (by rw [bc_size]; exact zRB.2) ?_)
        | (refine wpList_storeRow (op := ⟨none, .store 125 (.tmp 2) (.tmp 32), _, _, _, _⟩) rfl _ _ _ rfl B2 (bc (.slice sa ls.length sc) c (.slice a2 n2 cap2)) rfl rfl _ _ b2 (by simp only [bc_size]) (by rw [bc_size]; exact zRB.2) (bc_one _ _ _ _ _ _ _) ?_; intro w9 hg9 hs9 hb9))
      have hbD2 : Beside wr w.heap.size 146 (some B2) := fun r e => by
        have e := Option.some.inj e
        subst e
        exact ⟨by omega, _, _, _, b2.out, by decide⟩
      have hT9 := hT.grown hg9 hbD2
      have hG9 := hG.grown hg9 (hG.ne (Blk.sh b2) (.inr (by omega)))
      obtain ⟨ya, yc, e1, hTA9⟩ := TXL.ta hG9 hT9
      simp only [Value.slice.injEq] at e1
      obtain ⟨rfl, _, rfl⟩ := e1
      refine bodyPost_ret (v := .agg (bc (.slice sa ls.length sc) c (.slice a2 n2 cap2))) ?_ rfl ⟨sa, sc, by rw [hlenL.out], hTA9, hB.trans (below_of_grown hg9 (by omega) hB.size)⟩
      exact results_cell_row rfl _ _ B2 _ _ _ _ rfl hb9.out Tryz.underlying125 rfl (by rw [bc_size]; exact zRB.2)
end
end Go.Proofs.YtmbdhngoldganaaGreatDoor
