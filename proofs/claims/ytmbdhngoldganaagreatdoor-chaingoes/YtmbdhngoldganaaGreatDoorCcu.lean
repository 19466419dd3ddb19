/- What good of the chain's law does. What Encode of a chain does. A chain plainly, batch behind batch; what is needed of it. What Clone of kept blocks, Cut and Block of a chain do. What ChainNames does. What ChainCuts does. -/
import Derived.Test.YtmbdhngoldganaaGreatDoorCarg
import Derived.Test.YtmbdhngoldganaaGreatDoorSTgd
import Derived.Test.YtmbdhngoldganaaGreatDoorSRs
import Derived.Deep.RegionHeld3
import Derived.Test.YtmbdhngoldganaaGreatDoorHdq
import Derived.Test.YtmbdhngoldganaaGreatDoorBcc
import Derived.Test.YtmbdhngoldganaaGreatDoorCtp
import Derived.Test.YtmbdhngoldganaaGreatDoorEnc
namespace Go.Proofs.YtmbdhngoldganaaGreatDoor
open Go Go.RowKit
theorem okTx_cut9 (t : TX) : okTx (cut9 t) = okTx t := by
  by_cases h : t.ops.length ≤ 9
  · unfold cut9
    rw [List.take_of_length_le h]
  · have h1 : okTx t = false := by
      rw [← Bool.not_eq_true]
      intro e
      have := (okTx_of e).len1
      omega
    have h2 : okTx (cut9 t) = false := by
      rw [← Bool.not_eq_true]
      intro e
      have h3 := (okTx_of e).len1
      have h4 : (cut9 t).ops.length = min 9 t.ops.length := List.length_take ..
      omega
    rw [h1, h2]
theorem rb17_len {l : List TX} (h : l.length ≤ 17) : (rb17 l).length = l.length := by unfold rb17; rw [List.length_map, List.length_take]; omega
theorem chkB_rb (b : BT) (h : b.txs.length ≤ 17) : chkB ⟨rb17 b.txs, b.conf, b.mem⟩ = chkB b := by
  obtain ⟨l, c, m⟩ := b
  dsimp only at *
  rw [chkB_ag, chkB_ag]
  have e1 : agB ⟨rb17 l, c, m⟩ = agB ⟨l, c, m⟩ := by
    unfold agB
    dsimp only
    have : (rb17 l).isEmpty = l.isEmpty := by
      unfold rb17
      rw [List.take_of_length_le h]
      cases l <;> rfl
    rw [this]
  have e2 : (rb17 l).all okTx = l.all okTx := by
    unfold rb17
    rw [List.take_of_length_le h, List.all_map]
    congr 1
    funext t
    exact okTx_cut9 t
  rw [e1]
  dsimp only
  rw [rb17_len h, e2]
theorem batch_chk (b : BT) (h : b.txs.length ≤ 17) (a a2 : Option Addr) (cap cap2 : Nat) (w : World) (hI : IA w a2 b.mem) (hT : TA w a (rb17 b.txs)) :
    Calls Tryz.prog 57 #[.agg (bc (.slice a (rb17 b.txs).length cap) b.conf (.slice a2 b.mem.length cap2))] w fun e w' => e = .returned (.int .i64 (chkB b)) ∧ Below w.heap.size w w' := by
  rw [← chkB_rb b h]
  exact rcheckB_any ⟨rb17 b.txs, b.conf, b.mem⟩ a a2 cap cap2 w hT hI
/-- Batches that may be, not too many. -/
def okB (b : BT) : Bool := decide (b.txs.length ≤ 16) && (decide (b.mem.length ≤ 16) && decide (chkB b = 0))
def goodL (l : List BT) : List BT := (l.filter okB).take 8
theorem goodL_len (l : List BT) : (goodL l).length ≤ 8 := by unfold goodL; rw [List.length_take]; omega
theorem goodL_ok {l : List BT} {b : BT} (h : b ∈ goodL l) : chkB b = 0 := by
  have h1 := (List.mem_filter.1 (List.mem_of_mem_take h)).2
  unfold okB at h1
  simp at h1
  exact h1.2.2
theorem goodL_snoc {l : List BT} {b : BT} (h : (goodL l).length < 8) : goodL (l ++ [b]) = if okB b = true then goodL l ++ [b] else goodL l := by
  unfold goodL at *
  rw [List.length_take] at h
  have hf : (l.filter okB).length < 8 := by omega
  rw [List.filter_append]
  by_cases hb : okB b = true
  · rw [if_pos hb, List.filter_cons_of_pos hb, List.filter_nil, List.take_of_length_le (by simp; omega), List.take_of_length_le (by omega)]
  · rw [if_neg hb, List.filter_cons_of_neg hb, List.filter_nil, List.append_nil]
theorem goodL_full {l m : List BT} (h : 8 ≤ (goodL l).length) : goodL (l ++ m) = goodL l := by
  unfold goodL at *
  rw [List.length_take] at h
  rw [List.filter_append, List.take_append_of_le_length (by omega)]
theorem infoBat : ∃ i, Tryz.prog.info? 58 = some i ∧ i.zero = some (.agg (bc (.slice none 0 0) false (.slice none 0 0))) ∧ i.size = 3 ∧ i.bytes ≤ 256 := by
  have h : (Tryz.prog.info? 58).map (fun i => (i.zero, i.size, i.bytes)) = some (some (.agg (bc (.slice none 0 0) false (.slice none 0 0))), 3, 56) := by kernel_rfl
  cases hq : Tryz.prog.info? 58 with
  | none => rw [hq] at h; cases h
  | some i => rw [hq] at h; simp at h; exact ⟨i, rfl, h.1, h.2.1, by omega⟩
theorem bc_all (a a2 : Option Addr) (n cap n2 cap2 : Nat) (c : Bool) : ∀ u ∈ (bc (.slice a n cap) c (.slice a2 n2 cap2)).toList, u.oneCell' = true := by
  intro u hu
  simp [bc] at hu
  rcases hu with rfl | rfl | rfl <;> rfl
theorem range3B : Array.range 3 = #[0, 1, 2] := by decide
theorem bslBat (a a2 : Option Addr) (n cap n2 cap2 : Nat) (c : Bool) (w : World) : (Instr.buildSlice 25 1 #[(0, .agg (bc (.slice a n cap) c (.slice a2 n2 cap2)))]).run Tryz.prog w = .ok (.slice (some ⟨w.heap.size, 0, none⟩) 1 1) (w.alloc (.cells (bc (.slice a n cap) c (.slice a2 n2 cap2)) 58)) := by
  simp [Instr.buildSlice, run_underlying Tryz.underlying25, sizeOf_run zB.2, Sem.run_bind, Instr.fill, newRow, zB.1, bc, Value.cells, range3B]
theorem run_bslBat {op : Oper} {a : Act} {w : World} (x : Operand) (ho : op.op = .buildSlice 25 1 #[(0, x)]) (a1 a2 : Option Addr) (n cap n2 cap2 : Nat) (c : Bool) (hx : a.eval x = .agg (bc (.slice a1 n cap) c (.slice a2 n2 cap2))) : (execOp a.eval op).run Tryz.prog w = .ok (.value (.slice (some ⟨w.heap.size, 0, none⟩) 1 1)) (w.alloc (.cells (bc (.slice a1 n cap) c (.slice a2 n2 cap2)) 58)) := by
  unfold execOp
  have e : (#[(0, x)] : Array (Nat × Operand)).map (fun (i, x) => (i, a.eval x)) = #[(0, .agg (bc (.slice a1 n cap) c (.slice a2 n2 cap2)))] := by simp [hx]
  have hr := bslBat a1 a2 n cap n2 cap2 c w
  rw [← e] at hr
  simp only [ho, Sem.run_bind, hr, Result.andThen_ok]
  rfl
theorem bsl0Bat (w : World) : (Instr.buildSlice 25 0 #[]).run Tryz.prog w = .ok (.slice (some ⟨w.heap.size, 0, none⟩) 0 0) (w.alloc (.cells #[] 58)) := by
  have hr0 : Array.range 0 = #[] := by decide
  simp [Instr.buildSlice, run_underlying Tryz.underlying25, sizeOf_run zB.2, Sem.run_bind, Instr.fill, newRow, hr0]
theorem run_bsl0Bat {op : Oper} {a : Act} {w : World} (ho : op.op = .buildSlice 25 0 #[]) : (execOp a.eval op).run Tryz.prog w = .ok (.value (.slice (some ⟨w.heap.size, 0, none⟩) 0 0)) (w.alloc (.cells #[] 58)) := by
  unfold execOp
  have hr := bsl0Bat w
  simp only [ho, Sem.run_bind, Array.map_empty, hr, Result.andThen_ok]
  rfl
/-- The batches so far. -/
structure GB (w0 w : World) (lo : Nat) (sl : Value) (dls : List (List Value)) (L : List BT) : Prop where
  gl : Sh.GL w 58 3 lo sl dls
  len : dls.length = L.length
  each : ∀ i (h : i < L.length), ∃ xa xa2 xc xc2, dls[i]? = some (bc (.slice xa L[i].txs.length xc) L[i].conf (.slice xa2 L[i].mem.length xc2)).toList ∧ TA w0 xa L[i].txs ∧ IA w0 xa2 L[i].mem ∧ L[i].txs.length ≤ xc ∧ L[i].mem.length ≤ xc2
  bel : Below w0.heap.size w0 w
  lo1 : w0.heap.size ≤ lo ∧ lo ≤ w.heap.size
theorem GB.below {w0 w w' : World} {lo : Nat} {sl : Value} {dls : List (List Value)} {L : List BT} (h : GB w0 w lo sl dls L) (hb : Below w.heap.size w w') : GB w0 w' lo sl dls L :=
  ⟨h.gl.below hb, h.len, h.each, h.bel.trans (hb.mono h.bel.size), h.lo1.1, Nat.le_trans h.lo1.2 hb.size⟩
theorem GB.snoc {w0 w w' : World} {lo : Nat} {sl sl' : Value} {dls : List (List Value)} {L : List BT} (h : GB w0 w lo sl dls L) (b : BT) (xa xa2 : Option Addr) (xc xc2 : Nat) (hT : TA w0 xa b.txs) (hI : IA w0 xa2 b.mem) (h1 : b.txs.length ≤ xc) (h2 : b.mem.length ≤ xc2) (hg : w.grownBy w' (Sh.slBlk sl)) (hG : Sh.GL w' 58 3 lo sl' (dls ++ [(bc (.slice xa b.txs.length xc) b.conf (.slice xa2 b.mem.length xc2)).toList])) : GB w0 w' lo sl' (dls ++ [(bc (.slice xa b.txs.length xc) b.conf (.slice xa2 b.mem.length xc2)).toList]) (L ++ [b]) := by
  refine ⟨hG, by simp [h.len], fun i hi => ?_, h.bel.trans (below_row hg (fun r e => Nat.le_trans h.lo1.1 (h.gl.lt r e).1) h.bel.size), h.lo1.1, Nat.le_trans h.lo1.2 hg.size⟩
  by_cases hlt : i < L.length
  · obtain ⟨xa', xa2', xc', xc2', k1, k2⟩ := h.each i hlt
    rw [List.getElem_append_left hlt, List.getElem?_append_left (by rw [h.len]; exact hlt)]
    exact ⟨xa', xa2', xc', xc2', k1, k2⟩
  · have hi2 : i = L.length := by simp at hi; omega
    subst hi2
    refine ⟨xa, xa2, xc, xc2, ?_⟩
    have e1 : (L ++ [b])[L.length]'hi = b := by simp
    have e2 : ∀ c : List Value, (dls ++ [c])[L.length]? = some c := fun c => by rw [← h.len, List.getElem?_concat_length]
    rw [e1, e2]
    exact ⟨rfl, hT, hI, h1, h2⟩
theorem GB.rowBelow {w0 w w' : World} {lo N : Nat} {sl : Value} {dls : List (List Value)} {L : List BT} (h : GB w0 w lo sl dls L) (hg : w.grownBy w' (Sh.slBlk sl)) (hN : N ≤ lo) (hs : N ≤ w.heap.size) : Below N w w' := below_row hg (fun r e => Nat.le_trans hN (h.gl.lt r e).1) hs
theorem BA.at {w : World} {g o : Nat} {l : List BT} (h : BA w (some ⟨g, o, none⟩) l) (i : Nat) (hi : i < l.length) : ∃ xa xa2 xc xc2, w.rangeAt g (o + i * 3) (bc (.slice xa l[i].txs.length xc) l[i].conf (.slice xa2 l[i].mem.length xc2)).toList ∧ TA w xa l[i].txs ∧ IA w xa2 l[i].mem ∧ l[i].txs.length ≤ xc ∧ l[i].mem.length ≤ xc2 := by
  obtain ⟨g', o', xa, xa2, xc, xc2, h1, h2⟩ := h i hi
  simp only [Option.some.injEq, Addr.mk.injEq, and_true] at h1
  obtain ⟨rfl, rfl⟩ := h1
  exact ⟨xa, xa2, xc, xc2, h2⟩
/-- A batch lies at a place. -/
structure BR (w : World) (g o : Nat) (b : BT) (xa xa2 : Option Addr) (xc xc2 : Nat) : Prop where
  rng : w.rangeAt g o (bc (.slice xa b.txs.length xc) b.conf (.slice xa2 b.mem.length xc2)).toList
  tx : TA w xa b.txs
  mem : IA w xa2 b.mem
theorem BR.below {w w' : World} {g o : Nat} {b : BT} {xa xa2 : Option Addr} {xc xc2 : Nat} (h : BR w g o b xa xa2 xc xc2) (hb : Below w.heap.size w w') : BR w' g o b xa xa2 xc xc2 :=
  ⟨fun j v hv => (hb.cell (World.block_lt_of_cell? _ _ (h.rng j v hv))).trans (h.rng j v hv), h.tx.below hb, h.mem.below hb⟩
theorem BR.c0 {w : World} {g o : Nat} {b : BT} {xa xa2 : Option Addr} {xc xc2 : Nat} (h : BR w g o b xa xa2 xc xc2) : w.cell? ⟨g, o, none⟩ = some (.slice xa b.txs.length xc) := h.rng 0 _ rfl
theorem BR.c1 {w : World} {g o : Nat} {b : BT} {xa xa2 : Option Addr} {xc xc2 : Nat} (h : BR w g o b xa xa2 xc xc2) : w.cell? ⟨g, o + 1, none⟩ = some (.bool b.conf) := h.rng 1 _ rfl
theorem BR.c2 {w : World} {g o : Nat} {b : BT} {xa xa2 : Option Addr} {xc xc2 : Nat} (h : BR w g o b xa xa2 xc xc2) : w.cell? ⟨g, o + 2, none⟩ = some (.slice xa2 b.mem.length xc2) := h.rng 2 _ rfl
theorem alloc_below (w : World) (c : Array Value) (t : TypeId) : Below w.heap.size w (w.alloc (.cells c t)) := (Below.refl _ _).alloc (Nat.le_refl _) _
/-- What good leaves. -/
def GdP (w0 w : World) (l : List BT) (e : Ending) (w' : World) : Prop := ∃ a' cap' lo dls, e = .returned (.slice a' (goodL l).length cap') ∧ GB w0 w' lo (.slice a' (goodL l).length cap') dls (goodL l) ∧ Below w.heap.size w w'
section
attribute [local go_sem] Oper.semAt_some
set_option maxRecDepth 100000 in
set_option maxHeartbeats 8000000 in
theorem good_any (l : List BT) (a : Option Addr) (cap : Nat) (w0 w : World) (hw : Below w0.heap.size w0 w) (hB : BA w0 a l) (hl : l.length ≤ maxLen) :
    Calls Tryz.prog 18 #[.slice a l.length cap] w (GdP w0 w l) := by
  obtain ⟨ie, ei, ez, es, eb⟩ := infoBat
  go_enter Tryz.func18, Tryz.ntmps18
  go_wp2_with (with_reducible refine at_list ?_; first
      | (refine wpList_run (op := ⟨some 5, _, _, _, _, _⟩) rfl _ _ (run_bsl0Bat rfl) ?_))
  obtain ⟨lo, hlo⟩ : ∃ y, y = w.heap.size := ⟨_, rfl⟩
  have hst : GB w0 (w.alloc (.cells #[] 58)) lo (.slice (some ⟨w.heap.size, 0, none⟩) 0 0) [] [] := ⟨⟨fun x hx => (by cases hx), .inr ⟨w.heap.size, 0, by omega, rfl, ⟨#[], heap_alloc_last w _, by simp, by simp, fun j v hv => by simp at hv⟩⟩⟩, rfl, fun i hi => absurd hi (Nat.not_lt_zero _), hw.trans ((alloc_below w _ _).mono hw.size), by rw [hlo]; exact hw.size, by rw [hlo]; simp⟩
  have hstB := alloc_below w #[] 58
  have hloW : w.heap.size ≤ lo := by omega
  generalize w.alloc (.cells #[] 58) = wA at *
  generalize (Value.slice (some ⟨w.heap.size, 0, none⟩) 0 0) = slA at *
  clear hlo
  go_loopw [3, 4] (fun v3 v4 wl => ∃ (i : Nat) (dls : List (List Value)), i ≤ l.length ∧ v4 = .int .i64 i ∧ GB w0 wl lo v3 dls (goodL (l.take i)) ∧ Below w.heap.size w wl) (fun _ v4 _ => l.length - (intOf v4).toNat)
  case atStart => exact ⟨0, [], by omega, rfl, by rw [List.take_zero]; exact hst, hstB⟩
  case round =>
    obtain ⟨i, dls, hil, rfl, hN, hBW⟩ := hrel
    clear hst hstB
    have hg8 := goodL_len (l.take i)
    obtain ⟨sa, sc, hsl, -⟩ := hN.gl.sl
    rw [hN.len] at hsl
    have hdl : dls.length ≤ 1000000 := by rw [hN.len]; omega
    have hlI : (l.length : Int) ≤ 9223372036854775807 := by unfold maxLen at hl; omega
    by_cases hlt : i < l.length
    · by_cases h8 : (goodL (l.take i)).length < 8
      · obtain ⟨g, o, rfl⟩ := hB.ex (by omega)
        obtain ⟨xa, xa2, xc, xc2, hr, hT, hI, hx1, hx2⟩ := hB.at i hlt
        have hsn : Hid (l.take (i + 1) = l.take i ++ [l[i]]) := by rw [List.take_succ_eq_append_getElem hlt]; exact rfl
        have hgs := goodL_snoc (b := l[i]) h8
        rw [← hsn.out] at hgs
        have hz1 : (0 : Int) ≤ (i : Int) := by omega
        have hz2 : (i : Int) < (l.length : Int) := by omega
        have hz8 : ((goodL (l.take i)).length : Int) < 8 := by omega
        have hz8n : (goodL (l.take i)).length < 8 := h8
        have hltH : Hid (i < l.length) := hlt
        have hmI : ¬ (9223372036854775807 : Int) < (i : Int) + 1 := by omega
        generalize l[i] = b at *
        have hgsH : Hid (goodL (l.take (i + 1)) = if okB b = true then goodL (l.take i) ++ [b] else goodL (l.take i)) := hgs
        clear hgs hsn
        generalize goodL (l.take i) = L0 at *
        have hR : BR wr g (o + i * 3) b xa xa2 xc xc2 := (BR.mk hr hT hI).below hN.bel
        have c0 := hR.c0
        have c1 := hR.c1
        have c2 := hR.c2
        subst hsl
        by_cases t16 : b.txs.length ≤ 16
        · have t16I : (b.txs.length : Int) ≤ 16 := by omega
          by_cases m16 : b.mem.length ≤ 16
          · have m16I : (b.mem.length : Int) ≤ 16 := by omega
            have HBt := fun w1 (hb : Below wr.heap.size wr w1) => batch_any b.txs b.conf xa xa2 xc b.mem.length xc2 w1 (hR.below hb).tx
            have HCk := fun ya yc w1 (hb : Below wr.heap.size wr w1) (hT : TA w1 ya (rb17 b.txs)) => batch_chk b (by omega) ya xa2 yc xc2 w1 (hR.below hb).mem hT
            unfold BatP at HBt
            change ∀ w1, Below wr.heap.size wr w1 → Calls Tryz.prog 58 #[.agg #[.slice xa b.txs.length xc, .bool b.conf, .slice xa2 b.mem.length xc2]] w1 _ at HBt
            have hw0 : Below wr.heap.size wr wr := Below.refl _ _
            have hokB : Hid (okB b = decide (chkB b = 0)) := by unfold okB; rw [decide_eq_true t16, decide_eq_true m16]; exact rfl
            generalize rb17 b.txs = L17 at *
            by_cases hck : chkB b = 0
            · have hckB : (chkB b == 0) = true := by rw [hck]; rfl
              have hL1 : Hid (goodL (l.take (i + 1)) = L0 ++ [b]) := by rw [hgsH.out, if_pos (by rw [hokB.out, decide_eq_true hck])]; exact rfl
              clear hck hokB hgsH t16 m16
              generalize chkB b = ck at *
              go_wp2_with (first
                | (go_at_call 58; refine (HBt _ hw0).mono ?_; rintro e w1 ⟨ya, yc, rfl, hTy, hw1⟩; clear HBt; replace hN := hN.below hw1; replace hBW := hBW.trans (hw1.mono hBW.size); have hB1 := hw0.trans (hw1.mono hw0.size))
                | (go_at_call 57; refine (HCk _ _ _ hB1 hTy).mono ?_; rintro e w2 ⟨rfl, hw2⟩; clear HCk; replace hN := hN.below hw2; replace hBW := hBW.trans (hw2.mono hBW.size); have hR2 := hR.below (hB1.trans (hw2.mono hB1.size)))
                | (with_reducible refine at_list ?_; first
                  | (refine wpList_loadOp (op := ⟨some 46, _, _, _, _, _⟩) rfl _ _ rfl g (o + i * 3) rfl _ hR2.rng _ Tryz.underlying58 rfl (bc_info _ _ _) ?_)
                  | (refine wpList_run (op := ⟨some 47, _, _, _, _, _⟩) rfl _ _ (run_bslBat _ rfl _ _ _ _ _ _ _ rfl) ?_; have hw3 := alloc_below w2 (bc (.slice xa b.txs.length xc) b.conf (.slice xa2 b.mem.length xc2)) 58; have hb3 := Blk.new w2 (bc (.slice xa b.txs.length xc) b.conf (.slice xa2 b.mem.length xc2)) 58; replace hN := hN.below hw3; replace hBW := hBW.trans (hw3.mono hBW.size))
                  | (refine Sh.wpList_appendGL (op := ⟨some 48, _, _, _, _, _⟩) rfl _ _ _ _ rfl 3 lo _ dls hN.lo1.2 rfl hN.gl _ 1 rfl (bc (.slice xa b.txs.length xc) b.conf (.slice xa2 b.mem.length xc2)).toList rfl (bc_all _ _ _ _ _ _ _) _ (Blk.sh hb3) ie _ rfl Tryz.underlying25 ei ez es eb hdl ?_; intro w4 sl4 hg4 hG4; replace hBW := hBW.trans (hN.rowBelow hg4 hloW hBW.size))))
              go_roundw
              case rel => exact ⟨i + 1, _, hltH.out, by go_num, by rw [hL1.out]; exact hN.snoc b xa xa2 xc xc2 hT hI hx1 hx2 hg4 hG4, hBW⟩
              case measure => have := hltH.out; simp [intOf]; omega
            · have hckB : (chkB b == 0) = false := by rw [beq_eq_false_iff_ne]; exact hck
              have hL1 : Hid (goodL (l.take (i + 1)) = L0) := by rw [hgsH.out, if_neg (by rw [hokB.out, decide_eq_false hck]; decide)]; exact rfl
              clear hck hokB hgsH t16 m16
              generalize chkB b = ck at *
              go_wp2_with (first
                | (go_at_call 58; refine (HBt _ hw0).mono ?_; rintro e w1 ⟨ya, yc, rfl, hTy, hw1⟩; clear HBt; replace hN := hN.below hw1; replace hBW := hBW.trans (hw1.mono hBW.size); have hB1 := hw0.trans (hw1.mono hw0.size))
                | (go_at_call 57; refine (HCk _ _ _ hB1 hTy).mono ?_; rintro e w2 ⟨rfl, hw2⟩; clear HCk; replace hN := hN.below hw2; replace hBW := hBW.trans (hw2.mono hBW.size); have hR2 := hR.below (hB1.trans (hw2.mono hB1.size)))
                | (with_reducible refine at_list ?_; first
                  | (refine wpList_loadOp (op := ⟨some 46, _, _, _, _, _⟩) rfl _ _ rfl g (o + i * 3) rfl _ hR2.rng _ Tryz.underlying58 rfl (bc_info _ _ _) ?_)
                  | (refine wpList_run (op := ⟨some 47, _, _, _, _, _⟩) rfl _ _ (run_bslBat _ rfl _ _ _ _ _ _ _ rfl) ?_; have hw3 := alloc_below w2 (bc (.slice xa b.txs.length xc) b.conf (.slice xa2 b.mem.length xc2)) 58; have hb3 := Blk.new w2 (bc (.slice xa b.txs.length xc) b.conf (.slice xa2 b.mem.length xc2)) 58; replace hN := hN.below hw3; replace hBW := hBW.trans (hw3.mono hBW.size))
                  | (refine Sh.wpList_appendGL (op := ⟨some 48, _, _, _, _, _⟩) rfl _ _ _ _ rfl 3 lo _ dls hN.lo1.2 rfl hN.gl _ 1 rfl (bc (.slice xa b.txs.length xc) b.conf (.slice xa2 b.mem.length xc2)).toList rfl (bc_all _ _ _ _ _ _ _) _ (Blk.sh hb3) ie _ rfl Tryz.underlying25 ei ez es eb hdl ?_; intro w4 sl4 hg4 hG4; replace hBW := hBW.trans (hN.rowBelow hg4 hloW hBW.size))))
              go_roundw
              case rel => exact ⟨i + 1, dls, hltH.out, by go_num, by rw [hL1.out]; exact hN, hBW⟩
              case measure => have := hltH.out; simp [intOf]; omega
          · have m16I : ¬ (b.mem.length : Int) ≤ 16 := by omega
            have hL1 : Hid (goodL (l.take (i + 1)) = L0) := by rw [hgsH.out, if_neg (by unfold okB; rw [decide_eq_false m16]; simp)]; exact rfl
            clear hgsH t16 m16
            go_wp2_with fail
            go_roundw
            case rel => exact ⟨i + 1, dls, hltH.out, by go_num, by rw [hL1.out]; exact hN, hBW⟩
            case measure => have := hltH.out; simp [intOf]; omega
        · have t16I : ¬ (b.txs.length : Int) ≤ 16 := by omega
          have hL1 : Hid (goodL (l.take (i + 1)) = L0) := by rw [hgsH.out, if_neg (by unfold okB; rw [decide_eq_false t16]; simp)]; exact rfl
          clear hgsH t16
          go_wp2_with fail
          go_roundw
          case rel => exact ⟨i + 1, dls, hltH.out, by go_num, by rw [hL1.out]; exact hN, hBW⟩
          case measure => have := hltH.out; simp [intOf]; omega
      · have hz2 : (i : Int) < (l.length : Int) := by omega
        have hz8 : ¬ ((goodL (l.take i)).length : Int) < 8 := by omega
        have hfin : goodL l = goodL (l.take i) := by
          have := goodL_full (l := l.take i) (m := l.drop i) (by omega)
          rw [List.take_append_drop] at this
          exact this
        rw [← hfin] at hsl hz8 hN
        subst hsl
        clear hfin
        go_wp2_with fail
        go_ret
        exact ⟨sa, sc, lo, dls, rfl, hN, hBW⟩
    · have hz2 : ¬ (i : Int) < (l.length : Int) := by omega
      have hi : l.take i = l := List.take_of_length_le (by omega)
      rw [hi] at hN hsl
      subst hsl
      clear hi hg8
      go_wp2_with fail
      go_ret
      exact ⟨sa, sc, lo, dls, rfl, hN, hBW⟩
end
end Go.Proofs.YtmbdhngoldganaaGreatDoor
namespace Go.Proofs.YtmbdhngoldganaaGreatDoor
open Go Go.RowKit
theorem Sz.sml {m : List KV} (h : Sz m) : Sml m := fun p hp => ⟨Nat.le_trans (h.each p hp).1 (by decide), Nat.le_trans (h.each p hp).2 (by decide)⟩
theorem kvsB_sz {m : List KV} (h : Ech m) : (kvsB m).length ≤ 105 * m.length := by
  induction m with
  | nil => simp [kvsB]
  | cons p r ih =>
    have h1 := ih (fun q hq => h q (List.mem_cons_of_mem _ hq))
    have h2 := h p List.mem_cons_self
    have e : kvsB (p :: r) = kvB p ++ kvsB r := rfl
    rw [e, List.length_append, kvB_length, List.length_cons]
    omega
theorem encM_len {m : List KV} (h : Sz m) : (encM m).length ≤ 200000 := by
  unfold encM
  have h1 := kvsB_sz h.each
  have h2 := h.len
  rw [List.length_append, num_length]
  omega
/-- A snapshot's bytes. -/
def encC (c : CN) : List UInt8 := (num c.name.length 4 ++ c.name) ++ (memB c.first ++ (num c.ht 8 ++ (hash32 c.hash ++ (memB c.mem ++ (num (encM c.m).length 4 ++ encM c.m)))))
set_option maxRecDepth 100000 in
set_option maxHeartbeats 2000000 in
theorem encC_any (N cb bs bt : Nat) (sl : Value) (c : CN) (w : World) (hc : CH w N cb bs bt sl c) (hok : OkC c) :
    Calls Tryz.prog 14 #[.pointer (some ⟨cb, 0, none⟩)] w fun e w' => e = .returned (.string ⟨(encC c).toArray⟩) ∧ Below w.heap.size w w' := by
  obtain ⟨gf, cf, gm, cm, hC, hCf, hCm⟩ := hc.blk
  have hf := okM_iff.1 hok.first
  have hm := okM_iff.1 hok.mem
  have f16 := hf.len
  have m16 := hm.len
  have hn := hok.name
  have hel := encM_len hok.sz
  have l1 : (num c.name.length 4 ++ c.name).length = 4 + c.name.length := by rw [List.length_append, num_length]
  have l2 : (memB c.first).length = 1 + c.first.length := memB_len _
  have l3 : (num c.ht 8).length = 8 := num_length _ _
  have l4 : (hash32 c.hash).length = 32 := hash32_length _
  have l5 : (memB c.mem).length = 1 + c.mem.length := memB_len _
  have HN := neww_any w
  have HX := fun b w1 (h : WR w1 b []) => wtext_any b [] c.name w1 h (by simp; omega)
  have HP1 := fun b x w1 (hB : Below w.heap.size w w1) (hb : w.heap.size ≤ b) (hW : WR w1 b x) (hx : x.length ≤ 1000) => putM_any c.first hf (some ⟨gf, 0, none⟩) cf b x w1 w hB hb hCf.ia hW (by omega)
  have HU := fun b x w1 (hW : WR w1 b x) (hx : x.length ≤ 1000) => wnumber_any b x c.ht 8 w1 hW (by omega)
  have HH := fun b x w1 (hW : WR w1 b x) (hx : x.length ≤ 1000) => whash_any b x c.hash w1 hW (by omega)
  have HP2 := fun b x w1 (hB : Below w.heap.size w w1) (hb : w.heap.size ≤ b) (hW : WR w1 b x) (hx : x.length ≤ 1000) => putM_any c.mem hm (some ⟨gm, 0, none⟩) cm b x w1 w hB hb hCm.ia hW (by omega)
  have HE := fun w1 (hB : Below w.heap.size w w1) => encode_st bs c.m w1 (hc.ex.below hB).st (Nat.le_trans hok.sz.len (by decide)) hok.sz.sml
  have HY := fun b x w1 (hW : WR w1 b x) (hx : x.length ≤ 1000) => wtext_any b x (encM c.m) w1 hW (by omega)
  have HA := fun b x w1 (h : WR w1 b x) => wall_any b x w1 h
  have hcut : cut8 8 = 8 := rfl
  rw [hcut] at HU
  have hE : Hid (encC c = (num c.name.length 4 ++ c.name) ++ (memB c.first ++ (num c.ht 8 ++ (hash32 c.hash ++ (memB c.mem ++ (num (encM c.m).length 4 ++ encM c.m)))))) := rfl
  rw [hE.out]
  clear hE hcut
  generalize num (encM c.m).length 4 ++ encM c.m = y6 at *
  generalize encM c.m = em at *
  generalize num c.name.length 4 ++ c.name = y1 at *
  generalize memB c.first = y2 at *
  generalize num c.ht 8 = y3 at *
  generalize hash32 c.hash = y4 at *
  generalize memB c.mem = y5 at *
  go_enter Tryz.func14, Tryz.ntmps14
  go_wp2_with (first
    | (go_at_call 48; refine HN.mono ?_; rintro e w1 ⟨rfl, hw1, hW1⟩; clear HN; have c0 := ((hC.belowSize hw1).cell 0).trans (chC_g0 _ _ _ _ _ _ _ _))
    | (go_at_call 49; first
      | (refine (HX _ _ hW1).mono ?_; rintro e w2 ⟨rfl, hP2⟩; clear HX; have hB2 := hw1.trans hP2.below; have hW2 := hP2.wr; rw [List.nil_append] at hW2; have c1 := ((hC.belowSize hB2).cell 1).trans (chC_g1 _ _ _ _ _ _ _ _); clear hW1)
      | (refine (HY _ _ _ hW7 (by simp only [List.length_append]; omega)).mono ?_; rintro e w8 ⟨rfl, hP8⟩; clear HY; have hB8 := hB7.trans hP8.below; have hW8 := hP8.wr; clear hW7))
    | (go_at_call 50; first
      | (refine (HP1 _ _ _ hB2 (Nat.le_refl _) hW2 (by omega)).mono ?_; rintro e w3 ⟨rfl, hP3⟩; clear HP1; have hB3 := hB2.trans hP3.below; have hW3 := hP3.wr; have c2 := ((hC.belowSize hB3).cell 2).trans (chC_g2 _ _ _ _ _ _ _ _); clear hW2)
      | (refine (HP2 _ _ _ hB5 (Nat.le_refl _) hW5 (by simp only [List.length_append]; omega)).mono ?_; rintro e w6 ⟨rfl, hP6⟩; clear HP2; have hB6 := hB5.trans hP6.below; have hW6 := hP6.wr; have c5 := ((hC.belowSize hB6).cell 5).trans (chC_g5 _ _ _ _ _ _ _ _); clear hW5))
    | (go_at_call 51; refine (HU _ _ _ hW3 (by simp only [List.length_append]; omega)).mono ?_; rintro e w4 ⟨rfl, hP4⟩; clear HU; have hB4 := hB3.trans hP4.below; have hW4 := hP4.wr; have c3 := ((hC.belowSize hB4).cell 3).trans (chC_g3 _ _ _ _ _ _ _ _); clear hW3)
    | (go_at_call 52; refine (HH _ _ _ hW4 (by simp only [List.length_append]; omega)).mono ?_; rintro e w5 ⟨rfl, hP5⟩; clear HH; have hB5 := hB4.trans hP5.below; have hW5 := hP5.wr; have c4 := ((hC.belowSize hB5).cell 4).trans (chC_g4 _ _ _ _ _ _ _ _); clear hW4)
    | (go_at_call 33; refine (HE _ hB6).mono ?_; rintro e w7 ⟨rfl, hw7⟩; clear HE; have hB7 := hB6.trans (hw7.mono hB6.size); have hW7 := hW6.below hw7; clear hW6)
    | (go_at_call 53; refine (HA _ _ _ hW8).mono ?_; rintro e w' ⟨rfl, hw'⟩; have hw9 := hw'.symm; subst hw9; clear hw' HA))
  go_ret
  exact ⟨rfl, hB8⟩
end Go.Proofs.YtmbdhngoldganaaGreatDoor
namespace Go.Proofs.YtmbdhngoldganaaGreatDoor
open Go Go.RowKit
theorem GB.own {w0 w w' : World} {lo : Nat} {sl : Value} {dls : List (List Value)} {L : List BT} {N cb bs bt : Nat} {slC : Value} {c : CN} (h : GB w0 w lo sl dls L) (hc : CH w N cb bs bt slC c) (k : Own (ownC cb bs bt slC) w w') (hN : w0.heap.size ≤ N) : GB w0 w' lo sl dls L := by
  refine ⟨GLown h.gl k (fun r hr e => ?_), h.len, h.each, h.bel.trans ((hc.ownBelow k).mono hN), h.lo1.1, Nat.le_trans h.lo1.2 k.size⟩
  obtain ⟨cur, hcur⟩ := GLtyped h.gl hr
  obtain ⟨d', u', fr', h3, h4⟩ := hc.typed e
  rw [hcur.out] at h3
  simp only [Option.some.injEq, Obj.cells.injEq] at h3
  obtain ⟨_, rfl, _⟩ := h3
  rcases h4 with h4 | h4 | h4 | h4 <;> exact absurd h4 (by decide)
theorem GB.local {w0 w w' : World} {lo : Nat} {sl : Value} {dls : List (List Value)} {L : List BT} {B : Nat} {d : Array Value} {u : TypeId} (h : GB w0 w lo sl dls L) (hg : w.grownBy w' (some B)) (hB : Blk w B d u) (hu : u ≠ 58) (hN : w0.heap.size ≤ B) : GB w0 w' lo sl dls L :=
  ⟨h.gl.grown hg (h.gl.ne (Blk.sh hB) (.inl hu)), h.len, h.each, h.bel.trans (below_of_grown hg hN h.bel.size), h.lo1.1, Nat.le_trans h.lo1.2 hg.size⟩
theorem GB.at {w0 w : World} {lo : Nat} {a : Option Addr} {n cap : Nat} {dls : List (List Value)} {L : List BT} (h : GB w0 w lo (.slice a n cap) dls L) (i : Nat) (hi : i < L.length) : ∃ g xa xa2 xc xc2, a = some ⟨g, 0, none⟩ ∧ BR w g (i * 3) L[i] xa xa2 xc xc2 := by
  obtain ⟨a', cap', e, h1⟩ := h.gl.sl
  simp only [Value.slice.injEq] at e
  obtain ⟨rfl, _, rfl⟩ := e
  obtain ⟨xa, xa2, xc, xc2, k1, k2, k3, k4, k5⟩ := h.each i hi
  have hid : i < dls.length := by rw [h.len]; exact hi
  obtain ⟨g, ha, h2⟩ := h1 i hid
  rw [List.getElem?_eq_getElem hid] at k1
  exact ⟨g, xa, xa2, xc, xc2, ha, fun j v hv => h2 j v (by rw [Option.some.inj k1]; exact hv), k2.below h.bel, k3.below h.bel⟩
section
variable {P : Program} {ops : Array Oper} {Q : Exit → Act → World → Prop}
theorem wpAnyH_solo {md : Region.Mode} {S : World → Prop} {i : Nat} {o : Oper} {fuel : Nat} {listed : Array Bool} {a : Act} {w : World} (ho : ops[i]? = some o) (hr : Region.ready md ops listed = [i])
    (h : ∀ K : Act → World → Prop, (∀ a w, S w → wpAnyH P md ops Q S fuel (listed.setIfInBounds i true) a w → K a w) → wpList P ops (QK Q K) [o] a w) : wpAnyH P md ops Q S (fuel + 1) listed a w :=
  ⟨(fun h0 => absurd (hr ▸ h0) (List.cons_ne_nil _ _)), fun j hj => by
    rw [hr] at hj
    obtain rfl := List.mem_singleton.1 hj
    exact wpOp_list ho (h _ (fun a w hS hW => ⟨hS, hW⟩))⟩
theorem wpList_callG {rest : List Oper} {op : Oper} {a : Act} {w : World} {f : FuncId} {fn : Func} (hf : P.funcs[f]? = some fn) (hn : (fn.name == "runtime.NumGoroutine") = false) (hb : fn.body.isNone = false) (hw : Region.wanted op (yielded ops a.tmps) = true) (xs : Array Operand) (tys : Array TypeId) (ho : op.op = .call { callee := .value (.func f), args := xs, argTypes := tys })
    (args : Array Value) (hargs : xs.map a.eval = args) (R : Ending → World → Prop) (hc : Calls P f args w R) (h : ∀ e w', R e w' → ∃ v, e = .returned v ∧ wpList P ops Q rest (a.put op.dst v) w') : wpList P ops Q (op :: rest) a w := by
  refine wpList_step fun K hK => ?_
  rw [if_pos hw]
  unfold Oper.wp
  rw [run_callF hf hn hb xs tys ho, Oper.upon_enter, hargs]
  refine hc.mono fun e w'' hh => ?_
  obtain ⟨v, rfl, h3⟩ := h e w'' hh
  exact hK _ _ h3
end
end Go.Proofs.YtmbdhngoldganaaGreatDoor
namespace Go.Proofs.YtmbdhngoldganaaGreatDoor
open Go Go.RowKit
namespace Sh
end Sh
theorem eqlNilB (w : World) (b : Addr) (n c : Nat) : (binOp .eql 101 (.slice (some b) n c) (.slice none 0 0)).run Tryz.prog w = .ok (.bool false) w := Lib.run_eql_slice_nil w 101 53 (some b) n c 0 0 Tryz.underlying101
theorem eqlNilB0 (w : World) : (binOp .eql 101 (.slice none 0 0) (.slice none 0 0)).run Tryz.prog w = .ok (.bool true) w := Lib.run_eql_slice_nil w 101 53 none 0 0 0 0 Tryz.underlying101
end Go.Proofs.YtmbdhngoldganaaGreatDoor
namespace Go.Proofs.YtmbdhngoldganaaGreatDoor
open Go Go.RowKit
/-- ONE -/
theorem run_eqS {op : Oper} {a : Act} {w : World} {x y : Operand} {s t : List UInt8} {q : Bool} (ho : op.op = .binOp .eql 9 x y 9) (hx : a.eval x = .string ⟨s.toArray⟩) (hy : a.eval y = .string ⟨t.toArray⟩) (hq : decide (s = t) = q) : (execOp a.eval op).run Tryz.prog w = .ok (.value (.bool q)) w := by
  subst hq
  unfold execOp
  simp only [ho, hx, hy]
  simp [go_sem]
  exact Bool.eq_iff_iff.2 (by simp)
end Go.Proofs.YtmbdhngoldganaaGreatDoor
namespace Go.Proofs.YtmbdhngoldganaaGreatDoor
open Go Go.RowKit
section
variable {P : Program} {ops : Array Oper} {rest : List Oper} {op : Oper} {a : Act} {w : World} {Q : Exit → Act → World → Prop}
theorem wpList_loadRowG (hw : Region.wanted op (yielded ops a.tmps) = true) (ty : TypeId) (x : Operand) (ho : op.op = .load ty x) (b : Nat) (hx : a.eval x = .pointer (some ⟨b, 0, none⟩))
    (c : Array Value) (t : TypeId) (hb : Blk w b c t) (d : TypeDesc) (hu : P.underlying ty = some d) (hd : d.isRow = true) (hi : (P.info? ty).map (·.size) = some c.size)
    (h : wpList P ops Q rest (a.put op.dst (.agg c)) w) : wpList P ops Q (op :: rest) a w :=
  wpList_runG hw _ _ (by
    unfold execOp
    simp only [ho, hx]
    simp [Instr.loadAt, Instr.sureAddr, hb.loadVar d hu hd hi]) h
end
end Go.Proofs.YtmbdhngoldganaaGreatDoor
