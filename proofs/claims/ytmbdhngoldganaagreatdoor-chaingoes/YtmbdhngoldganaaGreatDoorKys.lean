/- What Sort, Compact, Keys and Sorted do to slices of texts that the call has made, and to a state's map. What Apply does where the number is the client's next one. A state's keys, sorted: what Keys and Sorted do; rows of texts. -/
import Derived.Test.YtmbdhngoldganaaGreatDoorLay
import Derived.Lib.RowBridge
namespace Go.Proofs.YtmbdhngoldganaaGreatDoor
open Go Go.RowKit Go.Maps Go.Sort Go.Shelf
abbrev srt (l : List (List UInt8)) : List (List UInt8) := l.mergeSort fun x y => decide (x ≤ y)
theorem sort_ts (lo : Nat) (v : Value) (l : List (List UInt8)) (w : World) (h : TS w lo v l) (hl : l.length < 4611686018427387904) :
    Calls Tryz.prog 160 #[v] w fun e w' => e = .returned (.tuple #[]) ∧ TS w' lo v (srt l) ∧ w.grownBy w' v.ownBlock := by
  rcases h.1.2 with ⟨h1, _⟩ | ⟨g, cap, cur, rfl, hbase, hb, h1, h2, h3, h4⟩
  · exact absurd h1 h.2
  · have hc := AnyM.slices_Sort_string laySort g 0 cap l w (holds_of_block hb (by simpa using h4)) (Array.getElem?_eq_some_iff.1 hb).1 hl
    refine hc.mono ?_
    rintro e w' ⟨rfl, nn, os, rfl⟩
    have hlen : (srt l).length = l.length := by simp [srt]
    refine ⟨rfl, ⟨?_, by simp⟩, grownBy_sorted _⟩
    have := ownsRow_sorted (w := w) (base := lo) (g := g) (cap := cap) (n := nn) (e := 9) (os := os) (cur := cur) (ss := l) (ts := srt l) hlen hbase hb h1 h2 h3
    rw [hlen]
    exact this
theorem compact_ts (lo : Nat) (v : Value) (l : List (List UInt8)) (w : World) (h : TS w lo v l) (hl : l.length < 4611686018427387904) :
    Calls Tryz.prog 177 #[v] w fun e w' => ∃ g cap, e = .returned (.slice (some ⟨g, 0, none⟩) (Lib.compact l).length cap) ∧ v.ownBlock = some g ∧ w.grownBy w' v.ownBlock ∧ lo ≤ g ∧ XT w' g (Lib.compact l) := by
  rcases h.1.2 with ⟨h1, _⟩ | ⟨g, cap, cur, rfl, hbase, hb, h1, h2, h3, h4⟩
  · exact absurd h1 h.2
  · have hc := Any.slices_Compact_string layCompact g 0 cap l w (holds_of_block hb (by simpa using h4)) (by omega) h1
    refine hc.mono ?_
    rintro e w' ⟨rfl, q, hw⟩
    have hcl : (Lib.compact l).length ≤ l.length := Lib.compact_length_le l
    refine ⟨g, cap, rfl, rfl, ?_, hbase, ?_⟩
    rotate_left
    · have hlen : (Lib.compact l ++ List.replicate (l.length - (Lib.compact l).length) ([] : List UInt8)).length = l.length := by rw [List.length_append, List.length_replicate]; omega
      have h5 := ownsRow_sorted (w := w) (base := lo) (g := g) (cap := cap) (n := q) (e := 9) (os := #[]) (cur := cur) (ss := l) (ts := Lib.compact l ++ List.replicate (l.length - (Lib.compact l).length) []) hlen hbase hb h1 h2 h3
      rw [grow_empty, ← hw] at h5
      have h6 : TS w' lo (.slice (some ⟨g, 0, none⟩) l.length cap) (Lib.compact l ++ List.replicate (l.length - (Lib.compact l).length) []) := ⟨by rw [hlen]; exact h5, by simp⟩
      intro i x hx
      exact h6.xt i x (by rw [List.getElem?_append_left (List.getElem?_eq_some_iff.1 hx).1]; exact hx)
    rw [hw]
    have := grownBy_sorted (w := w) (g := g) (n := q) (os := #[]) (Lib.compact l ++ List.replicate (l.length - (Lib.compact l).length) []).toArray
    rw [grow_empty] at this
    exact this
end Go.Proofs.YtmbdhngoldganaaGreatDoor
namespace Go.Proofs.YtmbdhngoldganaaGreatDoor
open Go Go.RowKit Go.Maps
theorem wpList_storeMap {ops : Array Oper} {rest : List Oper} {op : Oper} {a : Act} {w : World} {Q : Exit → Act → World → Prop} (hgd : op.guard = none) (x y : Operand) (ho : op.op = .store 165 x y) (b : Nat) (hx : a.eval x = .pointer (some ⟨b, 0, none⟩)) (mb : Nat) (hy : a.eval y = .map (some mb)) (mb0 : Nat) (hb : Blk w b #[.map (some mb0)] 167)
    (h : ∀ w1 : World, w.grownBy w1 (some b) → w1.heap.size = w.heap.size → Blk w1 b #[.map (some mb)] 167 → wpList Tryz.prog ops Q rest (a.put op.dst undef) w1) : wpList Tryz.prog ops Q (op :: rest) a w :=
  wpList_storeCell hgd _ x y ho b 0 hx (.map (some mb)) hy _ _ hb (by kernel_rfl) rfl (by simp [Value.oneCell']) (Nat.zero_lt_one) (fun w1 h1 h2 h3 => h w1 h1 h2 h3)
theorem cell_keep {w w' : World} {p : Addr} {v : Value} (h : Below w.heap.size w w') (hc : w.cell? p = some v) : w'.cell? p = some v := by
  rw [h.cell (World.block_lt_of_cell? _ _ hc)]; exact hc
set_option maxRecDepth 100000 in
set_option maxHeartbeats 1000000 in
theorem apply_rest (t : TX) (a : Option Addr) (cap b : Nat) (m : List KV) (w : World) (hS : ST w b m) (hL : SL w a t.ops) (hG : Sh.Glob w) (hm : m.length ≤ 1024) (hk : okTx t = true) (hc : t.client < 18446744073709551616) (hnn : t.nonce < 18446744073709551616) (hv1 : (valM m (nOf t.client)).length ≤ 140737488355328) (hn : t.nonce - 1 = lastM m t.client) :
    Calls Tryz.prog 144 #[.pointer (some ⟨b, 0, none⟩), .agg (txc t.client t.nonce (.slice a t.ops.length cap))] w (ApP m t b w) := by
  have HC := fun w1 (hw1 : Below w.heap.size w w1) => check_any t a cap w1 (hL.below hw1)
  rw [chk_zero hk] at HC
  have HS := fun w1 (hw1 : Below w.heap.size w w1) => last_st b m t.client w1 (hS.below hw1) hv1
  have HK := fun w1 (hw1 : Below w.heap.size w w1) => clone_ex b m w1 (hS.below hw1) (by omega)
  have HN := fun w1 => nonceOf_any t.client w1
  have hOk := okTx_of hk
  have hn0 := hOk.nonce
  have hl8 := hOk.len1
  have hl0 := hOk.len0
  have hER := @ApP.err m t b w
  have HEc : Hid (runM m t.ops = none → apE m t = 51) := fun h => apE_check hk hn h
  have HEr : Hid (∀ mm, runM m t.ops = some mm → 1024 < (endM t mm).length → apE m t = 52) := fun mm h h1 => apE_room hk hn h h1
  have HEo : Hid (∀ mm, runM m t.ops = some mm → ¬ 1024 < (endM t mm).length → apE m t = 0) := fun mm h h1 => apE_ok hk hn h h1
  have hall : ∀ o ∈ t.ops, OkO o := fun o ho => hOk.okO ho
  have HX : Hid (txs t.client (t.ops.take 0) = [nOf t.client]) := rfl
  have hnc := nOf_length t.client
  generalize lastI m t.client = li at *
  generalize lastM m t.client = ln at *
  have hbl := hS.lt
  obtain ⟨P, hP⟩ : ∃ P, P = ApP m t b w := ⟨_, rfl⟩
  rw [← hP]
  rw [← hP] at hER
  have HP : Hid (P = ApP m t b w) := hP
  clear hP
  obtain ⟨c, n, l⟩ := t
  dsimp only at *
  generalize hnco : nOf c = nc at *
  have HNC : Hid (nOf c = nc) := hnco
  clear hnco
  have hsl : Hid (∀ w', SL w' a l → ∀ i (h : i < l.length), ∃ g o, a = some ⟨g, o, none⟩ ∧ w'.rangeAt g (o + i * 3) (opc l[i]).toList) := fun w' h i hi => h i hi
  go_enter Tryz.func144, Tryz.ntmps144
  go_wp2_with (first
    | (go_at_call 143; refine (HC _ hw1).mono ?_; rintro e w2 ⟨rfl, hw2⟩; have hB2 := hw1.trans (hw2.mono hw1.size); have hb2 := hb1.belowSize hw2; have c0 := (hb2.cell 0).trans (txc_g0 _ _ _); have c1 := (hb2.cell 1).trans (txc_g1 _ _ _))
    | (go_at_call 67; refine (HS _ hB2).mono ?_; rintro e w3 ⟨rfl, hw3⟩; have hB3 := hB2.trans (hw3.mono hB2.size); have hb3 := hb2.belowSize hw3; have c0 := (hb3.cell 0).trans (txc_g0 _ _ _); have c1 := (hb3.cell 1).trans (txc_g1 _ _ _))
    | (go_at_call 71; refine (HK _ hB3).mono ?_; rintro e w4 ⟨bb, mb, rfl, hw4, hmb4, hbb4, hS4, hM4⟩; have hB4 := hB3.trans (hw4.mono hB3.size); have hb4 := hb3.belowSize hw4; have c0 := (hb4.cell 0).trans (txc_g0 _ _ _); replace hmb4 := Nat.le_trans hB3.size hmb4; replace hbb4 := Nat.le_trans hB3.size hbb4)
    | (go_at_call 115; refine (HN _).mono ?_; rintro e w5 ⟨rfl, hw5⟩; have hB5 := hB4.trans (hw5.mono hB4.size); have hb5 := hb4.belowSize hw5; have hS5 := hS4.belowSize hw5; have hM5 := hM4.below hw5)
    | (with_reducible refine at_list ?_; first
      | (refine wpList_boxRow (op := ⟨some 3, _, _, _, _, _⟩) rfl _ _ rfl _ rfl ?_; intro w1 hw1 hs1 hb1; replace hs1 := hs1.symm; have c0 := (hb1.cell 0).trans (txc_g0 _ _ _); have c1 := (hb1.cell 1).trans (txc_g1 _ _ _); have c2 := (hb1.cell 2).trans (txc_g2 _ _ _))
      | (refine wpList_loadRow (op := ⟨some 15, _, _, _, _, _⟩) rfl _ _ rfl w.heap.size rfl _ _ hb1 _ Tryz.underlying95 rfl (by rw [txc_size]; exact zTx.2) ?_)
      | (refine wpList_bslT (op := ⟨some 37, _, _, _, _, _⟩) rfl _ rfl nc rfl ?_; intro w6 hw6 hs6 hT6 _; have hB6 := hB5.trans (hw6.mono hB5.size); have hb6 := hb5.belowSize hw6; have hS6 := hS5.belowSize hw6; have hM6 := hM5.below hw6; have c2 := (hb6.cell 2).trans (txc_g2 _ _ _); replace hs6 := hs6.symm)))
  have hstart : Blk w6 bb #[.map (some mb)] 167 ∧ MB w6 mb m ∧ TS w6 w.heap.size (.slice (some ⟨w5.heap.size, 0, none⟩) 1 1) (txs c (l.take 0)) := ⟨hS6, hM6, by rw [HX.out]; exact hT6.lower hB5.size⟩
  clear hb1 hb2 hb3 hb4 hb5 hS4 hS5 hM4 hM5 hw1 hw2 hw3 hw4 hw5 hw6 hs1 hs6 hT6 hB2 hB3 hB4 c0 c1 HC HS HK
  generalize (Value.slice (some ⟨w5.heap.size, 0, none⟩) 1 1) = v10 at *
  clear hB5
  go_loopw [10, 41] (fun v10 v41 wl => ∃ (i : Nat) (mm : List KV), i ≤ l.length ∧ v41 = .int .i64 i ∧ Hid (runM m (l.take i) = some mm) ∧ mm.length ≤ 1024 + i ∧ Blk wl bb #[.map (some mb)] 167 ∧ MB wl mb mm ∧ TS wl w.heap.size v10 (txs c (l.take i)) ∧ Below w.heap.size w wl ∧ Blk wl w.heap.size (txc c n (.slice a l.length cap)) 95) (fun _ v41 _ => l.length - (intOf v41).toNat)
  case atStart => exact ⟨0, m, by omega, rfl, rfl, by omega, hstart.1, hstart.2.1, hstart.2.2, hB6, hb6⟩
  case round =>
    obtain ⟨i, mm, hi, rfl, hR, hml, hSb, hMb, hT, hB, hbt⟩ := hrel
    clear hstart hS6 hM6 hB6 hb6 c2
    by_cases hlt : i < l.length
    · obtain ⟨g, o, rfl, hr⟩ := hsl.out wr (hL.below hB) i hlt
      have hO := hall _ (List.getElem_mem hlt)
      have hk1 := hO.key1
      have hv2 := hO.val1
      have hR2 : Hid (runM m (l.take (i + 1)) = stepM mm l[i]) := by
        rw [List.take_succ_eq_append_getElem hlt, runM_snoc, hR.out]
        exact rfl
      have hX2 : Hid (txs c (l.take (i + 1)) = txs c (l.take i) ++ (bif tch l[i] then [kOf (l[i]).key] else [])) := by
        rw [List.take_succ_eq_append_getElem hlt, txs_snoc]
        exact rfl
      have hxl := txs_len c (l.take i)
      rw [List.length_take] at hxl
      have HNo : Hid (stepM mm l[i] = none → runM m l = none) := fun h => runM_cut (i := i + 1) (hR2.out.trans h)
      clear hO
      generalize l[i] = x at *
      have HA := fun w1 (h : ST w1 bb mm) => agrees_any bb mm x w1 h (by omega)
      have HD := fun w1 (h1 : Blk w1 bb #[.map (some mb)] 167) (h2 : MB w1 mb mm) => do_any bb mb mm x w1 h1 h2 (by omega) (by omega) (by omega)
      have HKo := fun w1 => keyOf_any x.key w1 (by omega)
      have hdl := doM_length mm x
      have hxk : (opc x)[1]? = some (.string ⟨x.key.toArray⟩) := opc_g1 x
      have hkol := kOf_length x.key
      have hsz8 : (opc x).size = 3 := opc_size x
      by_cases hag : agM mm x = true
      · have hst : Hid (stepM mm x = some (doM mm x)) := if_pos hag
        rw [hag] at HA
        clear hag HNo
        generalize doM mm x = m2 at *
        cases htc : tch x
        · rw [htc] at HD hX2
          clear htc
          go_wp2_with (first
            | (go_at_call 173; refine (HA _ ⟨mb, hS8, hM8⟩).mono ?_; rintro e w9 ⟨rfl, hw9⟩; have hb9 := hb8.belowSize hw9; have hS9 := hS8.belowSize hw9; have hM9 := hM8.below hw9; have hB9 := hB8.trans (hw9.mono hB8.size); have hT9 := hT8.below hw9; have hbt9 := hbt8.belowSize hw9)
            | (go_at_call 174; refine (HD _ hS9 hM9).mono ?_; rintro e w10 ⟨rfl, hM10, hg10⟩; have hS10 := hS9.grown hg10 (fun e => absurd (Option.some.inj e) (hM9.blk_ne hS9)); have hb10 := hb9.grown hg10 (fun e => absurd (Option.some.inj e) (hM9.blk_ne hb9)); have hB10 := hB9.trans (below_of_grown hg10 hmb4 hB9.size); have hT10 := hT9.kept hg10 (hT9.ne_map hM9); have hbt10 := hbt9.grown hg10 (fun e => absurd (Option.some.inj e) (hM9.blk_ne hbt9)); have ck := (hb10.cell 1).trans hxk)
            | (go_at_call 114; refine (HKo _).mono ?_; rintro e w' ⟨rfl, hw'⟩; have hw' := hw'.symm; subst hw')
            | (with_reducible refine at_list ?_; first
              | (refine wpList_loadOp (op := ⟨some 44, _, _, _, _, _⟩) rfl _ _ rfl g (o + i * 3) rfl (opc x) hr _ Tryz.underlying97 rfl (by rw [opc_size]; exact zOp.2) ?_)
              | (refine wpList_allocRow (op := ⟨some 12, _, _, _, _, _⟩) rfl _ rfl _ zOp.1 ?_; intro w7 hw7 hs7 hb7; replace hs7 := hs7.symm)
              | (refine wpList_storeRow (op := ⟨none, _, _, _, _, _⟩) rfl _ _ _ rfl wr.heap.size (opc x) rfl rfl _ _ hb7 (by simp only [opc_size]) (by rw [opc_size]; exact zOp.2) (opc_one _) ?_; intro w8 hg8 hs8 hb8; replace hs8 := hs8.symm; have hw78 : Below wr.heap.size wr w8 := hw7.trans (below_of_grown hg8 (Nat.le_refl _) hw7.size); have hS8 := hSb.belowSize hw78; have hM8 := hMb.below hw78; have hT8 := hT.below hw78; have hbt8 := hbt.belowSize hw78; have hB8 := hB.trans (hw78.mono hB.size))
              | (refine wpList_loadRow (op := ⟨some 46, _, _, _, _, _⟩) rfl _ _ rfl wr.heap.size rfl _ _ hb8 _ Tryz.underlying97 rfl (by rw [opc_size]; exact zOp.2) ?_)
              | (refine wpList_loadRow (op := ⟨some 50, _, _, _, _, _⟩) rfl _ _ rfl wr.heap.size rfl _ _ hb9 _ Tryz.underlying97 rfl (by rw [opc_size]; exact zOp.2) ?_)
              | (refine wpList_bslT (op := ⟨some 56, _, _, _, _, _⟩) rfl _ rfl (kOf x.key) rfl ?_; intro w11 hw11 hs11 hT11 ct11; replace hs11 := hs11.symm; have hS11 := hS10.belowSize hw11; have hM11 := hM10.below hw11; have hT12 := hT10.below hw11; have hbt11 := hbt10.belowSize hw11; have hB11 := hB10.trans (hw11.mono hB10.size))
              | (refine wpList_appT (op := ⟨some 57, _, _, _, _, _⟩) rfl _ _ rfl w.heap.size u10 _ rfl hT12 w10.heap.size (kOf x.key) rfl ct11 (by omega) hB11.size ?_; intro v12 w12 hT13 hg12; have hS12 := hS11.grown hg12 (fun e => absurd e.symm (hT12.ne_blk hS11 (by decide))); have hM12 := hM11.kept hg12 (fun e => absurd e.symm (hT12.ne_map hM11)); have hbt12 := hbt11.grown hg12 (fun e => absurd e.symm (hT12.ne_blk hbt11 (by decide))); have hB12 := hB11.grown hg12 hB11.size hT12.low)))
          go_roundw
          case rel => exact ⟨i + 1, m2, by omega, by go_num, hR2.out.trans hst.out, by omega, hS10, hM10, by rw [hX2.out]; simpa using hT10, hB10, hbt10⟩
          case measure => simp [intOf]; omega
        · rw [htc] at HD hX2
          clear htc
          go_wp2_with (first
            | (go_at_call 173; refine (HA _ ⟨mb, hS8, hM8⟩).mono ?_; rintro e w9 ⟨rfl, hw9⟩; have hb9 := hb8.belowSize hw9; have hS9 := hS8.belowSize hw9; have hM9 := hM8.below hw9; have hB9 := hB8.trans (hw9.mono hB8.size); have hT9 := hT8.below hw9; have hbt9 := hbt8.belowSize hw9)
            | (go_at_call 174; refine (HD _ hS9 hM9).mono ?_; rintro e w10 ⟨rfl, hM10, hg10⟩; have hS10 := hS9.grown hg10 (fun e => absurd (Option.some.inj e) (hM9.blk_ne hS9)); have hb10 := hb9.grown hg10 (fun e => absurd (Option.some.inj e) (hM9.blk_ne hb9)); have hB10 := hB9.trans (below_of_grown hg10 hmb4 hB9.size); have hT10 := hT9.kept hg10 (hT9.ne_map hM9); have hbt10 := hbt9.grown hg10 (fun e => absurd (Option.some.inj e) (hM9.blk_ne hbt9)); have ck := (hb10.cell 1).trans hxk)
            | (go_at_call 114; refine (HKo _).mono ?_; rintro e w' ⟨rfl, hw'⟩; have hw' := hw'.symm; subst hw')
            | (with_reducible refine at_list ?_; first
              | (refine wpList_loadOp (op := ⟨some 44, _, _, _, _, _⟩) rfl _ _ rfl g (o + i * 3) rfl (opc x) hr _ Tryz.underlying97 rfl (by rw [opc_size]; exact zOp.2) ?_)
              | (refine wpList_allocRow (op := ⟨some 12, _, _, _, _, _⟩) rfl _ rfl _ zOp.1 ?_; intro w7 hw7 hs7 hb7; replace hs7 := hs7.symm)
              | (refine wpList_storeRow (op := ⟨none, _, _, _, _, _⟩) rfl _ _ _ rfl wr.heap.size (opc x) rfl rfl _ _ hb7 (by simp only [opc_size]) (by rw [opc_size]; exact zOp.2) (opc_one _) ?_; intro w8 hg8 hs8 hb8; replace hs8 := hs8.symm; have hw78 : Below wr.heap.size wr w8 := hw7.trans (below_of_grown hg8 (Nat.le_refl _) hw7.size); have hS8 := hSb.belowSize hw78; have hM8 := hMb.below hw78; have hT8 := hT.below hw78; have hbt8 := hbt.belowSize hw78; have hB8 := hB.trans (hw78.mono hB.size))
              | (refine wpList_loadRow (op := ⟨some 46, _, _, _, _, _⟩) rfl _ _ rfl wr.heap.size rfl _ _ hb8 _ Tryz.underlying97 rfl (by rw [opc_size]; exact zOp.2) ?_)
              | (refine wpList_loadRow (op := ⟨some 50, _, _, _, _, _⟩) rfl _ _ rfl wr.heap.size rfl _ _ hb9 _ Tryz.underlying97 rfl (by rw [opc_size]; exact zOp.2) ?_)
              | (refine wpList_bslT (op := ⟨some 56, _, _, _, _, _⟩) rfl _ rfl (kOf x.key) rfl ?_; intro w11 hw11 hs11 hT11 ct11; replace hs11 := hs11.symm; have hS11 := hS10.belowSize hw11; have hM11 := hM10.below hw11; have hT12 := hT10.below hw11; have hbt11 := hbt10.belowSize hw11; have hB11 := hB10.trans (hw11.mono hB10.size))
              | (refine wpList_appT (op := ⟨some 57, _, _, _, _, _⟩) rfl _ _ rfl w.heap.size u10 _ rfl hT12 w10.heap.size (kOf x.key) rfl ct11 (by omega) hB11.size ?_; intro v12 w12 hT13 hg12; have hS12 := hS11.grown hg12 (fun e => absurd e.symm (hT12.ne_blk hS11 (by decide))); have hM12 := hM11.kept hg12 (fun e => absurd e.symm (hT12.ne_map hM11)); have hbt12 := hbt11.grown hg12 (fun e => absurd e.symm (hT12.ne_blk hbt11 (by decide))); have hB12 := hB11.grown hg12 hB11.size hT12.low)))
          go_roundw
          case rel => exact ⟨i + 1, m2, by omega, by go_num, hR2.out.trans hst.out, by omega, hS12, hM12, by rw [hX2.out]; exact hT13, hB12, hbt12⟩
          case measure => simp [intOf]; omega
      · have hag2 : agM mm x = false := by simpa using hag
        have hst : Hid (stepM mm x = none) := if_neg hag
        rw [hag2] at HA
        clear hag hag2
        go_wp2_with (first
          | (go_at_call 173; refine (HA _ ⟨mb, hS8, hM8⟩).mono ?_; rintro e w9 ⟨rfl, hw9⟩; have hb9 := hb8.belowSize hw9; have hS9 := hS8.belowSize hw9; have hM9 := hM8.below hw9; have hB9 := hB8.trans (hw9.mono hB8.size); have hT9 := hT8.below hw9; have hbt9 := hbt8.belowSize hw9)
          | (go_at_call 174; refine (HD _ hS9 hM9).mono ?_; rintro e w10 ⟨rfl, hM10, hg10⟩; have hS10 := hS9.grown hg10 (fun e => absurd (Option.some.inj e) (hM9.blk_ne hS9)); have hb10 := hb9.grown hg10 (fun e => absurd (Option.some.inj e) (hM9.blk_ne hb9)); have hB10 := hB9.trans (below_of_grown hg10 hmb4 hB9.size); have hT10 := hT9.kept hg10 (hT9.ne_map hM9); have hbt10 := hbt9.grown hg10 (fun e => absurd (Option.some.inj e) (hM9.blk_ne hbt9)); have ck := (hb10.cell 1).trans hxk)
          | (go_at_call 114; refine (HKo _).mono ?_; rintro e w' ⟨rfl, hw'⟩; have hw' := hw'.symm; subst hw')
          | (with_reducible refine at_list ?_; first
            | (refine wpList_loadOp (op := ⟨some 44, _, _, _, _, _⟩) rfl _ _ rfl g (o + i * 3) rfl (opc x) hr _ Tryz.underlying97 rfl (by rw [opc_size]; exact zOp.2) ?_)
            | (refine wpList_allocRow (op := ⟨some 12, _, _, _, _, _⟩) rfl _ rfl _ zOp.1 ?_; intro w7 hw7 hs7 hb7; replace hs7 := hs7.symm)
            | (refine wpList_storeRow (op := ⟨none, _, _, _, _, _⟩) rfl _ _ _ rfl wr.heap.size (opc x) rfl rfl _ _ hb7 (by simp only [opc_size]) (by rw [opc_size]; exact zOp.2) (opc_one _) ?_; intro w8 hg8 hs8 hb8; replace hs8 := hs8.symm; have hw78 : Below wr.heap.size wr w8 := hw7.trans (below_of_grown hg8 (Nat.le_refl _) hw7.size); have hS8 := hSb.belowSize hw78; have hM8 := hMb.below hw78; have hT8 := hT.below hw78; have hbt8 := hbt.belowSize hw78; have hB8 := hB.trans (hw78.mono hB.size))
            | (refine wpList_loadRow (op := ⟨some 46, _, _, _, _, _⟩) rfl _ _ rfl wr.heap.size rfl _ _ hb8 _ Tryz.underlying97 rfl (by rw [opc_size]; exact zOp.2) ?_)
            | (refine wpList_loadRow (op := ⟨some 50, _, _, _, _, _⟩) rfl _ _ rfl wr.heap.size rfl _ _ hb9 _ Tryz.underlying97 rfl (by rw [opc_size]; exact zOp.2) ?_)
            | (refine wpList_bslT (op := ⟨some 56, _, _, _, _, _⟩) rfl _ rfl (kOf x.key) rfl ?_; intro w11 hw11 hs11 hT11 ct11; replace hs11 := hs11.symm; have hS11 := hS10.belowSize hw11; have hM11 := hM10.below hw11; have hT12 := hT10.below hw11; have hbt11 := hbt10.belowSize hw11; have hB11 := hB10.trans (hw11.mono hB10.size))
            | (refine wpList_appT (op := ⟨some 57, _, _, _, _, _⟩) rfl _ _ rfl w.heap.size u10 _ rfl hT12 w10.heap.size (kOf x.key) rfl ct11 (by omega) hB11.size ?_; intro v12 w12 hT13 hg12; have hS12 := hS11.grown hg12 (fun e => absurd e.symm (hT12.ne_blk hS11 (by decide))); have hM12 := hM11.kept hg12 (fun e => absurd e.symm (hT12.ne_map hM11)); have hbt12 := hbt11.grown hg12 (fun e => absurd e.symm (hT12.ne_blk hbt11 (by decide))); have hB12 := hB11.grown hg12 hB11.size hT12.low)))
        exact hER (HEc.out (HNo.out hst.out)) (by decide) hS hB9 rfl
    · have hR3 : Hid (runM m l = some mm) := by
        have := hR.out
        rw [List.take_of_length_le (by omega)] at this
        exact this
      have hT3 : TS wr w.heap.size u10 (txs c l) := by
        rw [List.take_of_length_le (by omega)] at hT
        exact hT
      have htl := txs_len c l
      have HAl : Hid (apE m ⟨c, n, l⟩ = 0 → apL m ⟨c, n, l⟩ = (Lib.compact (srt (txs c l))).length) := fun h => apL_ok h
      have hslen : (srt (txs c l)).length = (txs c l).length := by simp [srt]
      clear hT hR hsl HX
      obtain ⟨mb0, hSs, hMs⟩ := hS.out
      have hSr := hSs.belowSize hB
      have HI := fun w1 (h : Below w.heap.size w w1) => id_any ⟨c, n, l⟩ hOk a cap w1 (hL.below h) (hG.belowSize h)
      have HEn : Hid (endM ⟨c, n, l⟩ mm = putM (nOf c) (lastB n (idB ⟨c, n, l⟩)) mm) := rfl
      have hE52 := HEr.out mm hR3.out
      have hE0 := HEo.out mm hR3.out
      have hAM : Hid (apE m ⟨c, n, l⟩ = 0 → apM m ⟨c, n, l⟩ = endM ⟨c, n, l⟩ mm) := fun h => apM_ok h hR3.out
      rw [HEn.out] at hE52 hE0 hAM
      rw [HNC.out] at hE52 hE0 hAM
      clear HEn HEr HEo HEc hR3
      have HLo := fun w1 => lastOf_any n (idB ⟨c, n, l⟩) w1
      have hlb := lastB_length n (idB ⟨c, n, l⟩)
      change ∀ w1, Below w.heap.size w w1 → Calls Tryz.prog 176 #[.agg #[.int .u64 (c : Nat), .int .u64 (n : Nat), .slice a l.length cap]] w1 _ at HI
      generalize lastB n (idB ⟨c, n, l⟩) = lb at *
      generalize idB ⟨c, n, l⟩ = idv at *
      have hpl := putM_length nc lb mm
      have cm : wr.cell? ⟨bb, 0, none⟩ = some (.map (some mb)) := hSb.cell 0
      have c0 := (hbt.cell 0).trans (txc_g0 _ _ _)
      have c1 := (hbt.cell 1).trans (txc_g1 _ _ _)
      have c2 := (hbt.cell 2).trans (txc_g2 _ _ _)
      have hOKP : ∀ e w', (∃ sl cp, e = .returned (.tuple #[.slice sl (apL m ⟨c, n, l⟩) cp, .int .i64 (apE m ⟨c, n, l⟩)])) → ST w' b (apM m ⟨c, n, l⟩) → w.grownBy w' (some b) → (∃ g cp, e = .returned (.tuple #[.slice (some ⟨g, 0, none⟩) (Lib.compact (srt (txs c l))).length cp, .int .i64 0]) ∧ w.heap.size ≤ g ∧ XT w' g (Lib.compact (srt (txs c l)))) → P e w' := fun e w' h1 h2 h3 h4 => by rw [HP.out]; exact ⟨h1, h2, h3, fun _ => h4⟩
      generalize apL m ⟨c, n, l⟩ = aL at *
      generalize apM m ⟨c, n, l⟩ = aM at *
      generalize apE m ⟨c, n, l⟩ = aE at *
      go_wp2_with fail
      go_region_held3 (fun w' => w'.cell? ⟨bb, 0, none⟩ = some (.map (some mb)) ∧ w'.cell? ⟨w.heap.size, 0, none⟩ = some (.int .u64 (c : Nat)) ∧ w'.cell? ⟨w.heap.size, 1, none⟩ = some (.int .u64 (n : Nat)) ∧ w'.cell? ⟨w.heap.size, 2, none⟩ = some (.slice a l.length cap)) ((go_split_ands; exact ⟨by assumption, by assumption, by assumption, by assumption⟩)) (first
        | (go_at_call 115; refine (HN _).mono ?_; rintro e w7 ⟨rfl, hw7⟩; have hB7 := hB.drew.trans (hw7.mono hB.size); have x0 := cell_keep (w := wr.drew) hw7 cm; have x1 := cell_keep (w := wr.drew) hw7 c0; have x2 := cell_keep (w := wr.drew) hw7 c1; have x3 := cell_keep (w := wr.drew) hw7 c2)
        | (go_at_call 176; refine (HI _ hB7).mono ?_; rintro e w8 ⟨rfl, hw8⟩; have hB8 := hB7.trans (hw8.mono hB7.size); have y0 := cell_keep hw8 x0; have y1 := cell_keep hw8 x1; have y2 := cell_keep hw8 x2; have y3 := cell_keep hw8 x3)
        | (go_at_call 175; refine (HLo _).mono ?_; rintro e w9 ⟨rfl, hw9⟩; have hB9 := hB8.trans (hw9.mono hB8.size); have z0 := cell_keep hw9 y0; have z1 := cell_keep hw9 y1; have z2 := cell_keep hw9 y2; have z3 := cell_keep hw9 y3; have hM9 : MB w9 mb mm := ((hMb.drew.below hw7).below hw8).below hw9; obtain ⟨w10, hrun, hM10, hg10⟩ := run_putM hM9 (by unfold maxLen; omega) (s := nc) (v := lb) (by unfold maxLen; omega) (by unfold maxLen; omega); have hS9 : Blk w9 bb #[.map (some mb)] 167 := ((hSb.drew.belowSize hw7).belowSize hw8).belowSize hw9; have hbt9 : Blk w9 w.heap.size (txc c n (.slice a l.length cap)) 95 := ((hbt.drew.belowSize hw7).belowSize hw8).belowSize hw9; have d0 : w10.cell? ⟨bb, 0, none⟩ = some (.map (some mb)) := cell_gr (hS9.cell 0) hg10 (hM9.blk_ne hS9); have d1 := cell_gr ((hbt9.cell 0).trans (txc_g0 _ _ _)) hg10 (hM9.blk_ne hbt9); have d2 := cell_gr ((hbt9.cell 1).trans (txc_g1 _ _ _)) hg10 (hM9.blk_ne hbt9); have d3 := cell_gr ((hbt9.cell 2).trans (txc_g2 _ _ _)) hg10 (hM9.blk_ne hbt9)))
      have hB10 : Below w.heap.size w w10 := hB9.trans (below_of_grown hg10 hmb4 hB9.size)
      have hS10 : Blk w10 bb #[.map (some mb)] 167 := hS9.grown hg10 (fun e => absurd (Option.some.inj e) (hM9.blk_ne hS9))
      have hT9 : TS w9 w.heap.size u10 (txs c l) := ((TS.below (w := wr.drew) hT3 hw7).below hw8).below hw9
      have hT10 : TS w10 w.heap.size u10 (txs c l) := hT9.kept hg10 (hT9.ne_map hM9)
      have hSs10 := hSs.belowSize hB10
      clear x0 x1 x2 x3 y0 y1 y2 y3 z0 z1 z2 z3 d1 d2 d3 hrun cm c0 c1 c2 hw7 hw8 hw9 hB7 hB8 hM9 hS9 hbt9 hT9 hT3 hSr hg10 HN HI HLo hSb hMb hbt
      have HLn := len_st bb (putM nc lb mm) w10 ⟨mb, hS10, hM10⟩
      have hi55 : (Tryz.prog.info? 165).map (·.size) = some 1 := by kernel_rfl
      generalize hmmq : putM nc lb mm = mE at *
      clear hmmq
      by_cases hgt : 1024 < mE.length
      · have hE := hE52 hgt
        go_wp2_with (go_at_call 76; refine HLn.mono ?_; rintro e w' ⟨rfl, hw'⟩; have hw' := hw'.symm; subst hw')
        exact hER hE (by decide) hS hB10 rfl
      · have hE := hE0 hgt
        have hsr := fun w1 (h : TS w1 w.heap.size u10 (txs c l)) => sort_ts w.heap.size u10 (txs c l) w1 h (by omega)
        have hcp := fun w1 (h : TS w1 w.heap.size u10 (srt (txs c l))) => compact_ts w.heap.size u10 (srt (txs c l)) w1 h (by omega)
        have hAl := HAl.out hE
        generalize hcl : Lib.compact (srt (txs c l)) = cl at *
        clear hcl
        generalize srt (txs c l) = sl at *
        generalize txs c l = tl at *
        go_wp2_with (first
          | (go_at_call 76; refine HLn.mono ?_; rintro e w' ⟨rfl, hw'⟩; have hw' := hw'.symm; subst hw')
          | (go_at_call 160; refine (hsr _ (hT10.kept hg11 (hT10.ne_blk hSs10 (by decide)))).mono ?_; rintro e w12 ⟨rfl, hT12, hg12⟩)
          | (go_at_call 177; refine (hcp _ hT12).mono ?_; rintro e w13 ⟨gg, cc, rfl, hgg, hg13, hlo13, hX13⟩)
          | (with_reducible refine at_list ?_; first
            | (refine wpList_loadCell (op := ⟨some 79, _, _, _, _, _⟩) rfl _ _ rfl bb 0 rfl _ _ hS10 _ Tryz.underlying165 rfl _ rfl ?_)
            | (refine wpList_storeMap (op := ⟨none, _, _, _, _, _⟩) rfl _ _ rfl b rfl mb rfl mb0 hSs10 ?_; intro w11 hg11 hs11 hb11; replace hs11 := hs11.symm)))
        have hT11 := hT10.kept hg11 (hT10.ne_blk hSs10 (by decide))
        have hM11 : MB w11 mb mE := hM10.kept hg11 (fun e => hM10.blk_ne hSs10 (Option.some.inj e).symm)
        have hM12 : MB w12 mb mE := hM11.kept hg12 (fun e => hT11.ne_map hM11 e.symm)
        have hb12 := hb11.grown hg12 (fun e => hT11.ne_blk hb11 (by decide) e.symm)
        have hM13 : MB w13 mb mE := hM12.kept hg13 (fun e => hT12.ne_map hM12 e.symm)
        have hb13 := hb12.grown hg13 (fun e => hT12.ne_blk hb12 (by decide) e.symm)
        have hgw : w.grownBy w13 (some b) := (((grown_of_below hB10).andThen hg11 (fun j hj => .inr hj)).andThen hg12 (fun j hj => .inl (hT11.low j hj))).andThen hg13 (fun j hj => .inl (hT12.low j hj))
        have hA := hAM.out hE
        subst hA
        exact hOKP _ _ ⟨some ⟨gg, 0, none⟩, cc, by rw [hE, hAl]; rfl⟩ ⟨mb, hb13, hM13⟩ hgw ⟨gg, cc, rfl, hlo13, hX13⟩
/-- What Apply does to a state. -/
theorem apply_any (t : TX) (a : Option Addr) (cap b : Nat) (m : List KV) (w : World) (hS : ST w b m) (hL : SL w a t.ops) (hG : Sh.Glob w) (hm : m.length ≤ 1024) (hc : t.client < 18446744073709551616) (hnn : t.nonce < 18446744073709551616) (hv1 : (valM m (nOf t.client)).length ≤ 140737488355328) :
    Calls Tryz.prog 144 #[.pointer (some ⟨b, 0, none⟩), .agg (txc t.client t.nonce (.slice a t.ops.length cap))] w (ApP m t b w) := by
  by_cases hk : okTx t = true
  · by_cases hn : t.nonce - 1 = lastM m t.client
    · exact apply_rest t a cap b m w hS hL hG hm hk hc hnn hv1 hn
    · exact apply_nonce t a cap b m w hS hL hk hc hnn hv1 hn
  · exact apply_not t a cap b m w hS hL hk
end Go.Proofs.YtmbdhngoldganaaGreatDoor
namespace Go.Proofs.YtmbdhngoldganaaGreatDoor
open Go Go.RowKit Go.Maps Go.Sort Go.Shelf
theorem before_lt : ∀ (a b : List UInt8), bytesBefore a b = true ↔ a < b
  | [], [] => by simp [bytesBefore]
  | [], _ :: _ => by simp [bytesBefore]
  | _ :: _, [] => by simp [bytesBefore]
  | x :: r, y :: s => by
    rw [List.cons_lt_cons_iff]
    simp only [bytesBefore, Bool.or_eq_true, Bool.and_eq_true, decide_eq_true_eq, beq_iff_eq, before_lt r s]
theorem before_le {a b : List UInt8} (h : bytesBefore a b = true) : a ≤ b := List.le_of_lt ((before_lt a b).1 h)
theorem srt_ris {m : List KV} (h : Ris m) : srt (m.map (·.1)) = m.map (·.1) := by
  unfold srt
  apply List.mergeSort_of_pairwise
  rw [List.pairwise_map]
  exact h.imp fun hab => decide_eq_true (before_le hab)
theorem strKeys_dm (m : List KV) : strKeys (dm m) = m.map (·.1) := by
  unfold dm strKeys
  simp only [List.map_map]
  rfl
/-- A slice of texts lies at an address. -/
def LS (w : World) (a : Option Addr) (l : List (List UInt8)) : Prop := ∀ j (h : j < l.length), ∃ g cur, a = some ⟨g, 0, none⟩ ∧ Blk w g cur 9 ∧ cur[j]? = some (.string ⟨(l[j]).toArray⟩)
theorem LS.below {w w' : World} {a : Option Addr} {l : List (List UInt8)} (h : LS w a l) (hb : Below w.heap.size w w') : LS w' a l := fun j hj => by
  obtain ⟨g, cur, h1, h2, h3⟩ := h j hj
  exact ⟨g, cur, h1, h2.belowSize hb, h3⟩
theorem LS.of_row {w : World} {lo : Nat} {v : Value} {l : List (List UInt8)} (h : w.ownsRow lo 9 1 v l.length (l.map encStr)) (hn : v = .slice none 0 0 ↔ l = []) : ∃ a cap, v = .slice a l.length cap ∧ LS w a l ∧ (l ≠ [] → ∃ g, a = some ⟨g, 0, none⟩ ∧ lo ≤ g) := by
  have hc := h
  rcases h.2 with ⟨rfl, h0⟩ | ⟨g, cap, cur, rfl, hb, hcur, h1, h2, h3, h4⟩
  · have hl := hn.1 rfl
    subst hl
    exact ⟨none, 0, rfl, fun j hj => by simp at hj, fun h => absurd rfl h⟩
  · refine ⟨some ⟨g, 0, none⟩, cap, rfl, fun j hj => ⟨g, cur, rfl, ⟨hcur⟩, ?_⟩, fun _ => ⟨g, rfl, hb⟩⟩
    have h5 : (cur.toList.take (l.length * 1))[j]? = (l.map encStr)[j]? := by rw [h4]
    rw [Nat.mul_one, List.getElem?_take_of_lt hj, Array.getElem?_toList] at h5
    rw [h5]
    simp [hj]
theorem sorts_wide (n : Nat) : AnyZ.SortsIn Tryz.prog laySorted_ren Fence.wide n :=
  ⟨fun blk off cap ss W hH hblk hsz => callsIn_wide.2 (AnyM.slices_Sort_string laySort blk off cap ss W hH hblk hsz),
   fun p cap W => callsIn_wide.2 (AnyM.slices_Sort_string_none laySort p cap W)⟩
theorem keys_any (mb : Option Nat) (w : World) : Calls Tryz.prog 131 #[.map mb] w fun e w' => e = .returned (.func (.func 161) #[] #[.pointer (some ⟨w.heap.size, 0, none⟩)]) ∧ w' = w.alloc (.cells #[.map mb] 165) :=
  callsIn_wide.1 (AnyZ.keys_in layKeys Fence.wide 5 trivial rfl mb w)
set_option maxHeartbeats 1000000 in
theorem sorted_any (b : Nat) (m : List KV) (w : World) (hM : MB w b m) (hm : m.length ≤ 100000) :
    Calls Tryz.prog 130 #[.func (.func 161) #[] #[.pointer (some ⟨w.heap.size, 0, none⟩)]] (w.alloc (.cells #[.map (some b)] 165)) fun e w' => ∃ a cap, e = .returned (.slice a m.length cap) ∧ LS w' a (m.map (·.1)) ∧ Below w.heap.size w w' := by
  have hown : w.ownsMap Tryz.prog 9 hld b m.length (dm m) := hM
  have hsz := dm_size m
  have hbl := hown.lt
  have hseq : SeqGives Fence.wide 2 Tryz.prog 161 #[.pointer (some ⟨w.heap.size, 0, none⟩)] encStr (fun ss => ss.Perm (strKeys (dm m))) (Maps.size (dm m)) (w.alloc (.cells #[.map (some b)] 165)) :=
    AnyZ.keys_gives (ρ := layKeys_ren) { layKeys with } Fence.wide _ trivial rfl (by omega) w.heap.size b m.length (dm m) _ (by simp) (by simp) (by
      obtain ⟨es, clock, hb, Ft, hs, hD⟩ := hown
      exact ⟨es, clock, (Below.heap_alloc _ _ b hbl).trans hb, Ft, hs, hD⟩)
  have hS := callsIn_wide.1 (AnyZ.sorted_in laySorted Fence.wide 5 trivial trivial trivial trivial rfl (by omega) (sorts_wide _) (enters_of Tryz.func160 (by kernel_rfl) rfl) 161 #[.pointer (some ⟨w.heap.size, 0, none⟩)] trivial (enters_of Tryz.func161 (by kernel_rfl) rfl) _ _ (by rw [hsz]; unfold maxLen; omega) (by rw [hsz]; omega) _ hseq)
  refine hS.mono ?_
  rintro e w' ⟨v, ss, rfl, hP, hrow, hnil, hb⟩
  rw [strKeys_dm] at hP
  have hlen : ss.length = m.length := by rw [hP.length_eq, List.length_map]
  have hss : ss.mergeSort (fun x y => decide (x ≤ y)) = m.map (·.1) := (mergeSort_of_perm hP).trans (srt_ris (hM.ris K9))
  rw [hss, show ss.length = (m.map (·.1)).length from by rw [hlen, List.length_map]] at hrow
  obtain ⟨a, cap, rfl, hLS, _⟩ := LS.of_row hrow (by
    rw [hnil]
    constructor
    · intro h; subst h; exact (List.nil_perm.1 hP)
    · intro h; rw [h] at hP; exact List.perm_nil.1 hP)
  refine ⟨a, cap, by rw [List.length_map], hLS, ?_⟩
  exact ((Below.refl _ w).alloc (Nat.le_refl _) _).trans (hb.mono (by simp))
/-- A row of texts. -/
def row9 (f : Nat → List UInt8) (n : Nat) : Array Value := Array.ofFn (fun i : Fin n => Value.string ⟨(f i).toArray⟩)
def upd9 (f : Nat → List UInt8) (i : Nat) (v : List UInt8) : Nat → List UInt8 := fun j => if j = i then v else f j
theorem row9_size (f : Nat → List UInt8) (n : Nat) : (row9 f n).size = n := by simp [row9]
theorem row9_get (f : Nat → List UInt8) (n j : Nat) (h : j < n) : (row9 f n)[j]? = some (.string ⟨(f j).toArray⟩) := by simp [row9, h]
theorem row9_none (f : Nat → List UInt8) (n j : Nat) (h : n ≤ j) : (row9 f n)[j]? = none := by simp [row9, h]
theorem row9_set (f : Nat → List UInt8) (n i : Nat) (v : List UInt8) : (row9 f n).setIfInBounds i (.string ⟨v.toArray⟩) = row9 (upd9 f i v) n := by
  apply Array.ext_getElem?
  intro j
  rw [Array.getElem?_setIfInBounds]
  by_cases hj : j < n
  · rw [row9_get _ _ _ hj, row9_get _ _ _ hj, row9_size]
    by_cases h : i = j
    · subst h; simp [upd9, hj]
    · rw [if_neg h, upd9, if_neg (fun e => h e.symm)]
  · rw [row9_none _ _ _ (by omega), row9_none _ _ _ (by omega), row9_size]
    by_cases h : i = j
    · subst h; rw [if_pos rfl, if_neg hj]
    · rw [if_neg h]
theorem madeCells_row9 (n : Nat) : madeCells #[Value.string ⟨#[]⟩] n = row9 (fun _ => []) n := by
  apply Array.ext_getElem?
  intro j
  by_cases hj : j < n
  · rw [row9_get _ _ _ hj]; simp [madeCells, hj, Nat.mod_one]
  · rw [row9_none _ _ _ (by omega)]; simp [madeCells]; omega
theorem wpList_makeS {ops : Array Oper} {rest : List Oper} {op : Oper} {a : Act} {w : World} {Q : Exit → Act → World → Prop} (hgd : op.guard = none) (x y : Operand) (ho : op.op = .makeSlice 28 x y) (n : Nat) (hx : a.eval x = .int .i64 (n : Int)) (hy : a.eval y = .int .i64 (n : Int)) (hn : n ≤ 1000000)
    (h : ∀ w1 : World, Below w.heap.size w w1 → w1.heap.size = w.heap.size + 1 → Blk w1 w.heap.size (row9 (fun _ => []) n) 9 → wpList Tryz.prog ops Q rest (a.put op.dst (.slice (some ⟨w.heap.size, 0, none⟩) n n)) w1) :
    wpList Tryz.prog ops Q (op :: rest) a w := by
  obtain ⟨i, hi, hz, hs, hb⟩ := info9
  have hr := run_make (P := Tryz.prog) w 28 9 i _ Tryz.underlying28 hi hz .i64 .i64 (n : Int) (n : Int) (by omega) (by omega) (by rw [hb]; omega) (by omega)
  rw [Int.toNat_natCast, hs, Nat.mul_one, show (Value.string ⟨#[]⟩).cells = #[Value.string ⟨#[]⟩] from rfl, madeCells_row9] at hr
  refine wpList_run hgd _ _ ?_ (h _ ((Below.refl _ _).alloc (Nat.le_refl _) _) (by simp) (Blk.new _ _ _))
  unfold execOp
  simp only [ho, hx, hy, Sem.run_bind, hr, Result.andThen_ok]
  rfl
end Go.Proofs.YtmbdhngoldganaaGreatDoor
