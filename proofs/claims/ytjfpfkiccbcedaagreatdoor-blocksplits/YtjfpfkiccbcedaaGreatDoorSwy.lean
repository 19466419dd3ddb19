/- Halves in memory: alone, joined, opened. The way of a path: a function that is ranged over. -/
import Derived.Test.YtjfpfkiccbcedaaGreatDoorShb
import Derived.Deep.RegionHeld3
namespace Go.Proofs.YtjfpfkiccbcedaaGreatDoor.Sh
open Go Go.RowKit
theorem hashT_len (t : Tr) : (t.hash TgD).length = 32 := by
  cases t
  · rfl
  · exact TgD_len _ _
  · exact TgD_len _ _
set_option maxRecDepth 100000 in
set_option maxHeartbeats 1000000 in
theorem alone_any (x : LF) (w : World) (hG : Glob w) (h1 : x.1.length = 32) (h2 : x.2.length = 32) : Calls Tryz.prog 150 #[.agg #[.string ⟨x.1.toArray⟩, .string ⟨x.2.toArray⟩]] w fun e w' => ∃ q, e = .returned (.pointer q) ∧ HF w' (.lf x) q ∧ Below w.heap.size w w' := by
  have H := fun w1 (hG : Glob w1) => sleaf_any x.1 x.2 w1 hG (by omega) (by omega)
  obtain ⟨p, v⟩ := x
  dsimp only at *
  go_enter Tryz.func150, Tryz.ntmps150
  go_upto_region 1 with (with_reducible refine at_list ?_; refine wpList_boxRow (op := ⟨some 1, _, _, _, _, _⟩) rfl _ _ rfl #[.string ⟨p.toArray⟩, .string ⟨v.toArray⟩] rfl ?_; intro w1 hw1 hs1 hb1; replace hs1 := hs1.symm)
  have hd1 : Below w.heap.size w w1.drew := hw1.drew
  obtain ⟨q0, q1⟩ := blk2c hb1.drew
  have hb1d := hb1.drew
  have dd : w1.drew.cell? ⟨w.heap.size, 0, none⟩ = some (.string ⟨p.toArray⟩) ∧ w1.drew.cell? ⟨w.heap.size, 1, none⟩ = some (.string ⟨v.toArray⟩) := ⟨q0, q1⟩
  have hno : Hid (Blk w1.drew w.heap.size #[.string ⟨p.toArray⟩, .string ⟨v.toArray⟩] 156) := hb1d
  clear hb1d hb1 q0 q1
  go_region_held3 (fun W => W.cell? ⟨w.heap.size, 0, none⟩ = some (.string ⟨p.toArray⟩) ∧ W.cell? ⟨w.heap.size, 1, none⟩ = some (.string ⟨v.toArray⟩)) (first | assumption | (go_keep; done)) ((go_at_call 185; refine (H _ (hG.belowSize hd1)).mono ?_; rintro e w3 ⟨rfl, hw3⟩; have dd := blk2c (hno.out.belowSize hw3)))
  go_wp2_with fail
  go_ret
  have hB := hd1.trans (hw3.mono hd1.size)
  exact ⟨_, rfl, ⟨_, rfl, Blk.new _ _ _, h1, h2⟩, hB.alloc hB.size _⟩
set_option maxRecDepth 100000 in
set_option maxHeartbeats 2000000 in
theorem joined_any (l r : Tr) (pl pr : Option Addr) (w : World) (hG : Glob w) (hl : HF w l pl) (hr : HF w r pr) (cl : l.cnt ≤ 1000000) (cr : r.cnt ≤ 1000000) :
    Calls Tryz.prog 184 #[.agg #[.pointer pl, .pointer pr]] w fun e w' => ∃ q, e = .returned (.pointer q) ∧ HF w' (Tr.joinG l r) q ∧ Below w.heap.size w w' := by
  go_enter Tryz.func184, Tryz.ntmps184
  go_upto_region 1 with (with_reducible refine at_list ?_; refine wpList_boxRow (op := ⟨some 1, _, _, _, _, _⟩) rfl _ _ rfl #[.pointer pl, .pointer pr] rfl ?_; intro w1 hw1 hs1 hb1; replace hs1 := hs1.symm)
  have hd1 : Below w.heap.size w w1.drew := hw1.drew
  have dd : w1.drew.cell? ⟨w.heap.size, 0, none⟩ = some (.pointer pl) ∧ w1.drew.cell? ⟨w.heap.size, 1, none⟩ = some (.pointer pr) := blk2c hb1.drew
  have hbd : Hid (Blk w1.drew w.heap.size #[.pointer pl, .pointer pr] 157) := hb1.drew
  have hl1 := hl.below hd1
  have hr1 := hr.below hd1
  have hG1 := hG.belowSize hd1
  have HCl := count_any l pl w1.drew hl1
  have HCr := count_any r pr w1.drew hr1
  obtain ⟨n, hn⟩ : ∃ n, l.cnt = n := ⟨_, rfl⟩
  obtain ⟨m, hm⟩ : ∃ m, r.cnt = m := ⟨_, rfl⟩
  rw [hn] at HCl cl
  rw [hm] at HCr cr
  have hw : IntKind.i64.wrap ((n : Int) + (m : Int)) = (n : Int) + (m : Int) := by rw [IntKind.wrap_i64]; omega
  replace hn : Hid (l.cnt = n) := hn
  replace hm : Hid (r.cnt = m) := hm
  clear hb1 hs1
  go_region_held3 (fun W => W.cell? ⟨w.heap.size, 0, none⟩ = some (.pointer pl) ∧ W.cell? ⟨w.heap.size, 1, none⟩ = some (.pointer pr)) (first | assumption | (go_keep; done)) (first
    | (go_at_call 186; refine HCl.mono ?_; clear HCl; rintro e w3 ⟨rfl, hw3⟩; have hw3 := hw3.symm; subst hw3)
    | (go_at_call 186; refine HCr.mono ?_; clear HCr; rintro e w3 ⟨rfl, hw3⟩; have hw3 := hw3.symm; subst hw3))
  by_cases h2 : 1 < n + m
  · have h2i : (1 : Int) < (n : Int) + (m : Int) := by omega
    go_upto_region 3 with fail
    have hd2 : Below w.heap.size w w1.drew.drew := hd1.drew
    have dd2 : w1.drew.drew.cell? ⟨w.heap.size, 0, none⟩ = some (.pointer pl) ∧ w1.drew.drew.cell? ⟨w.heap.size, 1, none⟩ = some (.pointer pr) := blk2c hbd.out.drew
    have hbd2 : Hid (Blk w1.drew.drew w.heap.size #[.pointer pl, .pointer pr] 157) := hbd.out.drew
    have H1 := hhash_any l pl w1.drew.drew hl1.drew
    have H2 := fun w2 (h : Below w1.drew.drew.heap.size w1.drew.drew w2) => hhash_any r pr w2 (hr1.drew.below h)
    have HJ := fun w2 (h : Below w1.drew.drew.heap.size w1.drew.drew w2) => sjoin_any (l.hash TgD) (r.hash TgD) w2 (hG1.drew.belowSize h) (by rw [hashT_len]; omega) (by rw [hashT_len]; omega)
    have hjr : Hid (joinD TgD (l.hash TgD) (r.hash TgD) = (Tr.nd l r).hash TgD) := rfl
    generalize l.hash TgD = dl at *
    generalize r.hash TgD = dr at *
    generalize joinD TgD dl dr = dj at *
    clear dd hbd
    go_region_held3 (fun W => W.cell? ⟨w.heap.size, 0, none⟩ = some (.pointer pl) ∧ W.cell? ⟨w.heap.size, 1, none⟩ = some (.pointer pr)) (first | assumption | (go_keep; done)) (first
      | (go_at_call 56; refine H1.mono ?_; clear H1; rintro e w3 ⟨rfl, hw3⟩; have dd := blk2c (hbd2.out.belowSize hw3))
      | (go_at_call 56; refine (H2 _ hw3).mono ?_; clear H2; rintro e w4 ⟨rfl, hw4⟩; have hw4' := hw3.trans (hw4.mono hw3.size); have dd := blk2c (hbd2.out.belowSize hw4'))
      | (go_at_call 206; refine (HJ _ hw4').mono ?_; rintro e w5 ⟨rfl, hw5⟩; have hw5' := hw4'.trans (hw5.mono hw4'.size); have dd := blk2c (hbd2.out.belowSize hw5')))
    go_wp2_with fail
    go_ret
    have hB := hd2.trans (hw5'.mono hd2.size)
    refine ⟨_, rfl, ?_, hB.alloc hB.size _⟩
    rw [Tr.joinG_two (by rw [hn.out, hm.out]; omega)]
    refine ⟨_, pl, pr, rfl, ?_, (hl1.drew.below hw5').alloc _, (hr1.drew.below hw5').alloc _, by rw [hn.out, hm.out]; omega⟩
    rw [← hjr.out, hn.out, hm.out]
    have := Blk.new w5 (halfC dj (n + m) [] [] pl pr) 159
    exact this
  · have h2i : ¬ (1 : Int) < (n : Int) + (m : Int) := by omega
    obtain ⟨d0, d1⟩ := dd
    have hjl : ¬ 1 < l.cnt + r.cnt := by rw [hn.out, hm.out]; exact h2
    rcases hl.out with ⟨rfl, rfl⟩ | ⟨b, p, v, x, y, rfl, hb, _, hne⟩
    · replace hjl : Hid (Tr.joinG .emp r = r) := Tr.joinG_r hjl
      go_wp2_with fail
      go_ret
      exact ⟨_, rfl, by rw [hjl.out]; exact hr1, hd1⟩
    · replace hjl : Hid (Tr.joinG l r = l) := Tr.joinG_l hjl hne
      go_wp2_with fail
      go_ret
      exact ⟨_, rfl, by rw [hjl.out]; exact hl1, hd1⟩
theorem iPh : (Tryz.prog.info? 97).map (·.size) = some 1 := by kernel_rfl
theorem zAr : (∀ w, (zeroValue 157).run Tryz.prog w = .ok (.agg #[.pointer none, .pointer none]) w) ∧ (Tryz.prog.info? 157).map (·.size) = some 2 := zero_of_info (by kernel_rfl)
set_option maxRecDepth 100000 in
set_option maxHeartbeats 2000000 in
theorem opened_any (t : Tr) (q : Option Addr) (i : Nat) (w : World) (h : HF w t q) (hne : t ≠ .emp) (hc : t.cnt ≤ 1000000) (hi : i < 256) :
    Calls Tryz.prog 182 #[.pointer q, .int .i64 i] w fun e w' => ∃ pl pr, e = .returned (.agg #[.pointer pl, .pointer pr]) ∧ HF w' (Tr.openT i t).1 pl ∧ HF w' (Tr.openT i t).2 pr ∧ Below w.heap.size w w' := by
  cases t with
  | emp => exact absurd rfl hne
  | nd l r =>
    obtain ⟨b, pl, pr, rfl, hb, hl, hr, h2⟩ := h
    rw [Tr.cnt_nd] at hc
    show Calls _ _ _ _ fun e w' => ∃ pl pr, e = .returned (.agg #[.pointer pl, .pointer pr]) ∧ HF w' l pl ∧ HF w' r pr ∧ Below w.heap.size w w'
    generalize l.cnt + r.cnt = n at *
    have h2i : (1 : Int) < (n : Int) := by omega
    go_enter Tryz.func182, Tryz.ntmps182
    go_wp2_with (with_reducible refine at_list ?_; first
      | (refine wpList_allocRow (op := ⟨some 4, _, _, _, _, _⟩) rfl _ rfl _ zAr.1 ?_; intro w1 hw1 hs1 hz; replace hs1 := hs1.symm; obtain ⟨_, c1, _, _, c4, c5⟩ := half_cells (hb.belowSize hw1))
      | (refine wpList_storeRow (op := ⟨none, .store 157 (.tmp 4) (.tmp 14), _, _, _, _⟩) rfl _ _ _ rfl w.heap.size #[.pointer pl, .pointer pr] rfl rfl _ _ hz (by simp) (by simpa using zAr.2) (by simp [Value.oneCell']) ?_; intro w6 hg6 hs6 hz6; have HB := hw1.trans (below_of_grown hg6 (Nat.le_refl _) hw1.size)))
    refine bodyPost_ret (v := .agg #[.pointer pl, .pointer pr]) ?_ rfl ⟨pl, pr, rfl, hl.below HB, hr.below HB, HB⟩
    exact results_cell_row rfl _ _ w.heap.size _ _ _ _ rfl hz6.out Tryz.underlying157 rfl (by exact zAr.2)
  | lf x =>
    obtain ⟨b, rfl, hb, h1, h2⟩ := h
    have hbit := bitD_lt x.1 i
    have HS := fun w1 => side_any x.1 i w1 hi h1
    have hfin : ∀ {w' : World}, Below w.heap.size w w' → HF w' (.lf x) (some ⟨b, 0, none⟩) := fun hB => ⟨b, rfl, hb.belowSize hB, h1, h2⟩
    by_cases h0 : bitD x.1 i = 0
    · rw [show Tr.openT i (.lf x) = (.lf x, .emp) from if_pos h0]
      rw [h0] at HS
      dsimp only
      go_enter Tryz.func182, Tryz.ntmps182
      go_wp2_with (first
        | (go_at_call 204; refine (HS _).mono ?_; rintro e w3 ⟨rfl, hw3⟩; have hw3 := hw3.symm; subst hw3)
        | (with_reducible refine at_list ?_; first
          | (refine wpList_allocRow (op := ⟨some 4, _, _, _, _, _⟩) rfl _ rfl _ zAr.1 ?_; intro w1 hw1 hs1 hz; replace hs1 := hs1.symm; obtain ⟨_, c1, _⟩ := half_cells (hb.belowSize hw1))
          | (refine wpList_allocRow (op := ⟨some 5, _, _, _, _, _⟩) rfl _ rfl _ zAr.1 ?_; intro w2 hw2 hs2 hy; replace hs2 := hs2.symm; have hB2 := hw1.trans (hw2.mono hw1.size); obtain ⟨_, _, c2, _⟩ := half_cells (hb.belowSize hB2); have hne1 : w.heap.size ≠ w1.heap.size := Nat.ne_of_lt hz.lt)
          | (refine wpList_storeCell (op := ⟨none, .store 97 (.tmp 23) (.tmp 22), _, _, _, _⟩) rfl _ _ _ rfl w1.heap.size 0 rfl (.pointer (some ⟨b, 0, none⟩)) rfl _ _ hy (by exact iPh) (by simp [Value.cells]) (by simp [Value.oneCell']) (by simp) ?_; intro w4 hg4 hs4 hy4; obtain ⟨c5, c6⟩ := blk2c hy4; have hz4 := hz.belowSize hw2; replace hz4 := hz4.grown hg4 (fun e => absurd (Option.some.inj e) hne1))
          | (refine wpList_storeRow (op := ⟨none, .store 157 (.tmp 4) (.tmp 24), _, _, _, _⟩) rfl _ _ _ rfl w.heap.size #[.pointer (some ⟨b, 0, none⟩), .pointer none] rfl rfl _ _ hz4 (by simp) (by simpa using zAr.2) (by simp [Value.oneCell']) ?_; intro w6 hg6 hs6 hz6; have hB4 := hB2.trans (below_of_grown hg4 hw1.size hB2.size); have HB := hB4.trans (below_of_grown hg6 (Nat.le_refl _) hB4.size))))
      refine bodyPost_ret (v := .agg #[.pointer (some ⟨b, 0, none⟩), .pointer none]) ?_ rfl ⟨_, _, rfl, hfin HB, rfl, HB⟩
      exact results_cell_row rfl _ _ w.heap.size _ _ _ _ rfl hz6.out Tryz.underlying157 rfl (by exact zAr.2)
    · rw [show Tr.openT i (.lf x) = (.emp, .lf x) from if_neg h0]
      have h1' : bitD x.1 i = 1 := by omega
      rw [h1'] at HS
      dsimp only
      go_enter Tryz.func182, Tryz.ntmps182
      go_wp2_with (first
        | (go_at_call 204; refine (HS _).mono ?_; rintro e w3 ⟨rfl, hw3⟩; have hw3 := hw3.symm; subst hw3)
        | (with_reducible refine at_list ?_; first
          | (refine wpList_allocRow (op := ⟨some 4, _, _, _, _, _⟩) rfl _ rfl _ zAr.1 ?_; intro w1 hw1 hs1 hz; replace hs1 := hs1.symm; obtain ⟨_, c1, _⟩ := half_cells (hb.belowSize hw1))
          | (refine wpList_allocRow (op := ⟨some 5, _, _, _, _, _⟩) rfl _ rfl _ zAr.1 ?_; intro w2 hw2 hs2 hy; replace hs2 := hs2.symm; have hB2 := hw1.trans (hw2.mono hw1.size); obtain ⟨_, _, c2, _⟩ := half_cells (hb.belowSize hB2); have hne1 : w.heap.size ≠ w1.heap.size := Nat.ne_of_lt hz.lt)
          | (refine wpList_storeCell (op := ⟨none, .store 97 (.tmp 23) (.tmp 22), _, _, _, _⟩) rfl _ _ _ rfl w1.heap.size 1 rfl (.pointer (some ⟨b, 0, none⟩)) rfl _ _ hy (by exact iPh) (by simp [Value.cells]) (by simp [Value.oneCell']) (by simp) ?_; intro w4 hg4 hs4 hy4; obtain ⟨c5, c6⟩ := blk2c hy4; have hz4 := hz.belowSize hw2; replace hz4 := hz4.grown hg4 (fun e => absurd (Option.some.inj e) hne1))
          | (refine wpList_storeRow (op := ⟨none, .store 157 (.tmp 4) (.tmp 24), _, _, _, _⟩) rfl _ _ _ rfl w.heap.size #[.pointer none, .pointer (some ⟨b, 0, none⟩)] rfl rfl _ _ hz4 (by simp) (by simpa using zAr.2) (by simp [Value.oneCell']) ?_; intro w6 hg6 hs6 hz6; have hB4 := hB2.trans (below_of_grown hg4 hw1.size hB2.size); have HB := hB4.trans (below_of_grown hg6 (Nat.le_refl _) hB4.size))))
      refine bodyPost_ret (v := .agg #[.pointer none, .pointer (some ⟨b, 0, none⟩)]) ?_ rfl ⟨_, _, rfl, rfl, hfin HB, HB⟩
      exact results_cell_row rfl _ _ w.heap.size _ _ _ _ rfl hz6.out Tryz.underlying157 rfl (by exact zAr.2)
end Go.Proofs.YtjfpfkiccbcedaaGreatDoor.Sh
namespace Go.Proofs.YtjfpfkiccbcedaaGreatDoor.Sh
open Go Go.RowKit Go.Shelf
set_option maxRecDepth 100000 in
theorem way_any (p : List UInt8) (w : World) : Calls Tryz.prog 181 #[.string ⟨p.toArray⟩] w fun e w' => e = .returned (.func (.func 203) #[] #[.pointer (some ⟨w.heap.size, 0, none⟩)]) ∧ Blk w' w.heap.size #[.string ⟨p.toArray⟩] 9 ∧ Below w.heap.size w w' := by
  go_enter Tryz.func181, Tryz.ntmps181
  go_wp2_with fail
  go_ret
  exact ⟨rfl, Blk.new _ _ _, (Below.refl _ _).alloc (Nat.le_refl _) _⟩
abbrev encW (p : List UInt8) (i : Fin 256) : Array Value := #[.int .i64 ((i.1 : Nat) : Int), .int .i64 ((bitD p i.1 : Nat) : Int)]
def allW : List (Fin 256) := List.finRange 256
theorem allW_len : allW.length = 256 := List.length_finRange
theorem allW_take {k : Nat} (h : k < 256) : allW.take (k + 1) = allW.take k ++ [⟨k, h⟩] := by
  rw [List.take_succ_eq_append_getElem (by rw [allW_len]; exact h)]
  congr 2
  unfold allW
  rw [List.getElem_finRange]
  rfl
abbrev KpW (B : Nat) (p : List UInt8) (W W' : World) : Prop := Blk W B #[.string ⟨p.toArray⟩] 9 → Blk W' B #[.string ⟨p.toArray⟩] 9
section
attribute [local go_sem] Oper.semAt_some
set_option maxRecDepth 100000 in
set_option maxHeartbeats 2000000 in
theorem way1_in (n : Nat) (hn : 1 ≤ n) (l B : Nat) (p : List UInt8) (hp : p.length = 32) (J Jx : List (Fin 256) → World → Prop)
    (hY : ∀ pre x W, J pre W → pre.length < 256 → YieldAt Fence.wide (n - 1) Tryz.prog l (encW p x) W fun e W' =>
      (e = .returned (.bool true) ∧ J (pre ++ [x]) W' ∧ KpW B p W W') ∨ (e = .returned (.bool false) ∧ Jx (pre ++ [x]) W'))
    (W : World) (hI : Blk W B #[.string ⟨p.toArray⟩] 9) (h0 : J [] W) :
    CallsIn Fence.wide n Tryz.prog 203 #[.func (.yield l) #[] #[], .pointer (some ⟨B, 0, none⟩)] W fun e W' => (∃ v, e = .returned v) ∧
      ((∃ ys, ys = allW ∧ J ys W') ∨ (∃ pre, (∃ k, k ≤ 256 ∧ pre = allW.take k) ∧ Jx pre W')) := by
  refine callsIn_of_wp Tryz.func203 rfl trivial ?_ rfl
  simp only [Tryz.ntmps203, List.size_toArray, List.length_cons, List.length_nil, Nat.reduceAdd, Nat.reduceSub, Array.replicate_succ, Array.replicate_zero, List.push_toArray, List.append_toArray, List.nil_append, List.cons_append]
  gi_wp2
  gi_loopw [4] (fun i wr => ∃ k : Nat, k ≤ 256 ∧ i = .int .i64 k ∧ J (allW.take k) wr ∧ Blk wr B #[.string ⟨p.toArray⟩] 9)
    (fun i _ => 256 - (intOf i).toNat)
  case atStart => exact ⟨0, Nat.zero_le _, rfl, h0, hI⟩
  case round =>
    obtain ⟨k, hk, rfl, hJs, hIr⟩ := hrel
    by_cases hlt : k < 256
    · have hTk := allW_take hlt
      have HS := fun w1 => side_any p k w1 hlt hp
      obtain ⟨fn, tmps, assign, body, hy, hR⟩ := hY _ ⟨k, hlt⟩ wr hJs (by rw [List.length_take]; omega)
      rw [← hTk] at hR
      clear hTk
      dsimp only [encW] at hy
      generalize bitD p k = bt at *
      have hc : wr.cell? ⟨B, 0, none⟩ = some (.string ⟨p.toArray⟩) := hIr.cell 0
      have hi1 : (k : Int) < 256 := by omega
      gi_wp2_with (refine ⟨trivial, ?_⟩; gi_at_call 204; refine (callsIn_wide.2 (HS _)).mono ?_; rintro e w3 ⟨rfl, hw3⟩; have hw3 := hw3.symm; subst hw3)
      refine hR.mono ?_
      rintro e W3 (⟨rfl, hJ3, hk3⟩ | ⟨rfl, hJx3⟩)
      · gi_wp2
        go_roundw
        case rel => exact ⟨k + 1, by omega, by go_num, hJ3, hk3 hIr⟩
        case measure => simp [intOf]; omega
      · gi_wp2
        refine bodyPost_ret (results_none rfl _ _ _) rfl ?_
        exact ⟨⟨_, rfl⟩, .inr ⟨_, ⟨k + 1, by omega, rfl⟩, hJx3⟩⟩
    · obtain rfl : k = 256 := by omega
      gi_wp2
      go_end0
      exact ⟨⟨_, rfl⟩, .inl ⟨_, by rw [List.take_of_length_le (by rw [allW_len]; exact Nat.le_refl _)], hJs⟩⟩
end
theorem way_stops (n : Nat) (hn : 1 ≤ n) (B : Nat) (p : List UInt8) (hp : p.length = 32) (w : World) (hI : Blk w B #[.string ⟨p.toArray⟩] 9) :
    SeqStopsK Fence.wide n Tryz.prog 203 #[.pointer (some ⟨B, 0, none⟩)] (encW p) (KpW B p) (fun ys => ys = allW) (fun pre => ∃ k, k ≤ 256 ∧ pre = allW.take k) 256 w :=
  fun l J Jx W hW _ _ hY h0 => way1_in n hn l B p hp J Jx hY W (hI.belowSize hW) h0
theorem Blk.turn {w w' : World} {b : Nat} {c : Array Value} {t : TypeId} {row : Option Nat} (h : Blk w b c t) (hg : w.grownBy w' row) (hr : ∀ r, row = some r → ∃ o : Obj, w.heap[r]? = some o ∧ o.isCells = false) : Blk w' b c t := h.grown hg (fun e => by
  obtain ⟨o, ho, hc⟩ := hr b e.symm
  rw [h.out] at ho
  cases ho
  cases hc)
theorem kpW_t {B : Nat} {p : List UInt8} {A C D : World} (h : KpW B p A C) (k : KpW B p C D) : KpW B p A D := fun hi => k (h hi)
theorem kpW_b {B : Nat} {p : List UInt8} {w : World} (W : World) (l : Nat) (o o' : Obj) (_ : w.heap.size ≤ l) (h : W.heap[l]? = some o) (hc : o.isCells = false) (_ : o.isWalk = false) : KpW B p W (W.putObj l o') := fun hi => hi.turn (grownBy_putObj' W l o') (fun r e => by
  have e := Option.some.inj e
  subst e
  exact ⟨o, h, hc⟩)
end Go.Proofs.YtjfpfkiccbcedaaGreatDoor.Sh
