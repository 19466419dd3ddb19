/- What Take does, whatever the bytes. -/
import Derived.Test.YtnhlejdilldfaaaGreatWte
import Derived.Test.YtnhlejdilldfaaaGreatWpt
namespace Go.Proofs.YtnhlejdilldfaaaGreat
open Go Go.RowKit Go.Maps
/-- The reader behind so many counts, and what they are. -/
def tk8 (r : R) : Nat → R
  | 0 => r
  | i + 1 => ((tk8 r i).count 2147483647).1
def cn8 (r : R) (i : Nat) : Int := (((tk8 r i).count 2147483647).2 : Nat)
/-- The reader behind so many entries, and what they are. -/
def tkE (r : R) : Nat → R × List LE
  | 0 => (r, [])
  | i + 1 => ((tkE r i).1.entry.1, (tkE r i).2 ++ [teOf (tkE r i).1])
def tkN (r : R) : R × Nat := ((tk8 r 8).bool.1.bool.1).count 16
def tkB (r : R) : R × Bool := ((tkE (tkN r).1 (tkN r).2).1.text 2147483647).1.bool
def tkF (r : R) : R × List Int := if (tkB r).2 = true then tkM (tkB r).1 else ((tkB r).1, [])
/-- A reader goes through a message, plainly. -/
def R.msg (r : R) : R × MSG := ((tkF r).1, { kind := cn8 r 0, frm := cn8 r 1, dst := cn8 r 2, term := cn8 r 3, index := cn8 r 4, logTerm := cn8 r 5, commit := cn8 r 6, yes := (tk8 r 8).bool.2, ents := (tkE (tkN r).1 (tkN r).2).2, off := cn8 r 7, piece := ((tkE (tkN r).1 (tkN r).2).1.text 2147483647).2, done := (tk8 r 8).bool.1.bool.2, mems := (tkF r).2 })
def MSG.none : MSG := { kind := 0, frm := 0, dst := 0, term := 0 }
def tmOf (r : R) : MSG := if r.msg.1.err = 0 then r.msg.2 else MSG.none
theorem tk8_s (r : R) : ∀ i, (tk8 r i).s = r.s
  | 0 => rfl
  | i + 1 => (R.count_s _ _).trans (tk8_s r i)
theorem tk8_ok {r : R} (h : r.ok) : ∀ i, (tk8 r i).ok
  | 0 => h
  | i + 1 => R.ok_count (tk8_ok h i) _
theorem tkE_s (r : R) : ∀ i, (tkE r i).1.s = r.s
  | 0 => rfl
  | i + 1 => (R.entry_s _).trans (tkE_s r i)
theorem tkE_ok {r : R} (h : r.ok) : ∀ i, (tkE r i).1.ok
  | 0 => h
  | i + 1 => R.ok_entry (tkE_ok h i)
theorem tkE_len (r : R) : ∀ i, (tkE r i).2.length = i
  | 0 => rfl
  | i + 1 => by show ((tkE r i).2 ++ [_]).length = _; rw [List.length_append, tkE_len r i]; rfl
/-- The eight numbers that Take keeps, so far. -/
def ar8 (r : R) (i : Nat) : Array Value := ((List.range 8).map fun j => Value.int .i64 (if j < i then cn8 r j else 0)).toArray
theorem ar8_zero (r : R) : ar8 r 0 = #[.int .i64 0, .int .i64 0, .int .i64 0, .int .i64 0, .int .i64 0, .int .i64 0, .int .i64 0, .int .i64 0] := rfl
theorem ar8_size (r : R) (i : Nat) : (ar8 r i).size = 8 := by simp [ar8]
theorem ar8_succ (r : R) (i : Nat) : (ar8 r i).setIfInBounds i (.int .i64 (cn8 r i)) = ar8 r (i + 1) := by
  apply Array.ext_getElem?
  intro j
  rw [Array.getElem?_setIfInBounds, ar8_size]
  unfold ar8
  simp only [List.getElem?_toArray, List.getElem?_map]
  by_cases hj : j < 8
  · rw [List.getElem?_range hj]
    by_cases he : i = j
    · subst he
      rw [if_pos rfl, if_pos hj]
      simp
    · rw [if_neg he]
      simp only [Option.map_some]
      by_cases h1 : j < i
      · rw [if_pos h1, if_pos (by omega)]
      · rw [if_neg h1, if_neg (by omega)]
  · have hn : (List.range 8)[j]? = Option.none := List.getElem?_eq_none (by simp; omega)
    rw [hn]
    by_cases he : i = j
    · rw [if_pos he, if_neg (by omega)]; rfl
    · rw [if_neg he]; rfl
theorem To.drew {w w1 : World} {b : Nat} {r : R} (h : To w w1 b r) : To w w1.drew b r := h.trans ⟨grown_of_below (Below.refl _ _).drew, h.rd.below (Below.refl _ _).drew⟩
theorem ar8_full (r : R) : ar8 r 8 = #[.int .i64 (cn8 r 0), .int .i64 (cn8 r 1), .int .i64 (cn8 r 2), .int .i64 (cn8 r 3), .int .i64 (cn8 r 4), .int .i64 (cn8 r 5), .int .i64 (cn8 r 6), .int .i64 (cn8 r 7)] := rfl
theorem teOf_len (r : R) : (teOf r).mem.length ≤ 17592186044416 := by
  unfold teOf
  split
  · unfold R.entry
    dsimp only
    split
    · have := tkM_len (r.count 2147483647).1.bool.1
      show (tkM (r.count 2147483647).1.bool.1).2.length ≤ _
      omega
    · exact Nat.zero_le _
  · exact Nat.zero_le _
theorem To.writeO {w w1 w2 : World} {b : Nat} {r : R} {row : Option Nat} (k : To w w1 b r) (hg : w1.grownBy w2 row) (hr : ∀ i, row = some i → w.heap.size ≤ i) (hb : b < w.heap.size) : To w w2 b r := by
  cases row with
  | some i => exact k.write hg hb (hr i rfl)
  | none => exact k.trans ⟨⟨hg.os, hg.tape, hg.output, hg.size, fun q hq _ => hg.block q hq (by simp)⟩, ⟨k.rd.blk.grown hg (by simp)⟩⟩
/-- The blocks that hold what was taken. -/
def TkF (B5 : Nat) (w : World) (lv : Value) (q : Nat) : Prop := B5 < q ∧ q < w.heap.size ∧ slBlk lv ≠ some q
theorem lgk {B5 : Nat} {lv : Value} {L : List LE} {w1 w2 : World} (h : LG (TkF B5 w1 lv) w1 lv L) (hl : ∀ q, slBlk lv = some q → B5 < q) (hk : ∀ q, B5 < q → q < w1.heap.size → w2.heap[q]? = w1.heap[q]?) (hs : w1.heap.size ≤ w2.heap.size) : LG (TkF B5 w2 lv) w2 lv L := by
  have hlt : ∀ q, slBlk lv = some q → q < w1.heap.size := fun q e => by
    obtain ⟨ls, h6, _⟩ := h
    exact (h6.lt q e).2
  exact h.kept (fun q e => hk q (hl q e) (hlt q e)) (fun q hq => hk q hq.1 hq.2.1) (fun q hq => ⟨hq.1, Nat.lt_of_lt_of_le hq.2.1 hs, hq.2.2⟩)
/-- What Take leaves. -/
def TmP (b : Nat) (w : World) (q : R) (m : MSG) (o : Ending) (w' : World) : Prop := ∃ ea ec ma mc, o = .returned (.agg (mcells m (.slice ea m.ents.length ec) (.slice ma m.mems.length mc))) ∧ EA w' ea m.ents ∧ m.ents.length ≤ ec ∧ IA w' ma m.mems ∧ m.mems.length ≤ mc ∧ To w w' b q
theorem VL.ifc {w w0 : World} {l : List Int} {sl : Value} {t : TypeId} (h : VL w t w0.heap.size sl (l.map fun x => .int .i64 x)) : ∃ a c, sl = .slice a l.length c ∧ l.length ≤ c ∧ IF (NewB w0 w) w a l := by
  rcases h with ⟨h1, rfl⟩ | ⟨g, cap, h1, rfl, h2⟩
  · obtain rfl : l = [] := by simpa using h1
    exact ⟨Option.none, 0, rfl, Nat.le_refl _, IF.nil _ _ _⟩
  · have hc : l.length ≤ cap := by
      obtain ⟨cur, fr, _, k2, _⟩ := h2.out
      simpa using k2
    refine ⟨some ⟨g, 0, Option.none⟩, cap, by rw [List.length_map], hc, fun i x hx => ⟨g, 0, rfl, ⟨h1, h2.lt⟩, ?_⟩⟩
    rw [Nat.zero_add]
    exact h2.cell i _ (by rw [List.getElem?_map, hx]; rfl)
set_option maxRecDepth 100000 in
set_option maxHeartbeats 1000000 in
theorem tk_counts (b : Nat) (r : R) (w : World) (h : RD w b r) (hk : r.ok) (hs : r.s.length ≤ 140737488355328) : Calls Tryz.prog 14 #[.pointer (some ⟨b, 0, none⟩)] w (TmP b w r.msg.1 (tmOf r)) := by
  have hbl := h.lt
  obtain ⟨RES, hRES⟩ : ∃ RES : R × MSG, Hid (RES = (r.msg.1, tmOf r)) := ⟨_, rfl⟩
  have hgoal : TmP b w r.msg.1 (tmOf r) = TmP b w RES.1 RES.2 := by rw [hRES.out]
  rw [hgoal]
  clear hgoal
  have hs0 : ((w.alloc (.cells #[.int .i64 0, .int .i64 0, .int .i64 0, .int .i64 0, .int .i64 0, .int .i64 0, .int .i64 0, .bool false, .slice none 0 0, .int .i64 0, .string ⟨#[]⟩, .bool false, .slice none 0 0] 25)).alloc (.cells #[.int .i64 0, .int .i64 0, .int .i64 0, .int .i64 0, .int .i64 0, .int .i64 0, .int .i64 0, .int .i64 0] 94)).heap.size = w.heap.size + 2 := by rw [World.size_alloc, World.size_alloc]
  replace hs0 : Hid (_ = _) := hs0
  have hb1 := bl_al (bl_al (Below.refl w.heap.size w) (.cells #[.int .i64 0, .int .i64 0, .int .i64 0, .int .i64 0, .int .i64 0, .int .i64 0, .int .i64 0, .bool false, .slice none 0 0, .int .i64 0, .string ⟨#[]⟩, .bool false, .slice none 0 0] 25)) (.cells #[.int .i64 0, .int .i64 0, .int .i64 0, .int .i64 0, .int .i64 0, .int .i64 0, .int .i64 0, .int .i64 0] 94)
  have hY1 := (Blk.new w #[.int .i64 0, .int .i64 0, .int .i64 0, .int .i64 0, .int .i64 0, .int .i64 0, .int .i64 0, .bool false, .slice none 0 0, .int .i64 0, .string ⟨#[]⟩, .bool false, .slice none 0 0] 25).alloc (.cells #[.int .i64 0, .int .i64 0, .int .i64 0, .int .i64 0, .int .i64 0, .int .i64 0, .int .i64 0, .int .i64 0] 94)
  have hX1 := Blk.new (w.alloc (.cells #[.int .i64 0, .int .i64 0, .int .i64 0, .int .i64 0, .int .i64 0, .int .i64 0, .int .i64 0, .bool false, .slice none 0 0, .int .i64 0, .string ⟨#[]⟩, .bool false, .slice none 0 0] 25)) #[.int .i64 0, .int .i64 0, .int .i64 0, .int .i64 0, .int .i64 0, .int .i64 0, .int .i64 0, .int .i64 0] 94
  rw [World.size_alloc] at hX1
  go_enter Tryz.func14, Tryz.ntmps14
  go_upto_region 2 with fail
  generalize (w.alloc (.cells #[.int .i64 0, .int .i64 0, .int .i64 0, .int .i64 0, .int .i64 0, .int .i64 0, .int .i64 0, .bool false, .slice none 0 0, .int .i64 0, .string ⟨#[]⟩, .bool false, .slice none 0 0] 25)).alloc (.cells #[.int .i64 0, .int .i64 0, .int .i64 0, .int .i64 0, .int .i64 0, .int .i64 0, .int .i64 0, .int .i64 0] 94) = A at *
  have hyb : Hid (w.heap.size ≠ b) := by show w.heap.size ≠ b; omega
  have hxb : Hid (w.heap.size + 1 ≠ b) := by show w.heap.size + 1 ≠ b; omega
  have hyx : Hid (w.heap.size ≠ w.heap.size + 1) := by show w.heap.size ≠ w.heap.size + 1; omega
  go_wp2_with fail
  go_loopw [6] (fun v6 wl => ∃ i : Nat, i ≤ 8 ∧ v6 = .int .i64 i ∧ To w wl b (tk8 r i) ∧ Blk wl (w.heap.size + 1) (ar8 r i) 94 ∧ Blk wl w.heap.size #[.int .i64 0, .int .i64 0, .int .i64 0, .int .i64 0, .int .i64 0, .int .i64 0, .int .i64 0, .bool false, .slice none 0 0, .int .i64 0, .string ⟨#[]⟩, .bool false, .slice none 0 0] 25) (fun v6 _ => 8 - (intOf v6).toNat)
  case atStart => exact ⟨0, by omega, rfl, To.behind hb1 (To.refl (h.below hb1)), by rw [ar8_zero]; exact hX1, hY1⟩
  case round =>
    clear hX1 hY1
    obtain ⟨i, hil, rfl, hT, hX, hY⟩ := hrel
    rename World => wl
    by_cases hlt : i < 8
    · have hz1 : (0 : Int) ≤ (i : Int) := by omega
      have hz2 : (i : Int) < 8 := by omega
      have hw3 : IntKind.i64.wrap ((i : Int) + 1) = ((i + 1 : Nat) : Int) := by rw [IntKind.wrap_i64]; omega
      have HC := rdCount_any b (tk8 r i) 2147483647 wl hT.rd (tk8_ok hk i) (by rw [tk8_s]; exact hs) (by omega)
      have hcn : Hid ((((tk8 r i).count 2147483647).2 : Int) = cn8 r i) := rfl
      have htk : Hid (((tk8 r i).count 2147483647).1 = tk8 r (i + 1)) := rfl
      rw [hcn.out, htk.out] at HC
      have hsu := ar8_succ r i
      replace hsu : Hid (_ = _) := hsu
      have hsz := ar8_size r i
      replace hsz : Hid (_ = _) := hsz
      go_wp2_with (first
        | (go_at_call 52; refine HC.mono ?_; rintro e w2 ⟨rfl, hT2⟩; clear HC; have hX2 := hX.to hT2 hxb.out; have hY2 := hY.to hT2 hyb.out)
        | (with_reducible refine at_list ?_; refine wpList_stC rfl _ _ _ rfl (w.heap.size + 1) i rfl (.int .i64 (cn8 r i)) rfl _ _ hX2 i3 rfl rfl (by rw [hsz.out]; exact hlt) ?_))
      go_roundw
      case rel =>
        refine ⟨i + 1, by omega, by go_num, (hT.trans hT2).write (grown_setCell _ _ _ _) hbl (by omega), ?_, hY2.setCell_other ⟨w.heap.size + 1, i, none⟩ hyx.out _⟩
        rw [← hsu.out]
        exact hX2.setCell i _
      case measure => simp [intOf]; omega
    · obtain rfl : i = 8 := by omega
      have hz2 : ¬ ((8 : Int) < 8) := by omega
      rw [ar8_full] at hX
      have hbw := hT.grown.size
      have hq8 := tk8_ok hk 8
      have hs8 : (tk8 r 8).s.length ≤ 140737488355328 := by rw [tk8_s]; exact hs
      have H1 := fun W (h : RD W b (tk8 r 8)) => bool_any b (tk8 r 8) W h hq8 hs8
      have hk9 := R.ok_bool hq8
      have hs9 : (tk8 r 8).bool.1.s.length ≤ 140737488355328 := by rw [R.bool_s]; exact hs8
      have H2 := fun W (h : RD W b (tk8 r 8).bool.1) => bool_any b (tk8 r 8).bool.1 W h hk9 hs9
      have hk10 := R.ok_bool hk9
      have hs10 : (tk8 r 8).bool.1.bool.1.s.length ≤ 140737488355328 := by rw [R.bool_s]; exact hs9
      have H3 := fun W (h : RD W b (tk8 r 8).bool.1.bool.1) => rdCount_any b (tk8 r 8).bool.1.bool.1 16 W h hk10 hs10 (by omega)
      have hN : Hid (tkN r = (tk8 r 8).bool.1.bool.1.count 16) := by exact rfl
      have hn16 : (tkN r).2 ≤ 16 := R.count_le _ 16
      have hk11 : (tkN r).1.ok := R.ok_count hk10 16
      have hs11 : (tkN r).1.s.length ≤ 140737488355328 := by unfold tkN; rw [R.count_s]; exact hs10
      rw [← hN.out] at H3
      replace hRES : Hid (RES.1 = r.msg.1 ∧ RES.2 = tmOf r) := by show _ ∧ _; rw [hRES.out]; exact ⟨rfl, rfl⟩
      generalize hy1 : (tk8 r 8).bool.2 = y1 at *
      generalize hy2 : (tk8 r 8).bool.1.bool.2 = y2 at *
      generalize hc0 : cn8 r 0 = c0 at *
      generalize hc1 : cn8 r 1 = c1 at *
      generalize hc2 : cn8 r 2 = c2 at *
      generalize hc3 : cn8 r 3 = c3 at *
      generalize hc4 : cn8 r 4 = c4 at *
      generalize hc5 : cn8 r 5 = c5 at *
      generalize hc6 : cn8 r 6 = c6 at *
      generalize hc7 : cn8 r 7 = c7 at *
      have hMSG : Hid (r.msg = ((tkF r).1, { kind := c0, frm := c1, dst := c2, term := c3, index := c4, logTerm := c5, commit := c6, yes := y1, ents := (tkE (tkN r).1 (tkN r).2).2, off := c7, piece := ((tkE (tkN r).1 (tkN r).2).1.text 2147483647).2, done := y2, mems := (tkF r).2 })) := by
        show r.msg = _
        subst hc0 hc1 hc2 hc3 hc4 hc5 hc6 hc7 hy1 hy2
        rfl
      clear hc0 hc1 hc2 hc3 hc4 hc5 hc6 hc7 hy1 hy2
      have e0 := hX.cell 0
      have e1 := hX.cell 1
      have e2 := hX.cell 2
      have e3 := hX.cell 3
      have hM0 := Blk.new wl #[.int .i64 c0, .int .i64 c1, .int .i64 c2, .int .i64 c3, .int .i64 0, .int .i64 0, .int .i64 0, .bool false, .slice none 0 0, .int .i64 0, .string ⟨#[]⟩, .bool false, .slice none 0 0] 25
      have hb5 := bl_al (Below.refl wl.heap.size wl) (.cells #[.int .i64 c0, .int .i64 c1, .int .i64 c2, .int .i64 c3, .int .i64 0, .int .i64 0, .int .i64 0, .bool false, .slice none 0 0, .int .i64 0, .string ⟨#[]⟩, .bool false, .slice none 0 0] 25)
      have hs5 : (wl.alloc (.cells #[.int .i64 c0, .int .i64 c1, .int .i64 c2, .int .i64 c3, .int .i64 0, .int .i64 0, .int .i64 0, .bool false, .slice none 0 0, .int .i64 0, .string ⟨#[]⟩, .bool false, .slice none 0 0] 25)).heap.size = wl.heap.size + 1 := World.size_alloc _ _
      replace hs5 : Hid (_ = _) := hs5
      have hlt3 := hX.lt
      have hlt2 := hY.lt
      go_upto_region 8 with fail
      have hT5 := hT.low (hb5.mono hbw) (hT.rd.below hb5)
      have hX5 := hX.belowSize hb5
      have hY5 := hY.belowSize hb5
      generalize wl.alloc (.cells #[.int .i64 c0, .int .i64 c1, .int .i64 c2, .int .i64 c3, .int .i64 0, .int .i64 0, .int .i64 0, .bool false, .slice none 0 0, .int .i64 0, .string ⟨#[]⟩, .bool false, .slice none 0 0] 25) = w5 at *
      clear e0 e1 e2 e3 hX hY hT hb5
      generalize hB5 : wl.heap.size = B5 at *
      have hxm : Hid (w.heap.size + 1 ≠ B5) := by show w.heap.size + 1 ≠ B5; omega
      have hym : Hid (w.heap.size ≠ B5) := by show w.heap.size ≠ B5; omega
      have hbm : Hid (B5 ≠ b) := by show B5 ≠ b; omega
      have hwB : Hid (w.heap.size ≤ B5) := by show w.heap.size ≤ B5; omega
      clear hB5
      have hT := hT5.drew
      have hY := hY5.drew
      have hM := hM0.drew
      refine wp_region_held_drew (S := fun w' : World => Blk w' (w.heap.size + 1) #[.int .i64 c0, .int .i64 c1, .int .i64 c2, .int .i64 c3, .int .i64 c4, .int .i64 c5, .int .i64 c6, .int .i64 c7] 94) (by kernel_rfl) (hX5.drew) (fun hH => ?_)
      try go_frame
      refine wpAnyH_take (i := 0) (oi := ⟨some 23, _, _, _, _, _⟩) (v := .pointer (some ⟨w.heap.size + 1, 4, none⟩)) rfl (by kernel_rfl) (by kernel_rfl) (by kernel_rfl) (fun _ _ _ h => h) (Or.inl ⟨by rfl, fun w hSw => by go_simp⟩) hH ?_
      try simp only [Act.put, List.setIfInBounds_toArray, List.set_cons_zero, List.set_cons_succ]
      refine wpAnyH_take (i := 1) (oi := ⟨some 24, _, _, _, _, _⟩) (v := .int .i64 c4) rfl (by kernel_rfl) (by kernel_rfl) (by kernel_rfl) (fun _ _ _ h => h) (Or.inl ⟨by rfl, fun w hSw => run_loadC _ _ rfl _ _ rfl _ Tryz.underlying3 rfl _ (hSw.cell 4)⟩) hH ?_
      try simp only [Act.put, List.setIfInBounds_toArray, List.set_cons_zero, List.set_cons_succ]
      refine wpAnyH_take (i := 2) (oi := ⟨some 25, _, _, _, _, _⟩) (v := .pointer (some ⟨w.heap.size + 1, 5, none⟩)) rfl (by kernel_rfl) (by kernel_rfl) (by kernel_rfl) (fun _ _ _ h => h) (Or.inl ⟨by rfl, fun w hSw => by go_simp⟩) hH ?_
      try simp only [Act.put, List.setIfInBounds_toArray, List.set_cons_zero, List.set_cons_succ]
      refine wpAnyH_take (i := 3) (oi := ⟨some 26, _, _, _, _, _⟩) (v := .int .i64 c5) rfl (by kernel_rfl) (by kernel_rfl) (by kernel_rfl) (fun _ _ _ h => h) (Or.inl ⟨by rfl, fun w hSw => run_loadC _ _ rfl _ _ rfl _ Tryz.underlying3 rfl _ (hSw.cell 5)⟩) hH ?_
      try simp only [Act.put, List.setIfInBounds_toArray, List.set_cons_zero, List.set_cons_succ]
      refine wpAnyH_take (i := 4) (oi := ⟨some 27, _, _, _, _, _⟩) (v := .pointer (some ⟨w.heap.size + 1, 6, none⟩)) rfl (by kernel_rfl) (by kernel_rfl) (by kernel_rfl) (fun _ _ _ h => h) (Or.inl ⟨by rfl, fun w hSw => by go_simp⟩) hH ?_
      try simp only [Act.put, List.setIfInBounds_toArray, List.set_cons_zero, List.set_cons_succ]
      refine wpAnyH_take (i := 5) (oi := ⟨some 28, _, _, _, _, _⟩) (v := .int .i64 c6) rfl (by kernel_rfl) (by kernel_rfl) (by kernel_rfl) (fun _ _ _ h => h) (Or.inl ⟨by rfl, fun w hSw => run_loadC _ _ rfl _ _ rfl _ Tryz.underlying3 rfl _ (hSw.cell 6)⟩) hH ?_
      try simp only [Act.put, List.setIfInBounds_toArray, List.set_cons_zero, List.set_cons_succ]
      refine wpAnyH_take (i := 6) (oi := ⟨some 29, _, _, _, _, _⟩) (v := .pointer (some ⟨w.heap.size + 1, 7, none⟩)) rfl (by kernel_rfl) (by kernel_rfl) (by kernel_rfl) (fun _ _ _ h => h) (Or.inl ⟨by rfl, fun w hSw => by go_simp⟩) hH ?_
      try simp only [Act.put, List.setIfInBounds_toArray, List.set_cons_zero, List.set_cons_succ]
      refine wpAnyH_take (i := 7) (oi := ⟨some 30, _, _, _, _, _⟩) (v := .int .i64 c7) rfl (by kernel_rfl) (by kernel_rfl) (by kernel_rfl) (fun _ _ _ h => h) (Or.inl ⟨by rfl, fun w hSw => run_loadC _ _ rfl _ _ rfl _ Tryz.underlying3 rfl _ (hSw.cell 7)⟩) hH ?_
      try simp only [Act.put, List.setIfInBounds_toArray, List.set_cons_zero, List.set_cons_succ]
      refine wpAnyH_solo (i := 8) (o := ⟨some 31, _, _, _, _, _⟩) rfl (by kernel_rfl) (fun K hK => ?_)
      refine wpList_pure rfl (.pointer (some ⟨B5, 4, none⟩)) (by go_simp) ?_
      refine hK _ _ hH ?_
      clear hK K
      try simp only [Act.put, List.setIfInBounds_toArray, List.set_cons_zero, List.set_cons_succ]
      refine wpAnyH_solo (i := 9) (o := ⟨none, _, _, _, _, _⟩) rfl (by kernel_rfl) (fun K hK => ?_)
      refine wpList_stC rfl _ _ _ rfl B5 4 rfl (.int .i64 c4) rfl _ _ hM i3 rfl rfl (by show 4 < 13; decide) ?_
      have hM2 := hM.setCell 4 (.int .i64 c4)
      have hY2 := hY.setCell_other ⟨B5, 4, none⟩ hym.out (.int .i64 c4)
      have hT2 := hT.write (grown_setCell B5 (.int .i64 c4) 4 _) hbl hwB.out
      have hH3 := hH.setCell_other ⟨B5, 4, none⟩ hxm.out (.int .i64 c4)
      refine hK _ _ hH3 ?_
      clear hM hY hT
      have hM := hM2
      have hY := hY2
      have hT := hT2
      clear hM2 hY2 hT2
      clear hH
      have hH := hH3
      clear hK K
      try simp only [Act.put]
      refine wpAnyH_solo (i := 10) (o := ⟨some 32, _, _, _, _, _⟩) rfl (by kernel_rfl) (fun K hK => ?_)
      refine wpList_pure rfl (.pointer (some ⟨B5, 5, none⟩)) (by go_simp) ?_
      refine hK _ _ hH ?_
      clear hK K
      try simp only [Act.put, List.setIfInBounds_toArray, List.set_cons_zero, List.set_cons_succ]
      refine wpAnyH_solo (i := 11) (o := ⟨none, _, _, _, _, _⟩) rfl (by kernel_rfl) (fun K hK => ?_)
      refine wpList_stC rfl _ _ _ rfl B5 5 rfl (.int .i64 c5) rfl _ _ hM i3 rfl rfl (by show 5 < 13; decide) ?_
      have hM2 := hM.setCell 5 (.int .i64 c5)
      have hY2 := hY.setCell_other ⟨B5, 5, none⟩ hym.out (.int .i64 c5)
      have hT2 := hT.write (grown_setCell B5 (.int .i64 c5) 5 _) hbl hwB.out
      have hH3 := hH.setCell_other ⟨B5, 5, none⟩ hxm.out (.int .i64 c5)
      refine hK _ _ hH3 ?_
      clear hM hY hT
      have hM := hM2
      have hY := hY2
      have hT := hT2
      clear hM2 hY2 hT2
      clear hH
      have hH := hH3
      clear hK K
      try simp only [Act.put]
      refine wpAnyH_solo (i := 12) (o := ⟨some 33, _, _, _, _, _⟩) rfl (by kernel_rfl) (fun K hK => ?_)
      refine wpList_pure rfl (.pointer (some ⟨B5, 6, none⟩)) (by go_simp) ?_
      refine hK _ _ hH ?_
      clear hK K
      try simp only [Act.put, List.setIfInBounds_toArray, List.set_cons_zero, List.set_cons_succ]
      refine wpAnyH_solo (i := 13) (o := ⟨none, _, _, _, _, _⟩) rfl (by kernel_rfl) (fun K hK => ?_)
      refine wpList_stC rfl _ _ _ rfl B5 6 rfl (.int .i64 c6) rfl _ _ hM i3 rfl rfl (by show 6 < 13; decide) ?_
      have hM2 := hM.setCell 6 (.int .i64 c6)
      have hY2 := hY.setCell_other ⟨B5, 6, none⟩ hym.out (.int .i64 c6)
      have hT2 := hT.write (grown_setCell B5 (.int .i64 c6) 6 _) hbl hwB.out
      have hH3 := hH.setCell_other ⟨B5, 6, none⟩ hxm.out (.int .i64 c6)
      refine hK _ _ hH3 ?_
      clear hM hY hT
      have hM := hM2
      have hY := hY2
      have hT := hT2
      clear hM2 hY2 hT2
      clear hH
      have hH := hH3
      clear hK K
      try simp only [Act.put]
      refine wpAnyH_solo (i := 14) (o := ⟨some 34, _, _, _, _, _⟩) rfl (by kernel_rfl) (fun K hK => ?_)
      refine wpList_pure rfl (.pointer (some ⟨B5, 9, none⟩)) (by go_simp) ?_
      refine hK _ _ hH ?_
      clear hK K
      try simp only [Act.put, List.setIfInBounds_toArray, List.set_cons_zero, List.set_cons_succ]
      refine wpAnyH_solo (i := 15) (o := ⟨none, _, _, _, _, _⟩) rfl (by kernel_rfl) (fun K hK => ?_)
      refine wpList_stC rfl _ _ _ rfl B5 9 rfl (.int .i64 c7) rfl _ _ hM i3 rfl rfl (by show 9 < 13; decide) ?_
      have hM2 := hM.setCell 9 (.int .i64 c7)
      have hY2 := hY.setCell_other ⟨B5, 9, none⟩ hym.out (.int .i64 c7)
      have hT2 := hT.write (grown_setCell B5 (.int .i64 c7) 9 _) hbl hwB.out
      have hH3 := hH.setCell_other ⟨B5, 9, none⟩ hxm.out (.int .i64 c7)
      refine hK _ _ hH3 ?_
      clear hM hY hT
      have hM := hM2
      have hY := hY2
      have hT := hT2
      clear hM2 hY2 hT2
      clear hH
      have hH := hH3
      clear hK K
      try simp only [Act.put]
      refine wpAnyH_done (by kernel_rfl) ?_ _
      try simp only [Act.put]
      try go_simp
      have hM6 : Blk (((((w5.setCell ⟨B5, 4, none⟩ (.int .i64 c4)).setCell ⟨B5, 5, none⟩ (.int .i64 c5)).setCell ⟨B5, 6, none⟩ (.int .i64 c6)).setCell ⟨B5, 9, none⟩ (.int .i64 c7)).drew) B5 #[.int .i64 c0, .int .i64 c1, .int .i64 c2, .int .i64 c3, .int .i64 c4, .int .i64 c5, .int .i64 c6, .bool false, .slice none 0 0, .int .i64 c7, .string ⟨#[]⟩, .bool false, .slice none 0 0] 25 := hM
      have hY6 : Blk (((((w5.setCell ⟨B5, 4, none⟩ (.int .i64 c4)).setCell ⟨B5, 5, none⟩ (.int .i64 c5)).setCell ⟨B5, 6, none⟩ (.int .i64 c6)).setCell ⟨B5, 9, none⟩ (.int .i64 c7)).drew) w.heap.size #[.int .i64 0, .int .i64 0, .int .i64 0, .int .i64 0, .int .i64 0, .int .i64 0, .int .i64 0, .bool false, .slice none 0 0, .int .i64 0, .string ⟨#[]⟩, .bool false, .slice none 0 0] 25 := hY
      have hT6 : To w (((((w5.setCell ⟨B5, 4, none⟩ (.int .i64 c4)).setCell ⟨B5, 5, none⟩ (.int .i64 c5)).setCell ⟨B5, 6, none⟩ (.int .i64 c6)).setCell ⟨B5, 9, none⟩ (.int .i64 c7)).drew) b (tk8 r 8) := hT
      have hs6 : (((((w5.setCell ⟨B5, 4, none⟩ (.int .i64 c4)).setCell ⟨B5, 5, none⟩ (.int .i64 c5)).setCell ⟨B5, 6, none⟩ (.int .i64 c6)).setCell ⟨B5, 9, none⟩ (.int .i64 c7)).drew).heap.size = B5 + 1 := by
        have := hs5.out
        simpa using this
      clear hM hY hT hX5 hY5 hT5 hM0 hH hH3
      generalize ((((w5.setCell ⟨B5, 4, none⟩ (.int .i64 c4)).setCell ⟨B5, 5, none⟩ (.int .i64 c5)).setCell ⟨B5, 6, none⟩ (.int .i64 c6)).setCell ⟨B5, 9, none⟩ (.int .i64 c7)).drew = w6 at *
      go_upto_region 10 with (first
        | (go_at_call 53; refine (H1 _ hT6.rd).mono ?_; rintro e w7 ⟨rfl, hT7⟩; clear H1)
        | (go_at_call 53; refine (H2 _ hT7.rd).mono ?_; rintro e w8 ⟨rfl, hT8⟩; clear H2; have hM8 := (hM6.to hT7 hbm.out).to hT8 hbm.out; have hY8 := (hY6.to hT7 hyb.out).to hT8 hyb.out; have e7 := hM8.cell 7; have f7 := hM8.frozen 7; have e11 := hM8.cell 11; have f11 := hM8.frozen 11))
      have hM9 : Blk ((w8.setCell ⟨B5, 7, none⟩ (.bool y1)).setCell ⟨B5, 11, none⟩ (.bool y2)) B5 #[.int .i64 c0, .int .i64 c1, .int .i64 c2, .int .i64 c3, .int .i64 c4, .int .i64 c5, .int .i64 c6, .bool y1, .slice none 0 0, .int .i64 c7, .string ⟨#[]⟩, .bool y2, .slice none 0 0] 25 := (hM8.setCell 7 (.bool y1)).setCell 11 (.bool y2)
      have hY9 := (hY8.setCell_other ⟨B5, 7, none⟩ hym.out (.bool y1)).setCell_other ⟨B5, 11, none⟩ hym.out (.bool y2)
      have hT9 := (((hT6.trans hT7).trans hT8).write (grown_setCell B5 (.bool y1) 7 _) hbl hwB.out).write (grown_setCell B5 (.bool y2) 11 _) hbl hwB.out
      have hs9 : B5 + 1 ≤ ((w8.setCell ⟨B5, 7, none⟩ (.bool y1)).setCell ⟨B5, 11, none⟩ (.bool y2)).heap.size := by
        have h7 := hT7.grown.size
        have h8 := hT8.grown.size
        have : ((w8.setCell ⟨B5, 7, none⟩ (.bool y1)).setCell ⟨B5, 11, none⟩ (.bool y2)).heap.size = w8.heap.size := by simp
        omega
      clear e7 f7 e11 f11 hM8 hY8 hM6 hY6 hT6 hT7 hT8
      generalize (w8.setCell ⟨B5, 7, none⟩ (.bool y1)).setCell ⟨B5, 11, none⟩ (.bool y2) = w9 at *
      go_wp2_with (go_at_call 52; refine (H3 _ hT9.rd).mono ?_; rintro e w10 ⟨rfl, hT10⟩; clear H3)
      have hM10 := hM9.to hT10 hbm.out
      have hY10 := hY9.to hT10 hyb.out
      have hT10' := hT9.trans hT10
      have hsz10 : B5 + 1 ≤ w10.heap.size := Nat.le_trans hs9 hT10.grown.size
      clear hM9 hY9 hT9 hT10 hN hk10 hk9 hs10
      have hB := show Hid (tkB r = ((tkE (tkN r).1 (tkN r).2).1.text 2147483647).1.bool) from rfl
      have hF := show Hid (tkF r = if (tkB r).2 = true then tkM (tkB r).1 else ((tkB r).1, [])) from rfl
      generalize tkB r = bq at *
      generalize tkF r = fq at *
      generalize tkN r = q0 at *
      obtain ⟨q1, n⟩ := q0
      dsimp only at *
      go_loopw [43] (fun v43 wl => ∃ i : Nat, i ≤ n ∧ v43 = .int .i64 i ∧ ∃ lv, (∀ q, slBlk lv = some q → B5 < q) ∧ To w wl b (tkE q1 i).1 ∧ Blk wl B5 #[.int .i64 c0, .int .i64 c1, .int .i64 c2, .int .i64 c3, .int .i64 c4, .int .i64 c5, .int .i64 c6, .bool y1, lv, .int .i64 c7, .string ⟨#[]⟩, .bool y2, .slice none 0 0] 25 ∧ LG (TkF B5 wl lv) wl lv (tkE q1 i).2 ∧ Blk wl w.heap.size #[.int .i64 0, .int .i64 0, .int .i64 0, .int .i64 0, .int .i64 0, .int .i64 0, .int .i64 0, .bool false, .slice none 0 0, .int .i64 0, .string ⟨#[]⟩, .bool false, .slice none 0 0] 25) (fun v43 _ => n - (intOf v43).toNat)
      case atStart => exact ⟨0, by omega, rfl, .slice none 0 0, (fun _ e => by cases e), hT10', hM10, LG.nil _ _, hY10⟩
      case round =>
        clear hM10 hY10 hT10'
        obtain ⟨i, hil, rfl, lv, hlB, hT, hM, hG, hY⟩ := hrel
        rename World => wl
        by_cases hlt : i < n
        · have hz1 : (0 : Int) ≤ (i : Int) := by omega
          have hz2 : (i : Int) < (n : Int) := by omega
          have hw3 : IntKind.i64.wrap ((i : Int) + 1) = ((i + 1 : Nat) : Int) := by rw [IntKind.wrap_i64]; omega
          have HTE := fun W (h : RD W b (tkE q1 i).1) => takeEntry_any b (tkE q1 i).1 W h (tkE_ok hk11 i) (by rw [tkE_s]; exact hs11)
          have htl := teOf_len (tkE q1 i).1
          have hE1 := show Hid ((tkE q1 (i + 1)).1 = (tkE q1 i).1.entry.1 ∧ (tkE q1 (i + 1)).2 = (tkE q1 i).2 ++ [teOf (tkE q1 i).1]) from ⟨rfl, rfl⟩
          have hEl := tkE_len q1 i
          generalize teOf (tkE q1 i).1 = te at *
          unfold TeP lec at HTE
          have hlb : ∀ q, slBlk lv = some q → q ≠ b := fun q e => by have := hlB q e; have := hwB.out; omega
          have hMd := hM.drew
          have hTd := hT.drew
          have hYd := hY.drew
          have h8d : wl.drew.cell? ⟨B5, 8, none⟩ = some lv := hMd.cell 8
          obtain ⟨ls, hGL, hll, hls⟩ := hG
          have hlsl : Hid (ls.length ≤ 274877906944) := by show ls.length ≤ _; omega
          have hGLd := hGL.drew
          go_upto_region 12 with fail
          refine wp_region_L (z := 7) (S := fun w' : World => w'.cell? ⟨B5, 8, none⟩ = some lv) (by kernel_rfl) ?_
          have hH := h8d
          try go_frame
          refine wpAnyL_take (i := 0) (oi := ⟨some 45, _, _, _, _, _⟩) (v := .pointer (some ⟨B5, 8, none⟩)) rfl (by kernel_rfl) (by kernel_rfl) (by kernel_rfl) (by kernel_rfl) (fun _ _ _ h => h) (Or.inl ⟨by rfl, fun w hSw => by go_simp⟩) hH ?_
          try simp only [Act.put, List.setIfInBounds_toArray, List.set_cons_zero, List.set_cons_succ]
          refine wpAnyL_take (i := 1) (oi := ⟨some 46, _, _, _, _, _⟩) (v := lv) rfl (by kernel_rfl) (by kernel_rfl) (by kernel_rfl) (by kernel_rfl) (fun _ _ _ h => h) (Or.inl ⟨by rfl, fun w hSw => run_loadC _ _ rfl _ _ rfl _ Tryz.underlying22 rfl _ hSw⟩) hH ?_
          try simp only [Act.put, List.setIfInBounds_toArray, List.set_cons_zero, List.set_cons_succ]
          refine wpAnyL_take (i := 2) (oi := ⟨some 47, _, _, _, _, _⟩) (v := .pointer (some ⟨b, 0, none⟩)) rfl (by kernel_rfl) (by kernel_rfl) (by kernel_rfl) (by kernel_rfl) (fun _ _ _ h => h) (Or.inl ⟨by rfl, fun w hSw => by go_simp⟩) hH ?_
          try simp only [Act.put, List.setIfInBounds_toArray, List.set_cons_zero, List.set_cons_succ]
          refine wpAnyL_solo (i := 3) (o := ⟨some 48, _, _, _, _, _⟩) rfl (by kernel_rfl) (fun K hK => ?_)
          refine wpList_callR Tryz.func48 (by kernel_rfl) (by kernel_rfl) rfl _ _ rfl #[.pointer (some ⟨b, 0, none⟩)] (args1 rfl) _ (HTE _ hTd.rd) ?_
          rintro e w3 hP
          obtain ⟨a9, k9, rfl, hI3, hT3⟩ := hP
          have hH3 := (cell_of_block (hT3.grown.block B5 (World.block_lt_of_cell? _ _ hH) (fun e => hbm.out (Option.some.inj e)))).trans hH
          refine ⟨_, rfl, ?_⟩
          refine hK _ _ (fun _ => hH3) ?_
          clear hH
          have hH := hH3
          clear hK K
          try simp only [Act.put, List.setIfInBounds_toArray, List.set_cons_zero, List.set_cons_succ]
          refine wpAnyL_solo (i := 4) (o := ⟨some 49, _, _, _, _, _⟩) rfl (by kernel_rfl) (fun K hK => ?_)
          refine wpList_bsl1E rfl _ rfl te.term ⟨te.s.toArray⟩ te.conf a9 te.mem.length k9 rfl ?_
          intro w4 hw4 hs4 hB4
          have hH4 := (hw4.cell (World.block_lt_of_cell? _ _ hH)).trans hH
          refine hK _ _ (fun _ => hH4) ?_
          clear hH
          have hH := hH4
          clear hK K
          try simp only [Act.put, List.setIfInBounds_toArray, List.set_cons_zero, List.set_cons_succ]
          refine wpAnyL_solo (i := 5) (o := ⟨some 50, _, _, _, _, _⟩) rfl (by kernel_rfl) (fun K hK => ?_)
          refine wpList_appE rfl _ _ rfl (Nat.zero_le _) rfl ((hGLd.grown hT3.grown (fun r hr e => hlb r hr (Option.some.inj e))).below hw4) hlsl.out rfl te.term ⟨te.s.toArray⟩ te.conf a9 te.mem.length k9 hB4 ?_
          intro w5 lv5 hg5 hG5 hn5
          replace hg5 : w4.grownBy w5 (slBlk lv) := hg5
          replace hn5 : ∀ r, slBlk lv5 = some r → slBlk lv = some r ∨ w4.heap.size ≤ r := hn5
          replace hG5 : GL w5 29 4 0 lv5 (ls ++ [[.int .i64 te.term, .string ⟨te.s.toArray⟩, .bool te.conf, .slice a9 te.mem.length k9]]) := hG5
          have hH5 := (cell_of_block (hg5.block B5 (World.block_lt_of_cell? _ _ hH) (fun e => Nat.lt_irrefl _ (hlB B5 e.symm)))).trans hH
          refine hK _ _ (fun _ => hH5) ?_
          clear hH
          have hH := hH5
          clear hK K
          try simp only [Act.put, List.setIfInBounds_toArray, List.set_cons_zero, List.set_cons_succ]
          refine wpAnyL_solo (i := 6) (o := ⟨some 51, _, _, _, _, _⟩) rfl (by kernel_rfl) (fun K hK => ?_)
          refine wpList_pure rfl (.pointer (some ⟨B5, 8, none⟩)) (by go_simp) ?_
          refine hK _ _ (fun _ => hH) ?_
          clear hK K
          try simp only [Act.put, List.setIfInBounds_toArray, List.set_cons_zero, List.set_cons_succ]
          refine wpAnyL_solo (i := 7) (o := ⟨none, _, _, _, _, _⟩) rfl (by kernel_rfl) (fun K hK => ?_)
          refine wpList_stC rfl _ _ _ rfl B5 8 rfl lv5 rfl _ _ (Blk.mk ((hg5.block B5 (Nat.lt_of_lt_of_le (hMd.to hT3 hbm.out).lt hw4.size) (fun e => Nat.lt_irrefl _ (hlB B5 e.symm))).trans ((hMd.to hT3 hbm.out).belowSize hw4).out)) iSE hG5.cells.1 hG5.cells.2 (by show 8 < 13; decide) ?_
          refine hK _ _ (fun e => absurd rfl e) ?_
          clear hK K
          try simp only [Act.put]
          refine wpAnyL_done (by kernel_rfl) ?_ _
          try simp only [Act.put]
          try go_simp
          have hszl := hMd.lt
          have hszw : wl.drew.heap.size = wl.heap.size := rfl
          have hsz3 := hT3.grown.size
          have hsz4 := hw4.size
          have hsz5 := hg5.size
          have hMs : Blk w5 B5 #[.int .i64 c0, .int .i64 c1, .int .i64 c2, .int .i64 c3, .int .i64 c4, .int .i64 c5, .int .i64 c6, .bool y1, lv, .int .i64 c7, .string ⟨#[]⟩, .bool y2, .slice none 0 0] 25 := Blk.mk ((hg5.block B5 (Nat.lt_of_lt_of_le (hMd.to hT3 hbm.out).lt hw4.size) (fun e => Nat.lt_irrefl _ (hlB B5 e.symm))).trans ((hMd.to hT3 hbm.out).belowSize hw4).out)
          have hYs : Blk w5 w.heap.size #[.int .i64 0, .int .i64 0, .int .i64 0, .int .i64 0, .int .i64 0, .int .i64 0, .int .i64 0, .bool false, .slice none 0 0, .int .i64 0, .string ⟨#[]⟩, .bool false, .slice none 0 0] 25 := Blk.mk ((hg5.block _ (Nat.lt_of_lt_of_le (hYd.to hT3 hyb.out).lt hw4.size) (fun e => by have := hlB _ e.symm; have := hwB.out; omega)).trans ((hYd.to hT3 hyb.out).belowSize hw4).out)
          have hT4 : To w w4 b (tkE q1 i).1.entry.1 := (hTd.trans hT3).low (hw4.mono (hTd.trans hT3).grown.size) (hT3.rd.below hw4)
          have hT5 := hT4.writeO hg5 (fun q e => by have := hlB q e; have := hwB.out; omega) hbl
          have hTf := hT5.write (grown_setCell B5 lv5 8 w5) hbl hwB.out
          have hlB5 : ∀ q, slBlk lv5 = some q → B5 < q := fun q e => by
            rcases hn5 q e with h1 | h1
            · exact hlB q h1
            · omega
          have hkf : ∀ q, B5 < q → q < w3.heap.size → slBlk lv ≠ some q → (w5.setCell ⟨B5, 8, none⟩ lv5).heap[q]? = w3.heap[q]? := fun q h1 h2 h3 => (Below.heap_setCell _ _ _ _ (fun e => by have e : q = B5 := e; omega)).trans ((hg5.block q (by omega) (fun e => h3 e.symm)).trans (hw4.block q h2))
          have hkg : ∀ q, TkF B5 wl lv q → (w5.setCell ⟨B5, 8, none⟩ lv5).heap[q]? = wl.heap[q]? := fun q hq => (hkf q hq.1 (by have := hq.2.1; omega) hq.2.2).trans (hT3.grown.block q (by have := hq.2.1; omega) (fun e => by have e := Option.some.inj e; have := hq.1; have := hwB.out; omega))
          have hszf : (w5.setCell ⟨B5, 8, none⟩ lv5).heap.size = w5.heap.size := by simp
          have hltl : ∀ q, slBlk lv = some q → q < wl.heap.size := fun q e => (hGL.lt q e).2
          have hin : ∀ q, TkF B5 wl lv q → TkF B5 (w5.setCell ⟨B5, 8, none⟩ lv5) lv5 q := fun q hq => ⟨hq.1, by have := hq.2.1; omega, fun e => by
            rcases hn5 q e with h1 | h1
            · exact hq.2.2 h1
            · have := hq.2.1; omega⟩
          have hinN : ∀ q, NewB wl.drew w3 q → TkF B5 (w5.setCell ⟨B5, 8, none⟩ lv5) lv5 q := fun q hq => ⟨by have := hq.1; omega, by have := hq.2; omega, fun e => by
            have h7 := hq.1
            have h8 := hq.2
            rcases hn5 q e with h1 | h1
            · have := hltl q h1; omega
            · omega⟩
          have hLGf : LG (TkF B5 (w5.setCell ⟨B5, 8, none⟩ lv5) lv5) (w5.setCell ⟨B5, 8, none⟩ lv5) lv5 ((tkE q1 i).2 ++ [te]) := by
            refine ⟨ls ++ [[.int .i64 te.term, .string ⟨te.s.toArray⟩, .bool te.conf, .slice a9 te.mem.length k9]], hG5.grown (grown_setCell B5 lv5 8 w5) (fun q e e2 => by have := hlB5 q e; have e2 := Option.some.inj e2; omega), by rw [List.length_append, List.length_append, hll]; rfl, ents_app hll (fun j hj => ?_) ⟨a9, k9, rfl, hI3.kept (fun q hq => hkf q (by have := hq.1; omega) hq.2 (fun e => by have := hltl q e; have := hq.1; omega)) hinN, htl⟩⟩
            obtain ⟨ma, mc, g1, g2, g3⟩ := hls j hj
            exact ⟨ma, mc, g1, g2.kept hkg hin, g3⟩
          have hMf : Blk (w5.setCell ⟨B5, 8, none⟩ lv5) B5 #[.int .i64 c0, .int .i64 c1, .int .i64 c2, .int .i64 c3, .int .i64 c4, .int .i64 c5, .int .i64 c6, .bool y1, lv5, .int .i64 c7, .string ⟨#[]⟩, .bool y2, .slice none 0 0] 25 := hMs.setCell 8 lv5
          have hYf := hYs.setCell_other ⟨B5, 8, none⟩ hym.out lv5
          go_wp2_with fail
          go_roundw
          case rel => exact ⟨i + 1, by omega, by go_num, lv5, hlB5, by rw [hE1.out.1]; exact hTf, hMf, by rw [hE1.out.2]; exact hLGf, hYf⟩
          case measure => simp [intOf]; omega
        · obtain rfl : i = n := by omega
          have hz2 : ¬ ((i : Int) < (i : Int)) := by omega
          have hq12 := tkE_ok hk11 i
          have hs12 : (tkE q1 i).1.s.length ≤ 140737488355328 := by rw [tkE_s]; exact hs11
          have HT := fun W (h : RD W b (tkE q1 i).1) => text_any b (tkE q1 i).1 2147483647 W h hq12 hs12 (by omega)
          have hq13 := R.ok_text hq12 2147483647
          have hs13 : ((tkE q1 i).1.text 2147483647).1.s.length ≤ 140737488355328 := by rw [R.text_s]; exact hs12
          generalize (tkE q1 i).1.text 2147483647 = pq at *
          obtain ⟨p1, pc⟩ := pq
          dsimp only at *
          have HBo := fun W (h : RD W b p1) => bool_any b p1 W h hq13 hs13
          have hq14 := R.ok_bool hq13
          have hs14 : p1.bool.1.s.length ≤ 140737488355328 := by rw [R.bool_s]; exact hs13
          have hB' := hB.out
          subst hB'
          clear hB
          generalize p1.bool = bq at *
          obtain ⟨b1, y3⟩ := bq
          dsimp only at *
          obtain ⟨la, lc, hlv, hlc, _⟩ := hG.sl
          subst hlv
          go_upto_region 15 with (go_at_call 54; refine (HT _ hT.rd).mono ?_; rintro e w11 ⟨rfl, hT11⟩; clear HT; have hM11 := hM.to hT11 hbm.out; have e10 := hM11.cell 10; have f10 := hM11.frozen 10)
          have hM12 : Blk (w11.setCell ⟨B5, 10, none⟩ (.string ⟨pc.toArray⟩)) B5 #[.int .i64 c0, .int .i64 c1, .int .i64 c2, .int .i64 c3, .int .i64 c4, .int .i64 c5, .int .i64 c6, .bool y1, .slice la (tkE q1 i).2.length lc, .int .i64 c7, .string ⟨pc.toArray⟩, .bool y2, .slice none 0 0] 25 := hM11.setCell 10 (.string ⟨pc.toArray⟩)
          have hY12 := (hY.to hT11 hyb.out).setCell_other ⟨B5, 10, none⟩ hym.out (.string ⟨pc.toArray⟩)
          have hT12 := (hT.trans hT11).write (grown_setCell B5 (.string ⟨pc.toArray⟩) 10 w11) hbl hwB.out
          have hG12 := lgk (w2 := (w11.setCell ⟨B5, 10, none⟩ (.string ⟨pc.toArray⟩))) hG hlB (fun q h1 h2 => (Below.heap_setCell _ _ _ _ (fun e => by have e : q = B5 := e; omega)).trans (hT11.grown.block q h2 (fun e => by have e := Option.some.inj e; have := hwB.out; omega))) (by have := hT11.grown.size; simp; omega)
          clear e10 f10 hM11 hT11 hM hY hT hG
          generalize (w11.setCell ⟨B5, 10, none⟩ (.string ⟨pc.toArray⟩)) = w12 at *
          cases y3 with
          | false =>
            have hfq : fq = (b1, []) := by rw [hF.out]; rfl
            subst hfq
            clear hF
            go_upto_region 17 with (go_at_call 53; refine (HBo _ hT12.rd).mono ?_; rintro e w13 ⟨rfl, hT13⟩; clear HBo)
            have hMz := hM12.to hT13 hbm.out
            have hYz := hY12.to hT13 hyb.out
            have hTz := hT12.trans hT13
            have hGz := lgk (w2 := w13) hG12 hlB (fun q h1 h2 => hT13.grown.block q h2 (fun e => by have e := Option.some.inj e; have := hwB.out; omega)) hT13.grown.size
            by_cases he : b1.err = 0
            · have d0 : (b1.err != 0) = false := by rw [he]; rfl
              have d1 : Hid (b1.err = 0) := he
              clear he
              have H5 := fun W (h : RD W b b1) => err_any b b1 W h
              have e0 := hMz.cell 0
              have e1 := hMz.cell 1
              have e2 := hMz.cell 2
              have e3 := hMz.cell 3
              have e4 := hMz.cell 4
              have e5 := hMz.cell 5
              have e6 := hMz.cell 6
              have e7 := hMz.cell 7
              have e8 := hMz.cell 8
              have e9 := hMz.cell 9
              have e10 := hMz.cell 10
              have e11 := hMz.cell 11
              have e12 := hMz.cell 12
              go_wp2_with (first
                | (go_at_call 15; refine (H5 _ hTz.rd).mono ?_; rintro e wx ⟨rfl, hwx⟩; replace hwx := hwx.symm; subst hwx)
                | (with_reducible refine at_list ?_; refine wpList_storeRow (op := ⟨none, .store 25 (.tmp 2) (.tmp 65), _, _, _, _⟩) rfl _ _ _ rfl w.heap.size #[.int .i64 c0, .int .i64 c1, .int .i64 c2, .int .i64 c3, .int .i64 c4, .int .i64 c5, .int .i64 c6, .bool y1, .slice la (tkE q1 i).2.length lc, .int .i64 c7, .string ⟨pc.toArray⟩, .bool y2, .slice none 0 0] rfl rfl _ _ hYz (m13_size ..) (m13_info ..) (m13_one ..) ?_; intro wf hgf hsf hbf))
              refine bodyPost_ret (v := .agg #[.int .i64 c0, .int .i64 c1, .int .i64 c2, .int .i64 c3, .int .i64 c4, .int .i64 c5, .int .i64 c6, .bool y1, .slice la (tkE q1 i).2.length lc, .int .i64 c7, .string ⟨pc.toArray⟩, .bool y2, .slice none 0 0]) ?_ rfl ?_
              · exact results_cell_row rfl _ _ w.heap.size _ _ _ _ rfl hbf.out Tryz.underlying25 rfl (m13_info ..)
              have hr1 : RES.1 = b1 := by rw [hRES.out.1, hMSG.out]
              have hr2 : RES.2 = { kind := c0, frm := c1, dst := c2, term := c3, index := c4, logTerm := c5, commit := c6, yes := y1, ents := (tkE q1 i).2, off := c7, piece := pc, done := y2, mems := [] } := by
                rw [hRES.out.2]
                unfold tmOf
                rw [hMSG.out]
                exact if_pos d1.out
              rw [hr1, hr2]
              have hGf := lgk (w2 := wf) hGz hlB (fun q h1 h2 => hgf.block q h2 (fun e => by have e := Option.some.inj e; have := hwB.out; omega)) hgf.size
              obtain ⟨a8, k8, he8, hc8, hEA, _⟩ := hGf.sl
              cases he8
              exact ⟨la, lc, none, 0, rfl, hEA, hc8, (fun j y hy => by simp at hy), Nat.le_refl _, hTz.write hgf hbl (Nat.le_refl _)⟩
            · have d0 : (b1.err != 0) = true := bne_iff_ne.2 he
              have d1 : Hid (¬ b1.err = 0) := he
              clear he
              have H5 := fun W (h : RD W b b1) => err_any b b1 W h
              have e0 := hMz.cell 0
              have e1 := hMz.cell 1
              have e2 := hMz.cell 2
              have e3 := hMz.cell 3
              have e4 := hMz.cell 4
              have e5 := hMz.cell 5
              have e6 := hMz.cell 6
              have e7 := hMz.cell 7
              have e8 := hMz.cell 8
              have e9 := hMz.cell 9
              have e10 := hMz.cell 10
              have e11 := hMz.cell 11
              have e12 := hMz.cell 12
              go_wp2_with (first
                | (go_at_call 15; refine (H5 _ hTz.rd).mono ?_; rintro e wx ⟨rfl, hwx⟩; replace hwx := hwx.symm; subst hwx)
                | (with_reducible refine at_list ?_; refine wpList_storeRow (op := ⟨none, .store 25 (.tmp 2) (.tmp 64), _, _, _, _⟩) rfl _ _ _ rfl w.heap.size #[.int .i64 0, .int .i64 0, .int .i64 0, .int .i64 0, .int .i64 0, .int .i64 0, .int .i64 0, .bool false, .slice none 0 0, .int .i64 0, .string ⟨#[]⟩, .bool false, .slice none 0 0] rfl rfl _ _ hYz (m13_size ..) (m13_info ..) (m13_one ..) ?_; intro wf hgf hsf hbf))
              refine bodyPost_ret (v := .agg #[.int .i64 0, .int .i64 0, .int .i64 0, .int .i64 0, .int .i64 0, .int .i64 0, .int .i64 0, .bool false, .slice none 0 0, .int .i64 0, .string ⟨#[]⟩, .bool false, .slice none 0 0]) ?_ rfl ?_
              · exact results_cell_row rfl _ _ w.heap.size _ _ _ _ rfl hbf.out Tryz.underlying25 rfl (m13_info ..)
              have hr1 : RES.1 = b1 := by rw [hRES.out.1, hMSG.out]
              have hr2 : RES.2 = MSG.none := by
                rw [hRES.out.2]
                unfold tmOf
                rw [hMSG.out]
                exact if_neg d1.out
              rw [hr1, hr2]
              exact ⟨none, 0, none, 0, rfl, (fun j hj => absurd hj (Nat.not_lt_zero _)), Nat.le_refl _, (fun j y hy => by simp [MSG.none] at hy), Nat.le_refl _, hTz.write hgf hbl (Nat.le_refl _)⟩
          | true =>
            have hfq : fq = tkM b1 := by rw [hF.out]; rfl
            subst hfq
            clear hF
            have HTM := fun W (h : RD W b b1) => takeMem_any b b1 W h hq14 hs14
            generalize tkM b1 = gq at *
            obtain ⟨g1, gl⟩ := gq
            dsimp only at *
            go_upto_region 17 with (first
              | (go_at_call 53; refine (HBo _ hT12.rd).mono ?_; rintro e w13 ⟨rfl, hT13⟩; clear HBo)
              | (go_at_call 55; refine (HTM _ hT13.rd).mono ?_; rintro e w14 hP; obtain ⟨sl, rfl, hV, hT14⟩ := hP; obtain ⟨a7, k7, rfl, hk7, hI7⟩ := hV.ifc; clear HTM; have hM14 := (hM12.to hT13 hbm.out).to hT14 hbm.out; have e12 := hM14.cell 12; have f12 := hM14.frozen 12))
            have hMz : Blk (w14.setCell ⟨B5, 12, none⟩ (.slice a7 gl.length k7)) B5 #[.int .i64 c0, .int .i64 c1, .int .i64 c2, .int .i64 c3, .int .i64 c4, .int .i64 c5, .int .i64 c6, .bool y1, .slice la (tkE q1 i).2.length lc, .int .i64 c7, .string ⟨pc.toArray⟩, .bool y2, .slice a7 gl.length k7] 25 := hM14.setCell 12 (.slice a7 gl.length k7)
            have hYz := ((hY12.to hT13 hyb.out).to hT14 hyb.out).setCell_other ⟨B5, 12, none⟩ hym.out (.slice a7 gl.length k7)
            have hTz := ((hT12.trans hT13).trans hT14).write (grown_setCell B5 (.slice a7 gl.length k7) 12 w14) hbl hwB.out
            have hG13 := lgk (w2 := w13) hG12 hlB (fun q h1 h2 => hT13.grown.block q h2 (fun e => by have e := Option.some.inj e; have := hwB.out; omega)) hT13.grown.size
            have hGz := lgk (w2 := (w14.setCell ⟨B5, 12, none⟩ (.slice a7 gl.length k7))) hG13 hlB (fun q h1 h2 => (Below.heap_setCell _ _ _ _ (fun e => by have e : q = B5 := e; omega)).trans (hT14.grown.block q h2 (fun e => by have e := Option.some.inj e; have := hwB.out; omega))) (by have := hT14.grown.size; simp; omega)
            have hB13 : B5 < w13.heap.size := (hM12.to hT13 hbm.out).lt
            have hIz : IF (fun q => B5 < q ∧ q < w14.heap.size) (w14.setCell ⟨B5, 12, none⟩ (.slice a7 gl.length k7)) a7 gl := hI7.kept (fun q hq => Below.heap_setCell _ _ _ _ (fun e => by have e : q = B5 := e; have := hq.1; omega)) (fun q hq => ⟨by have := hq.1; omega, hq.2⟩)
            have hs15 : (w14.setCell ⟨B5, 12, none⟩ (.slice a7 gl.length k7)).heap.size = w14.heap.size := by simp
            clear e12 f12 hM14 hI7 hV
            generalize (w14.setCell ⟨B5, 12, none⟩ (.slice a7 gl.length k7)) = w15 at *
            by_cases he : g1.err = 0
            · have d0 : (g1.err != 0) = false := by rw [he]; rfl
              have d1 : Hid (g1.err = 0) := he
              clear he
              have H5 := fun W (h : RD W b g1) => err_any b g1 W h
              have e0 := hMz.cell 0
              have e1 := hMz.cell 1
              have e2 := hMz.cell 2
              have e3 := hMz.cell 3
              have e4 := hMz.cell 4
              have e5 := hMz.cell 5
              have e6 := hMz.cell 6
              have e7 := hMz.cell 7
              have e8 := hMz.cell 8
              have e9 := hMz.cell 9
              have e10 := hMz.cell 10
              have e11 := hMz.cell 11
              have e12 := hMz.cell 12
              go_wp2_with (first
                | (go_at_call 15; refine (H5 _ hTz.rd).mono ?_; rintro e wx ⟨rfl, hwx⟩; replace hwx := hwx.symm; subst hwx)
                | (with_reducible refine at_list ?_; refine wpList_storeRow (op := ⟨none, .store 25 (.tmp 2) (.tmp 65), _, _, _, _⟩) rfl _ _ _ rfl w.heap.size #[.int .i64 c0, .int .i64 c1, .int .i64 c2, .int .i64 c3, .int .i64 c4, .int .i64 c5, .int .i64 c6, .bool y1, .slice la (tkE q1 i).2.length lc, .int .i64 c7, .string ⟨pc.toArray⟩, .bool y2, .slice a7 gl.length k7] rfl rfl _ _ hYz (m13_size ..) (m13_info ..) (m13_one ..) ?_; intro wf hgf hsf hbf))
              refine bodyPost_ret (v := .agg #[.int .i64 c0, .int .i64 c1, .int .i64 c2, .int .i64 c3, .int .i64 c4, .int .i64 c5, .int .i64 c6, .bool y1, .slice la (tkE q1 i).2.length lc, .int .i64 c7, .string ⟨pc.toArray⟩, .bool y2, .slice a7 gl.length k7]) ?_ rfl ?_
              · exact results_cell_row rfl _ _ w.heap.size _ _ _ _ rfl hbf.out Tryz.underlying25 rfl (m13_info ..)
              have hr1 : RES.1 = g1 := by rw [hRES.out.1, hMSG.out]
              have hr2 : RES.2 = { kind := c0, frm := c1, dst := c2, term := c3, index := c4, logTerm := c5, commit := c6, yes := y1, ents := (tkE q1 i).2, off := c7, piece := pc, done := y2, mems := gl } := by
                rw [hRES.out.2]
                unfold tmOf
                rw [hMSG.out]
                exact if_pos d1.out
              rw [hr1, hr2]
              have hGf := lgk (w2 := wf) hGz hlB (fun q h1 h2 => hgf.block q h2 (fun e => by have e := Option.some.inj e; have := hwB.out; omega)) hgf.size
              obtain ⟨a8, k8, he8, hc8, hEA, _⟩ := hGf.sl
              cases he8
              exact ⟨la, lc, a7, k7, rfl, hEA, hc8, (hIz.kept (F' := fun _ => True) (fun q hq => hgf.block q (by have := hq.2; omega) (fun e => by have e := Option.some.inj e; have := hwB.out; have := hq.1; omega)) (fun _ _ => trivial)).ia, hk7, hTz.write hgf hbl (Nat.le_refl _)⟩
            · have d0 : (g1.err != 0) = true := bne_iff_ne.2 he
              have d1 : Hid (¬ g1.err = 0) := he
              clear he
              have H5 := fun W (h : RD W b g1) => err_any b g1 W h
              have e0 := hMz.cell 0
              have e1 := hMz.cell 1
              have e2 := hMz.cell 2
              have e3 := hMz.cell 3
              have e4 := hMz.cell 4
              have e5 := hMz.cell 5
              have e6 := hMz.cell 6
              have e7 := hMz.cell 7
              have e8 := hMz.cell 8
              have e9 := hMz.cell 9
              have e10 := hMz.cell 10
              have e11 := hMz.cell 11
              have e12 := hMz.cell 12
              go_wp2_with (first
                | (go_at_call 15; refine (H5 _ hTz.rd).mono ?_; rintro e wx ⟨rfl, hwx⟩; replace hwx := hwx.symm; subst hwx)
                | (with_reducible refine at_list ?_; refine wpList_storeRow (op := ⟨none, .store 25 (.tmp 2) (.tmp 64), _, _, _, _⟩) rfl _ _ _ rfl w.heap.size #[.int .i64 0, .int .i64 0, .int .i64 0, .int .i64 0, .int .i64 0, .int .i64 0, .int .i64 0, .bool false, .slice none 0 0, .int .i64 0, .string ⟨#[]⟩, .bool false, .slice none 0 0] rfl rfl _ _ hYz (m13_size ..) (m13_info ..) (m13_one ..) ?_; intro wf hgf hsf hbf))
              refine bodyPost_ret (v := .agg #[.int .i64 0, .int .i64 0, .int .i64 0, .int .i64 0, .int .i64 0, .int .i64 0, .int .i64 0, .bool false, .slice none 0 0, .int .i64 0, .string ⟨#[]⟩, .bool false, .slice none 0 0]) ?_ rfl ?_
              · exact results_cell_row rfl _ _ w.heap.size _ _ _ _ rfl hbf.out Tryz.underlying25 rfl (m13_info ..)
              have hr1 : RES.1 = g1 := by rw [hRES.out.1, hMSG.out]
              have hr2 : RES.2 = MSG.none := by
                rw [hRES.out.2]
                unfold tmOf
                rw [hMSG.out]
                exact if_neg d1.out
              rw [hr1, hr2]
              exact ⟨none, 0, none, 0, rfl, (fun j hj => absurd hj (Nat.not_lt_zero _)), Nat.le_refl _, (fun j y hy => by simp [MSG.none] at hy), Nat.le_refl _, hTz.write hgf hbl (Nat.le_refl _)⟩
end Go.Proofs.YtnhlejdilldfaaaGreat
