/- What a leader tells another one: entries, or a piece of the snapshot. A piece of the snapshot, told. -/
import Derived.Test.YtnhlejdilldfaaaGreatRln
namespace Go.Proofs.YtnhlejdilldfaaaGreat
open Go Go.RowKit Go.Maps
theorem CeP.ef {w : World} {l : List LE} {e : Ending} {w' : World} (h : CeP w l e w') : ∃ a c, e = .returned (.slice a l.length c) ∧ Below w.heap.size w w' ∧ l.length ≤ c ∧ EF (NewB w w') w' a l := by
  obtain ⟨v, rfl, h1, h2, h3⟩ := h
  obtain ⟨ls, hG, hl, hls⟩ := h3
  rcases hG.2 with ⟨rfl, rfl⟩ | ⟨g, cap, _, rfl, hS⟩
  · obtain rfl : l = [] := List.length_eq_zero_iff.1 (by simpa using hl.symm)
    exact ⟨none, 0, rfl, h1, Nat.le_refl _, EF.nil _ _ _⟩
  · obtain ⟨cur, k1, k2, k3, k4⟩ := hS.out
    rw [hl]
    refine ⟨some ⟨g, 0, none⟩, cap, rfl, h1, by omega, fun i hi => ?_⟩
    obtain ⟨ma, mc, m1, m2, m3⟩ := hls i hi
    have hil : i < ls.length := by omega
    have he : ls[i] = (lec l[i] (.slice ma l[i].mem.length mc)).toList := by
      rw [List.getElem?_eq_getElem hil] at m1
      exact Option.some.inj m1
    refine ⟨g, 0, ma, mc, rfl, ⟨h2 g rfl, hS.lt⟩, fun j v hv => ?_, m2.kept (fun _ _ => rfl) (fun k hk => hk.1), m3⟩
    have := hS.cell (i * 4 + j) v (flat_get hG.1 i hil j v (by rw [he]; exact hv))
    simpa using this
/-- A message is told. -/
def TlP (w : World) (m : MSG) (e : Ending) (w' : World) : Prop := ∃ ev mv, e = .returned (.agg (mcells m ev mv)) ∧ MF (NewB w w') w' m ev mv ∧ Below w.heap.size w w'
theorem mcells_info (m : MSG) (ev mv : Value) : (Tryz.prog.info? 25).map (·.size) = some (mcells m ev mv).size := by kernel_rfl
theorem m13_info (a b c d e f g : Int) (y : Bool) (ev : Value) (o : Int) (p : ByteArray) (q : Bool) (mv : Value) : (Tryz.prog.info? 25).map (·.size) = some (#[Value.int .i64 a, .int .i64 b, .int .i64 c, .int .i64 d, .int .i64 e, .int .i64 f, .int .i64 g, .bool y, ev, .int .i64 o, .string p, .bool q, mv] : Array Value).size := by kernel_rfl
theorem m13_size (a b c d e f g : Int) (y : Bool) (ev : Value) (o : Int) (p : ByteArray) (q : Bool) (mv : Value) (a' b' c' d' e' f' g' : Int) (y' : Bool) (ev' : Value) (o' : Int) (p' : ByteArray) (q' : Bool) (mv' : Value) : (#[Value.int .i64 a, .int .i64 b, .int .i64 c, .int .i64 d, .int .i64 e, .int .i64 f, .int .i64 g, .bool y, ev, .int .i64 o, .string p, .bool q, mv] : Array Value).size = (#[Value.int .i64 a', .int .i64 b', .int .i64 c', .int .i64 d', .int .i64 e', .int .i64 f', .int .i64 g', .bool y', ev', .int .i64 o', .string p', .bool q', mv'] : Array Value).size := rfl
theorem m13_one (a b c d e f g : Int) (y : Bool) (x1 : Option Addr) (n1 c1 : Nat) (o : Int) (p : ByteArray) (q : Bool) (x2 : Option Addr) (n2 c2 : Nat) : (#[Value.int .i64 a, .int .i64 b, .int .i64 c, .int .i64 d, .int .i64 e, .int .i64 f, .int .i64 g, .bool y, .slice x1 n1 c1, .int .i64 o, .string p, .bool q, .slice x2 n2 c2] : Array Value).all (·.oneCell') = true := by simp [Value.oneCell']
section
variable (F : Nat → Prop) (nb : Nat) (M : NM) (lb : Option Nat) (w : World) (N : RN)
set_option maxRecDepth 100000 in
set_option maxHeartbeats 1000000 in
theorem tell_app (h : ND F nb M lb w N) (hb : Bnd N) (x : Int) (hx : (Lit.int .i64 x).wf = true) (k : Nat) (hk : k ≤ N.k.log.length) (hn : N.next x = N.k.bi + 1 + k) : Calls Tryz.prog 94 #[.pointer (some ⟨nb, 0, none⟩), .int .i64 x] w (TlP w (N.tell x)) := by
  have hA0 := Below.refl w.heap.size w
  have hBA := Blk.new w #[.int .i64 0, .int .i64 0, .int .i64 0, .int .i64 0, .int .i64 0, .int .i64 0, .int .i64 0, .bool false, .slice none 0 0, .int .i64 0, .string ⟨#[]⟩, .bool false, .slice none 0 0] 25
  have hwA : Below w.heap.size w (w.alloc (.cells #[.int .i64 0, .int .i64 0, .int .i64 0, .int .i64 0, .int .i64 0, .int .i64 0, .int .i64 0, .bool false, .slice none 0 0, .int .i64 0, .string ⟨#[]⟩, .bool false, .slice none 0 0] 25)) := bl_al hA0 _
  have hla : N.lacksAhead x = false := decide_eq_false (by omega)
  have ht : N.tell x = { N.msg 3 x with index := N.k.bi + k, logTerm := N.termAt (N.k.bi + k), ents := (N.k.log.drop k).take 16, commit := N.commit } := by
    unfold RN.tell
    rw [hla, hn, if_neg (by decide), show N.k.bi + 1 + (k : Int) - 1 = N.k.bi + k by omega, show (N.k.bi + (k : Int) - N.k.bi).toNat = k by omega]
  have hw1 : IntKind.i64.wrap (N.k.bi + 1 + (k : Int) - 1) = N.k.bi + k := by have := hb.bi; have := hb.last; rw [IntKind.wrap_i64]; omega
  have HL := fun W (hW : ND F nb M lb W N) => lacksAhead_any F nb M lb W N hW hb x hx
  rw [hla] at HL
  have HM := fun W (hW : ND F nb M lb W N) => message_any F nb M lb W N hW 3 x
  have HT := fun W (hW : ND F nb M lb W N) => termAt_any F nb M lb W N hW hb (N.k.bi + k) (by omega) (by unfold RN.last; omega)
  have HF := fun W (hW : ND F nb M lb W N) => from_any F nb M lb W N hW hb k hk
  have hg := fun W (hW : ND F nb M lb W N) => hW.next.get x hx
  rw [hn] at hg
  rw [ht]
  generalize N.termAt (N.k.bi + k) = tm at *
  have hL16 : ((N.k.log.drop k).take 16).length ≤ 16 := by rw [List.length_take]; omega
  generalize (N.k.log.drop k).take 16 = L at *
  clear hla hn ht
  go_enter Tryz.func94, Tryz.ntmps94
  go_upto_region 1 with fail
  generalize w.alloc (.cells #[.int .i64 0, .int .i64 0, .int .i64 0, .int .i64 0, .int .i64 0, .int .i64 0, .int .i64 0, .bool false, .slice none 0 0, .int .i64 0, .string ⟨#[]⟩, .bool false, .slice none 0 0] 25) = A at *
  replace h := h.below hwA
  go_wp2_with (first
    | (go_at_call 114; refine (HL _ h).mono ?_; rintro e w1 ⟨rfl, hw1⟩; clear HL)
    | (go_at_call 106; refine (HM _ (h.below hw1)).mono ?_; rintro e w2 ⟨rfl, hw2⟩; replace hw2 := bl_ca hw1 hw2; clear HM; have hne : Hid (w.heap.size ≠ w2.heap.size) := (fun e => by have := hw2.size; have := hBA.lt; omega); have c16 := fun o => (h.below (bl_al hw2 o)).c16; have hg1 := fun o => hg _ (h.below (bl_al hw2 o)))
    | (go_at_call 72; refine (HT _ (h.below (bl_al hw2 _))).mono ?_; rintro e w3 ⟨rfl, hw3⟩; have hm := (Blk.new w2 _ _).belowSize hw3; replace hw3 := bl_ca (bl_al hw2 _) hw3; clear HT; have e5 := hm.cell 5; have f5 := hm.frozen 5; have c16b := fun v => (h.below (bl_st hw3 hw2.size 5 v)).c16; have hg2 := fun v => hg _ (h.below (bl_st hw3 hw2.size 5 v)))
    | (go_at_call 116; refine (HF _ (h.below (bl_st hw3 hw2.size 5 _))).mono ?_; intro e w4 hq; obtain ⟨ea, ec, rfl, hw4, hec, hEF⟩ := hq.ef; clear hq HF; have hm4 : Blk _ w2.heap.size #[.int .i64 3, .int .i64 N.me, .int .i64 x, .int .i64 N.k.term, .int .i64 (N.k.bi + k), .int .i64 tm, .int .i64 0, .bool false, .slice none 0 0, .int .i64 0, .string ⟨#[]⟩, .bool false, .slice none 0 0] 25 := (hm.setCell 5 (.int .i64 tm)).belowSize hw4; have hw4a := bl_ca (bl_st hw3 hw2.size 5 _) hw4; have e0 := hm4.cell 0; have e1 := hm4.cell 1; have e2 := hm4.cell 2; have e3 := hm4.cell 3; have e4 := hm4.cell 4; clear e5; have e5 := hm4.cell 5; have e6 := hm4.cell 6; have e7 := hm4.cell 7; have e8 := hm4.cell 8; have e9 := hm4.cell 9; have e10 := hm4.cell 10; have e11 := hm4.cell 11; have e12 := hm4.cell 12; have f6 := hm4.frozen 6; have f8 := hm4.frozen 8; have c10 := fun v => (h.below (bl_st hw4a hw2.size 8 v)).c10; have hR := ((hBA.belowSize hw4a).setCell_other ⟨w2.heap.size, 8, none⟩ hne.out (.slice ea L.length ec)).setCell_other ⟨w2.heap.size, 6, none⟩ hne.out (.int .i64 N.commit))
    | (with_reducible refine at_list ?_; refine wpList_storeRow (op := ⟨none, .store 25 (.tmp 4) (.tmp 42), _, _, _, _⟩) rfl _ _ _ rfl w.heap.size #[.int .i64 3, .int .i64 N.me, .int .i64 x, .int .i64 N.k.term, .int .i64 (N.k.bi + k), .int .i64 tm, .int .i64 N.commit, .bool false, .slice ea L.length ec, .int .i64 0, .string ⟨#[]⟩, .bool false, .slice none 0 0] rfl rfl _ _ hR (m13_size ..) (m13_info ..) (m13_one ..) ?_; intro w5 hg5 hs5 hB5))
  have hb6 := bl_st (bl_st hw4a hw2.size 8 (.slice ea L.length ec)) hw2.size 6 (.int .i64 N.commit)
  have hb5 := bl_gr (bl_ca hwA hb6) hg5 (Nat.le_refl _)
  have hlt := hm.lt
  have hws := hwA.size
  have hw2s := hw2.size
  refine bodyPost_ret (v := .agg _) ?_ rfl ⟨.slice ea L.length ec, .slice none 0 0, rfl, ⟨⟨ea, ec, rfl, hec, hEF.kept (fun k hk => ?_) (fun k hk => ⟨?_, ?_⟩)⟩, ⟨none, 0, rfl, by show 0 ≤ _; omega, IF.nil _ _ _⟩⟩, hb5⟩
  · exact results_cell_row rfl _ _ w.heap.size _ _ _ _ rfl hB5.out Tryz.underlying25 rfl (m13_info ..)
  · have h1 : w3.heap.size ≤ k := by have := hk.1; simpa using this
    have h2 := hk.2
    rw [hg5.block k (by simpa using h2) (fun e => by have := Option.some.inj e; omega)]
    rw [Below.heap_setCell _ _ _ _ (by show k ≠ w2.heap.size; omega)]
    exact Below.heap_setCell _ _ _ _ (by show k ≠ w2.heap.size; omega)
  · have h1 : w3.heap.size ≤ k := by have := hk.1; simpa using this
    omega
  · have h2 := hk.2
    rw [hs5]
    simpa using h2
end
end Go.Proofs.YtnhlejdilldfaaaGreat
namespace Go.Proofs.YtnhlejdilldfaaaGreat
open Go Go.RowKit Go.Maps
theorem extract_eq (l : List UInt8) (i j : Nat) : (({ data := l.toArray } : ByteArray).extract i j) = ⟨((l.take j).drop i).toArray⟩ := by
  apply ByteArray.ext
  rw [ByteArray.data_extract]
  apply Array.ext'
  rw [Array.toList_extract]
  simp [List.drop_take]
section
variable (F : Nat → Prop) (nb : Nat) (M : NM) (lb : Option Nat) (w : World) (N : RN)
set_option maxRecDepth 100000 in
set_option maxHeartbeats 1000000 in
theorem piece_any (h : ND F nb M lb w N) (hb : Bnd N) (x : Int) (hx : (Lit.int .i64 x).wf = true) : Calls Tryz.prog 115 #[.pointer (some ⟨nb, 0, none⟩), .int .i64 x] w (TlP w (N.piece x)) := by
  have hA0 := Below.refl w.heap.size w
  have hBA := Blk.new w #[.int .i64 0, .int .i64 0, .int .i64 0, .int .i64 0, .int .i64 0, .int .i64 0, .int .i64 0, .bool false, .slice none 0 0, .int .i64 0, .string ⟨#[]⟩, .bool false, .slice none 0 0] 25
  have hwA : Below w.heap.size w (w.alloc (.cells #[.int .i64 0, .int .i64 0, .int .i64 0, .int .i64 0, .int .i64 0, .int .i64 0, .int .i64 0, .bool false, .slice none 0 0, .int .i64 0, .string ⟨#[]⟩, .bool false, .slice none 0 0] 25)) := bl_al hA0 _
  have hez := (hb.ends x).1
  have hez2 := (hb.ends x).2
  have hbl := hb.base
  obtain ⟨fr, hfr⟩ : ∃ fr : Nat, Hid (fr = min (N.ends x).toNat N.k.base.length) := ⟨_, rfl⟩
  obtain ⟨en, hen⟩ : ∃ en : Nat, Hid (en = min (fr + 200) N.k.base.length) := ⟨_, rfl⟩
  have hfl : fr ≤ N.k.base.length := by have := hfr.out; omega
  have hfe : fr ≤ en := by have := hen.out; omega
  have hel : en ≤ N.k.base.length := by have := hen.out; omega
  have ht : N.piece x = { N.msg 5 x with index := N.k.bi, logTerm := N.k.bt, mems := N.k.bconf, off := (fr : Nat), piece := (N.k.base.take en).drop fr, done := decide (en = N.k.base.length) } := by
    unfold RN.piece
    dsimp only
    rw [← hfr.out, ← hen.out]
  rw [ht]
  have hw1 : IntKind.i64.wrap ((fr : Int) + 200) = (fr : Int) + 200 := by rw [IntKind.wrap_i64]; omega
  have HM := fun W (hW : ND F nb M lb W N) => message_any F nb M lb W N hW 5 x
  have hg := fun W (hW : ND F nb M lb W N) => hW.ends.get x hx
  have hbc := hb.bconf
  have hsz : N.k.base.toArray.size = N.k.base.length := by simp
  clear ht
  go_enter Tryz.func115, Tryz.ntmps115
  go_upto_region 1 with fail
  generalize w.alloc (.cells #[.int .i64 0, .int .i64 0, .int .i64 0, .int .i64 0, .int .i64 0, .int .i64 0, .int .i64 0, .bool false, .slice none 0 0, .int .i64 0, .string ⟨#[]⟩, .bool false, .slice none 0 0] 25) = A at *
  replace h := h.below hwA
  have c5 := h.c5
  have c18 := h.c18
  have hg0 := hg A h
  go_upto_region 2 with fail
  go_cut [6] from 14 to 22 (fun v6 wx => v6 = .int .i64 (fr : Nat) ∧ wx = A)
  case first =>
    by_cases hq : (N.k.base.length : Int) < N.ends x
    · have he : fr = N.k.base.length := by have := hfr.out; omega
      go_wp2_with fail
      go_meet
      exact ⟨by rw [he], rfl⟩
    · have he : N.ends x = (fr : Int) := by have := hfr.out; omega
      go_wp2_with fail
      go_meet
      exact ⟨rfl, rfl⟩
  case rest =>
    obtain ⟨rfl, hwx⟩ := hcut
    replace hwx := hwx.symm
    subst hwx
    go_upto_region 3 with fail
    go_cut [7] from 23 to 27 (fun v7 wx => v7 = .int .i64 (en : Nat) ∧ wx = A)
    case first =>
      by_cases hq : (N.k.base.length : Int) < (fr : Int) + 200
      · have he : en = N.k.base.length := by have := hen.out; omega
        go_wp2_with fail
        go_meet
        exact ⟨by rw [he], rfl⟩
      · have he : en = fr + 200 := by have := hen.out; omega
        go_wp2_with fail
        go_meet
        exact ⟨by rw [he]; go_num, rfl⟩
    case rest =>
      obtain ⟨rfl, hwx⟩ := hcut
      replace hwx := hwx.symm
      subst hwx
      go_upto_region 5 with (go_at_call 106; refine (HM _ h).mono ?_; rintro e w2 ⟨rfl, hw2⟩; clear HM)
      have hne : Hid (w.heap.size ≠ w2.heap.size) := (fun e => by have := hw2.size; have := hBA.lt; omega)
      have c3 := fun o => (h.below (bl_al hw2 o)).c3
      have c4 := fun o => (h.below (bl_al hw2 o)).c4
      obtain ⟨ba, ca, c60, hI⟩ := h.c6
      have c6 := fun o => ((bl_al hw2 o).cell (World.block_lt_of_cell? _ _ c60)).trans c60
      have HC := fun W (hB : Below A.heap.size A W) => sclF ba N.k.bconf ca W (hI.ia.below hB) hbc
      go_region
      go_upto_region 7 with (go_at_call 61; refine (HC _ (bl_dr (bl_al hw2 _))).mono ?_; rintro e w3 ⟨y, yc, rfl, hIy, hw3⟩; have hm : Blk _ w2.heap.size #[.int .i64 5, .int .i64 N.me, .int .i64 x, .int .i64 N.k.term, .int .i64 N.k.bi, .int .i64 N.k.bt, .int .i64 0, .bool false, .slice none 0 0, .int .i64 0, .string ⟨#[]⟩, .bool false, .slice none 0 0] 25 := ((Blk.new w2 _ _).drew).belowSize hw3; replace hw3 := bl_ca (bl_dr (bl_al hw2 _)) hw3; clear HC; have e0 := hm.cell 0; have e1 := hm.cell 1; have e2 := hm.cell 2; have e3 := hm.cell 3; have e4 := hm.cell 4; have e5 := hm.cell 5; have e6 := hm.cell 6; have e7 := hm.cell 7; have e8 := hm.cell 8; have e9 := hm.cell 9; have e10 := hm.cell 10; have e11 := hm.cell 11; have e12 := hm.cell 12; have f9 := hm.frozen 9; have f10 := hm.frozen 10; have f11 := hm.frozen 11; have f12 := hm.frozen 12)
      have hz1 : (0 : Int) ≤ (fr : Int) := by omega
      have hz2 : (fr : Int) ≤ (en : Int) := by omega
      have hz3 : (en : Int) ≤ (N.k.base.length : Int) := by omega
      go_region
      have hR := ((((((hBA.belowSize hw3).setCell_other ⟨w2.heap.size, 12, none⟩ hne.out (.slice y N.k.bconf.length yc)).setCell_other ⟨w2.heap.size, 9, none⟩ hne.out (.int .i64 (fr : Nat))).setCell_other ⟨w2.heap.size, 10, none⟩ hne.out (.string (({ data := N.k.base.toArray } : ByteArray).extract fr en))).setCell_other ⟨w2.heap.size, 11, none⟩ hne.out (.bool ((en : Int) == (N.k.base.length : Int))))).drew
      have hb6 := bl_dr (bl_st (bl_st (bl_st (bl_st hw3 hw2.size 12 (.slice y N.k.bconf.length yc)) hw2.size 9 (.int .i64 (fr : Nat))) hw2.size 10 (.string (({ data := N.k.base.toArray } : ByteArray).extract fr en))) hw2.size 11 (.bool ((en : Int) == (N.k.base.length : Int))))
      go_wp2_with (with_reducible refine at_list ?_; refine wpList_storeRow (op := ⟨none, .store 25 (.tmp 4) (.tmp 62), _, _, _, _⟩) rfl _ _ _ rfl w.heap.size #[.int .i64 5, .int .i64 N.me, .int .i64 x, .int .i64 N.k.term, .int .i64 N.k.bi, .int .i64 N.k.bt, .int .i64 0, .bool false, .slice none 0 0, .int .i64 (fr : Nat), .string (({ data := N.k.base.toArray } : ByteArray).extract fr en), .bool ((en : Int) == (N.k.base.length : Int)), .slice y N.k.bconf.length yc] rfl rfl _ _ hR (m13_size ..) (m13_info ..) (m13_one ..) ?_; intro w5 hg5 hs5 hB5)
      have hb5 := bl_gr (bl_ca hwA hb6) hg5 (Nat.le_refl _)
      have hlt := hm.lt
      have hws := hwA.size
      have hw2s := hw2.size
      have he2 : ((en : Int) == (N.k.base.length : Int)) = decide (en = N.k.base.length) := by
        rw [Bool.eq_iff_iff, beq_iff_eq, decide_eq_true_eq]; omega
      refine bodyPost_ret (v := .agg #[.int .i64 5, .int .i64 N.me, .int .i64 x, .int .i64 N.k.term, .int .i64 N.k.bi, .int .i64 N.k.bt, .int .i64 0, .bool false, .slice none 0 0, .int .i64 (fr : Nat), .string (({ data := N.k.base.toArray } : ByteArray).extract fr en), .bool ((en : Int) == (N.k.base.length : Int)), .slice y N.k.bconf.length yc]) ?_ rfl ⟨.slice none 0 0, .slice y N.k.bconf.length yc, by rw [he2, extract_eq]; rfl, ⟨⟨none, 0, rfl, Nat.le_refl _, EF.nil _ _ _⟩, ⟨y, yc, rfl, hbc, hIy.kept (fun k hk => ?_) (fun k hk => ⟨?_, ?_⟩)⟩⟩, hb5⟩
      · exact results_cell_row rfl _ _ w.heap.size _ _ _ _ rfl hB5.out Tryz.underlying25 rfl (m13_info ..)
      · have h1 : w2.heap.size + 1 ≤ k := by have := hk.1; simpa using this
        have h2 := hk.2
        rw [hg5.block k (by simpa using h2) (fun e => by have := Option.some.inj e; omega)]
        have hd : ∀ W : World, W.drew.heap = W.heap := fun _ => rfl
        rw [hd, Below.heap_setCell _ _ _ _ (by show k ≠ w2.heap.size; omega), Below.heap_setCell _ _ _ _ (by show k ≠ w2.heap.size; omega), Below.heap_setCell _ _ _ _ (by show k ≠ w2.heap.size; omega)]
        exact Below.heap_setCell _ _ _ _ (by show k ≠ w2.heap.size; omega)
      · have h1 : w2.heap.size + 1 ≤ k := by have := hk.1; simpa using this
        omega
      · have h2 := hk.2
        rw [hs5]
        simpa using h2
end
end Go.Proofs.YtnhlejdilldfaaaGreat
