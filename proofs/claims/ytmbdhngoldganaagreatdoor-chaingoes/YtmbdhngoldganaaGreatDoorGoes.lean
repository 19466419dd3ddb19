/- What ChainGoes does. Proved: for all bytes and all batches, ChainGoes returns true: any snapshot that is read stands as it says, and goes on by batches as by the blocks that they make; the tables of the program start as its text lays them. No condition but the form's own reach. -/
import Derived.Test.YtmbdhngoldganaaGreatDoorCdc
import Derived.Test.YtmbdhngoldganaaGreatDoorCcu
import Derived.Test.YtmbdhngoldganaaGreatDoorCarg
import Derived.Test.YtmbdhngoldganaaGreatDoorSGlb
import Derived.Test.YtmbdhngoldganaaGreatDoorTie
import Derived.Test.YtmbdhngoldganaaGreatDoorCards
import Derived.SevenTiedAt
import Derived.SizedLaws
namespace Go.Proofs.YtmbdhngoldganaaGreatDoor
open Go Go.RowKit
/-- Two chains that stand where one stands, apart, with room for n blocks more. -/
structure GO (w wl : World) (NA ca sa ta : Nat) (slA : Value) (NB cb sb tb : Nat) (slB : Value) (c : CN) (n : Nat) : Prop where
  a : CH wl NA ca sa ta slA c
  b : CH wl NB cb sb tb slB c
  ok : OkC c
  cnt : c.t.cnt + 144 * n ≤ 3300
  kl : c.kept.length + n ≤ 1000000
  ne : ca ≠ cb ∧ sa ≠ sb ∧ ta ≠ tb
  row : ∀ r, Sh.slBlk slA = some r → Sh.slBlk slB ≠ some r
  bl : Below w.heap.size w wl
/-- What Add of a block that the other one made leaves. -/
theorem add_made {w : World} {N cb bs bt : Nat} {sl : Value} {c : CN} (hc : CH w N cb bs bt sl c) (hok : OkC c) {b : BT} (hb : chkB b = 0) (hcnt : c.t.cnt ≤ 3300) (hh : c.ht + 1 < 18446744073709551616) (hkl : c.kept.length ≤ 1000000) (gm cm cap : Nat) (a : Option Addr) (h2 : AB w gm a cap (mkB c b)) :
    Calls Tryz.prog 26 #[.pointer (some ⟨cb, 0, none⟩), .agg (bkv (mkB c b) gm cm a cap)] w fun e w' => e = .returned (.int .i64 0) ∧ ∃ sl', CH w' N cb bs bt sl' (nextC c b) ∧ Own (ownC cb bs bt sl) w w' ∧ (∀ r, Sh.slBlk sl' = some r → Sh.slBlk sl = some r ∨ w.heap.size ≤ r) :=
  (addCh_any N cb bs bt sl c w hc hok (mkB c b) (mkB_head hok hb) hcnt hh hkl (some ⟨gm, 0, none⟩) a cm cap h2.cb.ia h2.ta).mono fun e w' h3 => by
    obtain ⟨hr, he⟩ := mkB_right (c := c) hb
    rcases h3 with ⟨_, h4⟩ | ⟨h4, _⟩
    · rw [he] at h4
      exact h4
    · exact absurd hr h4
section
attribute [local go_sem] Oper.semAt_some
set_option maxRecDepth 100000 in
set_option maxHeartbeats 8000000 in
theorem goes_bad (s : List UInt8) (w : World) (hG : Sh.Glob w) (hl : s.length ≤ 140737488355328) (v : Value) (he : decE s ≠ 0) :
    Calls Tryz.prog 31 #[.string ⟨s.toArray⟩, v] w fun e w' => e = .returned (.bool true) ∧ Below w.heap.size w w' := by
  have HD := fun w1 (hb : Below w.heap.size w w1) => decCh_any s w1 (hG.belowSize hb) hl
  have HW := fun w1 (hb : Below w.heap.size w w1) => awakeC_any w1 (hG.belowSize hb)
  unfold DcP at HD
  have hb1 : (decE s != 0) = true := by simpa using he
  have hd1 : (decE s == 0) = false := by simpa using he
  replace he : Hid (¬ decE s = 0) := he
  have HD2 := HD
  generalize decE s = er at *
  go_enter Tryz.func31, Tryz.ntmps31
  go_wp2_with (first
    | (go_at_call 12; first
      | (refine (HD _ (Below.refl _ _)).mono ?_; rintro e w1 ⟨p, rfl, hw1, hp, _⟩; clear HD; replace hp := hp he.out; subst hp)
      | (refine (HD2 _ hw1).mono ?_; rintro e w2 ⟨p2, rfl, hw2, hp2, _⟩; clear HD2; replace hp2 := hp2 he.out; subst hp2; have hB2 := hw1.trans (hw2.mono hw1.size)))
    | (go_at_call 13; refine (HW _ hB2).mono ?_; rintro e w3 ⟨rfl, hw3⟩; clear HW; have hB3 := hB2.trans (hw3.mono hB2.size)))
  go_ret
  exact ⟨rfl, hB3⟩
set_option maxRecDepth 100000 in
set_option maxHeartbeats 8000000 in
theorem goes_good (s : List UInt8) (l : List BT) (a : Option Addr) (cap : Nat) (w : World) (hG : Sh.Glob w) (hl : s.length ≤ 140737488355328) (hB : BA w a l) (hll : l.length ≤ maxLen) (he : decE s = 0) :
    Calls Tryz.prog 31 #[.string ⟨s.toArray⟩, .slice a l.length cap] w fun e w' => e = .returned (.bool true) ∧ Below w.heap.size w w' := by
  have h2w := hG.two
  have HD := fun w1 (hb : Below w.heap.size w w1) => decCh_any s w1 (hG.belowSize hb) hl
  have HW := fun w1 (hb : Below w.heap.size w w1) => awakeC_any w1 (hG.belowSize hb)
  have HK := fun w1 (hb : Below w.heap.size w w1) => good_any l a cap w w1 hb hB hll
  obtain ⟨hok, _, hcnt⟩ := dec_good he
  have hk0 : (decC s).kept.length = 0 := rfl
  unfold DcP at HD
  rw [he] at HD
  have HD2 := HD
  unfold GdP at HK
  generalize hKe : goodL l = K at *
  have hK8 : K.length ≤ 8 := by rw [← hKe]; exact goodL_len l
  have hKok : ∀ b ∈ K, chkB b = 0 := fun b hb => goodL_ok (l := l) (by rw [hKe]; exact hb)
  generalize decC s = c0 at *
  have HW2 := HW
  clear hKe hB hll he
  have hf0 := run_fieldT0
  have hf1 := run_fieldT1
  go_enter Tryz.func31, Tryz.ntmps31
  go_wp2_with (first
    | (go_at_call 12; first
      | (refine (HD _ (Below.refl _ _)).mono ?_; rintro e w1 ⟨p, rfl, hw1, _, hp⟩; clear HD; obtain ⟨ca, sa, ta, rfl, hA⟩ := hp (by trivial); clear hp; have hAlt := hA.lt)
      | (refine (HD2 _ hw1).mono ?_; rintro e w2 ⟨p2, rfl, hw2, _, hp2⟩; clear HD2; obtain ⟨cb, sb, tb, rfl, hBc⟩ := hp2 (by trivial); clear hp2; replace hA := hA.below hw2; have hB2 := hw1.trans (hw2.mono hw1.size)))
    | (go_at_call 18; refine (HK _ hB2).mono ?_; rintro e w3 ⟨ak, ck, lo, dls, rfl, hGB, hw3⟩; clear HK; replace hA := hA.below hw3; replace hBc := hBc.below hw3; have hB3 := hB2.trans (hw3.mono hB2.size)))
  obtain ⟨q1, q2, q3⟩ := hAlt
  obtain ⟨q5, q6, q7, q8⟩ := hBc.low
  have n1 : ca ≠ cb := by omega
  have n2 : sa ≠ sb := by omega
  have n3 : ta ≠ tb := by omega
  have hNB : w.heap.size ≤ w1.heap.size := hw1.size
  generalize w1.heap.size = NB at *
  have hst : GO w w3 w.heap.size ca sa ta (.slice none 0 0) NB cb sb tb (.slice none 0 0) c0 8 := ⟨hA, hBc, hok, by omega, by omega, ⟨n1, n2, n3⟩, fun r e => (by cases e), hB3⟩
  clear hA hBc hw1 hw2 hw3 hB2 hB3 q1 q2 q3 q5 q6 q7 q8 n1 n2 n3 hok hcnt hk0
  go_loopw [10] (fun v10 wl => ∃ (i : Nat) (slA slB : Value) (c : CN) (n : Nat), i ≤ K.length ∧ v10 = .int .i64 i ∧ n + i = 8 ∧ GO w wl w.heap.size ca sa ta slA NB cb sb tb slB c n ∧ GB w wl lo (.slice ak K.length ck) dls K) (fun v10 _ => K.length - (intOf v10).toNat)
  case atStart => exact ⟨0, _, _, c0, 8, by omega, rfl, rfl, hst, hGB⟩
  case round =>
    obtain ⟨i, slA, slB, c, n, hil, rfl, hni, hN, hGB⟩ := hrel
    clear hst
    by_cases hlt : i < K.length
    · obtain ⟨g, xa, xa2, xc, xc2, rfl, hR⟩ := hGB.at i hlt
      have hbok := hKok _ (List.getElem_mem hlt)
      have hz1 : (0 : Int) ≤ (i : Int) := by omega
      have hz2 : (i : Int) < (K.length : Int) := by omega
      have HT := fun w1 (h : CH w1 w.heap.size ca sa ta slA c) => tipC_any _ _ _ _ _ _ w1 h hN.ok
      by_cases hht : c.ht = 18446744073709551615
      · have hd : ((c.ht : Int) == 18446744073709551615) = true := by rw [beq_iff_eq]; omega
        replace hht : Hid (c.ht = 18446744073709551615) := hht
        have hbl := hN.bl
        have hA := hN.a
        clear hN
        go_wp2_with (first
          | (go_at_call 16; refine (HT _ hA).mono ?_; rintro e w5 ⟨g5, cap5, rfl, _, hw5⟩; clear HT; have hB5 := hbl.trans (hw5.mono hbl.size))
          | (go_at_call 13; refine (HW2 _ hB5).mono ?_; rintro e w6 ⟨rfl, hw6⟩; clear HW2; have hB6 := hB5.trans (hw6.mono hB5.size)))
        go_ret
        exact ⟨rfl, hB6⟩
      · have hd : ((c.ht : Int) == 18446744073709551615) = false := by rw [beq_eq_false_iff_ne]; omega
        have hh : c.ht + 1 < 18446744073709551616 := by have := hN.ok.ht; omega
        replace hht : Hid (¬ c.ht = 18446744073709551615) := hht
        have hn1 : 1 ≤ n := by omega
        have hcn := hN.cnt
        have hkl := hN.kl
        have hok := hN.ok
        have HAp := fun w1 (hb : Below wr.heap.size wr w1) => applyC_any w.heap.size ca sa ta slA c w1 (hN.a.below hb) hok K[i] hbok (by omega) hh (by omega) xa xa2 xc xc2 (hR.tx.below hb) (hR.mem.below hb)
        have HAd := fun w1 gm cm a2 cap2 (h : CH w1 NB cb sb tb slB c) (h2 : AB w1 gm a2 cap2 (mkB c K[i])) => add_made h hok hbok (by omega) hh (by omega) gm cm cap2 a2 h2
        have hok2 := nextC_ok hok hbok hh
        have hcn2 := nextC_cnt hok hbok
        have hkl2 : (nextC c K[i]).kept.length = c.kept.length + 1 := by show (c.kept ++ [_]).length = _; rw [List.length_append, List.length_singleton]
        have hbI : ∀ gm cm a2 cap2, (Tryz.prog.info? 53).map (·.size) = some (bkv (mkB c K[i]) gm cm a2 cap2).size := fun _ _ _ _ => bk_info _ _ _ _ _ _
        have hb1 : ∀ gm cm a2 cap2, (bkv (mkB c K[i]) gm cm a2 cap2).all (·.oneCell') = true := fun _ _ _ _ => bk_one _ _ _ _ _ _ _ _ _ _
        have hb6 : ∀ gm cm a2 cap2, (bkv (mkB c K[i]) gm cm a2 cap2).size = 6 := fun _ _ _ _ => rfl
        have HTa := fun sl w1 (h : CH w1 w.heap.size ca sa ta sl (nextC c K[i])) => tipC_any _ _ _ _ _ _ w1 h hok2
        have HTb := fun sl w1 (h : CH w1 NB cb sb tb sl (nextC c K[i])) => tipC_any _ _ _ _ _ _ w1 h hok2
        have HEa := fun sl w1 (h : CH w1 w.heap.size ca sa ta sl (nextC c K[i])) => encC_any _ _ _ _ _ _ w1 h hok2
        have HEb := fun sl w1 (h : CH w1 NB cb sb tb sl (nextC c K[i])) => encC_any _ _ _ _ _ _ w1 h hok2
        obtain ⟨m1, m2, m3⟩ := hN.ne
        have hrow0 := hN.row
        have hltH : Hid (i < K.length) := hlt
        have hniH : Hid (n + i = 8) := hni
        have hnum : Hid ((nextC c K[i]).t.cnt + 144 * (n - 1) ≤ 3300 ∧ (nextC c K[i]).kept.length + (n - 1) ≤ 1000000) := ⟨by omega, by omega⟩
        unfold ApC at HAp
        generalize nextC c K[i] = c2 at *
        have hA0 := hN.a
        have hB0 := hN.b
        have hW0 := hN.bl
        have hRg := hR.rng
        have hRgb := fun w1 (hb : Below wr.heap.size wr w1) => (show w1.rangeAt g (i * 3) _ from fun j v hv => (hb.cell (World.block_lt_of_cell? _ _ (hRg j v hv))).trans (hRg j v hv))
        clear hN hRg
        clear hcn hkl hcn2 hkl2 hn1 hni hht hh hbok
        generalize K[i] = b at *
        clear hR hlt
        go_upto_region 12 with (first
          | (go_at_call 16; refine (HT _ hA0).mono ?_; rintro e w5 ⟨g5, cap5, rfl, _, hw5⟩; clear HT; have hA5 := hA0.below hw5; have hB5 := hB0.below hw5; have hGB5 := hGB.below hw5; have hW5 := hW0.trans (hw5.mono hW0.size); have hRg5 := hRgb _ hw5; have HAp5 := HAp _ hw5; clear hA0 hB0 hGB hW0 hRgb HAp)
          | (go_at_call 19; refine HAp5.mono ?_; rintro e w11 ⟨slA', gm, cm, ab, capb, st, sc, rfl, hA1, hAB, hO, hrow⟩; clear HAp5; have hB1 := hA5.apart hB5 hO m1.symm m2.symm m3.symm (fun r hr e => hrow0 r e hr); have hrow1 : Hid (∀ r, Sh.slBlk slA' = some r → Sh.slBlk slB ≠ some r) := (fun r h1 e => by
              rcases hrow r h1 with h2 | h2
              · exact hrow0 r h2 e
              · have := (hB5.blocks (.inr (.inr (.inr e.symm)))).2
                omega); have hGB1 := hGB5.own hA5 hO (Nat.le_refl _); have hW1 := hW5.trans ((hA5.ownBelow hO).mono (Nat.le_refl _)); clear hO hrow hA5 hB5 hGB5 hW5 hRg5 hrow0)
          | (with_reducible refine at_list ?_; first
            | (refine wpList_loadOp (op := ⟨some 49, _, _, _, _, _⟩) rfl _ _ rfl g (i * 3) rfl _ hRg5 _ Tryz.underlying58 rfl (bc_info _ _ _) ?_)
            | (refine wpList_allocRow (op := ⟨some 11, _, _, _, _, _⟩) rfl _ rfl _ zBlk.1 ?_; intro w12 hw12 hs12 h15z; clear hs12; have hrA := hA1.rowNew; have hrB := hB1.rowNew; have hA2 := hA1.below hw12; have hB2 := hB1.below hw12; have hGB2 := hGB1.below hw12; have hAB2 := hAB.stay (Stay.of_below hw12); have hW2 := hW1.trans (hw12.mono hW1.size); clear hA1 hB1 hGB1 hAB hw12)
            | (refine wpList_storeRow (op := ⟨none, .store 53 (.tmp 11) (.tmp 51), _, _, _, _⟩) rfl _ _ _ rfl w11.heap.size (bkv (mkB c b) gm cm ab capb) rfl rfl _ _ h15z (by rw [hb6, bk_size]) (hbI _ _ _ _) (hb1 _ _ _ _) ?_; intro w13 hg13 hs13 h15; clear hs13; have hA3 := hA2.local hg13 h15z (Nat.le_trans h2w hW1.size) (by decide) hrA; have hB3 := hB2.local hg13 h15z (Nat.le_trans h2w hW1.size) (by decide) hrB; have hGB3 := hGB2.local hg13 h15z (by decide) hW1.size; have hAB3 := hAB2.stay (stay_blk hg13 h15z (by decide)); have hW3 := hW2.trans (below_of_grown hg13 hW1.size hW2.size); clear hg13 h15z hA2 hB2 hGB2 hAB2 hW2 hW1 hrA hrB)))
        have HAd3 := HAd _ _ cm _ _ hB3 hAB3
        have hbo := fun w1 (hO : Own (ownC cb sb tb slB) w13 w1) => hB3.apart hA3 hO m1 m2 m3 (fun r h1 h2 => hrow1.out r h1 h2)
        have hGBo := fun w1 (hO : Own (ownC cb sb tb slB) w13 w1) => hGB3.own hB3 hO hNB
        have hWo := fun w1 (hO : Own (ownC cb sb tb slB) w13 w1) => hW3.trans ((hB3.ownBelow hO).mono hNB)
        have hro : Hid (∀ slB', (∀ r, Sh.slBlk slB' = some r → Sh.slBlk slB = some r ∨ w13.heap.size ≤ r) → ∀ r, Sh.slBlk slA' = some r → Sh.slBlk slB' ≠ some r) := fun slB' h1 r h2 e => by
          rcases h1 r e with h3 | h3
          · exact hrow1.out r h2 h3
          · have := (hA3.blocks (.inr (.inr (.inr h2.symm)))).2
            omega
        clear HAd hA3 hB3 hAB3 hGB3 hW3
        generalize encC c2 = ec at *
        go_wp2_with (first
          | (go_at_call 26; refine HAd3.mono ?_; rintro e w15 ⟨rfl, slB', hB4, hO5, hrow5⟩; clear HAd3; have hA4 := hbo w15 hO5; have hGB4 := hGBo w15 hO5; have hW4 := hWo w15 hO5; have hrw5 : Hid (∀ r, Sh.slBlk slA' = some r → Sh.slBlk slB' ≠ some r) := hro.out slB' hrow5; clear hO5 hrow5 hbo hGBo hWo hro)
          | (go_at_call 16; first
            | (refine (HTa _ _ hA4).mono ?_; rintro e w16 ⟨g6, cap6, rfl, _, hw6⟩; clear HTa; replace hA4 := hA4.below hw6; replace hB4 := hB4.below hw6; replace hGB4 := hGB4.below hw6; replace hW4 := hW4.trans (hw6.mono hW4.size); clear hw6)
            | (refine (HTb _ _ hB4).mono ?_; rintro e w17 ⟨g7, cap7, rfl, _, hw7⟩; clear HTb; replace hA4 := hA4.below hw7; replace hB4 := hB4.below hw7; replace hGB4 := hGB4.below hw7; replace hW4 := hW4.trans (hw7.mono hW4.size); clear hw7))
          | (go_at_call 14; first
            | (refine (HEa _ _ hA4).mono ?_; rintro e w18 ⟨rfl, hw8⟩; clear HEa; replace hA4 := hA4.below hw8; replace hB4 := hB4.below hw8; replace hGB4 := hGB4.below hw8; replace hW4 := hW4.trans (hw8.mono hW4.size); clear hw8)
            | (refine (HEb _ _ hB4).mono ?_; rintro e w19 ⟨rfl, hw9⟩; clear HEb; replace hA4 := hA4.below hw9; replace hB4 := hB4.below hw9; replace hGB4 := hGB4.below hw9; replace hW4 := hW4.trans (hw9.mono hW4.size); clear hw9))
          | (with_reducible refine at_list ?_; first
            | (refine wpList_loadRowG (op := ⟨some 58, _, _, _, _, _⟩) rfl _ _ rfl w11.heap.size rfl _ _ h15 _ Tryz.underlying53 rfl (hbI _ _ _ _) ?_)))
        go_roundw
        case rel => exact ⟨i + 1, slA', slB', c2, n - 1, hltH.out, by go_num, by have := hniH.out; have := hltH.out; omega, ⟨hA4, hB4, hok2, hnum.out.1, hnum.out.2, ⟨m1, m2, m3⟩, hrw5.out, hW4⟩, hGB4⟩
        case measure => have := hltH.out; simp [intOf]; omega
    · have hz2 : ¬ (i : Int) < (K.length : Int) := by omega
      have hbl := hN.bl
      clear hN hGB
      go_wp2_with (go_at_call 13; refine (HW2 _ hbl).mono ?_; rintro e w6 ⟨rfl, hw6⟩; clear HW2; have hB6 := hbl.trans (hw6.mono hbl.size))
      go_ret
      exact ⟨rfl, hB6⟩
theorem chainGoes_any (s : List UInt8) (l : List BT) (a : Option Addr) (cap : Nat) (w : World) (hG : Sh.Glob w) (hl : s.length ≤ 140737488355328) (hB : BA w a l) (hll : l.length ≤ maxLen) :
    Calls Tryz.prog 31 #[.string ⟨s.toArray⟩, .slice a l.length cap] w fun e w' => e = .returned (.bool true) ∧ Below w.heap.size w w' := by
  by_cases he : decE s = 0
  · exact goes_good s l a cap w hG hl hB hll he
  · exact goes_bad s w hG hl _ he
set_option maxRecDepth 100000 in
theorem chainGoes_all (s : List UInt8) (l : List BT) (a : Option Addr) (cap : Nat) (w : World) (hG : Sh.Glob w) (hl : s.length ≤ 140737488355328) (hB : BA w a l) (hll : l.length ≤ maxLen) :
    Calls Tryz.prog 8 #[.string ⟨s.toArray⟩, .slice a l.length cap] w fun e w' => e = .returned (.bool true) ∧ Below w.heap.size w w' := by
  have HC := chainGoes_any s l a cap w hG hl hB hll
  go_enter Tryz.func8, Tryz.ntmps8
  go_wp2_with (go_at_call 31; refine HC.mono ?_; rintro e w1 ⟨rfl, hw1⟩; clear HC)
  go_ret
  exact ⟨rfl, hw1⟩
end
end Go.Proofs.YtmbdhngoldganaaGreatDoor
namespace Go.Proofs.YtmbdhngoldganaaGreatDoor
open Go Go.ChangeShapes Go.WideShapes Go.ChangeAt Go.WideMaps Go.WideElems Go.RowKit
open Go.ChangeMaps (open_string shut_string)
set_option maxRecDepth 100000 in
theorem chainGoes_lifted (os : Os) (started : os.Started) (H : Type) (enc : TypeId × Value → H) :
    ReturnsInHanded {} Tryz.checked os 8 .any (fun w args => (Rows.chainGoesSpec.pre enc Tryz.prog Tryz.f8 [] false w args ∧ laidMetH Tryz.prog Rows.chainNilRow.laid w) ∧ sizedMet enc Tryz.prog Tryz.f8 (OpenSpec.ofChange Rows.chainGoesSpec) false w args)
      (Rows.chainGoesSpec.post enc Tryz.prog Tryz.f8 false true false false) := by
  refine returnsInHanded_of_change_and (C := Tryz.checked) (X := fun w _ => laidMetH Tryz.prog Rows.chainNilRow.laid w) (fun _ _ _ hh h => h.of_heap hh) Sh.ownK started (by kernel_rfl) Tryz.func8
    (ChangeSpec.witness_shaped (enc := enc) (C := Tryz.checked) (os := os) (X := fun w _ => laidMetH Tryz.prog Rows.chainNilRow.laid w) false (World.doorLaid Tryz.prog 400 os) #[.string ⟨#[]⟩, .slice none 0 0] 8 rfl (World.shaped_of_RefB (by kernel_rfl) (by kernel_rfl)) (by kernel_rfl) (by kernel_rfl) (by kernel_rfl) (Sh.door_met os _)) ?_
  intro W base args ds gs before hval0 hW _ hsz0 hL _
  have hsz : (DataW.weightsEach Tryz.prog (Tryz.f8.params.toList ++ Rows.chainGoesSpec.plain.varTypes Tryz.prog) (ds ++ gs)).all (· ≤ reachBytes) = true := hsz0
  have hval : ∀ (j : Nat) t v, Tryz.f8.params[j]? = some t → args[j]? = some v → Value.okWide Tryz.prog W .any base t v := hval0
  have hW' := hW
  obtain ⟨p, q, hA0, hV, rfl, hfz, hnd⟩ := hW
  have hA : DataW.TrodAll enc Tryz.prog W 0 (fun _ => true) true Tryz.f8.params.toList args.toList ds p := hA0
  rw [Tryz.params8] at hA hval hsz
  obtain ⟨v0, v1, d0, d1, p0, p1, rfl, rfl, rfl, h0, h1⟩ := trodAll_two hA
  obtain ⟨rfl, rfl⟩ := trodVars_none hV
  clear hA0 hval0 hsz0
  obtain ⟨k0, rfl, rfl, rfl, hk0⟩ := open_string Tryz.underlying9 (hval 0 9 v0 rfl rfl) h0
  have hl0 : k0.data.toList.length ≤ 140737488355328 := by
    have h1 := sized_string hsz (j := 0) (t := 9) (bytes := k0.data.toList) rfl rfl
    exact Nat.le_trans h1 (by decide)
  have lt1 : ∀ x ∈ p1, x.block < W.heap.size := by obtain ⟨m, hm⟩ := h1; exact DataW.trod_lt m _ _ _ hm
  obtain ⟨l1, a1, cap1, rfl, hB1, hc1, hx1⟩ := bats_of (hval 1 25 v1 rfl rfl) h1
  have hcall : Calls Tryz.prog 8 #[.string ⟨k0.data.toList.toArray⟩, .slice a1 l1.length cap1] W fun e w' => e = .returned (.bool true) ∧ Below W.heap.size W w' := chainGoes_all _ l1 a1 cap1 W (Sh.glob_of hL) hl0 hB1 hx1
  refine hcall.mono fun e W' ⟨he, bel⟩ => ?_
  subst he
  exact ⟨_, rfl, _, _, _, [], _, [], hW', trodAll_mk1 (shut_bool Tryz.underlying4 _), trodAll_mk2 (shut_string Tryz.underlying9 hk0) (Below.trod Sh.laidOutT (by kernel_rfl) (of_decide_eq_true (by kernel_rfl)) h1 bel lt1), rfl, bel.frame _, fun h => by cases h⟩

theorem chainGoes_holds : Rows.ChainGoesSaid :=
  OpenClaim.holds_of_wide 8 Tryz.f8 rfl rfl rfl rfl rfl rfl rfl ⟨rfl, rfl, rfl, rfl, rfl⟩ rfl rfl rfl rfl rfl (by kernel_rfl) Tryz.func8 (by kernel_rfl)
    (of_decide_eq_true (by kernel_rfl)) (by unfold Func.isWrapper; first | (rw [if_pos (by decide +kernel)]; kernel_rfl) | (rw [if_neg (by decide +kernel)]; exact ⟨rfl, rfl⟩))
    (fun os started H enc _ => chainGoes_lifted os started H enc)

theorem chainGoes_card : Rows.ChainGoesCardSaid :=
  Claim7.holds_tied_plain_at .later [] [.data, .data] true (true, "6fdc4d99b8ba02c22a4be4a7a7c6769339603fe1b55b7eef69d7d326c76bd50f") false
    chainGoes_holds (fun _ h => by cases h) (by kernel_rfl) (fun _ h => by cases h) chainGoes_row_tie rfl ⟨rfl, rfl⟩ (by kernel_rfl) rfl
    (fun f fn hf hfn => by
      obtain rfl : f = 8 := Option.some.inj ((show Tryz.prog.funcNamed Rows.chainGoesRow.func = some 8 by kernel_rfl).symm.trans hf) |>.symm
      obtain rfl : fn = Tryz.f8 := (Option.some.inj (Tryz.func8.symm.trans hfn)).symm
      exact ⟨by kernel_rfl, fun j t ht => by
        rw [Tryz.params8] at ht
        have hm : t ∈ [9, 25] := by simpa using Array.mem_of_getElem? ht
        have hall : ([9, 25].all fun u => !Tryz.prog.wantsStandIn u) = true := by kernel_rfl
        exact (show Tryz.prog.wantsStandIn t = false by
          have := List.all_eq_true.1 hall t hm
          simpa using this)⟩)
    (by kernel_rfl)
end Go.Proofs.YtmbdhngoldganaaGreatDoor
