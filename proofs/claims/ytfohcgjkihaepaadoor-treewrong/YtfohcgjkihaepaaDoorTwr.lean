/- TreeWrong tells true. -/
import Derived.Test.YtfohcgjkihaepaaDoorTex
namespace Go.Proofs.YtfohcgjkihaepaaDoor.Sh
open Go Go.RowKit
theorem ext200 (s : List UInt8) : (ByteArray.mk s.toArray).extract 0 200 = ByteArray.mk (s.take 200).toArray := by
  apply ByteArray.ext
  simp
/-- The list, the thing's place and its proof lie in memory. -/
structure Pf (w : World) (g c : Nat) (A : List (List UInt8)) (ap : Option Addr) (P : List (List UInt8)) (w1 : World) : Prop where
  bel : Below w.heap.size w w1
  sa : SS w1 g c A
  xp : XA w1 ap P
theorem Pf.to {w w1 w2 : World} {g c : Nat} {A P : List (List UInt8)} {ap : Option Addr} (h : Pf w g c A ap P w1) (hb : Below w1.heap.size w1 w2) : Pf w g c A ap P w2 :=
  ⟨h.bel.trans (hb.mono h.bel.size), h.sa.belowSize hb, h.xp.below hb⟩
theorem Pf.drew {w w1 : World} {g c : Nat} {A P : List (List UInt8)} {ap : Option Addr} (h : Pf w g c A ap P w1) : Pf w g c A ap P w1.drew := h.to (Below.refl _ _).drew
theorem not_good_len {n t : Nat} {P Q : List (List UInt8)} (h : goodP n t P) (hl : Q.length ≠ P.length) : ¬ goodP n t Q := fun hq => hl (hq.2.2.1.trans h.2.2.1.symm)
theorem blk_two {w : World} {b : Nat} {x y : Value} {t : TypeId} (h : Blk w b #[x, y] t) : w.cell? ⟨b, 0, none⟩ = some x ∧ w.cell? ⟨b, 1, none⟩ = some y := ⟨h.cell 0, h.cell 1⟩
/-- Of two unlike things under one root two unlike texts of one digest are extracted. -/
theorem extract_yes (a b : List UInt8) (i n : Int) (p q : List (List UInt8)) (ap aq : Option Addr) (cp cq : Nat) (w : World) (hn : n ≤ 100) (ha : a.length ≤ 1000) (hb : b.length ≤ 1000) (hX : XA w ap p) (hY : XA w aq q) (hG : Glob w) (h : a ≠ b ∧ goodP n i p ∧ goodP n i q ∧ topD digest n i a p = topD digest n i b q) :
    Calls Tryd.prog 18 #[.string ⟨a.toArray⟩, .string ⟨b.toArray⟩, .int .i64 i, .int .i64 n, .slice ap p.length cp, .slice aq q.length cq] w fun e w' => ∃ X Y : List UInt8, e = .returned (.tuple #[.agg #[.string ⟨X.toArray⟩, .string ⟨Y.toArray⟩], .bool true]) ∧ Below w.heap.size w w' ∧ X.length ≤ 1001 ∧ Y.length ≤ 1001 ∧ (X ≠ Y ∧ digest X = digest Y) := by
  refine (extract_any a b i n p q ap aq cp cq w hn ha hb hX hY hG).mono ?_
  rintro e w' ⟨X, Y, ok, rfl, hbl, h1, h2, h3, hok⟩
  obtain rfl : ok = true := hok.2 h
  exact ⟨X, Y, rfl, hbl, h1, h2, h3 rfl⟩
section
variable {P : Program} {ops : Array Oper} {o : Oper} {a : Act} {w : World} {K : Act → World → Prop} {Q : Exit → Act → World → Prop} {E : Prop}
/-- append of one text within a region that draws, behind a guard. -/
theorem step_appSW (hw : Region.wanted o (yielded ops a.tmps) = true) (x y : Operand) (t : TypeId) (hop : o.op = .call { callee := .builtin .append, args := #[x, y], argTypes := #[t, t] })
    (g cap : Nat) (l : List (List UInt8)) (hx : a.eval x = .slice (some ⟨g, 0, none⟩) l.length cap) (hbs : SS w g cap l) (g2 c : Nat) (hy : a.eval y = .slice (some ⟨g2, 0, none⟩) 1 c) (s : List UInt8) (ty2 : TypeId) (hb2 : Blk w g2 #[sv s] ty2) (i : TypeInfo)
    (hu : P.underlying t = some (.slice 9)) (hi : P.info? 9 = some i) (hz : i.zero = some (.string ⟨#[]⟩)) (hs : i.size = 1) (hby : i.bytes = 16) (hlen : l.length + 1 ≤ 1099511627776)
    (h : ∀ (w1 : World) (g1 cap1 : Nat), (g1 = g ∨ w.heap.size ≤ g1) → w.grownBy w1 (some g) → SS w1 g1 cap1 (l ++ [s]) → K (a.put o.dst (.slice (some ⟨g1, 0, none⟩) (l.length + 1) cap1)) w1) :
    if Region.wanted o (yielded ops a.tmps) = true then Oper.wp P o a w K Q else E := by
  rw [if_pos hw]
  obtain ⟨w1, g1, cap1, hr, hg1, hg, hb⟩ := run_appendSS (P := P) t o.type g cap l hbs g2 c s ty2 hb2 i hu hi hz hs hby hlen
  unfold Oper.wp
  simp [execOp, hop, resolve, invoke, builtin, hx, hy, hr, Result.andThen]
  exact h w1 g1 cap1 hg1 hg hb
end
set_option maxRecDepth 100000 in
set_option maxHeartbeats 1000000 in
theorem treeWrong_nil (x : List (List UInt8)) (u v : Int) (s : List UInt8) (ax : Option Addr) (cx : Nat) (w : World) (hG : Glob w) (hX : XA w ax x) (h0 : (fewD x).length = 0) :
    Calls Tryd.prog 4 #[.slice ax x.length cx, .agg #[.int .i64 u, .int .i64 v], .string ⟨s.toArray⟩] w fun e w' => e = .returned (.bool true) ∧ Below w.heap.size w w' := by
  have HF1 := fun w1 (hb : Below w.heap.size w w1) => few_any x ax cx w1 (hX.below hb)
  have HW := fun w1 (hb : Below w.heap.size w w1) => awake_any w1 (hG.belowSize hb)
  simp only [h0] at HF1
  clear hX hG h0
  go_enter Tryd.func4, Tryd.ntmps4
  go_wp2_with (with_reducible refine at_list ?_; refine wpList_boxRow (op := ⟨some 4, _, _, _, _, _⟩) rfl _ _ rfl #[.int .i64 u, .int .i64 v] rfl ?_; intro w1 hw1 hs1 hb1; replace hs1 := hs1.symm)
  have q0 : w1.cell? ⟨w.heap.size, 0, none⟩ = some (.int .i64 u) := hb1.cell 0
  have q1 : w1.cell? ⟨w.heap.size, 1, none⟩ = some (.int .i64 v) := hb1.cell 1
  go_quiet (fail)
  have B2 := below_draws hw1 nq
  go_wp2_with (first
    | (go_at_call 8; refine (HF1 _ B2).mono ?_; rintro e w3 ⟨g, c, rfl, hSa, hga, hw3⟩; have B3 := B2.trans (hw3.mono B2.size))
    | (go_at_call 11; refine (HW _ B3).mono ?_; rintro e w4 ⟨rfl, hw4⟩))
  go_ret
  exact ⟨rfl, B3.trans (hw4.mono B3.size)⟩
section
attribute [local go_sem] mkApp_nat mkApp0 mkApp1 ext200
set_option maxRecDepth 100000 in
set_option maxHeartbeats 4000000 in
theorem treeWrong_some (x : List (List UInt8)) (u v : Int) (s : List UInt8) (ax : Option Addr) (cx : Nat) (w : World) (hG : Glob w) (hX : XA w ax x) (hu : -9223372036854775808 ≤ u ∧ u ≤ 9223372036854775807) (hsz : s.length ≤ 140737488355328) (h0 : 0 < (fewD x).length) :
    Calls Tryd.prog 4 #[.slice ax x.length cx, .agg #[.int .i64 u, .int .i64 v], .string ⟨s.toArray⟩] w fun e w' => e = .returned (.bool true) ∧ Below w.heap.size w w' := by
  obtain ⟨iop, hio, hz, hiz, hby⟩ := info9
  have HF1 := fun w1 (hb : Below w.heap.size w w1) => few_any x ax cx w1 (hX.below hb)
  have la := fewD_len x
  have hfs := few_small x
  have HW := fun w1 (hb : Below w.heap.size w w1) => awake_any w1 (hG.belowSize hb)
  obtain ⟨r, t, er, er1, er2, er3, ht⟩ := place_of u (fewD x).length h0 (by omega) hu
  have HA := fun w1 g c (h : SS w1 g c (fewD x)) (hb : Below w.heap.size w w1) => root_ss h (by omega) (few_small x) (hG.belowSize hb)
  have HP := fun w1 g c (h : SS w1 g c (fewD x)) (hb : Below w.heap.size w w1) => prove_any (fewD x) (some ⟨g, 0, none⟩) c t w1 h.xa h.le (by omega) (few_small x) (hG.belowSize hb) ht
  obtain ⟨y, hy⟩ : ∃ y, (fewD x)[t]? = some y := ⟨_, List.getElem?_eq_getElem ht⟩
  have hyl : y.length ≤ 1000 := few_small x y (List.mem_of_getElem? hy)
  have hgood : Hid (goodP (fewD x).length t (pathD digest (fewD x) t)) := good_path digest digest_length ht
  have htop : Hid (topD digest (fewD x).length t y (pathD digest (fewD x) t) = rootD digest (fewD x)) := by obtain ⟨_, rfl⟩ := List.getElem?_eq_some_iff.1 hy; exact top_path digest ht
  have hrl := root_len digest digest_length (fewD x)
  have hpl : (pathD digest (fewD x) t).length ≤ 1000 := path_short digest (fewD x) t (by omega)
  -- the text, cut
  obtain ⟨s', hs'⟩ : ∃ s', s' = s.take 200 := ⟨_, rfl⟩
  have hsl : s'.length ≤ 1000 := by rw [hs', List.length_take]; omega
  replace hs' : Hid (s' = s.take 200) := hs'
  generalize fewD x = A at *
  generalize pathD digest A t = P at *
  generalize rootD digest A = R at *
  have HV1 := fun w1 ap cp b (hb : b = true ↔ goodP A.length t P ∧ topD digest A.length t s' P = R) (h : XA w1 ap P) (hl : Below w.heap.size w w1) => verify_any R s' t A.length P ap cp w1 (by omega) hsl h (hG.belowSize hl) b hb
  have HE := fun w1 ap cp (h : XA w1 ap P) (hl : Below w.heap.size w w1) hh => extract_yes y s' t A.length P P ap ap cp cp w1 (by omega) hyl hsl h h (hG.belowSize hl) hh
  have HCo := fun w1 X Y (hb : Below w.heap.size w w1) (h1 : X.length ≤ 1001) (h2 : Y.length ≤ 1001) (hc : X ≠ Y ∧ digest X = digest Y) => collide_any X Y true ⟨fun _ => hc, fun _ => rfl⟩ w1 (hG.belowSize hb) h1 h2
  have hnz : ((A.length : Int) == 0) = false := by rw [beq_eq_false_iff_ne]; omega
  have hnz2 : ¬ A.length = 0 := by omega
  have ht1 : (0 : Int) ≤ (t : Int) := by omega
  have ht2 : (t : Int) < (A.length : Int) := by omega
  replace hy : Hid (A[t]? = some y) := hy
  clear hX hu
  go_enter Tryd.func4, Tryd.ntmps4
  go_wp2_with (with_reducible refine at_list ?_; refine wpList_boxRow (op := ⟨some 4, _, _, _, _, _⟩) rfl _ _ rfl #[.int .i64 u, .int .i64 v] rfl ?_; intro w1 hw1 hs1 hb1; replace hs1 := hs1.symm)
  have q0 : w1.cell? ⟨w.heap.size, 0, none⟩ = some (.int .i64 u) := hb1.cell 0
  have q1 : w1.cell? ⟨w.heap.size, 1, none⟩ = some (.int .i64 v) := hb1.cell 1
  go_quiet (fail)
  have B2 := below_draws hw1 nq
  clear q0 q1 hb1 hs1
  go_upto_if 53 with (first
    | (go_at_call 8; refine (HF1 _ B2).mono ?_; rintro e w3 ⟨g, c, rfl, hSa, hga, hw3⟩; have T : Lst w g c A w3 := ⟨B2.trans (hw3.mono B2.size), hSa⟩)
    | (go_at_call 9; refine (HA _ _ _ T.sa T.bel).mono ?_; rintro e w4 ⟨rfl, hw4⟩; replace T := T.to hw4)
    | (go_at_call 10; refine (HP _ _ _ T.sa T.bel).mono ?_; rintro e w5 ⟨sl, rfl, hV5, hw5⟩; obtain ⟨ap, cp, rfl⟩ := hV5.form; rw [List.length_map] at hV5 ⊢; have hXp := hV5.texts; replace T := T.to hw5)
    | (go_at_call 11; refine (HW _ T.bel).mono ?_; rintro e w6 ⟨rfl, hw6⟩; replace T := T.to hw6; replace hXp := hXp.below hw6))
  have T : Pf w g c A ap P w6 := ⟨T.bel, T.sa, hXp⟩
  clear HF1 HP HA hV5 hXp hw1 B2
  go_cut [2] from 54 to 55 (fun s2 wx => s2 = .string ⟨s'.toArray⟩ ∧ wx = w6)
  case first =>
    by_cases hl : 200 < s.length
    · go_wp2_with fail
      go_meet
      case rel => exact ⟨by rw [hs'.out], rfl⟩
    · go_wp2_with fail
      go_meet
      case rel => exact ⟨by rw [show s' = s from hs'.out.trans (List.take_of_length_le (by omega))], rfl⟩
  case rest =>
    obtain ⟨rfl, hwc⟩ := hcut
    have hwc := hwc.symm
    subst hwc
    have c6 := T.sa.get hy.out
    go_upto_region 12 with fail
    go_cut [70] from 56 to 69 (fun s70 wx => ∃ b : Bool, s70 = .bool b ∧ (b = true → s' ≠ y ∧ topD digest A.length t s' P = R) ∧ Below w6.heap.size w6 wx)
    case first =>
      by_cases he : s' = y
      · have hb1 : (s' == y) = true := by rw [beq_iff_eq]; exact he
        have hb2 : (s' != y) = false := by rw [bne_eq_false_iff_eq]; exact he
        clear he
        go_wp2_with fail
        go_meet
        case rel => exact ⟨false, rfl, fun h => Bool.noConfusion h, Below.refl _ _⟩
      · have hb1 : (s' == y) = false := by rw [beq_eq_false_iff_ne]; exact he
        have hb2 : (s' != y) = true := by rw [bne_iff_ne]; exact he
        by_cases hv : topD digest A.length t s' P = R
        · have HV1 := fun w1 ap cp => HV1 w1 ap cp true ⟨fun _ => ⟨hgood.out, hv⟩, fun _ => rfl⟩
          go_wp2_with (go_at_call 13; refine (HV1 _ _ _ T.xp T.bel).mono ?_; rintro e w7 ⟨rfl, hw7⟩)
          go_meet
          case rel => exact ⟨true, rfl, fun _ => ⟨he, hv⟩, hw7⟩
        · have HV1 := fun w1 ap cp => HV1 w1 ap cp false ⟨fun h => Bool.noConfusion h, fun h => absurd h.2 hv⟩
          go_wp2_with (go_at_call 13; refine (HV1 _ _ _ T.xp T.bel).mono ?_; rintro e w7 ⟨rfl, hw7⟩)
          go_meet
          case rel => exact ⟨false, rfl, fun h => Bool.noConfusion h, hw7⟩
    case rest =>
      obtain ⟨b, rfl, hbt, hw7⟩ := hcut
      replace T := T.to hw7
      clear hw7 c6
      have c7 := T.sa.get hy.out
      cases b
      · clear hbt HE HCo
        have Tc := T
        go_upto_region 17 with (with_reducible refine at_list ?_; first
          | (refine wpList_tsl0 (op := ⟨some 90, _, _, _, _, _⟩) rfl rfl ?_; intro w8 hw8 hs8 hS8; replace hs8 := hs8.symm)
          | (refine wpList_appendSM (op := ⟨some 92, _, _, _, _, _⟩) rfl _ _ 22 rfl wc.heap.size 0 [] 0 rfl rfl hS8 ap cp P rfl (T.to hw8).xp iop Tryd.underlying22 hio hz hiz hby (by simp; omega) ?_; intro w9 g9 c9 hg9 hgr9 hS9; have hB9 := hw8.trans (below_of_grown hgr9 (Nat.le_refl _) hw8.size); replace T := T.to hB9; rw [List.nil_append] at hS9; rw [Nat.zero_add]))
        have k9 := T.sa.get hy.out
        have hg9' : wc.heap.size ≤ g9 := by
          rcases hg9 with rfl | h
          · exact Nat.le_refl _
          · exact Nat.le_trans hw8.size h
        obtain ⟨d, hd⟩ : ∃ d, bits BinOp.and IntKind.i64 v 3 = d := ⟨_, rfl⟩
        have HVa := fun w1 ap cp Q (hq : Q.length ≠ P.length) (h : XA w1 ap Q) (hl : Below w.heap.size w w1) => verify_any R y t A.length Q ap cp w1 (by omega) hyl h (hG.belowSize hl) false ⟨fun h => Bool.noConfusion h, fun h => absurd h.1 (not_good_len hgood.out hq)⟩
        have HVb := fun w1 g1 c1 z (h : SS w1 g1 c1 (P ++ [z])) (hl : Below w.heap.size w w1) => HVa w1 (some ⟨g1, 0, none⟩) c1 (P ++ [z]) (by simp) h.xa hl
        simp only [List.length_append, List.length_singleton] at HVb
        have HVc := fun w1 a1 c1 (hp : 0 < P.length) (h : XA w1 a1 (P.drop 1)) (hl : Below w.heap.size w w1) => HVa w1 a1 c1 (P.drop 1) (by rw [List.length_drop]; omega) h hl
        simp only [List.length_drop] at HVc
        have hT1 : ∀ w1 : World, (Instr.buildSlice 22 1 #[(0, .string ⟨R.toArray⟩)]).run Tryd.prog w1 = .ok (.slice (some ⟨w1.heap.size, 0, none⟩) 1 1) (w1.alloc (.cells #[.string ⟨R.toArray⟩] 9)) := fun w1 => tsl1 R w1
        have hT2 : ∀ w1 : World, (Instr.buildSlice 22 1 #[(0, .string ⟨#[115, 104, 111, 114, 116]⟩)]).run Tryd.prog w1 = .ok (.slice (some ⟨w1.heap.size, 0, none⟩) 1 1) (w1.alloc (.cells #[.string ⟨#[115, 104, 111, 114, 116]⟩] 9)) := fun w1 => tsl1 [115, 104, 111, 114, 116] w1
        clear hs8 hS8 hg9 hgr9
        have hAl : ∀ o : Obj, Below w9.heap.size w9 (w9.alloc o).drew := fun o => ((Below.refl w9.heap.size w9).alloc (Nat.le_refl _) o).drew
        have hAlc : ∀ o : Obj, Below wc.heap.size wc (w9.alloc o).drew := fun o => hB9.trans ((hAl o).mono hB9.size)
        have kAl : ∀ o : Obj, (w9.alloc o).drew.cell? ⟨g, t, none⟩ = some (.string ⟨y.toArray⟩) := fun o => ((hAl o).cell (World.block_lt_of_cell? _ _ k9)).trans k9
        by_cases d0 : d = 0
        · have e0 : (d == 0) = true := by rw [beq_iff_eq]; exact d0
          clear d0
          go_wp2_with fail
          go_region_held3 (fun w' => w'.cell? ⟨g, t, none⟩ = some (.string ⟨y.toArray⟩)) (first | assumption | exact k9 | exact kAl _) (first
            | (refine step_appSS (by rfl) _ _ 22 (by rfl) g9 c9 P (by rfl) (hS9.belowSize (hAl _)) w9.heap.size 1 (by rfl) R 9 (Blk.new w9 _ _).drew iop Tryd.underlying22 hio hz hiz hby (by omega) ?_; intro w10 g10 c10 hg10 hgr10 hS10; have T10 := Tc.to ((hAlc _).trans (below_of_grown hgr10 hg9' (hAlc _).size)); have k10 := T10.sa.get hy.out)
            | (go_at_call 13; refine (HVb w10 g10 c10 R hS10 T10.bel).mono ?_; rintro e w11 ⟨rfl, hw11⟩; have T11 := T10.to hw11; have k11 := T11.sa.get hy.out))
          go_wp2_with fail
          go_ret
          exact ⟨rfl, T11.bel⟩
        · have e0 : (d == 0) = false := by rw [beq_eq_false_iff_ne]; exact d0
          clear d0
          by_cases d1 : d = 1
          · have e1 : (d == 1) = true := by rw [beq_iff_eq]; exact d1
            clear d1
            by_cases hp0 : P.length = 0
            · have f0 : ((P.length : Int) == 0) = true := by rw [beq_iff_eq]; omega
              clear hp0
              go_wp2_with fail
              go_quiet (fail)
              go_wp2_with fail
              go_ret
              exact ⟨rfl, below_draws T.bel _⟩
            · have f0 : ((P.length : Int) == 0) = false := by rw [beq_eq_false_iff_ne]; omega
              have hpp : 0 < P.length := by omega
              have hle := hS9.le
              have f1 : (1 : Int) ≤ (P.length : Int) := by omega
              have f2 : (P.length : Int) ≤ (c9 : Int) := by omega
              have f3 : (1 : Int) ≤ (c9 : Int) := by omega
              have hX9 := hS9.xa.drop 1
              rw [Nat.zero_add] at hX9
              clear hp0
              by_cases hc1 : c9 = 1
              · have hP1 : P.length = 1 := by omega
                have HVd := fun w1 a1 c1 (hl : Below w.heap.size w w1) => HVa w1 a1 c1 [] (by rw [hP1]; decide) (XA.nil _ _) hl
                subst hc1
                go_wp2_with fail
                go_region_held3 (fun w' => w'.cell? ⟨g, t, none⟩ = some (.string ⟨y.toArray⟩)) (first | assumption | exact k9) ((go_at_call 13; refine (HVd w9.drew (some ⟨g9, 0, none⟩) 0 T.drew.bel).mono ?_; rintro e w11 ⟨rfl, hw11⟩; have T11 := T.drew.to hw11; have k11 := T11.sa.get hy.out))
                go_wp2_with fail
                go_ret
                exact ⟨rfl, T11.bel⟩
              · go_wp2_with fail
                go_region_held3 (fun w' => w'.cell? ⟨g, t, none⟩ = some (.string ⟨y.toArray⟩)) (first | assumption | exact k9) ((go_at_call 13; refine (HVc w9.drew (some ⟨g9, 1, none⟩) (c9 - 1) hpp (hX9.below (Below.refl _ _).drew) T.drew.bel).mono ?_; rintro e w11 ⟨rfl, hw11⟩; have T11 := T.drew.to hw11; have k11 := T11.sa.get hy.out))
                go_wp2_with fail
                go_ret
                exact ⟨rfl, T11.bel⟩
          · have e1 : (d == 1) = false := by rw [beq_eq_false_iff_ne]; exact d1
            clear d1
            by_cases d2 : d = 2
            · have e2 : (d == 2) = true := by rw [beq_iff_eq]; exact d2
              clear d2
              have hx1 : (ByteArray.mk R.toArray).extract 1 32 = ByteArray.mk (R.drop 1).toArray := by
                apply ByteArray.ext
                simp
                exact List.take_of_length_le (by rw [List.length_tail, hrl]; decide)
              have HVr := fun w1 b (hb : b = true ↔ goodP A.length t P ∧ topD digest A.length t y P = R.drop 1 ++ [120]) (h : Pf w g c A ap P w1) => verify_any (R.drop 1 ++ [120]) y t A.length P ap cp w1 (by omega) hyl h.xp (hG.belowSize h.bel) b hb
              rw [htop.out] at HVr
              have hR1 : (R.drop 1).length = 31 := by rw [List.length_drop, hrl]
              generalize R.drop 1 = R1 at *
              have f1 : ¬ 9223372036854775807 < R1.length + 1 := by omega
              by_cases hRR : R = R1 ++ [120]
              · have HVr := fun w1 => HVr w1 true ⟨fun _ => ⟨hgood.out, hRR⟩, fun _ => rfl⟩
                have f2 : (R1 ++ [120] == R) = true := by rw [beq_iff_eq]; exact hRR.symm
                clear hRR
                go_wp2_with fail
                go_region_held3 (fun w' => w'.cell? ⟨g, t, none⟩ = some (.string ⟨y.toArray⟩)) (first | assumption | exact k9) ((go_at_call 13; refine (HVr w9.drew T.drew).mono ?_; rintro e w11 ⟨rfl, hw11⟩; have T11 := T.drew.to hw11; have k11 := T11.sa.get hy.out))
                go_wp2_with fail
                go_ret
                exact ⟨rfl, T11.bel⟩
              · have HVr := fun w1 => HVr w1 false ⟨fun h => Bool.noConfusion h, fun h => absurd h.2 hRR⟩
                have f2 : (R1 ++ [120] == R) = false := by rw [beq_eq_false_iff_ne]; exact fun h => hRR h.symm
                clear hRR
                go_wp2_with fail
                refine wp_region_held_drew (S := fun w' => w'.cell? ⟨g, t, none⟩ = some (.string ⟨y.toArray⟩)) (by kernel_rfl) k9 (fun hHeld => ?_)
                refine wpAnyH_take (i := 0) (oi := ⟨some 132, _, _, _, _, _⟩) (v := .string ⟨R.toArray⟩) rfl (by kernel_rfl) (by kernel_rfl) (by kernel_rfl) (fun _ _ _ h => h) (Or.inl ⟨by rfl, fun w hSw => by (try dsimp only at hSw); go_simp⟩) hHeld ?_
                refine wpAnyH_take (i := 1) (oi := ⟨some 133, _, _, _, _, _⟩) (v := .string ⟨R1.toArray⟩) rfl (by kernel_rfl) (by kernel_rfl) (by kernel_rfl) (fun _ _ _ h => h) (Or.inl ⟨by rfl, fun w hSw => by (try dsimp only at hSw); go_simp⟩) hHeld ?_
                refine wpAnyH_take (i := 2) (oi := ⟨some 134, _, _, _, _, _⟩) (v := .string ⟨(R1 ++ [120]).toArray⟩) rfl (by kernel_rfl) (by kernel_rfl) (by kernel_rfl) (fun _ _ _ h => h) (Or.inl ⟨by rfl, fun w hSw => by (try dsimp only at hSw); go_simp⟩) hHeld ?_
                try simp only [Act.put, List.setIfInBounds_toArray, List.set_cons_zero, List.set_cons_succ]
                refine wpAnyH_take (i := 3) (oi := ⟨some 135, _, _, _, _, _⟩) (v := .slice (some ⟨g, 0, none⟩) A.length c) rfl (by kernel_rfl) (by kernel_rfl) (by kernel_rfl) (fun _ _ _ h => h) (Or.inl ⟨by rfl, fun w hSw => by (try dsimp only at hSw); go_simp⟩) hHeld ?_
                refine wpAnyH_take (i := 4) (oi := ⟨some 136, _, _, _, _, _⟩) (v := .int .i64 t) rfl (by kernel_rfl) (by kernel_rfl) (by kernel_rfl) (fun _ _ _ h => h) (Or.inl ⟨by rfl, fun w hSw => by (try dsimp only at hSw); go_simp⟩) hHeld ?_
                refine wpAnyH_take (i := 5) (oi := ⟨some 137, _, _, _, _, _⟩) (v := .pointer (some ⟨g, t, none⟩)) rfl (by kernel_rfl) (by kernel_rfl) (by kernel_rfl) (fun _ _ _ h => h) (Or.inl ⟨by rfl, fun w hSw => by (try dsimp only at hSw); go_simp⟩) hHeld ?_
                try simp only [Act.put, List.setIfInBounds_toArray, List.set_cons_zero, List.set_cons_succ]
                refine wpAnyH_take (i := 6) (oi := ⟨some 138, _, _, _, _, _⟩) (v := .string ⟨y.toArray⟩) rfl (by kernel_rfl) (by kernel_rfl) (by kernel_rfl) (fun _ _ _ h => h) (Or.inl ⟨by rfl, fun w hSw => by (try dsimp only at hSw); go_simp⟩) hHeld ?_
                refine wpAnyH_take (i := 7) (oi := ⟨some 139, _, _, _, _, _⟩) (v := .int .i64 t) rfl (by kernel_rfl) (by kernel_rfl) (by kernel_rfl) (fun _ _ _ h => h) (Or.inl ⟨by rfl, fun w hSw => by (try dsimp only at hSw); go_simp⟩) hHeld ?_
                refine wpAnyH_take (i := 8) (oi := ⟨some 140, _, _, _, _, _⟩) (v := .slice (some ⟨g, 0, none⟩) A.length c) rfl (by kernel_rfl) (by kernel_rfl) (by kernel_rfl) (fun _ _ _ h => h) (Or.inl ⟨by rfl, fun w hSw => by (try dsimp only at hSw); go_simp⟩) hHeld ?_
                try simp only [Act.put, List.setIfInBounds_toArray, List.set_cons_zero, List.set_cons_succ]
                refine wpAnyH_take (i := 9) (oi := ⟨some 141, _, _, _, _, _⟩) (v := .int .i64 A.length) rfl (by kernel_rfl) (by kernel_rfl) (by kernel_rfl) (fun _ _ _ h => h) (Or.inl ⟨by rfl, fun w hSw => by (try dsimp only at hSw); go_simp⟩) hHeld ?_
                refine wpAnyH_take (i := 10) (oi := ⟨some 142, _, _, _, _, _⟩) (v := .slice ap P.length cp) rfl (by kernel_rfl) (by kernel_rfl) (by kernel_rfl) (fun _ _ _ h => h) (Or.inl ⟨by rfl, fun w hSw => by (try dsimp only at hSw); go_simp⟩) hHeld ?_
                simp only [Act.put, List.setIfInBounds_toArray, List.set_cons_zero, List.set_cons_succ]
                refine wpAnyH_ready (rs := [11]) (by kernel_rfl) (by simp) ?_
                refine AllReadyH.cons (o := ⟨some 143, .call ⟨.value (.func 13), #[.tmp 134, .tmp 138, .tmp 139, .tmp 141, .tmp 142], #[9, 9, 3, 3, 22]⟩, _, _, _, _⟩) rfl (fun K hK => ?_) AllReadyH.nil
                rw [if_pos (by rfl)]
                go_simp
                refine (HVr w9.drew T.drew).mono ?_
                rintro e w11 ⟨rfl, hw11⟩
                have T11 := T.drew.to hw11
                have k11 := T11.sa.get hy.out
                refine hK.out _ _ k11 (fun _ => ?_)
                clear hK K hHeld
                try simp only [Act.put, List.setIfInBounds_toArray, List.set_cons_zero, List.set_cons_succ]
                refine wpAnyH_take (i := 12) (oi := ⟨some 144, _, _, _, _, _⟩) (v := .bool true) rfl (by kernel_rfl) (by kernel_rfl) (by kernel_rfl) (fun _ _ _ h => h) (Or.inl ⟨by rfl, fun w hSw => by (try dsimp only at hSw); go_simp⟩) k11 ?_
                refine wpAnyH_take (i := 13) (oi := ⟨some 145, _, _, _, _, _⟩) (v := .bool true) rfl (by kernel_rfl) (by kernel_rfl) (by kernel_rfl) (fun _ _ _ h => h) (Or.inl ⟨by rfl, fun w hSw => by (try dsimp only at hSw); go_simp⟩) k11 ?_
                try simp only [Act.put, List.setIfInBounds_toArray, List.set_cons_zero, List.set_cons_succ]
                refine wpAnyH_take (i := 14) (oi := ⟨some 146, _, _, _, _, _⟩) (v := undef) rfl (by kernel_rfl) (by kernel_rfl) (by kernel_rfl) (fun _ _ _ h => h) (Or.inr ⟨by rfl, rfl⟩) k11 ?_
                refine wpAnyH_take (i := 15) (oi := ⟨some 147, _, _, _, _, _⟩) (v := undef) rfl (by kernel_rfl) (by kernel_rfl) (by kernel_rfl) (fun _ _ _ h => h) (Or.inr ⟨by rfl, rfl⟩) k11 ?_
                try simp only [Act.put, List.setIfInBounds_toArray, List.set_cons_zero, List.set_cons_succ]
                refine wpAnyH_take (i := 16) (oi := ⟨some 148, _, _, _, _, _⟩) (v := undef) rfl (by kernel_rfl) (by kernel_rfl) (by kernel_rfl) (fun _ _ _ h => h) (Or.inr ⟨by rfl, rfl⟩) k11 ?_
                refine wpAnyH_take (i := 17) (oi := ⟨some 149, _, _, _, _, _⟩) (v := undef) rfl (by kernel_rfl) (by kernel_rfl) (by kernel_rfl) (fun _ _ _ h => h) (Or.inr ⟨by rfl, rfl⟩) k11 ?_
                try simp only [Act.put, List.setIfInBounds_toArray, List.set_cons_zero, List.set_cons_succ]
                refine wpAnyH_take (i := 18) (oi := ⟨some 150, _, _, _, _, _⟩) (v := undef) rfl (by kernel_rfl) (by kernel_rfl) (by kernel_rfl) (fun _ _ _ h => h) (Or.inr ⟨by rfl, rfl⟩) k11 ?_
                try simp only [Act.put, List.setIfInBounds_toArray, List.set_cons_zero, List.set_cons_succ]
                refine wpAnyH_take (i := 19) (oi := ⟨some 151, _, _, _, _, _⟩) (v := .bool true) rfl (by kernel_rfl) (by kernel_rfl) (by kernel_rfl) (fun _ _ _ h => h) (Or.inl ⟨by rfl, fun w hSw => by (try dsimp only at hSw); go_simp⟩) k11 ?_
                refine wpAnyH_take (i := 20) (oi := ⟨some 6, _, _, _, _, _⟩) (v := .bool true) rfl (by kernel_rfl) (by kernel_rfl) (by kernel_rfl) (fun _ _ _ h => h) (Or.inl ⟨by rfl, fun w hSw => by (try dsimp only at hSw); go_simp⟩) k11 ?_
                refine wpAnyH_done (by kernel_rfl) ?_ _
                try simp only [Act.put, List.setIfInBounds_toArray, List.set_cons_zero, List.set_cons_succ]
                go_wp2_with fail
                go_ret
                exact ⟨rfl, T11.bel⟩
            · have e2 : (d == 2) = false := by rw [beq_eq_false_iff_ne]; exact d2
              clear d2
              have hwn : IntKind.i64.wrap (-1 - (t : Int)) = -1 - (t : Int) := by rw [IntKind.wrap_i64]; omega
              have HVe := fun w1 (h : Pf w g c A ap P w1) => verify_any R y t t P ap cp w1 (by omega) hyl h.xp (hG.belowSize h.bel) false ⟨fun h => Bool.noConfusion h, fun h => absurd h.1.2.1 (by omega)⟩
              have HVf := fun w1 (h : Pf w g c A ap P w1) => verify_any R y (-1 - (t : Int)) A.length P ap cp w1 (by omega) hyl h.xp (hG.belowSize h.bel) false ⟨fun h => Bool.noConfusion h, fun h => absurd h.1.1 (by omega)⟩
              go_wp2_with fail
              have f1 : True := trivial
              go_region_held3 (fun w' => w'.cell? ⟨g, t, none⟩ = some (.string ⟨y.toArray⟩)) (first | assumption | exact k9 | exact kA2 _) (first
                | (go_at_call 13; clear f1; refine (HVe w9.drew T.drew).mono ?_; rintro e w11 ⟨rfl, hw11⟩; have T11 := T.drew.to hw11; have k11 := T11.sa.get hy.out; have f2 : True := trivial)
                | (go_at_call 13; clear f2; refine (HVf w11 T11).mono ?_; rintro e w12 ⟨rfl, hw12⟩; have T12 := T11.to hw12; have k12 := T12.sa.get hy.out; have hB12 : Below w9.heap.size w9 w12 := (Below.refl w9.heap.size w9).drew.trans (hw11.trans (hw12.mono hw11.size)); have hA2 : ∀ o : Obj, Below w9.heap.size w9 (w12.alloc o) := (fun o => hB12.trans (((Below.refl w12.heap.size w12).alloc (Nat.le_refl _) o).mono hB12.size)); have kA2 : ∀ o : Obj, (w12.alloc o).cell? ⟨g, t, none⟩ = some (.string ⟨y.toArray⟩) := (fun o => ((hA2 o).cell (World.block_lt_of_cell? _ _ k9)).trans k9); have hA2c : ∀ o : Obj, Below wc.heap.size wc (w12.alloc o) := (fun o => hB9.trans ((hA2 o).mono hB9.size)))
                | (refine step_appSW (by rfl) _ _ 22 (by rfl) g9 c9 P (by rfl) (hS9.belowSize (hA2 _)) w12.heap.size 1 (by rfl) [115, 104, 111, 114, 116] 9 (Blk.new w12 _ _) iop Tryd.underlying22 hio hz hiz hby (by omega) ?_; intro w13 g13 c13 hg13 hgr13 hS13; have T13 := Tc.to ((hA2c _).trans (below_of_grown hgr13 hg9' (hA2c _).size)); have k13 := T13.sa.get hy.out)
                | (go_at_call 13; refine (HVb w13 g13 c13 [115, 104, 111, 114, 116] hS13 T13.bel).mono ?_; rintro e w14 ⟨rfl, hw14⟩; have T14 := T13.to hw14; have k14 := T14.sa.get hy.out))
              go_wp2_with fail
              go_ret
              exact ⟨rfl, T14.bel⟩
      · have hbt := hbt rfl
        have hbt2 : Hid (y ≠ s' ∧ goodP A.length t P ∧ goodP A.length t P ∧ topD digest A.length t y P = topD digest A.length t s' P) := ⟨fun e => hbt.1 e.symm, hgood.out, hgood.out, htop.out.trans hbt.2.symm⟩
        clear hbt
        unfold wit at HCo
        go_wp2_with (first
          | (go_at_call 18; refine (HE _ _ _ T.xp T.bel hbt2.out).mono ?_; rintro e w8 ⟨X, Y, rfl, hw8, l1, l2, hcl⟩; replace hcl : Hid (X ≠ Y ∧ digest X = digest Y) := hcl; replace T := T.to hw8)
          | (go_at_call 19; refine (HCo _ X Y T10.bel l1 l2 hcl.out).mono ?_; rintro e w11 ⟨rfl, hw11⟩; have T11 := T10.to hw11)
          | (with_reducible refine at_list ?_; first
            | (refine wpList_allocRow (op := ⟨some 14, _, _, _, _, _⟩) rfl _ rfl _ zWit.1 ?_; intro w9 hw9 hs9 hz9; replace hs9 := hs9.symm)
            | (refine wpList_storeRow (op := ⟨none, .store 36 (.tmp 14) (.tmp 83), _, _, _, _⟩) rfl _ _ _ rfl w8.heap.size #[.string ⟨X.toArray⟩, .string ⟨Y.toArray⟩] rfl rfl _ _ hz9 (by simp [wit]) (by simpa using zWit.2) (by simp [Value.oneCell']) ?_; intro w10 hg10 hs10 hz10; have T10 := T.to (hw9.trans (below_of_grown hg10 (Nat.le_refl _) hw9.size)); obtain ⟨x0, x1⟩ := blk_two hz10)))
        go_ret
        exact ⟨rfl, T11.bel⟩
end
theorem treeWrong_any (x : List (List UInt8)) (u v : Int) (s : List UInt8) (ax : Option Addr) (cx : Nat) (w : World) (hG : Glob w) (hX : XA w ax x) (hu : -9223372036854775808 ≤ u ∧ u ≤ 9223372036854775807) (_ : -9223372036854775808 ≤ v ∧ v ≤ 9223372036854775807) (hsz : s.length ≤ 140737488355328) :
    Calls Tryd.prog 4 #[.slice ax x.length cx, .agg #[.int .i64 u, .int .i64 v], .string ⟨s.toArray⟩] w fun e w' => e = .returned (.bool true) ∧ Below w.heap.size w w' := by
  by_cases h : (fewD x).length = 0
  · exact treeWrong_nil x u v s ax cx w hG hX h
  · exact treeWrong_some x u v s ax cx w hG hX hu hsz (by omega)
end Go.Proofs.YtfohcgjkihaepaaDoor.Sh
