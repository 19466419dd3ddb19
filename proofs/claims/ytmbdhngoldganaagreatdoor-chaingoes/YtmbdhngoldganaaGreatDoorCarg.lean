/- What awake of the chain's law does. A batch, out of what its argument reads as. A chain's name with who takes part, and batches, out of what their arguments read as. -/
import Derived.Test.YtmbdhngoldganaaGreatDoorCtp
import Derived.Test.YtmbdhngoldganaaGreatDoorBcb
import Derived.Test.YtmbdhngoldganaaGreatDoorChecked
import Derived.ProofKit
import Derived.LaidMore
import Derived.OpenShut
import Derived.Stop.Joined
import Derived.Deep.Slices
namespace Go.Proofs.YtmbdhngoldganaaGreatDoor
open Go Go.RowKit
theorem run_fieldT0 (h : Nat) (d : List UInt8) (s : Value) (w : World) : (Instr.field 39 (.agg (tpC h d s)) 0).run Tryz.prog w = .ok (.int .u64 (h : Nat)) w := by
  simp [Instr.field, run_underlying Tryz.underlying39, Sem.run_bind, asAgg, Go.part, isAgg_run Tryz.underlying36 rfl, tpC]
theorem run_fieldT1 (h : Nat) (d : List UInt8) (s : Value) (w : World) : (Instr.field 39 (.agg (tpC h d s)) 1).run Tryz.prog w = .ok (.string ⟨d.toArray⟩) w := by
  simp [Instr.field, run_underlying Tryz.underlying39, Sem.run_bind, asAgg, Go.part, isAgg_run Tryz.underlying9 rfl, tpC]
/-- The batch of awake. -/
def aB : BT := ⟨[tb1], false, []⟩
theorem aB_ok : chkB aB = 0 := by decide
def aC : CN := newC [120] [0]
theorem aC_ok : OkC aC := newC_ok (by decide) (by decide)
theorem aN_m : (nextC aC aB).m = [([107, 97], [49]), (nOf 1, lastB 1 (idB tb1))] := tb1_m
theorem aN_val : valM (nextC aC aB).m (kOf [97]) = [49] ∧ hasM (nextC aC aB).m (kOf [97]) = true := by
  rw [aN_m]
  exact ⟨rfl, rfl⟩
theorem ta_one {w : World} {g g1 : Nat} (h : Blk w g (txc 1 1 (.slice (some ⟨g1, 0, none⟩) 1 1)) 95) (h1 : Blk w g1 (opc ob1) 97) : TA w (some ⟨g, 0, none⟩) aB.txs := fun i hi => by
  have hi2 : i < 1 := hi
  obtain rfl : i = 0 := by omega
  refine ⟨g, 0, some ⟨g1, 0, none⟩, 1, rfl, fun j v hv => ?_, h1.sl1, (show (1 : Nat) < 18446744073709551616 by decide), (show (1 : Nat) < 18446744073709551616 by decide)⟩
  rw [Nat.zero_mul, Nat.add_zero, Nat.zero_add, h.cell]
  have hj : j < 3 := (List.getElem?_eq_some_iff.1 hv).1
  rcases (show j = 0 ∨ j = 1 ∨ j = 2 by omega) with rfl | rfl | rfl <;> exact hv
theorem CH.blocks {w : World} {N cb bs bt : Nat} {sl : Value} {c : CN} (h : CH w N cb bs bt sl c) {i : Nat} (hi : ownC cb bs bt sl i) : N ≤ i ∧ i < w.heap.size := by
  refine ⟨h.from hi, ?_⟩
  obtain ⟨d, u, fr, h1, _⟩ := h.typed hi
  exact (Array.getElem?_eq_some_iff.1 h1).1
theorem CH.rowNew {w : World} {N cb bs bt : Nat} {sl : Value} {c : CN} (h : CH w N cb bs bt sl c) : Sh.slBlk sl ≠ some w.heap.size := fun e => absurd (h.blocks (.inr (.inr (.inr e.symm)))).2 (Nat.lt_irrefl _)
theorem rowNone (B : Nat) : Sh.slBlk (.slice none 0 0) ≠ some B := fun e => nomatch e
theorem rowNone2 {sl : Value} : ∀ r, Sh.slBlk (.slice none 0 0) = some r → Sh.slBlk sl ≠ some r := fun _ e => nomatch e
theorem rowNone3 {sl : Value} : ∀ r, Sh.slBlk sl = some r → Sh.slBlk (.slice none 0 0) ≠ some r := fun _ _ e => nomatch e
theorem CH.ownBelow {w w' : World} {N cb bs bt : Nat} {sl : Value} {c : CN} (h : CH w N cb bs bt sl c) (k : Own (ownC cb bs bt sl) w w') : Below N w w' := k.below (fun i _ e => h.from e) (by have h1 := h.low.2.1; have h2 := h.lt.1; omega)
theorem stay_blk {w w' : World} {b : Nat} {c : Array Value} {u : TypeId} (hg : w.grownBy w' (some b)) (hb : Blk w b c u) (hu : u ≠ 3 ∧ u ≠ 95 ∧ u ≠ 97) : Stay w w' := Stay.of_own (Own.of_grown hg) (fun i _ e => (by obtain rfl := Option.some.inj e; exact ⟨_, _, _, hb.out, hu⟩))
section
attribute [local go_sem] Oper.semAt_some
set_option maxRecDepth 100000 in
set_option maxHeartbeats 8000000 in
theorem awakeC_any (w : World) (hG : Sh.Glob w) : Calls Tryz.prog 13 #[] w fun e w' => e = .returned (.bool true) ∧ Below w.heap.size w w' := by
  have h2w := hG.two
  have HN : ∀ g w1, Blk w1 g #[.int .i64 0] 3 → Sh.Glob w1 → Calls Tryz.prog 47 #[.string ⟨#[120]⟩, .slice (some ⟨g, 0, none⟩) 1 1] w1 (fun e w' => ∃ bc bs bt, e = .returned (.tuple #[.pointer (some ⟨bc, 0, none⟩), .int .i64 0]) ∧ CH w' w1.heap.size bc bs bt (.slice none 0 0) aC ∧ Below w1.heap.size w1 w') := fun g w1 h1 h2 => newCh_any [120] (by decide) [0] (by decide) (some ⟨g, 0, none⟩) 1 w1 h1.ia1 h2
  have HN2 := HN
  have HP : ∀ N cb bs bt w1 g, CH w1 N cb bs bt (.slice none 0 0) aC → TA w1 (some ⟨g, 0, none⟩) aB.txs → Calls Tryz.prog 19 #[.pointer (some ⟨cb, 0, none⟩), .agg (bc (.slice (some ⟨g, 0, none⟩) 1 1) false (.slice none 0 0))] w1 (ApC w1 N cb bs bt (.slice none 0 0) aC aB) := fun N cb bs bt w1 g h1 h2 => applyC_any N cb bs bt _ aC w1 h1 aC_ok aB aB_ok (by decide) (by decide) (by decide) (some ⟨g, 0, none⟩) none 1 0 h2 (fun i x hx => by cases hx)
  have HA : ∀ N cb bs bt w1 gm cm a cap, CH w1 N cb bs bt (.slice none 0 0) aC → AB w1 gm a cap (mkB aC aB) → Calls Tryz.prog 26 #[.pointer (some ⟨cb, 0, none⟩), .agg (bkv (mkB aC aB) gm cm a cap)] w1 (fun e w' => e = .returned (.int .i64 0) ∧ ∃ sl', CH w' N cb bs bt sl' (nextC aC aB) ∧ Own (ownC cb bs bt (.slice none 0 0)) w1 w') := fun N cb bs bt w1 gm cm a cap h1 h2 => (addCh_any N cb bs bt _ aC w1 h1 aC_ok (mkB aC aB) (mkB_head aC_ok aB_ok) (by decide) (by decide) (by decide) (some ⟨gm, 0, none⟩) a cm cap h2.cb.ia h2.ta).mono fun e w' h => by
    obtain ⟨r1, r2⟩ := mkB_right (c := aC) aB_ok
    rcases h with ⟨_, h3, sl', h4, h5, _⟩ | ⟨h3, _⟩
    · exact ⟨h3, sl', by rw [← r2]; exact h4, h5⟩
    · exact absurd r1 h3
  have hok2 : OkC (nextC aC aB) := nextC_ok aC_ok aB_ok (by decide)
  have HT : ∀ N cb bs bt sl w1, CH w1 N cb bs bt sl (nextC aC aB) → Calls Tryz.prog 16 #[.pointer (some ⟨cb, 0, none⟩)] w1 (fun e w' => ∃ g cap, e = .returned (.agg (tpC 1 (nextC aC aB).hash (.slice (some ⟨g, 0, none⟩) 1 cap))) ∧ Below w1.heap.size w1 w') := fun N cb bs bt sl w1 h1 => (tipC_any N cb bs bt sl _ w1 h1 hok2).mono fun e w' h => by
    obtain ⟨g, cap, h2, _, h3⟩ := h
    exact ⟨g, cap, h2, h3⟩
  have HT2 := HT
  have HT3 := HT
  have HG : ∀ N cb bs bt sl w1, CH w1 N cb bs bt sl (nextC aC aB) → Calls Tryz.prog 23 #[.pointer (some ⟨cb, 0, none⟩), .string ⟨#[97]⟩] w1 (fun e w' => e = .returned (.tuple #[.string ⟨#[49]⟩, .bool true]) ∧ Below w1.heap.size w1 w') := fun N cb bs bt sl w1 h1 => (getC_any N cb bs bt sl _ w1 h1 [97] (by decide)).mono fun e w' h => by
    rw [aN_val.1, aN_val.2] at h
    exact h
  have hbI : ∀ gm cm a cap, (Tryz.prog.info? 53).map (·.size) = some (bkv (mkB aC aB) gm cm a cap).size := fun _ _ _ _ => bk_info _ _ _ _ _ _
  have hb1 : ∀ gm cm a cap, (bkv (mkB aC aB) gm cm a cap).all (·.oneCell') = true := fun _ _ _ _ => bk_one _ _ _ _ _ _ _ _ _ _
  have hb6 : ∀ gm cm a cap, (bkv (mkB aC aB) gm cm a cap).size = 6 := fun _ _ _ _ => rfl
  have hf0 := run_fieldT0
  have hf1 := run_fieldT1
  generalize (nextC aC aB).hash = dg at *
  go_enter Tryz.func13, Tryz.ntmps13
  go_upto_region 3 with (first
    | (go_at_call 47; first
      | (refine (HN _ _ hb1a (hG.belowSize hw1)).mono ?_; rintro e w2 ⟨ca, sa, ta, rfl, hA, hw2⟩; clear HN hb1a; have hB2 := hw1.trans (hw2.mono hw1.size))
      | (refine (HN2 _ _ hb3a (hG.belowSize hB3)).mono ?_; rintro e w4 ⟨cb, sb, tb, rfl, hB, hw4⟩; clear HN2 hb3a; have hA4 := hA3.below hw4; have hB4 := hB3.trans (hw4.mono hB3.size)))
    | (with_reducible refine at_list ?_; first
      | (refine wpList_bsl1I (op := ⟨some 12, _, _, _, _, _⟩) rfl _ rfl 0 rfl ?_; intro w1 hw1 hs1 hb1a; clear hs1)
      | (refine wpList_bsl1I (op := ⟨some 17, _, _, _, _, _⟩) rfl _ rfl 0 rfl ?_; intro w3 hw3 hs3 hb3a; clear hs3; have hA3 := hA.below hw3; have hB3 := hB2.trans (hw3.mono hB2.size))))
  obtain ⟨q1, q2, q3⟩ := hA.lt
  have q4 := hw3.size
  obtain ⟨q5, q6, q7, q8⟩ := hB.low
  have n1 : cb ≠ ca := by omega
  have n2 : sb ≠ sa := by omega
  have n3 : tb ≠ ta := by omega
  have hN6 : w.heap.size ≤ w1.heap.size := hw1.size
  have hN6b : w.heap.size ≤ w3.heap.size := hB3.size
  clear hA hA3 hw1 hw2 hw3 hw4 hB2 hB3 q1 q2 q3 q4
  go_upto_region 4 with (first
    | (go_at_call 19; refine (HP _ _ _ _ _ _ hA6 (ta_one hb6t hb5)).mono ?_; rintro e w7 ⟨slA, gm, cm, ax, cap, st, sc, rfl, hA7, hAB7, hO7, hr7⟩; clear HP hb6t hb5; have hB7 := hA6.apart hB6 hO7 n1 n2 n3 rowNone2; have hW7 := hW6.trans ((hA6.ownBelow hO7).mono hN6); clear hO7 hr7 hA6 hB6)
    | (with_reducible refine at_list ?_; first
      | (refine wpList_build (o := ⟨some 23, _, _, _, _, _⟩) rfl _ _ rfl builtOb1 ?_)
      | (refine wpList_bslOp (op := ⟨some 24, _, _, _, _, _⟩) rfl _ rfl ob1 rfl ?_; intro w5 hw5 hs5 hb5; clear hs5; have hA5 := hA4.below hw5; have hB5 := hB.below hw5; have hW5 := hB4.trans (hw5.mono hB4.size))
      | (refine wpList_build (o := ⟨some 25, _, _, _, _, _⟩) rfl _ _ rfl (builtTb 1 1 w4.heap.size rfl) ?_)
      | (refine wpList_bslTx (op := ⟨some 26, _, _, _, _, _⟩) rfl _ rfl 1 1 (some ⟨w4.heap.size, 0, none⟩) 1 1 rfl ?_; intro w6 hw6 hb6t; replace hb5 := hb5.belowSize hw6; have hA6 := hA5.below hw6; have hB6 := hB5.below hw6; have hW6 := hW5.trans (hw6.mono hW5.size); clear hA5 hB5 hW5 hw5 hw6)
      | (refine wpList_run (op := ⟨some 27, _, _, _, _, _⟩) rfl _ _ (run_built1 _ _ _ rfl _ rfl _ (builtB (some ⟨w5.heap.size, 0, none⟩) 1 1)) ?_)
      | (refine wpList_allocRow (op := ⟨some 5, _, _, _, _, _⟩) rfl _ rfl _ zBlk.1 ?_; intro w8 hw8 hs8 h5; clear hs8; have hA8 := hA7.below hw8; have hB8 := hB7.below hw8; have hW8 := hW7.trans (hw8.mono hW7.size); have hAB8 := hAB7.stay (Stay.of_below hw8); have hra := hA7.rowNew; clear hA7 hB7 hAB7)
      | (refine wpList_storeRow (op := ⟨none, .store 53 (.tmp 5) (.tmp 29), _, _, _, _⟩) rfl _ _ _ rfl w7.heap.size (bkv (mkB aC aB) gm cm ax cap) rfl rfl _ _ h5 (by rw [hb6, bk_size]) (hbI _ _ _ _) (hb1 _ _ _ _) ?_; intro w9 hg9 hs9 h5b; clear hs9; have hA9 := hA8.local hg9 h5 (Nat.le_trans h2w hW7.size) (by decide) hra; have hB9 := hB8.local hg9 h5 (Nat.le_trans h2w hW7.size) (by decide) (rowNone _); have hAB9 := hAB8.stay (stay_blk hg9 h5 (by decide)); have hW9 := hW8.trans (below_of_grown hg9 hW7.size hW8.size); clear hg9 h5 hA8 hB8 hAB8 hW8 hw8)))
  go_upto_region 6 with (first
    | (go_at_call 26; refine (HA _ _ _ _ _ _ _ _ _ hB9 hAB9).mono ?_; rintro e w10 ⟨rfl, slB, hB10, hO10⟩; clear HA hAB9; have hA10 := hB9.apart hA9 hO10 n1.symm n2.symm n3.symm rowNone3; have hW10 := hW9.trans ((hB9.ownBelow hO10).mono hN6b); clear hO10 hB9 hA9)
    | (go_at_call 23; refine (HG _ _ _ _ _ _ hB10).mono ?_; rintro e w11 ⟨rfl, hw11⟩; clear HG; have hA11 := hA10.below hw11; have hB11 := hB10.below hw11; have hW11 := hW10.trans (hw11.mono hW10.size))
    | (with_reducible refine at_list ?_; first
      | (refine wpList_loadRow (op := ⟨some 33, _, _, _, _, _⟩) rfl _ _ rfl w7.heap.size rfl _ _ h5b _ Tryz.underlying53 rfl (hbI _ _ _ _) ?_)))
  clear hA10 hB10 hW10 hw11 h5b
  go_wp2_with (go_at_call 16; first
    | (refine (HT _ _ _ _ _ _ hA11).mono ?_; rintro e w12 ⟨g1, c1, rfl, hw12⟩; clear HT; have hA12 := hA11.below hw12; have hB12 := hB11.below hw12; have hW12 := hW11.trans (hw12.mono hW11.size); clear hA11)
    | (refine (HT2 _ _ _ _ _ _ hB12).mono ?_; rintro e w13 ⟨g2, c2, rfl, hw13⟩; clear HT2; have hA13 := hA12.below hw13; have hW13 := hW12.trans (hw13.mono hW12.size); clear hA12 hB12)
    | (refine (HT3 _ _ _ _ _ _ hA13).mono ?_; rintro e w14 ⟨g3, c3, rfl, hw14⟩; clear HT3; have hW14 := hW13.trans (hw14.mono hW13.size)))
  go_ret
  exact ⟨rfl, hW14⟩
end
end Go.Proofs.YtmbdhngoldganaaGreatDoor
namespace Go.Proofs.YtmbdhngoldganaaGreatDoor
open Go Go.ChangeShapes Go.WideShapes Go.ChangeAt Go.WideMaps Go.WideElems Go.RowKit
theorem clOp : Tryz.prog.cellsOf 97 = 3 := by kernel_rfl
theorem clTx : Tryz.prog.cellsOf 95 = 3 := by kernel_rfl
theorem clSl : Tryz.prog.cellsOf 93 = 1 := by kernel_rfl
theorem cl3 : Tryz.prog.cellsOf 3 = 1 := by kernel_rfl
theorem cl22 : Tryz.prog.cellsOf 36 = 1 := by kernel_rfl
theorem cl9 : Tryz.prog.cellsOf 9 = 1 := by kernel_rfl
set_option maxRecDepth 100000 in
theorem op_of {H : Type} {enc : TypeId × Value → H} {W : World} {n : Nat} {sp : Nat → Bool} {held : Bool} {base : Nat} {cs : List Value} {x : DataW H × List MemPlace} (h : DataW.trod enc Tryz.prog W base sp held n 97 cs = some x) :
    ∃ o : O, cs = (opc o).toList := by
  obtain ⟨xs, f, _, _, hl, hxl, hf⟩ := DataW.trod_struct Tryz.underlying97 h
  rw [clOp] at hl
  match xs, hxl, cs, hl with
  | [y0, y1, y2], _, [v0, v1, v2], _ =>
    have g0 := hf 0 _ rfl
    have g1 := hf 1 _ rfl
    have g2 := hf 2 _ rfl
    simp [cl3, cl9] at g0 g1 g2
    obtain ⟨k, e0, _, _⟩ := DataW.trod_int Tryz.underlying3 g0
    obtain ⟨s, e1, _, _⟩ := DataW.trod_string Tryz.underlying9 g1
    obtain ⟨t, e2, _, _⟩ := DataW.trod_string Tryz.underlying9 g2
    refine ⟨⟨k, s.data.toList, t.data.toList⟩, ?_⟩
    simp at e0 e1 e2
    subst e0 e1 e2
    rfl
set_option maxRecDepth 100000 in
/-- The operations of an argument's slice. -/
theorem ops_of {H : Type} {enc : TypeId × Value → H} {W : World} {n : Nat} {a0 : Option Addr} {len cap : Nat} {x : DataW H × List MemPlace} (hf : DataW.trod enc Tryz.prog W 0 (fun _ => true) true n 93 [.slice a0 len cap] = some x) :
    ∃ l : List O, l.length = len ∧ SL W a0 l := by
  rcases DataW.trod_slice Tryz.underlying93 hf with ⟨hcs, _⟩ | ⟨a, l, c, elems, rest, n, _, hcs, _, _, hl, hm, hel, hc, _, _⟩
  · simp at hcs
    obtain ⟨_, rfl, _⟩ := hcs
    exact ⟨[], rfl, SL.nil _ _⟩
  · simp at hcs
    obtain ⟨rfl, rfl, rfl⟩ := hcs
    by_cases hl0 : len = 0
    · exact ⟨[], by rw [hl0]; rfl, SL.nil _ _⟩
    have each : ∀ i, i < len → ∃ q : O, W.cells? 0 (a.add (i * 3)) 3 = some (opc q).toList := by
      intro i hi
      have h1 := hc i hi
      rw [clOp, List.getElem?_eq_getElem (by omega)] at h1
      obtain ⟨cs', h2, h3⟩ := Option.bind_eq_some_iff.1 h1
      obtain ⟨q, rfl⟩ := op_of h3
      exact ⟨q, h2⟩
    obtain ⟨g, o, spot⟩ := a
    obtain ⟨q0, hq0⟩ := each 0 (by omega)
    obtain ⟨_, _, hcell0⟩ := World.cells?_some hq0
    have c0 := hcell0 0 (by omega)
    have hspot : spot = none := by
      have e : W.cell? (((⟨g, o, spot⟩ : Addr).add (0 * 3)).add 0) = some (.int .i64 q0.kind) := c0
      simpa [Addr.add] using World.cell?_spot e
    subst hspot
    have each2 : ∀ i, ∃ q : O, i < len → W.rangeAt g (o + i * 3) (opc q).toList := by
      intro i
      by_cases hi : i < len
      · obtain ⟨q, hq⟩ := each i hi
        refine ⟨q, fun _ j v hv => ?_⟩
        obtain ⟨_, hlen, hcell⟩ := World.cells?_some hq
        have hj : j < 3 := (List.getElem?_eq_some_iff.1 hv).1
        have := hcell j hj
        rw [Addr.add_mid, Addr.add_mid] at this
        rw [this, hv]
      · exact ⟨⟨0, [], []⟩, fun h => absurd h hi⟩
    obtain ⟨f, hf⟩ := Classical.skolem.1 each2
    refine ⟨(List.range len).map f, by simp, fun i hi => ⟨g, o, rfl, ?_⟩⟩
    have hi' : i < len := by simpa using hi
    have := hf i hi'
    simpa using this
theorem clSlI : Tryz.prog.cellsOf 22 = 1 := by kernel_rfl
theorem clSlT : Tryz.prog.cellsOf 51 = 1 := by kernel_rfl
theorem clB : Tryz.prog.cellsOf 58 = 3 := by kernel_rfl
theorem clBool : Tryz.prog.cellsOf 4 = 1 := by kernel_rfl
set_option maxRecDepth 100000 in
theorem txc_of {H : Type} {enc : TypeId × Value → H} {W : World} {n : Nat} {cs : List Value} {x : DataW H × List MemPlace} (hf : DataW.trod enc Tryz.prog W 0 (fun _ => true) true n 95 cs = some x) :
    ∃ (t : TX) (a : Option Addr) (cap : Nat), cs = (txc t.client t.nonce (.slice a t.ops.length cap)).toList ∧ SL W a t.ops ∧ t.client < 18446744073709551616 ∧ t.nonce < 18446744073709551616 := by
  obtain ⟨xs, f, _, _, hl, hxl, hfd⟩ := DataW.trod_struct Tryz.underlying95 hf
  rw [clTx] at hl
  match xs, hxl, cs, hl with
  | [y0, y1, y2], _, [v0, v1, v2], _ =>
    have g0 := hfd 0 _ rfl
    have g1 := hfd 1 _ rfl
    have g2 := hfd 2 _ rfl
    simp [cl22, clSl] at g0 g1 g2
    obtain ⟨c, e0, _, w0⟩ := DataW.trod_int Tryz.underlying36 g0
    obtain ⟨n, e1, _, w1⟩ := DataW.trod_int Tryz.underlying36 g1
    have b0 : 0 ≤ c ∧ c ≤ 18446744073709551615 := by simpa [Lit.wf, IntKind.min, IntKind.max, IntKind.signed, IntKind.bits] using w0
    have b1 : 0 ≤ n ∧ n ≤ 18446744073709551615 := by simpa [Lit.wf, IntKind.min, IntKind.max, IntKind.signed, IntKind.bits] using w1
    simp at e0 e1
    subst e0 e1
    have hs2 : ∃ a len cap, v2 = .slice a len cap := by
      rcases DataW.trod_slice Tryz.underlying93 g2 with ⟨hcs, _⟩ | ⟨a, l, c, elems, rest, n, _, hcs, _⟩
      · simp at hcs; exact ⟨_, _, _, hcs⟩
      · simp at hcs; exact ⟨_, _, _, hcs⟩
    obtain ⟨a, len, cap, rfl⟩ := hs2
    obtain ⟨l, hll, hSL⟩ := ops_of g2
    refine ⟨⟨c.toNat, n.toNat, l⟩, a, cap, ?_, hSL, by dsimp only; omega, by dsimp only; omega⟩
    dsimp only
    rw [hll]
    unfold txc
    rw [show ((c.toNat : Nat) : Int) = c from by omega, show ((n.toNat : Nat) : Int) = n from by omega]
set_option maxRecDepth 100000 in
/-- The transactions of an argument's slice. -/
theorem txs_of {H : Type} {enc : TypeId × Value → H} {W : World} {n : Nat} {a0 : Option Addr} {len cap : Nat} {x : DataW H × List MemPlace} (hf : DataW.trod enc Tryz.prog W 0 (fun _ => true) true n 51 (Value.slice a0 len cap).cells.toList = some x) :
    ∃ l : List TX, l.length = len ∧ TA W a0 l ∧ len ≤ cap := by
  rcases DataW.trod_slice Tryz.underlying51 hf with ⟨hcs, _⟩ | ⟨a, l, c, elems, rest, n, _, hcs, _, _, hl, hm, hel, hc, _, _⟩
  · simp [Value.cells] at hcs
    obtain ⟨_, rfl, _⟩ := hcs
    exact ⟨[], rfl, fun i hi => by simp at hi, Nat.zero_le _⟩
  · simp [Value.cells] at hcs
    obtain ⟨rfl, rfl, rfl⟩ := hcs
    by_cases hl0 : len = 0
    · exact ⟨[], by rw [hl0]; rfl, fun i hi => by simp at hi, by omega⟩
    have each : ∀ i, i < len → ∃ (t : TX) (sa : Option Addr) (sc : Nat), W.cells? 0 (a.add (i * 3)) 3 = some (txc t.client t.nonce (.slice sa t.ops.length sc)).toList ∧ SL W sa t.ops ∧ t.client < 18446744073709551616 ∧ t.nonce < 18446744073709551616 := by
      intro i hi
      have h1 := hc i hi
      rw [clTx, List.getElem?_eq_getElem (by omega)] at h1
      obtain ⟨cs', h2, h3⟩ := Option.bind_eq_some_iff.1 h1
      obtain ⟨t, sa, sc, rfl, h4⟩ := txc_of h3
      exact ⟨t, sa, sc, h2, h4⟩
    obtain ⟨g, o, spot⟩ := a
    obtain ⟨q0, _, _, hq0, _⟩ := each 0 (by omega)
    obtain ⟨_, _, hcell0⟩ := World.cells?_some hq0
    have c0 := hcell0 0 (by omega)
    have hspot : spot = none := by
      have e : W.cell? (((⟨g, o, spot⟩ : Addr).add (0 * 3)).add 0) = some (.int .u64 (q0.client : Nat)) := c0
      simpa [Addr.add] using World.cell?_spot e
    subst hspot
    have each2 : ∀ i, ∃ t : TX, i < len → ∃ sa sc, W.rangeAt g (o + i * 3) (txc t.client t.nonce (.slice sa t.ops.length sc)).toList ∧ SL W sa t.ops ∧ t.client < 18446744073709551616 ∧ t.nonce < 18446744073709551616 := by
      intro i
      by_cases hi : i < len
      · obtain ⟨t, sa, sc, hq, h4⟩ := each i hi
        refine ⟨t, fun _ => ⟨sa, sc, fun j v hv => ?_, h4⟩⟩
        obtain ⟨_, hlen, hcell⟩ := World.cells?_some hq
        have hj : j < 3 := (List.getElem?_eq_some_iff.1 hv).1
        have := hcell j hj
        rw [Addr.add_mid, Addr.add_mid] at this
        rw [this, hv]
      · exact ⟨⟨0, 0, []⟩, fun h => absurd h hi⟩
    obtain ⟨f, hf⟩ := Classical.skolem.1 each2
    refine ⟨(List.range len).map f, by simp, fun i hi => ?_, by omega⟩
    have hi' : i < len := by simpa using hi
    obtain ⟨sa, sc, h5⟩ := hf i hi'
    refine ⟨g, o, sa, sc, rfl, ?_⟩
    simpa using h5
set_option maxRecDepth 100000 in
theorem ints_of {H : Type} {enc : TypeId × Value → H} {W : World} {n : Nat} {a0 : Option Addr} {len cap : Nat} {x : DataW H × List MemPlace} (hf : DataW.trod enc Tryz.prog W 0 (fun _ => true) true n 22 [.slice a0 len cap] = some x) :
    ∃ l : List Int, l.length = len ∧ IA W a0 l ∧ len ≤ cap := by
  rcases DataW.trod_slice Tryz.underlying22 hf with ⟨hcs, _⟩ | ⟨a, l, c, elems, rest, n, _, hcs, _, _, hl, hm, hel, hc, _, _⟩
  · simp at hcs
    obtain ⟨_, rfl, rfl⟩ := hcs
    exact ⟨[], rfl, fun i x hx => by simp at hx, Nat.le_refl _⟩
  · simp at hcs
    obtain ⟨rfl, rfl, rfl⟩ := hcs
    by_cases hl0 : len = 0
    · exact ⟨[], by rw [hl0]; rfl, fun i x hx => by simp at hx, by omega⟩
    have each : ∀ i, i < len → ∃ q : Int, W.cells? 0 (a.add (i * 1)) 1 = some [.int .i64 q] := by
      intro i hi
      have h1 := hc i hi
      rw [cl3, List.getElem?_eq_getElem (by omega)] at h1
      obtain ⟨cs', h2, h3⟩ := Option.bind_eq_some_iff.1 h1
      obtain ⟨k, e0, _, _⟩ := DataW.trod_int Tryz.underlying3 h3
      subst e0
      exact ⟨k, h2⟩
    obtain ⟨g, o, spot⟩ := a
    obtain ⟨q0, hq0⟩ := each 0 (by omega)
    obtain ⟨_, _, hcell0⟩ := World.cells?_some hq0
    have c0 := hcell0 0 (by omega)
    have hspot : spot = none := by
      have e : W.cell? (((⟨g, o, spot⟩ : Addr).add (0 * 1)).add 0) = some (.int .i64 q0) := c0
      simpa [Addr.add] using World.cell?_spot e
    subst hspot
    have each2 : ∀ i, ∃ q : Int, i < len → W.cell? ⟨g, o + i, none⟩ = some (.int .i64 q) := by
      intro i
      by_cases hi : i < len
      · obtain ⟨q, hq⟩ := each i hi
        refine ⟨q, fun _ => ?_⟩
        obtain ⟨_, hlen, hcell⟩ := World.cells?_some hq
        have := hcell 0 (by omega)
        rw [Addr.add_mid, Addr.add_mid, Nat.mul_one, Nat.add_zero] at this
        rw [this]
        rfl
      · exact ⟨0, fun h => absurd h hi⟩
    obtain ⟨f, hf⟩ := Classical.skolem.1 each2
    refine ⟨(List.range len).map f, by simp, fun i x hx => ⟨g, o, rfl, ?_⟩, by omega⟩
    have hi' : i < len := by have := (List.getElem?_eq_some_iff.1 hx).1; simpa using this
    have h1 := hf i hi'
    rw [List.getElem?_map, List.getElem?_range hi'] at hx
    simp at hx
    rw [h1, hx]
set_option maxRecDepth 100000 in
/-- The cells of a batch. -/
theorem bc_of {H : Type} {enc : TypeId × Value → H} {W : World} {n : Nat} {cl : List Value} {x : DataW H × List MemPlace} (hf : DataW.trod enc Tryz.prog W 0 (fun _ => true) true n 58 cl = some x) :
    ∃ (b : BT) (a a2 : Option Addr) (cap cap2 : Nat), cl = (bc (.slice a b.txs.length cap) b.conf (.slice a2 b.mem.length cap2)).toList ∧ TA W a b.txs ∧ IA W a2 b.mem ∧ b.txs.length ≤ cap ∧ b.mem.length ≤ cap2 := by
  obtain ⟨xs, f, _, _, hl, hxl, hfd⟩ := DataW.trod_struct Tryz.underlying58 hf
  rw [clB] at hl
  match xs, hxl, cl, hl with
  | [y0, y1, y2], _, [v0, v1, v2], _ =>
    have g0 := hfd 0 _ rfl
    have g1 := hfd 1 _ rfl
    have g2 := hfd 2 _ rfl
    simp [clSlT, clSlI, clBool] at g0 g1 g2
    have hs0 : ∃ a len cap, v0 = .slice a len cap := by
      rcases DataW.trod_slice Tryz.underlying51 g0 with ⟨hcs, _⟩ | ⟨a, l, c, elems, rest, n, _, hcs, _⟩
      · simp at hcs; exact ⟨_, _, _, hcs⟩
      · simp at hcs; exact ⟨_, _, _, hcs⟩
    have hs2 : ∃ a len cap, v2 = .slice a len cap := by
      rcases DataW.trod_slice Tryz.underlying22 g2 with ⟨hcs, _⟩ | ⟨a, l, c, elems, rest, n, _, hcs, _⟩
      · simp at hcs; exact ⟨_, _, _, hcs⟩
      · simp at hcs; exact ⟨_, _, _, hcs⟩
    obtain ⟨a, len, cap, rfl⟩ := hs0
    obtain ⟨a2, len2, cap2, rfl⟩ := hs2
    obtain ⟨c, e1, _⟩ := DataW.trod_bool Tryz.underlying4 g1
    simp at e1
    subst e1
    obtain ⟨l, rfl, hT, hc⟩ := txs_of (cap := cap) (show DataW.trod enc Tryz.prog W 0 (fun _ => true) true _ 51 (Value.slice a len cap).cells.toList = some y0 from g0)
    obtain ⟨m, rfl, hI, hc2⟩ := ints_of g2
    exact ⟨⟨l, c, m⟩, a, a2, cap, cap2, rfl, hT, hI, hc, hc2⟩
end Go.Proofs.YtmbdhngoldganaaGreatDoor
namespace Go.Proofs.YtmbdhngoldganaaGreatDoor
open Go Go.ChangeShapes Go.WideShapes Go.ChangeAt Go.WideMaps Go.WideElems Go.RowKit
/-- Batches lie at an address. -/
def BA (w : World) (a : Option Addr) (l : List BT) : Prop := ∀ i (h : i < l.length), ∃ g o xa xa2 xc xc2, a = some ⟨g, o, none⟩ ∧ w.rangeAt g (o + i * 3) (bc (.slice xa l[i].txs.length xc) l[i].conf (.slice xa2 l[i].mem.length xc2)).toList ∧ TA w xa l[i].txs ∧ IA w xa2 l[i].mem ∧ l[i].txs.length ≤ xc ∧ l[i].mem.length ≤ xc2
theorem BA.nil (w : World) (a : Option Addr) : BA w a [] := fun _ h => absurd h (Nat.not_lt_zero _)
theorem BA.ex {w : World} {a : Option Addr} {l : List BT} (h : BA w a l) (h0 : 0 < l.length) : ∃ g o, a = some ⟨g, o, none⟩ := by
  obtain ⟨g, o, _, _, _, _, h1, _⟩ := h 0 h0
  exact ⟨g, o, h1⟩
set_option maxRecDepth 100000 in
/-- The batches of an argument. -/
theorem bats_of {H : Type} {enc : TypeId × Value → H} {W : World} {r : Reach} {base : Nat} {v : Value} {d : DataW H} {p : List MemPlace} (hv : Value.okWide Tryz.prog W r base 25 v) (h : DataW.Trod enc Tryz.prog W 0 (fun _ => true) true 25 v d p) :
    ∃ (l : List BT) (a : Option Addr) (cap : Nat), v = .slice a l.length cap ∧ BA W a l ∧ l.length ≤ cap ∧ l.length ≤ maxLen := by
  obtain ⟨fuel, hf⟩ := h
  have hsl : ∃ a len cap, v = .slice a len cap := by
    rcases DataW.trod_slice Tryz.underlying25 hf with ⟨hcs, _⟩ | ⟨a, l, c, elems, rest, n, _, hcs, _⟩
    · exact okWide_slice Tryz.underlying25 hv
    · exact okWide_slice Tryz.underlying25 hv
  obtain ⟨a0, len, cap, rfl⟩ := hsl
  rcases DataW.trod_slice Tryz.underlying25 hf with ⟨hcs, _⟩ | ⟨a, l, c, elems, rest, n, _, hcs, _, _, hl, hm, hel, hc, _, _⟩
  · simp [Value.cells] at hcs
    obtain ⟨_, rfl, _⟩ := hcs
    exact ⟨[], a0, cap, rfl, BA.nil _ _, Nat.zero_le _, Nat.zero_le _⟩
  · simp [Value.cells] at hcs
    obtain ⟨rfl, rfl, rfl⟩ := hcs
    by_cases hl0 : len = 0
    · exact ⟨[], some a, cap, by rw [hl0]; rfl, BA.nil _ _, Nat.zero_le _, Nat.zero_le _⟩
    have each : ∀ i, i < len → ∃ (b : BT) (xa xa2 : Option Addr) (xc xc2 : Nat), W.cells? 0 (a.add (i * 3)) 3 = some (bc (.slice xa b.txs.length xc) b.conf (.slice xa2 b.mem.length xc2)).toList ∧ TA W xa b.txs ∧ IA W xa2 b.mem ∧ b.txs.length ≤ xc ∧ b.mem.length ≤ xc2 := by
      intro i hi
      have h1 := hc i hi
      rw [clB, List.getElem?_eq_getElem (by omega)] at h1
      obtain ⟨cs', h2, h3⟩ := Option.bind_eq_some_iff.1 h1
      obtain ⟨b, xa, xa2, xc, xc2, rfl, h4⟩ := bc_of h3
      exact ⟨b, xa, xa2, xc, xc2, h2, h4⟩
    obtain ⟨g, o, spot⟩ := a
    obtain ⟨q0, xa0, xa20, xc0, xc20, hq0, _⟩ := each 0 (by omega)
    obtain ⟨_, _, hcell0⟩ := World.cells?_some hq0
    have c0 := hcell0 0 (by omega)
    have hspot : spot = none := by
      have e : W.cell? (((⟨g, o, spot⟩ : Addr).add (0 * 3)).add 0) = some (.slice xa0 q0.txs.length xc0) := c0
      simpa [Addr.add] using World.cell?_spot e
    subst hspot
    have each2 : ∀ i, ∃ b : BT, i < len → ∃ (xa xa2 : Option Addr) (xc xc2 : Nat), W.rangeAt g (o + i * 3) (bc (.slice xa b.txs.length xc) b.conf (.slice xa2 b.mem.length xc2)).toList ∧ TA W xa b.txs ∧ IA W xa2 b.mem ∧ b.txs.length ≤ xc ∧ b.mem.length ≤ xc2 := by
      intro i
      by_cases hi : i < len
      · obtain ⟨q, xa, xa2, xc, xc2, hq, h4⟩ := each i hi
        refine ⟨q, fun _ => ⟨xa, xa2, xc, xc2, fun j v hv => ?_, h4⟩⟩
        obtain ⟨_, hlen, hcell⟩ := World.cells?_some hq
        have hj : j < 3 := (List.getElem?_eq_some_iff.1 hv).1
        have := hcell j hj
        rw [Addr.add_mid, Addr.add_mid] at this
        rw [this, hv]
      · exact ⟨⟨[], false, []⟩, fun h => absurd h hi⟩
    obtain ⟨f, hf⟩ := Classical.skolem.1 each2
    refine ⟨(List.range len).map f, some ⟨g, o, none⟩, cap, by simp, fun i hi => ?_, by simp; omega, by simp; omega⟩
    have hi' : i < len := by simpa using hi
    obtain ⟨xa, xa2, xc, xc2, h5⟩ := hf i hi'
    refine ⟨g, o, xa, xa2, xc, xc2, rfl, ?_⟩
    simpa using h5
end Go.Proofs.YtmbdhngoldganaaGreatDoor
