/- What awake of the block's law does. A batch, out of what its argument reads as. -/
import Derived.Test.YtjfpfkiccbcedaaGreatDoorMke
import Derived.Test.YtjfpfkiccbcedaaGreatDoorBcb
import Derived.Test.YtjfpfkiccbcedaaGreatDoorChecked
import Derived.ProofKit
import Derived.LaidMore
import Derived.OpenShut
import Derived.Stop.Joined
import Derived.Deep.Slices
namespace Go.Proofs.YtjfpfkiccbcedaaGreatDoor
open Go Go.RowKit
theorem EX.new {w : World} {b bt : Nat} (h : ST w b []) (ht : Sh.Blk w bt #[.pointer none] 99) (hG : Sh.Glob w) (h2 : 2 ≤ b ∧ 2 ≤ bt) : EX w b bt [] .emp := ⟨h, ⟨none, ht, rfl⟩, hG, h2⟩
def ob1 : O := ⟨1, [97], [49]⟩
def ob2 : O := ⟨1, [97], [50]⟩
def tb1 : TX := ⟨1, 1, [ob1]⟩
def tb2 : TX := ⟨1, 3, [ob2]⟩
theorem tb1_ok : okTx tb1 = true := by decide
theorem tb2_ok : okTx tb2 = true := by decide
theorem tb1_run : runM [] tb1.ops = some [([107, 97], [49])] := by decide
theorem tb1_end (lb : List UInt8) : putM (nOf 1) lb [([107, 97], [49])] = [([107, 97], [49]), (nOf 1, lb)] := by
  have h1 : delM (nOf 1) [([107, 97], [49])] = [([107, 97], [49])] := by decide
  have h2 : bytesBefore (nOf 1) [107, 97] = false := by decide
  unfold putM
  rw [h1]
  unfold insM
  simp only [h2]
  rfl
theorem tb1_e : apE [] tb1 = 0 := apE_ok tb1_ok rfl tb1_run (by
  have e : endM tb1 [([107, 97], [49])] = putM (nOf 1) (lastB 1 (idB tb1)) [([107, 97], [49])] := rfl
  rw [e, tb1_end]
  decide)
theorem tb1_m : apM [] tb1 = [([107, 97], [49]), (nOf 1, lastB 1 (idB tb1))] := by
  rw [apM_ok tb1_e tb1_run]
  exact tb1_end _
theorem lastN_B (n : Nat) (hn : n < 18446744073709551616) (d : List UInt8) : lastN (lastB n d) = n := by
  have h := R.number_at [] (num n 8) (hash32 d) 8 (by rw [num_length]; rfl) (by rw [num_length]; decide)
  have e : lastN (lastB n d) = ((⟨[] ++ (num n 8 ++ hash32 d), ([] : List UInt8).length, 0⟩ : R).number 8).2 := rfl
  rw [e, h]
  rw [val_num]
  exact Nat.mod_eq_of_lt (by omega)
theorem tb1_last : lastM (apM [] tb1) 1 = 1 := by
  rw [tb1_m]
  have e : lastM [([107, 97], [49]), (nOf 1, lastB 1 (idB tb1))] 1 = lastN (lastB 1 (idB tb1)) := rfl
  rw [e, lastN_B 1 (by decide)]
theorem tb2_e : apE (apM [] tb1) tb2 = 50 := apE_nonce tb2_ok (by
  rw [show tb2.client = 1 from rfl, tb1_last]
  decide)
theorem aw_D : exD [] [tb1, tb2] = [tb1] := by
  show (if apE [] tb1 = 0 then tb1 :: (if apE (apM [] tb1) tb2 = 0 then _ else _) else _) = _
  rw [if_pos tb1_e, if_neg (by rw [tb2_e]; decide)]
  rfl
theorem aw_E : exE [] [tb1, tb2] = [0, 50] := by
  show [apE [] tb1, apE (apM [] tb1) tb2] = _
  rw [tb1_e, tb2_e]
def aw_B : BT := ⟨[tb1, tb2], false, []⟩
theorem aw_ok : chkB aw_B = 0 := by decide
theorem builtOb1 : Tryz.prog.built 90 [(0, .int .i64 1), (1, .string ⟨#[97]⟩), (2, .string ⟨#[49]⟩)] = some (opc ob1) := by kernel_rfl
theorem builtOb2 : Tryz.prog.built 90 [(0, .int .i64 1), (1, .string ⟨#[97]⟩), (2, .string ⟨#[50]⟩)] = some (opc ob2) := by kernel_rfl
theorem builtTb (n : Int) (k v : Nat) (hk : n = (k : Nat)) : Tryz.prog.built 60 [(0, .int .u64 1), (1, .int .u64 n), (2, .slice (some ⟨v, 0, none⟩) 1 1)] = some (txc 1 k (.slice (some ⟨v, 0, none⟩) 1 1)) := by subst hk; kernel_rfl
theorem bslTx2 (c n c2 n2 : Nat) (a a2 : Option Addr) (k cap k2 cap2 : Nat) (w : World) : (Instr.buildSlice 28 2 #[(0, .agg (txc c n (.slice a k cap))), (1, .agg (txc c2 n2 (.slice a2 k2 cap2)))]).run Tryz.prog w = .ok (.slice (some ⟨w.heap.size, 0, none⟩) 2 2) (w.alloc (.cells (txc c n (.slice a k cap) ++ txc c2 n2 (.slice a2 k2 cap2)) 60)) := by
  have hr6 : Array.range 6 = #[0, 1, 2, 3, 4, 5] := by decide
  simp [Instr.buildSlice, run_underlying Tryz.underlying28, sizeOf_run zTx.2, Sem.run_bind, Instr.fill, newRow, zTx.1, txc, Value.cells, hr6]
section
variable {ops : Array Oper} {rest : List Oper} {op : Oper} {a : Act} {w : World} {Q : Exit → Act → World → Prop}
theorem wpList_bslTx2 (hgd : op.guard = none) (x y : Operand) (ho : op.op = .buildSlice 28 2 #[(0, x), (1, y)]) (c n c2 n2 : Nat) (sa sa2 : Option Addr) (k cap k2 cap2 : Nat) (hx : a.eval x = .agg (txc c n (.slice sa k cap))) (hy : a.eval y = .agg (txc c2 n2 (.slice sa2 k2 cap2)))
    (h : ∀ w1 : World, Below w.heap.size w w1 → Blk w1 w.heap.size (txc c n (.slice sa k cap) ++ txc c2 n2 (.slice sa2 k2 cap2)) 60 → wpList Tryz.prog ops Q rest (a.put op.dst (.slice (some ⟨w.heap.size, 0, none⟩) 2 2)) w1) : wpList Tryz.prog ops Q (op :: rest) a w := by
  refine wpList_run hgd _ _ ?_ (h _ ((Below.refl _ _).alloc (Nat.le_refl _) _) (Blk.new _ _ _))
  unfold execOp
  have e : (#[(0, x), (1, y)] : Array (Nat × Operand)).map (fun (i, x) => (i, a.eval x)) = #[(0, .agg (txc c n (.slice sa k cap))), (1, .agg (txc c2 n2 (.slice sa2 k2 cap2)))] := by simp [hx, hy]
  have hr := bslTx2 c n c2 n2 sa sa2 k cap k2 cap2 w
  rw [← e] at hr
  simp only [ho, Sem.run_bind, hr, Result.andThen_ok]
  rfl
end
theorem Blk.ia1 {w : World} {g : Nat} {x : Int} (h : Blk w g #[.int .i64 x] 3) : IA w (some ⟨g, 0, none⟩) [x] := fun i v hv => by
  refine ⟨g, 0, rfl, ?_⟩
  rw [Nat.zero_add, h.cell]
  have hi : i < 1 := (List.getElem?_eq_some_iff.1 hv).1
  obtain rfl : i = 0 := by omega
  simp at hv
  subst hv
  rfl
theorem Blk.sl1 {w : World} {g : Nat} {o : O} (h : Blk w g (opc o) 90) : SL w (some ⟨g, 0, none⟩) [o] := fun i hi => by
  have h0 : i = 0 := by simp at hi; omega
  subst h0
  exact ⟨g, 0, rfl, fun j v hv => by rw [Nat.zero_mul, Nat.add_zero, Nat.zero_add, h.cell]; have hv2 : (opc o).toList[j]? = some v := hv; simpa using hv2⟩
theorem ta_two {w : World} {g g1 g2 : Nat} (h : Blk w g (txc 1 1 (.slice (some ⟨g1, 0, none⟩) 1 1) ++ txc 1 3 (.slice (some ⟨g2, 0, none⟩) 1 1)) 60) (h1 : Blk w g1 (opc ob1) 90) (h2 : Blk w g2 (opc ob2) 90) : TA w (some ⟨g, 0, none⟩) aw_B.txs := fun i hi => by
  have hi2 : i < 2 := hi
  rcases (show i = 0 ∨ i = 1 by omega) with rfl | rfl
  · refine ⟨g, 0, some ⟨g1, 0, none⟩, 1, rfl, fun j v hv => ?_, h1.sl1, (show (1 : Nat) < 18446744073709551616 by decide), (show (1 : Nat) < 18446744073709551616 by decide)⟩
    rw [Nat.zero_mul, Nat.add_zero, Nat.zero_add, h.cell]
    have hj : j < 3 := (List.getElem?_eq_some_iff.1 hv).1
    rcases (show j = 0 ∨ j = 1 ∨ j = 2 by omega) with rfl | rfl | rfl <;> exact hv
  · refine ⟨g, 0, some ⟨g2, 0, none⟩, 1, rfl, fun j v hv => ?_, h2.sl1, (show (1 : Nat) < 18446744073709551616 by decide), (show (3 : Nat) < 18446744073709551616 by decide)⟩
    rw [Nat.one_mul, Nat.zero_add, h.cell]
    have hj : j < 3 := (List.getElem?_eq_some_iff.1 hv).1
    rcases (show j = 0 ∨ j = 1 ∨ j = 2 by omega) with rfl | rfl | rfl <;> exact hv
/-- What is left of Make here. -/
theorem mkP_aw {w w' : World} {bs bt : Nat} {e : Ending} (h : MkP w bs bt [] .emp 1 zr aw_B.txs [0] e w') : ∃ tr sr gm cm a cap g cp, e = .returned (.tuple #[.agg (bk 1 zr tr sr (.slice (some ⟨gm, 0, none⟩) 1 cm) (.slice a 1 cap)), .slice (some ⟨g, 0, none⟩) 2 cp, .int .i64 0]) ∧ w'.cell? ⟨g, 0, none⟩ = some (.int .i64 0) ∧ w'.cell? ⟨g, 1, none⟩ = some (.int .i64 50) ∧ Two bs bt w w' := by
  obtain ⟨lo, a, cap, st, dls, gm, cm, rfl, hD, _, _⟩ := h
  rw [show aw_B.txs = [tb1, tb2] from rfl] at *
  have h1 := hD.tld
  rw [aw_E] at h1
  obtain ⟨a1, cp, rfl, h2⟩ := h1.sl
  obtain ⟨g, rfl, h3⟩ := h2 0 (by decide)
  obtain ⟨g', hg', h4⟩ := h2 1 (by decide)
  simp only [Option.some.injEq, Addr.mk.injEq, and_true] at hg'
  subst hg'
  rw [aw_D]
  exact ⟨_, _, gm, cm, a, cap, g, cp, rfl, h3 0 _ rfl, h4 0 _ rfl, hD.two⟩
section
attribute [local go_sem] Oper.semAt_some
set_option maxRecDepth 100000 in
set_option maxHeartbeats 2000000 in
theorem awakeB_any (w : World) (hG : Sh.Glob w) : Calls Tryz.prog 13 #[] w fun e w' => e = .returned (.bool true) ∧ Below w.heap.size w w' := by
  have h2w := hG.two
  have HN := new_any w
  have HT := fun w1 => Sh.tnew_any w1
  have HZ := fun w1 => zeros9_any w1
  have HM := fun gm g w1 bs bt (hE : EX w1 bs bt [] .emp) (hT : TA w1 (some ⟨g, 0, none⟩) aw_B.txs) (hI : IA w1 (some ⟨gm, 0, none⟩) [0]) => make_any aw_B aw_ok zr rfl 1 (by decide) [0] (by decide) (some ⟨gm, 0, none⟩) 1 bs bt [] .emp (some ⟨g, 0, none⟩) none 2 0 w1 hE Sz.nil trivial (by decide) hT hI (fun i x hx => by cases hx)
  have HM2 : ∀ gm g w1 bs bt, EX w1 bs bt [] .emp → TA w1 (some ⟨g, 0, none⟩) aw_B.txs → IA w1 (some ⟨gm, 0, none⟩) [0] → Calls Tryz.prog 16 #[.string ⟨zr.toArray⟩, .int .u64 1, .slice (some ⟨gm, 0, none⟩) 1 1, .pointer (some ⟨bs, 0, none⟩), .pointer (some ⟨bt, 0, none⟩), .agg (bc (.slice (some ⟨g, 0, none⟩) 2 2) false (.slice none 0 0))] w1 (fun e w' => ∃ tr sr gm cm a cap g cp, e = .returned (.tuple #[.agg (bk 1 zr tr sr (.slice (some ⟨gm, 0, none⟩) 1 cm) (.slice a 1 cap)), .slice (some ⟨g, 0, none⟩) 2 cp, .int .i64 0]) ∧ w'.cell? ⟨g, 0, none⟩ = some (.int .i64 0) ∧ w'.cell? ⟨g, 1, none⟩ = some (.int .i64 50) ∧ Two bs bt w1 w') := fun gm g w1 bs bt hE hT hI => (HM gm g w1 bs bt hE hT hI).mono fun e w' h => mkP_aw h
  clear HM
  generalize zr = z at *
  go_enter Tryz.func13, Tryz.ntmps13
  go_upto_region 3 with (first
    | (go_at_call 14; refine HN.mono ?_; rintro e w1 ⟨rfl, hw1, hS1, hs1⟩; clear HN; replace hs1 := hs1.symm)
    | (go_at_call 15; refine (HT _).mono ?_; rintro e w2 ⟨rfl, hb2, hw2⟩; clear HT; have hE : EX w2 (w.heap.size + 1) w1.heap.size [] .emp := EX.new (hS1.below hw2) hb2 ((hG.belowSize hw1).belowSize hw2) ⟨(by omega), (by omega)⟩; have hB := hw1.trans (hw2.mono hw1.size); clear hb2 hS1 hw2)
    | (go_at_call 17; refine (HZ _).mono ?_; rintro e w' ⟨rfl, hw'⟩; have hw6 := hw'.symm; subst hw6; clear HZ hw')
    | (go_at_call 16; refine (HM2 _ _ _ _ _ hE (ta_two hb7 hb5 hb6) hb4.ia1).mono ?_; rintro e w8 ⟨tr, sr, gm, cm, ax, capx, gx, cpx, rfl, hc0, hc1, hTw⟩; clear HM2 hb4 hb5 hb6 hb7; replace hB := hB.trans (hTw.to_below (by omega) (by omega) hB.size); clear hTw hE)
    | (with_reducible refine at_list ?_; first
      | (refine wpList_bsl1I (op := ⟨some 10, _, _, _, _, _⟩) rfl _ rfl 0 rfl ?_; intro w4 hw4 hs4 hb4; clear hs4; replace hE := hE.below hw4; replace hB := hB.trans (hw4.mono hB.size); clear hw4)
      | (refine wpList_build (o := ⟨some 13, _, _, _, _, _⟩) rfl _ _ rfl builtOb1 ?_)
      | (refine wpList_bslOp (op := ⟨some 14, _, _, _, _, _⟩) rfl _ rfl ob1 rfl ?_; intro w5 hw5 hs5 hb5; clear hs5; replace hE := hE.below hw5; replace hb4 := hb4.belowSize hw5; replace hB := hB.trans (hw5.mono hB.size); clear hw5)
      | (refine wpList_build (o := ⟨some 15, _, _, _, _, _⟩) rfl _ _ rfl (builtTb 1 1 w4.heap.size rfl) ?_)
      | (refine wpList_build (o := ⟨some 16, _, _, _, _, _⟩) rfl _ _ rfl builtOb2 ?_)
      | (refine wpList_bslOp (op := ⟨some 17, _, _, _, _, _⟩) rfl _ rfl ob2 rfl ?_; intro w6 hw6 hs6 hb6; clear hs6; replace hE := hE.below hw6; replace hb4 := hb4.belowSize hw6; replace hb5 := hb5.belowSize hw6; replace hB := hB.trans (hw6.mono hB.size); clear hw6)
      | (refine wpList_build (o := ⟨some 18, _, _, _, _, _⟩) rfl _ _ rfl (builtTb 3 3 w5.heap.size rfl) ?_)
      | (refine wpList_bslTx2 (op := ⟨some 19, _, _, _, _, _⟩) rfl _ _ rfl 1 1 1 3 (some ⟨w4.heap.size, 0, none⟩) (some ⟨w5.heap.size, 0, none⟩) 1 1 1 1 rfl rfl ?_; intro w7 hw7 hb7; replace hE := hE.below hw7; replace hb4 := hb4.belowSize hw7; replace hb5 := hb5.belowSize hw7; replace hb6 := hb6.belowSize hw7; replace hB := hB.trans (hw7.mono hB.size); clear hw7)
      | (refine wpList_run (op := ⟨some 20, _, _, _, _, _⟩) rfl _ _ (run_built1 _ _ _ rfl _ rfl _ (builtB (some ⟨w6.heap.size, 0, none⟩) 2 2)) ?_)
      | (refine wpList_allocRow (op := ⟨some 3, _, _, _, _, _⟩) rfl _ rfl _ zBlk.1 ?_; intro w9 hw9 hs9 h3; clear hs9; have hlt8 : gx < w8.heap.size := World.block_lt_of_cell? _ _ hc0; replace hc0 := cell_keep hw9 hc0; replace hc1 := cell_keep hw9 hc1)
      | (refine wpList_storeRow (op := ⟨none, .store 46 (.tmp 3) (.tmp 22), _, _, _, _⟩) rfl _ _ _ rfl w8.heap.size (bk 1 z tr sr (.slice (some ⟨gm, 0, none⟩) 1 cm) (.slice ax 1 capx)) rfl rfl _ _ h3 (by simp only [bk_size]) (bk_info _ _ _ _ _ _) (bk_one _ _ _ _ _ _ _ _ _ _) ?_; intro wA hgA hsA hA; clear hsA h3; replace hc0 := hgA.cell hc0 (fun e => absurd (Option.some.inj e) (Nat.ne_of_lt hlt8)); replace hc1 := hgA.cell hc1 (fun e => absurd (Option.some.inj e) (Nat.ne_of_lt hlt8)); have hB9 := hB.trans (hw9.mono hB.size); have hBA := hB9.trans (below_of_grown hgA hB.size hB9.size); clear hgA hw9 hB9)))
  have c0 := (hA.cell 0).trans (show _ = some (.int .u64 1) from rfl)
  have c5 := (hA.cell 5).trans (bk_g5 _ _ _ _ _ _)
  clear hA
  go_wp2_with fail
  go_ret
  exact ⟨rfl, hBA⟩
end
end Go.Proofs.YtjfpfkiccbcedaaGreatDoor
namespace Go.Proofs.YtjfpfkiccbcedaaGreatDoor
open Go Go.ChangeShapes Go.WideShapes Go.ChangeAt Go.WideMaps Go.WideElems Go.RowKit
theorem clOp : Tryz.prog.cellsOf 90 = 3 := by kernel_rfl
theorem clTx : Tryz.prog.cellsOf 60 = 3 := by kernel_rfl
theorem clSl : Tryz.prog.cellsOf 58 = 1 := by kernel_rfl
theorem cl3 : Tryz.prog.cellsOf 3 = 1 := by kernel_rfl
theorem cl22 : Tryz.prog.cellsOf 42 = 1 := by kernel_rfl
theorem cl9 : Tryz.prog.cellsOf 9 = 1 := by kernel_rfl
set_option maxRecDepth 100000 in
theorem op_of {H : Type} {enc : TypeId × Value → H} {W : World} {n : Nat} {sp : Nat → Bool} {held : Bool} {base : Nat} {cs : List Value} {x : DataW H × List MemPlace} (h : DataW.trod enc Tryz.prog W base sp held n 90 cs = some x) :
    ∃ o : O, cs = (opc o).toList := by
  obtain ⟨xs, f, _, _, hl, hxl, hf⟩ := DataW.trod_struct Tryz.underlying90 h
  rw [clOp] at hl
  match xs, hxl, cs, hl with
  | [y0, y1, y2], _, [v0, v1, v2], _ =>
    have g0 := hf 0 _ rfl
    have g1 := hf 1 _ rfl
    have g2 := hf 2 _ rfl
    simp [cl3, cl9] at g0 g1 g2
    obtain ⟨k, e0, _, _⟩ := DataW.trod_int Tryz.underlying3 g0
    obtain ⟨s, e1, _, _⟩ := DataW.trod_string Tryz.underlying9 g1
    obtain ⟨t, e2, _, _⟩ := DataW.trod_string Tryz.underlying9 g2
    refine ⟨⟨k, s.data.toList, t.data.toList⟩, ?_⟩
    simp at e0 e1 e2
    subst e0 e1 e2
    rfl
set_option maxRecDepth 100000 in
/-- The operations of an argument's slice. -/
theorem ops_of {H : Type} {enc : TypeId × Value → H} {W : World} {n : Nat} {a0 : Option Addr} {len cap : Nat} {x : DataW H × List MemPlace} (hf : DataW.trod enc Tryz.prog W 0 (fun _ => true) true n 58 [.slice a0 len cap] = some x) :
    ∃ l : List O, l.length = len ∧ SL W a0 l := by
  rcases DataW.trod_slice Tryz.underlying58 hf with ⟨hcs, _⟩ | ⟨a, l, c, elems, rest, n, _, hcs, _, _, hl, hm, hel, hc, _, _⟩
  · simp at hcs
    obtain ⟨_, rfl, _⟩ := hcs
    exact ⟨[], rfl, SL.nil _ _⟩
  · simp at hcs
    obtain ⟨rfl, rfl, rfl⟩ := hcs
    by_cases hl0 : len = 0
    · exact ⟨[], by rw [hl0]; rfl, SL.nil _ _⟩
    have each : ∀ i, i < len → ∃ q : O, W.cells? 0 (a.add (i * 3)) 3 = some (opc q).toList := by
      intro i hi
      have h1 := hc i hi
      rw [clOp, List.getElem?_eq_getElem (by omega)] at h1
      obtain ⟨cs', h2, h3⟩ := Option.bind_eq_some_iff.1 h1
      obtain ⟨q, rfl⟩ := op_of h3
      exact ⟨q, h2⟩
    obtain ⟨g, o, spot⟩ := a
    obtain ⟨q0, hq0⟩ := each 0 (by omega)
    obtain ⟨_, _, hcell0⟩ := World.cells?_some hq0
    have c0 := hcell0 0 (by omega)
    have hspot : spot = none := by
      have e : W.cell? (((⟨g, o, spot⟩ : Addr).add (0 * 3)).add 0) = some (.int .i64 q0.kind) := c0
      simpa [Addr.add] using World.cell?_spot e
    subst hspot
    have each2 : ∀ i, ∃ q : O, i < len → W.rangeAt g (o + i * 3) (opc q).toList := by
      intro i
      by_cases hi : i < len
      · obtain ⟨q, hq⟩ := each i hi
        refine ⟨q, fun _ j v hv => ?_⟩
        obtain ⟨_, hlen, hcell⟩ := World.cells?_some hq
        have hj : j < 3 := (List.getElem?_eq_some_iff.1 hv).1
        have := hcell j hj
        rw [Addr.add_mid, Addr.add_mid] at this
        rw [this, hv]
      · exact ⟨⟨0, [], []⟩, fun h => absurd h hi⟩
    obtain ⟨f, hf⟩ := Classical.skolem.1 each2
    refine ⟨(List.range len).map f, by simp, fun i hi => ⟨g, o, rfl, ?_⟩⟩
    have hi' : i < len := by simpa using hi
    have := hf i hi'
    simpa using this
theorem clSlI : Tryz.prog.cellsOf 23 = 1 := by kernel_rfl
theorem clSlT : Tryz.prog.cellsOf 28 = 1 := by kernel_rfl
theorem clB : Tryz.prog.cellsOf 30 = 3 := by kernel_rfl
theorem clBool : Tryz.prog.cellsOf 4 = 1 := by kernel_rfl
set_option maxRecDepth 100000 in
theorem txc_of {H : Type} {enc : TypeId × Value → H} {W : World} {n : Nat} {cs : List Value} {x : DataW H × List MemPlace} (hf : DataW.trod enc Tryz.prog W 0 (fun _ => true) true n 60 cs = some x) :
    ∃ (t : TX) (a : Option Addr) (cap : Nat), cs = (txc t.client t.nonce (.slice a t.ops.length cap)).toList ∧ SL W a t.ops ∧ t.client < 18446744073709551616 ∧ t.nonce < 18446744073709551616 := by
  obtain ⟨xs, f, _, _, hl, hxl, hfd⟩ := DataW.trod_struct Tryz.underlying60 hf
  rw [clTx] at hl
  match xs, hxl, cs, hl with
  | [y0, y1, y2], _, [v0, v1, v2], _ =>
    have g0 := hfd 0 _ rfl
    have g1 := hfd 1 _ rfl
    have g2 := hfd 2 _ rfl
    simp [cl22, clSl] at g0 g1 g2
    obtain ⟨c, e0, _, w0⟩ := DataW.trod_int Tryz.underlying42 g0
    obtain ⟨n, e1, _, w1⟩ := DataW.trod_int Tryz.underlying42 g1
    have b0 : 0 ≤ c ∧ c ≤ 18446744073709551615 := by simpa [Lit.wf, IntKind.min, IntKind.max, IntKind.signed, IntKind.bits] using w0
    have b1 : 0 ≤ n ∧ n ≤ 18446744073709551615 := by simpa [Lit.wf, IntKind.min, IntKind.max, IntKind.signed, IntKind.bits] using w1
    simp at e0 e1
    subst e0 e1
    have hs2 : ∃ a len cap, v2 = .slice a len cap := by
      rcases DataW.trod_slice Tryz.underlying58 g2 with ⟨hcs, _⟩ | ⟨a, l, c, elems, rest, n, _, hcs, _⟩
      · simp at hcs; exact ⟨_, _, _, hcs⟩
      · simp at hcs; exact ⟨_, _, _, hcs⟩
    obtain ⟨a, len, cap, rfl⟩ := hs2
    obtain ⟨l, hll, hSL⟩ := ops_of g2
    refine ⟨⟨c.toNat, n.toNat, l⟩, a, cap, ?_, hSL, by dsimp only; omega, by dsimp only; omega⟩
    dsimp only
    rw [hll]
    unfold txc
    rw [show ((c.toNat : Nat) : Int) = c from by omega, show ((n.toNat : Nat) : Int) = n from by omega]
set_option maxRecDepth 100000 in
/-- The transactions of an argument's slice. -/
theorem txs_of {H : Type} {enc : TypeId × Value → H} {W : World} {n : Nat} {a0 : Option Addr} {len cap : Nat} {x : DataW H × List MemPlace} (hf : DataW.trod enc Tryz.prog W 0 (fun _ => true) true n 28 (Value.slice a0 len cap).cells.toList = some x) :
    ∃ l : List TX, l.length = len ∧ TA W a0 l ∧ len ≤ cap := by
  rcases DataW.trod_slice Tryz.underlying28 hf with ⟨hcs, _⟩ | ⟨a, l, c, elems, rest, n, _, hcs, _, _, hl, hm, hel, hc, _, _⟩
  · simp [Value.cells] at hcs
    obtain ⟨_, rfl, _⟩ := hcs
    exact ⟨[], rfl, fun i hi => by simp at hi, Nat.zero_le _⟩
  · simp [Value.cells] at hcs
    obtain ⟨rfl, rfl, rfl⟩ := hcs
    by_cases hl0 : len = 0
    · exact ⟨[], by rw [hl0]; rfl, fun i hi => by simp at hi, by omega⟩
    have each : ∀ i, i < len → ∃ (t : TX) (sa : Option Addr) (sc : Nat), W.cells? 0 (a.add (i * 3)) 3 = some (txc t.client t.nonce (.slice sa t.ops.length sc)).toList ∧ SL W sa t.ops ∧ t.client < 18446744073709551616 ∧ t.nonce < 18446744073709551616 := by
      intro i hi
      have h1 := hc i hi
      rw [clTx, List.getElem?_eq_getElem (by omega)] at h1
      obtain ⟨cs', h2, h3⟩ := Option.bind_eq_some_iff.1 h1
      obtain ⟨t, sa, sc, rfl, h4⟩ := txc_of h3
      exact ⟨t, sa, sc, h2, h4⟩
    obtain ⟨g, o, spot⟩ := a
    obtain ⟨q0, _, _, hq0, _⟩ := each 0 (by omega)
    obtain ⟨_, _, hcell0⟩ := World.cells?_some hq0
    have c0 := hcell0 0 (by omega)
    have hspot : spot = none := by
      have e : W.cell? (((⟨g, o, spot⟩ : Addr).add (0 * 3)).add 0) = some (.int .u64 (q0.client : Nat)) := c0
      simpa [Addr.add] using World.cell?_spot e
    subst hspot
    have each2 : ∀ i, ∃ t : TX, i < len → ∃ sa sc, W.rangeAt g (o + i * 3) (txc t.client t.nonce (.slice sa t.ops.length sc)).toList ∧ SL W sa t.ops ∧ t.client < 18446744073709551616 ∧ t.nonce < 18446744073709551616 := by
      intro i
      by_cases hi : i < len
      · obtain ⟨t, sa, sc, hq, h4⟩ := each i hi
        refine ⟨t, fun _ => ⟨sa, sc, fun j v hv => ?_, h4⟩⟩
        obtain ⟨_, hlen, hcell⟩ := World.cells?_some hq
        have hj : j < 3 := (List.getElem?_eq_some_iff.1 hv).1
        have := hcell j hj
        rw [Addr.add_mid, Addr.add_mid] at this
        rw [this, hv]
      · exact ⟨⟨0, 0, []⟩, fun h => absurd h hi⟩
    obtain ⟨f, hf⟩ := Classical.skolem.1 each2
    refine ⟨(List.range len).map f, by simp, fun i hi => ?_, by omega⟩
    have hi' : i < len := by simpa using hi
    obtain ⟨sa, sc, h5⟩ := hf i hi'
    refine ⟨g, o, sa, sc, rfl, ?_⟩
    simpa using h5
set_option maxRecDepth 100000 in
theorem ints_of {H : Type} {enc : TypeId × Value → H} {W : World} {n : Nat} {a0 : Option Addr} {len cap : Nat} {x : DataW H × List MemPlace} (hf : DataW.trod enc Tryz.prog W 0 (fun _ => true) true n 23 [.slice a0 len cap] = some x) :
    ∃ l : List Int, l.length = len ∧ IA W a0 l ∧ len ≤ cap := by
  rcases DataW.trod_slice Tryz.underlying23 hf with ⟨hcs, _⟩ | ⟨a, l, c, elems, rest, n, _, hcs, _, _, hl, hm, hel, hc, _, _⟩
  · simp at hcs
    obtain ⟨_, rfl, rfl⟩ := hcs
    exact ⟨[], rfl, fun i x hx => by simp at hx, Nat.le_refl _⟩
  · simp at hcs
    obtain ⟨rfl, rfl, rfl⟩ := hcs
    by_cases hl0 : len = 0
    · exact ⟨[], by rw [hl0]; rfl, fun i x hx => by simp at hx, by omega⟩
    have each : ∀ i, i < len → ∃ q : Int, W.cells? 0 (a.add (i * 1)) 1 = some [.int .i64 q] := by
      intro i hi
      have h1 := hc i hi
      rw [cl3, List.getElem?_eq_getElem (by omega)] at h1
      obtain ⟨cs', h2, h3⟩ := Option.bind_eq_some_iff.1 h1
      obtain ⟨k, e0, _, _⟩ := DataW.trod_int Tryz.underlying3 h3
      subst e0
      exact ⟨k, h2⟩
    obtain ⟨g, o, spot⟩ := a
    obtain ⟨q0, hq0⟩ := each 0 (by omega)
    obtain ⟨_, _, hcell0⟩ := World.cells?_some hq0
    have c0 := hcell0 0 (by omega)
    have hspot : spot = none := by
      have e : W.cell? (((⟨g, o, spot⟩ : Addr).add (0 * 1)).add 0) = some (.int .i64 q0) := c0
      simpa [Addr.add] using World.cell?_spot e
    subst hspot
    have each2 : ∀ i, ∃ q : Int, i < len → W.cell? ⟨g, o + i, none⟩ = some (.int .i64 q) := by
      intro i
      by_cases hi : i < len
      · obtain ⟨q, hq⟩ := each i hi
        refine ⟨q, fun _ => ?_⟩
        obtain ⟨_, hlen, hcell⟩ := World.cells?_some hq
        have := hcell 0 (by omega)
        rw [Addr.add_mid, Addr.add_mid, Nat.mul_one, Nat.add_zero] at this
        rw [this]
        rfl
      · exact ⟨0, fun h => absurd h hi⟩
    obtain ⟨f, hf⟩ := Classical.skolem.1 each2
    refine ⟨(List.range len).map f, by simp, fun i x hx => ⟨g, o, rfl, ?_⟩, by omega⟩
    have hi' : i < len := by have := (List.getElem?_eq_some_iff.1 hx).1; simpa using this
    have h1 := hf i hi'
    rw [List.getElem?_map, List.getElem?_range hi'] at hx
    simp at hx
    rw [h1, hx]
set_option maxRecDepth 100000 in
/-- The cells of a batch. -/
theorem bc_of {H : Type} {enc : TypeId × Value → H} {W : World} {n : Nat} {cl : List Value} {x : DataW H × List MemPlace} (hf : DataW.trod enc Tryz.prog W 0 (fun _ => true) true n 30 cl = some x) :
    ∃ (b : BT) (a a2 : Option Addr) (cap cap2 : Nat), cl = (bc (.slice a b.txs.length cap) b.conf (.slice a2 b.mem.length cap2)).toList ∧ TA W a b.txs ∧ IA W a2 b.mem ∧ b.txs.length ≤ cap ∧ b.mem.length ≤ cap2 := by
  obtain ⟨xs, f, _, _, hl, hxl, hfd⟩ := DataW.trod_struct Tryz.underlying30 hf
  rw [clB] at hl
  match xs, hxl, cl, hl with
  | [y0, y1, y2], _, [v0, v1, v2], _ =>
    have g0 := hfd 0 _ rfl
    have g1 := hfd 1 _ rfl
    have g2 := hfd 2 _ rfl
    simp [clSlT, clSlI, clBool] at g0 g1 g2
    have hs0 : ∃ a len cap, v0 = .slice a len cap := by
      rcases DataW.trod_slice Tryz.underlying28 g0 with ⟨hcs, _⟩ | ⟨a, l, c, elems, rest, n, _, hcs, _⟩
      · simp at hcs; exact ⟨_, _, _, hcs⟩
      · simp at hcs; exact ⟨_, _, _, hcs⟩
    have hs2 : ∃ a len cap, v2 = .slice a len cap := by
      rcases DataW.trod_slice Tryz.underlying23 g2 with ⟨hcs, _⟩ | ⟨a, l, c, elems, rest, n, _, hcs, _⟩
      · simp at hcs; exact ⟨_, _, _, hcs⟩
      · simp at hcs; exact ⟨_, _, _, hcs⟩
    obtain ⟨a, len, cap, rfl⟩ := hs0
    obtain ⟨a2, len2, cap2, rfl⟩ := hs2
    obtain ⟨c, e1, _⟩ := DataW.trod_bool Tryz.underlying4 g1
    simp at e1
    subst e1
    obtain ⟨l, rfl, hT, hc⟩ := txs_of (cap := cap) (show DataW.trod enc Tryz.prog W 0 (fun _ => true) true _ 28 (Value.slice a len cap).cells.toList = some y0 from g0)
    obtain ⟨m, rfl, hI, hc2⟩ := ints_of g2
    exact ⟨⟨l, c, m⟩, a, a2, cap, cap2, rfl, hT, hI, hc, hc2⟩
set_option maxRecDepth 100000 in
/-- A batch out of its argument. -/
theorem bat_of {H : Type} {enc : TypeId × Value → H} {W : World} {r : Reach} {base : Nat} {v : Value} {d : DataW H} {p : List MemPlace} (hv : Value.okWide Tryz.prog W r base 30 v) (h : DataW.Trod enc Tryz.prog W 0 (fun _ => true) true 30 v d p) :
    ∃ (b : BT) (a a2 : Option Addr) (cap cap2 : Nat), v = .agg (bc (.slice a b.txs.length cap) b.conf (.slice a2 b.mem.length cap2)) ∧ TA W a b.txs ∧ IA W a2 b.mem ∧ b.txs.length ≤ cap ∧ b.mem.length ≤ cap2 := by
  obtain ⟨cs, rfl, hsz⟩ := okWide_struct Tryz.underlying30 hv
  obtain ⟨fuel, hf⟩ := h
  obtain ⟨cl⟩ := cs
  obtain ⟨b, a, a2, cap, cap2, e, h1⟩ := bc_of (cl := cl) (by simpa [Value.cells] using hf)
  refine ⟨b, a, a2, cap, cap2, ?_, h1⟩
  rw [e]
end Go.Proofs.YtjfpfkiccbcedaaGreatDoor
