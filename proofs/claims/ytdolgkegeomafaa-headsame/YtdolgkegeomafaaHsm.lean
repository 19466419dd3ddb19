/- What HeadSame does. -/
import Derived.Test.YtdolgkegeomafaaHcl
import Derived.Deep.RegionHeld3
namespace Go.Proofs.Ytdolgkegeomafaa
open Go Go.RowKit
theorem and1023 (n : Int) : ∃ k : Nat, bits .and .i64 n 1023 = (k : Int) ∧ k ≤ 1023 := by
  refine ⟨(BitVec.ofInt 64 n &&& BitVec.ofInt 64 1023).toNat, ?_, ?_⟩
  · have h : (BitVec.ofInt 64 n &&& BitVec.ofInt 64 1023).toNat ≤ 1023 := by rw [BitVec.toNat_and]; exact Nat.and_le_right
    unfold bits
    show IntKind.i64.wrap ((BitVec.ofInt 64 n &&& BitVec.ofInt 64 1023).toNat : Int) = _
    rw [IntKind.wrap_i64]
    omega
  · rw [BitVec.toNat_and]
    exact Nat.and_le_right
theorem run_loadRow {P : Program} {op : Oper} {a : Act} {w : World} (ty : TypeId) (x : Operand) (ho : op.op = .load ty x) (b : Nat) (hx : a.eval x = .pointer (some ⟨b, 0, none⟩))
    (c : Array Value) (t : TypeId) (hb : Blk w b c t) (d : TypeDesc) (hu : P.underlying ty = some d) (hd : d.isRow = true) (hi : (P.info? ty).map (·.size) = some c.size) :
    (execOp a.eval op).run P w = .ok (.value (.agg c)) w := by
  unfold execOp
  simp only [ho, hx]
  simp [Instr.loadAt, Instr.sureAddr, hb.loadVar d hu hd hi]
section
attribute [local go_sem] Oper.semAt_some
set_option maxRecDepth 100000 in
set_option maxHeartbeats 1000000 in
theorem hsame_bad (x y : HH) (hbad : ¬ okH x = true ∨ ¬ okH y = true) (a b : Option Addr) (cap cap2 : Nat) (n : Int) (w : World) (h : IA w a x.mem) (h' : IA w b y.mem) :
    Calls Try.prog 4 #[.agg (hA x.height x.prev x.txr x.str (.slice a x.mem.length cap)), .agg (hA y.height y.prev y.txr y.str (.slice b y.mem.length cap2)), .int .i64 n] w fun e w' => e = .returned (.bool true) ∧ Below w.heap.size w w' := by
  have HF1 := fun w => refH_any x.height x.prev x.txr x.str a x.mem.length cap w
  have HF2 := fun w => refH_any y.height y.prev y.txr y.str b y.mem.length cap2 w
  have HK1 := fun w' (hB : Below w.heap.size w w') => rcheckH_any x a cap w' (h.below hB)
  have HK2 := fun w' (hB : Below w.heap.size w w') => rcheckH_any y b cap2 w' (h'.below hB)
  have HA := fun w => awakeH_any w
  obtain ⟨ht, p, t, s, l⟩ := x
  obtain ⟨ht', p', t', s', m⟩ := y
  dsimp only at *
  change ∀ w', Below w.heap.size w w' → Calls Try.prog 11 #[.agg (hA ht p t s (.slice a l.length cap))] w' _ at HK1
  by_cases hs : okH ⟨ht, p, t, s, l⟩ = true
  · have ht2 : ¬ okH ⟨ht', p', t', s', m⟩ = true := by rcases hbad with h9 | h9; exact absurd hs h9; exact h9
    rw [chkH_zero (okH_iff.1 hs)] at HK1
    rw [chkH_not (fun k => ht2 (okH_iff.2 k))] at HK2
    clear hs ht2 hbad
    change ∀ w', Below w.heap.size w w' → Calls Try.prog 11 #[.agg (hA ht' p' t' s' (.slice b m.length cap2))] w' _ at HK2
    change ∀ w, Calls Try.prog 10 #[.agg #[.int .u64 (ht' : Nat), .string ⟨p'.toArray⟩, .string ⟨t'.toArray⟩, .string ⟨s'.toArray⟩, .slice b m.length cap2]] w _ at HF2
    go_enter Try.func4, Try.ntmps4
    go_wp2_with (first
      | (go_at_call 10; refine (HF1 _).mono ?_; rintro e w3 ⟨rfl, hw3⟩; clear HF1; replace h4 := h4.belowSize hw3; replace HB := HB.trans (hw3.mono HB.size); clear hw3)
      | (go_at_call 11; refine (HK1 _ HB).mono ?_; rintro e w4 ⟨rfl, hw4⟩; clear HK1; replace h4 := h4.belowSize hw4; replace HB := HB.trans (hw4.mono HB.size); clear hw4; have d0 := (h4.cell 0).trans (hA_g0 _ _ _ _ _); have d1 := (h4.cell 1).trans (hA_g1 _ _ _ _ _); have d2 := (h4.cell 2).trans (hA_g2 _ _ _ _ _); have d3 := (h4.cell 3).trans (hA_g3 _ _ _ _ _); have d4 := (h4.cell 4).trans (hA_g4 _ _ _ _ _))
      | (go_at_call 10; refine (HF2 _).mono ?_; rintro e w5 ⟨rfl, hw5⟩; clear HF2 d0 d1 d2 d3 d4; replace HB := HB.trans (hw5.mono HB.size); clear hw5)
      | (go_at_call 11; refine (HK2 _ HB).mono ?_; rintro e w6 ⟨rfl, hw6⟩; clear HK2; replace HB := HB.trans (hw6.mono HB.size); clear hw6)
      | (go_at_call 8; refine (HA _).mono ?_; rintro e w7 ⟨rfl, hw7⟩; clear HA; replace HB := HB.trans (hw7.mono HB.size); clear hw7)
      | (with_reducible refine at_list ?_; first
        | (refine wpList_boxRow (op := ⟨some 3, _, _, _, _, _⟩) rfl _ _ rfl _ rfl ?_; intro w1 hw1 hs1 h3; replace hs1 := hs1.symm; have HB := hw1; clear hw1)
        | (refine wpList_boxRow (op := ⟨some 4, _, _, _, _, _⟩) rfl _ _ rfl _ rfl ?_; intro w2 hw2 hs2 h4; replace hs2 := hs2.symm; replace h3 := h3.belowSize hw2; replace HB := HB.trans (hw2.mono HB.size); clear hw2)
        | (refine wpList_loadRow (op := ⟨some 11, _, _, _, _, _⟩) rfl _ _ rfl w.heap.size rfl _ _ h3 _ Try.underlying25 rfl (by rw [hA_size]; exact zH.2) ?_)))
    go_ret
    exact ⟨rfl, HB⟩
  · rw [chkH_not (fun k => hs (okH_iff.2 k))] at HK1
    clear hs hbad HF2 HK2
    go_enter Try.func4, Try.ntmps4
    go_wp2_with (first
      | (go_at_call 10; refine (HF1 _).mono ?_; rintro e w3 ⟨rfl, hw3⟩; clear HF1; replace HB := HB.trans (hw3.mono HB.size); clear hw3)
      | (go_at_call 11; refine (HK1 _ HB).mono ?_; rintro e w4 ⟨rfl, hw4⟩; clear HK1; replace HB := HB.trans (hw4.mono HB.size); clear hw4)
      | (go_at_call 8; refine (HA _).mono ?_; rintro e w7 ⟨rfl, hw7⟩; clear HA; replace HB := HB.trans (hw7.mono HB.size); clear hw7)
      | (with_reducible refine at_list ?_; first
        | (refine wpList_boxRow (op := ⟨some 3, _, _, _, _, _⟩) rfl _ _ rfl _ rfl ?_; intro w1 hw1 hs1 h3; replace hs1 := hs1.symm; have HB := hw1; clear hw1)
        | (refine wpList_boxRow (op := ⟨some 4, _, _, _, _, _⟩) rfl _ _ rfl _ rfl ?_; intro w2 hw2 hs2 h4; replace hs2 := hs2.symm; replace h3 := h3.belowSize hw2; replace HB := HB.trans (hw2.mono HB.size); clear hw2)
        | (refine wpList_loadRow (op := ⟨some 11, _, _, _, _, _⟩) rfl _ _ rfl w.heap.size rfl _ _ h3 _ Try.underlying25 rfl (by rw [hA_size]; exact zH.2) ?_)))
    go_ret
    exact ⟨rfl, HB⟩
end
end Go.Proofs.Ytdolgkegeomafaa
