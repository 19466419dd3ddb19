/- HMAC as a plain function, and what mac's small functions do: digest, padded, keyBlock, Tag. -/
import Derived.Test.YtminjelnbnajhaaDoorPcs
import Derived.Test.YtminjelnbnajhaaDoorSam
namespace Go.Proofs.YtminjelnbnajhaaDoor
open Go Go.RowKit
/-- A key that is too long is its digest. -/
def shortKey (k : List UInt8) : List UInt8 := if 64 < k.length then digest k else k
theorem shortKey_length (k : List UInt8) : (shortKey k).length ≤ 64 := by
  unfold shortKey
  split
  · rw [digest_length]; omega
  · omega
def keyF (k : List UInt8) (j : Nat) : UInt8 := (shortKey k).getD j 0
/-- A key's block, each byte turned by the pad. -/
def hpadK (k : List UInt8) (p : UInt8) : List UInt8 := (List.range 64).map fun j => keyF k j ^^^ p
theorem hpadK_length (k : List UInt8) (p : UInt8) : (hpadK k p).length = 64 := by simp [hpadK]
/-- HMAC. -/
def hmac (k s : List UInt8) : List UInt8 := digest (hpadK k 92 ++ digest (hpadK k 54 ++ s))
theorem hmac_length (k s : List UInt8) : (hmac k s).length = 32 := digest_length _

section
variable {P : Program} {ops : Array Oper} {rest : List Oper} {op : Oper} {a : Act} {w : World} {Q : Exit → Act → World → Prop}
/-- A slice of the whole of an array that lies in a block. -/
theorem wpList_sliceAll (hgd : op.guard = none) (ty : TypeId) (x : Operand) (ho : op.op = .slice ty x none none none) (b o : Nat) (hx : a.eval x = .pointer (some ⟨b, o, none⟩))
    (n : Nat) (e : TypeId) (hu : P.underlying ty = some (.array n e)) (hse : (P.info? e).map (·.size) = some 1)
    (h : wpList P ops Q rest (a.put op.dst (.slice (some ⟨b, o, none⟩) n n)) w) : wpList P ops Q (op :: rest) a w := by
  refine wpList_run hgd _ w ?_ h
  unfold execOp
  simp only [ho, Option.map_none, hx]
  simp [Instr.sliceAt, run_underlying hu, Instr.sureAddr, Instr.sliceBounds, sizeOf_run hse, Addr.add_mid, Sem.run_bind]
end

theorem z58 : (∀ w, (zeroValue 58).run Tryd.prog w = .ok (.agg (row8 (fun _ => 0) 64)) w) ∧ (Tryd.prog.info? 58).map (·.size) = some 64 := zero_of_info (by kernel_rfl)
theorem put_keyF (k : List UInt8) : row8 (putB (fun _ => 0) 0 (shortKey k)) 64 = row8 (keyF k) 64 := row8_congr fun j _ => by
  unfold putB keyF
  by_cases hj : j < (shortKey k).length
  · rw [if_pos (by omega), Nat.sub_zero]
  · rw [if_neg (by omega), List.getD_eq_getElem?_getD, List.getElem?_eq_none (by omega)]; rfl

set_option maxRecDepth 100000 in
set_option maxHeartbeats 400000 in
theorem mdigest_any (x y : List UInt8) (w : World) (hG : Glob w) (hl : x.length + y.length ≤ 549755813888) :
    Calls Tryd.prog 33 #[.string ⟨x.toArray⟩, .string ⟨y.toArray⟩] w fun e w' => e = .returned (.string ⟨(digest (x ++ y)).toArray⟩) ∧ Below w.heap.size w w' := by
  have hD2 := hG.two
  go_enter Tryd.func33, Tryd.ntmps33
  go_wp2_with (first
    | (go_at_call 28; refine (new_any _).mono ?_; rintro e w1 ⟨rfl, hw1, hs1, hb1⟩; replace hs1 := hs1.symm)
    | (go_at_call_of 29 (Value.string ⟨x.toArray⟩); refine (writeZ w.heap.size [] x _ (hG.belowSize hw1) hD2 (by simp; omega) (DigZ.new hb1)).mono ?_; rintro e w2 ⟨rfl, hZ2, hg2⟩; rw [List.nil_append] at hZ2)
    | (go_at_call_of 29 (Value.string ⟨y.toArray⟩); refine (writeZ w.heap.size x y _ ((hG.belowSize hw1).grown hg2 hD2) hD2 (by omega) hZ2).mono ?_; rintro e w3 ⟨rfl, hZ3, hg3⟩)
    | (go_at_call 30; refine (dsumZ w.heap.size (x ++ y) _ (((hG.belowSize hw1).grown hg2 hD2).grown hg3 hD2) (by rw [List.length_append]; omega) hZ3).mono ?_; rintro e w4 ⟨rfl, hw4⟩))
  go_ret
  have hB2 : Below w.heap.size w w2 := hw1.trans (below_of_grown hg2 (Nat.le_refl _) (by omega))
  have hB3 := hB2.trans (below_of_grown hg3 (Nat.le_refl _) hB2.size)
  exact ⟨rfl, hB3.trans (hw4.mono hB3.size)⟩

/-- The first i bytes of a block turned by the pad. -/
def padTo (f : Nat → UInt8) (p : UInt8) (i : Nat) : Nat → UInt8 := fun j => if j < i then f j ^^^ p else f j
theorem padTo_zero (f : Nat → UInt8) (p : UInt8) : padTo f p 0 = f := by funext j; unfold padTo; rw [if_neg (by omega)]
theorem padTo_succ (f : Nat → UInt8) (p : UInt8) (i : Nat) : upd (padTo f p i) i (padTo f p i i ^^^ p) = padTo f p (i + 1) := by
  funext j
  unfold upd padTo
  by_cases h : j = i
  · subst h; rw [if_pos rfl, if_neg (Nat.lt_irrefl _), if_pos (Nat.lt_succ_self _)]
  · rw [if_neg h]
    by_cases h2 : j < i
    · rw [if_pos h2, if_pos (by omega)]
    · rw [if_neg h2, if_neg (by omega)]
attribute [local go_sem] bits_xor8
set_option maxRecDepth 100000 in
set_option maxHeartbeats 400000 in
theorem padded_any (f : Nat → UInt8) (p : UInt8) (w : World) :
    Calls Tryd.prog 34 #[.agg (row8 f 64), .int .u8 (n8 p)] w fun e w' => e = .returned (.string ⟨((List.range 64).map fun j => f j ^^^ p).toArray⟩) ∧ Below w.heap.size w w' := by
  go_enter Tryd.func34, Tryd.ntmps34
  go_wp2_with (with_reducible refine at_list ?_; first
    | (refine wpList_boxRow rfl _ _ rfl _ rfl ?_; intro w1 hw1 hs1 hb1; replace hs1 := hs1.symm))
  clear hs1
  go_loopw [6] (fun v wl => ∃ i : Nat, i ≤ 64 ∧ v = .int .i64 i ∧ Below w.heap.size w wl ∧ Blk wl w.heap.size (row8 (padTo f p i) 64) 58) (fun v _ => 64 - (intOf v).toNat)
  case atStart => exact ⟨0, by omega, rfl, hw1, by rw [padTo_zero]; exact hb1⟩
  case round =>
    clear hw1 hb1
    obtain ⟨i, hi, rfl, hB, hb⟩ := hrel
    by_cases hlt : i < 64
    · go_wp2_with (with_reducible refine at_list ?_; first
        | (refine wpList_addrW rfl _ _ _ rfl w.heap.size rfl .i64 _ rfl i _ _ Tryd.underlying58 i5 rfl hlt ?_)
        | (refine wpList_loadCell rfl _ _ rfl w.heap.size i rfl _ _ hb _ Tryd.underlying5 rfl _ (row8_get _ _ _ hlt) ?_)
        | (refine wpList_storeB rfl _ _ _ rfl w.heap.size i rfl (padTo f p i i ^^^ p) rfl _ _ _ hb i5 hlt ?_; intro w4 hg4 hs4 hb4; replace hs4 := hs4.symm; rw [padTo_succ] at hb4))
      go_roundw
      case rel => exact ⟨i + 1, by omega, by go_num, hB.trans (below_of_grown hg4 (Nat.le_refl _) hB.size), hb4⟩
      case measure => simp [intOf]; omega
    · have hb2 : Blk wr w.heap.size (row8 (padTo f p 64) 64) 58 := by
        rw [show i = 64 from by omega] at hb
        exact hb
      clear hb
      go_wp2_with (with_reducible refine at_list ?_; first
        | (refine wpList_sliceAll rfl _ _ rfl w.heap.size 0 rfl 64 _ Tryd.underlying58 i5 ?_)
        | (refine wpList_bytesString rfl _ _ _ rfl w.heap.size 64 64 rfl _ Tryd.underlying40 Tryd.underlying5 Tryd.underlying9 _ _ _ hb2 (Nat.le_refl _) ?_))
      go_ret
      refine ⟨?_, hB⟩
      show Ending.returned (.string (strF (padTo f p 64) 64)) = _
      unfold strF
      rw [show (List.range 64).map (padTo f p 64) = (List.range 64).map fun j => f j ^^^ p from List.map_congr_left fun j hj => by unfold padTo; rw [if_pos (by simpa using hj)]]

set_option maxRecDepth 100000 in
set_option maxHeartbeats 400000 in
theorem keyBlock_any (k : List UInt8) (w : World) (hG : Glob w) (hl : k.length ≤ 549755813888) :
    Calls Tryd.prog 32 #[.string ⟨k.toArray⟩] w fun e w' => e = .returned (.agg (row8 (keyF k) 64)) ∧ Below w.heap.size w w' := by
  have hsl := shortKey_length k
  have hpk := put_keyF k
  have HT : Hid ((shortKey k).take (shortKey k).length = shortKey k) := List.take_length
  have HM : Hid ((shortKey k).length = Nat.min (shortKey k).length 64) := (Nat.min_eq_left hsl).symm
  have HP : Hid (row8 (putB (fun _ => 0) 0 (shortKey k)) 64 = row8 (keyF k) 64) := hpk
  have HS : Hid (shortKey k = if 64 < k.length then digest k else k) := rfl
  clear hpk
  generalize shortKey k = sk at *
  by_cases h : 64 < k.length
  · obtain rfl : sk = digest k := by rw [HS.out, if_pos h]
    clear HS
    go_enter Tryd.func32, Tryd.ntmps32
    go_wp2_with (first
      | (go_at_call 11; refine (sum_any k _ (hG.belowSize hw1) hl).mono ?_; rintro e w2 ⟨rfl, hw2⟩)
      | (with_reducible refine at_list ?_; first
        | (refine wpList_allocRow (op := ⟨some 2, _, _, _, _, _⟩) rfl _ rfl _ z58.1 ?_; intro w1 hw1 hs1 hb1; replace hs1 := hs1.symm)
        | (refine wpList_allocRow (op := ⟨some 3, _, _, _, _, _⟩) rfl _ rfl _ z58.1 ?_; intro w3 hw3 hs3 hb3; replace hs3 := hs3.symm)
        | (refine wpList_sliceAll rfl _ _ rfl w2.heap.size 0 rfl 64 _ Tryd.underlying58 i5 ?_)
        | (refine wpList_copyStr rfl _ _ _ _ rfl w2.heap.size 0 64 64 rfl (digest k) rfl _ Tryd.underlying40 i5 _ _ hb3 (digest k).length HM.out (by rw [row8_size]; omega) ?_; intro w4 hg4 hs4 hb4; replace hs4 := hs4.symm; rw [HT.out, row8_splice _ _ _ _ (by omega), HP.out] at hb4)
        | (refine wpList_loadRow rfl _ _ rfl w2.heap.size rfl _ _ hb4 _ Tryd.underlying58 rfl (by rw [row8_size]; exact i47) ?_)
        | (refine wpList_storeRow rfl _ _ _ rfl w.heap.size _ rfl rfl _ _ (((hb1.belowSize hw2).belowSize hw3).grown hg4 (by simp; have := hw2.size; omega)) (by rw [row8_size, row8_size]) (by rw [row8_size]; exact i47) (row8_one _ _) ?_; intro w5 hg5 hs5 hb5; replace hs5 := hs5.symm)))
    have hB2 := hw1.trans (hw2.mono hw1.size)
    have hB3 := hB2.trans (hw3.mono hB2.size)
    have hB4 := hB3.trans (below_of_grown hg4 hB2.size hB3.size)
    refine bodyPost_ret (v := .agg (row8 (keyF k) 64)) ?_ rfl ⟨rfl, hB4.trans (below_of_grown hg5 (Nat.le_refl _) hB4.size)⟩
    exact results_cell_row rfl _ _ w.heap.size _ _ _ _ rfl hb5.out Tryd.underlying58 rfl (by rw [row8_size]; exact i47)
  · obtain rfl : sk = k := by rw [HS.out, if_neg h]
    clear HS
    go_enter Tryd.func32, Tryd.ntmps32
    go_wp2_with (first
      | (with_reducible refine at_list ?_; first
        | (refine wpList_allocRow (op := ⟨some 2, _, _, _, _, _⟩) rfl _ rfl _ z58.1 ?_; intro w1 hw1 hs1 hb1; replace hs1 := hs1.symm)
        | (refine wpList_allocRow (op := ⟨some 3, _, _, _, _, _⟩) rfl _ rfl _ z58.1 ?_; intro w3 hw3 hs3 hb3; replace hs3 := hs3.symm)
        | (refine wpList_sliceAll rfl _ _ rfl w1.heap.size 0 rfl 64 _ Tryd.underlying58 i5 ?_)
        | (refine wpList_copyStr rfl _ _ _ _ rfl w1.heap.size 0 64 64 rfl sk rfl _ Tryd.underlying40 i5 _ _ hb3 sk.length HM.out (by rw [row8_size]; omega) ?_; intro w4 hg4 hs4 hb4; replace hs4 := hs4.symm; rw [HT.out, row8_splice _ _ _ _ (by omega), HP.out] at hb4)
        | (refine wpList_loadRow rfl _ _ rfl w1.heap.size rfl _ _ hb4 _ Tryd.underlying58 rfl (by rw [row8_size]; exact i47) ?_)
        | (refine wpList_storeRow rfl _ _ _ rfl w.heap.size _ rfl rfl _ _ ((hb1.belowSize hw3).grown hg4 (by simp; omega)) (by rw [row8_size, row8_size]) (by rw [row8_size]; exact i47) (row8_one _ _) ?_; intro w5 hg5 hs5 hb5; replace hs5 := hs5.symm)))
    have hB3 := hw1.trans (hw3.mono hw1.size)
    have hB4 := hB3.trans (below_of_grown hg4 hw1.size hB3.size)
    refine bodyPost_ret (v := .agg (row8 (keyF sk) 64)) ?_ rfl ⟨rfl, hB4.trans (below_of_grown hg5 (Nat.le_refl _) hB4.size)⟩
    exact results_cell_row rfl _ _ w.heap.size _ _ _ _ rfl hb5.out Tryd.underlying58 rfl (by rw [row8_size]; exact i47)

set_option maxRecDepth 100000 in
set_option maxHeartbeats 400000 in
theorem tag_any (k s : List UInt8) (w : World) (hG : Glob w) (hk : k.length ≤ 549755813888) (hs : s.length ≤ 274877906944) :
    Calls Tryd.prog 14 #[.string ⟨k.toArray⟩, .string ⟨s.toArray⟩] w fun e w' => e = .returned (.string ⟨(hmac k s).toArray⟩) ∧ Below w.heap.size w w' := by
  have hD2 := hG.two
  have hp1 : (hpadK k 54).length = 64 := hpadK_length _ _
  have hp2 : (hpadK k 92).length = 64 := hpadK_length _ _
  have hd : (digest (hpadK k 54 ++ s)).length = 32 := digest_length _
  go_enter Tryd.func14, Tryd.ntmps14
  go_wp2_with (first
    | (go_at_call 32; refine (keyBlock_any k _ hG hk).mono ?_; rintro e w1 ⟨rfl, hw1⟩)
    | (go_at_call_of 34 (Value.int .u8 54); refine (padded_any (keyF k) 54 _).mono ?_; rintro e w4 ⟨rfl, hw4⟩)
    | (go_at_call_of 34 (Value.int .u8 92); refine (padded_any (keyF k) 92 _).mono ?_; rintro e w6 ⟨rfl, hw6⟩)
    | (go_at_call_of 33 (Value.string ⟨s.toArray⟩); refine (mdigest_any (hpadK k 54) s _ (((hG.belowSize hw1).belowSize hw2).grown hg3 (by have := hw1.size; omega) |>.belowSize hw4) (by omega)).mono ?_; rintro e w5 ⟨rfl, hw5⟩)
    | (go_at_call 33; refine (mdigest_any (hpadK k 92) (digest (hpadK k 54 ++ s)) _ (((((hG.belowSize hw1).belowSize hw2).grown hg3 (by have := hw1.size; omega) |>.belowSize hw4).belowSize hw5).belowSize hw6) (by omega)).mono ?_; rintro e w7 ⟨rfl, hw7⟩)
    | (with_reducible refine at_list ?_; first
      | (refine wpList_allocRow (op := ⟨some 5, _, _, _, _, _⟩) rfl _ rfl _ z58.1 ?_; intro w2 hw2 hs2 hb2; replace hs2 := hs2.symm)
      | (refine wpList_storeRow rfl _ _ _ rfl w1.heap.size _ rfl rfl _ _ hb2 (by rw [row8_size, row8_size]) (by rw [row8_size]; exact i47) (row8_one _ _) ?_; intro w3 hg3 hs3 hb3; replace hs3 := hs3.symm)
      | (refine wpList_loadRow (op := ⟨some 9, _, _, _, _, _⟩) rfl _ _ rfl w1.heap.size rfl _ _ hb3 _ Tryd.underlying58 rfl (by rw [row8_size]; exact i47) ?_)
      | (refine wpList_loadRow (op := ⟨some 13, _, _, _, _, _⟩) rfl _ _ rfl w1.heap.size rfl _ _ ((hb3.belowSize hw4).belowSize hw5) _ Tryd.underlying58 rfl (by rw [row8_size]; exact i47) ?_)))
  go_ret
  have hB2 := hw1.trans (hw2.mono hw1.size)
  have hB3 := hB2.trans (below_of_grown hg3 hw1.size hB2.size)
  have hB4 := hB3.trans (hw4.mono hB3.size)
  have hB5 := hB4.trans (hw5.mono hB4.size)
  have hB6 := hB5.trans (hw6.mono hB5.size)
  exact ⟨rfl, hB6.trans (hw7.mono hB6.size)⟩
end Go.Proofs.YtminjelnbnajhaaDoor
