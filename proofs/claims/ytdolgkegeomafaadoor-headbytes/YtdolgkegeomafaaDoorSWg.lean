/- What Sum of a digest, New and Sum do. -/
import Derived.Test.YtdolgkegeomafaaDoorSOut
namespace Go.Proofs.YtdolgkegeomafaaDoor.Sh
open Go.RowKit
theorem wrap64_n32 (x : BitVec 32) : IntKind.u64.wrap (n32 x) = n32 x := by
  rw [IntKind.wrap_u64]; have := n32_nonneg x; have := n32_lt x; omega
attribute [local go_sem] wrap64_n32
def S0 : S8 := ⟨0, 0, 0, 0, 0, 0, 0, 0⟩
theorem z49 : (∀ w, (zeroValue 83).run Tryd.prog w = .ok (.agg (digC S0 (fun _ => 0) 0)) w) ∧ (Tryd.prog.info? 83).map (·.size) = some 73 := zero_of_info (by kernel_rfl)
theorem i49 (H : S8) (fb : Nat → UInt8) (t : Nat) : (Tryd.prog.info? 83).map (·.size) = some (digC H fb t).size := by rw [digC_size]; exact z49.2

set_option maxRecDepth 100000 in
set_option maxHeartbeats 1000000 in
theorem dsum_any (b : Nat) (m : List UInt8) (H : S8) (fb : Nat → UInt8) (w : World) (hG : Glob w) (hm : m.length ≤ 549755813888)
    (hb : Blk w b (digC H fb m.length) 83) (hH : m.length = 0 ∨ H = hashTo m (m.length / 64)) (ht : ∀ j, j < m.length % 64 → fb j = m.getD (64 * (m.length / 64) + j) 0) :
    Calls Tryd.prog 49 #[.pointer (some ⟨b, 0, none⟩)] w fun e w' => e = .returned (.string ⟨(digest m).toArray⟩) ∧ Below w.heap.size w w' := by
  have HH : Hid (m.length = 0 ∨ H = hashTo m (m.length / 64)) := hH
  clear hH
  have HT : Hid (∀ j, j < m.length % 64 → fb j = m.getD (64 * (m.length / 64) + j) 0) := ht
  clear ht
  have hpl : (padL m.length).length ≤ 128 := by unfold padL noughts; simp [be_length]; omega
  obtain ⟨i5', hi5, hz5, hs5, hb5⟩ := info5
  go_enter Tryd.func49, Tryd.ntmps49
  go_wp2_with (first
    | (go_at_call 53; refine (ending_any _ _ (by omega)).mono ?_; rintro e w3 ⟨rfl, hw3⟩)
    | (go_at_call 47; refine (write_any w.heap.size m (padL m.length) H fb _ (((hG.belowSize hw1).grown hg2 (by have := hG.two; omega)).belowSize hw3) hG.two (by omega) (hb2.belowSize hw3) HH.out HT.out).mono ?_; rintro e w4 ⟨rfl, ⟨H', fb', hD⟩, hg4⟩)
    | (with_reducible refine at_list ?_; first
      | (refine wpList_loadRow (op := ⟨some 11, _, _, _, _, _⟩) rfl _ _ rfl b rfl _ _ hb _ Tryd.underlying83 rfl (i49 _ _ _) ?_)
      | (refine wpList_allocRow (op := ⟨some 3, _, _, _, _, _⟩) rfl _ rfl _ z49.1 ?_; intro w1 hw1 hs1 hb1)
      | (refine wpList_storeRow rfl _ _ _ rfl w.heap.size _ rfl rfl _ _ hb1 (by rw [digC_size, digC_size]) (i49 _ _ _) (digC_one _ _ _) ?_; intro w2 hg2 hs2 hb2)
      | (refine wpList_loadCell (op := ⟨some 15, _, _, _, _, _⟩) rfl _ _ rfl b 72 rfl _ _ ((hb.belowSize hw1).grown hg2 (by simp; have := hb.lt; omega)) _ Tryd.underlying22 rfl _ (digC_taken _ _ _) ?_)
      | (refine wpList_makeB rfl _ _ _ rfl 0 32 rfl rfl (by omega) (by omega) _ _ Tryd.underlying51 hi5 hz5 hs5 hb5 ?_; intro w5 hw5 hs5' hb5')
      | (refine wpList_loadPart (op := ⟨some 20, _, _, _, _, _⟩) rfl _ _ rfl w.heap.size 0 8 rfl _ _ (hD.blk.belowSize hw5) (by rw [digC_size]; omega) _ Tryd.underlying80 rfl z40.2 ?_; rw [digC_words])))
  have hB2 : Below w.heap.size w w2 := hw1.trans (below_of_grown hg2 (Nat.le_refl _) (by omega))
  have hB3 : Below w.heap.size w w3 := hB2.trans (hw3.mono hB2.size)
  have hB4 : Below w.heap.size w w4 := hB3.trans (below_of_grown hg4 (Nat.le_refl _) hB3.size)
  have hB5 : Below w.heap.size w w5 := hB4.trans (hw5.mono hB4.size)
  have hgs : w.heap.size ≤ w4.heap.size := hB4.size
  have HW : Hid (hashAll m = H') := hD.words.symm
  have hsz : w5.heap.size = w4.heap.size + 1 := hs5'
  generalize w4.heap.size = G at *
  clear hB2 hB3 hB4 hw1 hg2 hw3 hg4 hw5 hD hb2 hb1 hs1 hs2 hs5' hb HH HT hG hpl hz5 hb5
  go_loopw [4, 21] (fun v4 v21 wl => ∃ i : Nat, i ≤ 8 ∧ v21 = .int .i64 i ∧ v4 = .slice (some ⟨G, 0, none⟩) (4 * i) 32 ∧ Below w.heap.size w wl ∧ G < wl.heap.size ∧ Blk wl G (row8 (outTo H' i) 32) 5) (fun _ v21 _ => 8 - (intOf v21).toNat)
  case atStart => exact ⟨0, by omega, rfl, rfl, hB5, by omega, by rw [outTo_zero]; exact hb5'⟩
  case round =>
    obtain ⟨i, hi, rfl, rfl, hB, hz, hbk⟩ := hrel
    clear hB5 hsz hb5'
    by_cases hlt : i < 8
    · go_wp2_with (first
        | (go_at_call 48; refine (number_any (H'.at i).toNat 4 _ (by omega) (by omega)).mono ?_; rintro e w6 ⟨rfl, hw6⟩)
        | (with_reducible refine at_list ?_; first
          | (refine wpList_indexW rfl _ _ _ rfl H'.at 8 rfl i rfl _ Tryd.underlying80 _ Tryd.underlying79 rfl i38 hlt ?_)
          | (refine wpList_appendStr rfl _ _ _ _ rfl G (4 * i) 32 rfl (be (H'.at i).toNat 4) rfl _ _ Tryd.underlying51 Tryd.underlying9 hi5 hs5 _ _ _ (hbk.below hw6 hz) (by rw [be_length]; omega) (by rw [be_length]; omega) ?_; intro w7 hg7 hs7 hb7; rw [outTo_succ] at hb7; rw [be_length])))
      go_roundw
      case rel => exact ⟨i + 1, by omega, by go_num, by rw [show 4 * (i + 1) = 4 * i + 4 from by omega], (hB.trans (hw6.mono hB.size)).trans (below_of_grown hg7 hgs (by have := hB.size; have := hw6.size; omega)), by have := hw6.size; omega, hb7⟩
      case measure => simp [intOf]; omega
    · have hbk2 : Blk wr G (row8 (outTo H' 8) 32) 5 := by
        rw [show i = 8 from by omega] at hbk
        exact hbk
      clear hbk
      go_wp2_with (with_reducible refine at_list ?_; first
        | (refine wpList_bytesString rfl _ _ _ rfl G (4 * i) 32 rfl _ Tryd.underlying51 Tryd.underlying5 Tryd.underlying9 _ _ _ hbk2 (by omega) ?_))
      go_ret
      refine ⟨?_, hB⟩
      show Ending.returned (.string (strF (outTo H' 8) (4 * i))) = _
      rw [show 4 * i = 32 from by omega]
      have e : (List.range 32).map (outTo H' 8) = digest m := by
        unfold digest
        rw [HW.out]
        apply List.map_congr_left
        intro j hj
        unfold outTo
        rw [if_pos (by simp at hj; omega)]
      unfold strF
      rw [e]

theorem dsum_nil (w : World) : Calls Tryd.prog 49 #[.pointer none] w fun e w' => e = .returned (.string ⟨#[]⟩) ∧ w' = w := by
  go_enter Tryd.func49, Tryd.ntmps49
  go_wp2
  go_ret
  exact ⟨rfl, rfl⟩

theorem wpList_build0 {P : Program} {ops : Array Oper} {rest : List Oper} {op : Oper} {a : Act} {w : World} {Q : Exit → Act → World → Prop} (hgd : op.guard = none) (t : TypeId) (ho : op.op = .build t #[]) (c : Array Value) (hb : P.built t [] = some c)
    (h : wpList P ops Q rest (a.put op.dst (.agg c)) w) : wpList P ops Q (op :: rest) a w :=
  wpList_build hgd t #[] ho (by rw [Array.map_empty, Array.toList_empty, hb]; rfl) (by
    rw [Array.map_empty, Array.toList_empty, hb]; exact h)
theorem built49 : Tryd.prog.built 83 [] = some (digC S0 (fun _ => 0) 0) := by kernel_rfl
set_option maxRecDepth 100000 in
set_option maxHeartbeats 400000 in
theorem new_any (w : World) : Calls Tryd.prog 46 #[] w fun e w' => e = .returned (.pointer (some ⟨w.heap.size, 0, none⟩)) ∧ Below w.heap.size w w' ∧ w'.heap.size = w.heap.size + 1 ∧ Blk w' w.heap.size (digC S0 (fun _ => 0) 0) 83 := by
  go_enter Tryd.func46, Tryd.ntmps46
  go_wp2_with (with_reducible refine at_list ?_; first
    | (refine wpList_build0 rfl _ rfl _ built49 ?_)
    | (refine wpList_boxRow rfl _ _ rfl (digC S0 (fun _ => 0) 0) rfl ?_; intro w1 hw1 hs1 hb1))
  go_ret
  exact ⟨rfl, hw1, hs1, hb1⟩

end Go.Proofs.YtdolgkegeomafaaDoor.Sh
