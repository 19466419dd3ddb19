/- What NewRing does. -/
import Derived.Test.YtminjelnbnajhaaDoorRng
namespace Go.Proofs.YtminjelnbnajhaaDoor
open Go Go.RowKit
theorem built62 : Tryd.prog.built 62 [] = some #[.slice none 0 0] := by kernel_rfl
theorem i41 : (Tryd.prog.info? 41).map (·.size) = some 1 := by kernel_rfl
theorem SLof.cells {w : World} {lo : Nat} {sl : Value} {l : List (List UInt8)} (h : SLof w lo sl l) : sl.cells = #[sl] ∧ sl.oneCell' = true := by
  rcases h with ⟨_, rfl⟩ | ⟨g, cap, _, rfl, _⟩
  · exact ⟨rfl, rfl⟩
  · exact ⟨rfl, rfl⟩
theorem tagCells {w : World} {b : Nat} {x y : List UInt8} (h : Blk w b #[sv x, sv y] 9) (j : Nat) (hj : j < 2) : w.cell? ⟨b, 0 + j, none⟩ = some (.string ⟨(([x, y] : List (List UInt8)).getD j []).toArray⟩) := by
  rw [Nat.zero_add, h.cell]
  match j, hj with
  | 0, _ => rfl
  | 1, _ => rfl
theorem newRing_bad (s : ByteArray) (n : Int) (w : World) (h : n < 0 ∨ 16 < n) : Calls Tryd.prog 20 #[.string s, .int .i64 n] w fun e w' => e = .returned (.tuple #[.pointer none, .int .i64 1]) ∧ w' = w := by
  by_cases h1 : n < 0
  · have e1 : decide (n < 0) = true := decide_eq_true h1
    go_enter Tryd.func20, Tryd.ntmps20
    go_wp2_with fail
    go_ret2
    exact ⟨rfl, rfl⟩
  · have e1 : decide (n < 0) = false := decide_eq_false h1
    have e2 : decide (16 < n) = true := decide_eq_true (by omega)
    go_enter Tryd.func20, Tryd.ntmps20
    go_wp2_with fail
    go_ret2
    exact ⟨rfl, rfl⟩
set_option maxRecDepth 100000 in
set_option maxHeartbeats 4000000 in
theorem newRing_any (s : List UInt8) (n : Nat) (w : World) (hG : Glob w) (hn : n ≤ 16) (hs : s.length ≤ 274877906944) :
    Calls Tryd.prog 20 #[.string ⟨s.toArray⟩, .int .i64 n] w fun e w' => e = .returned (.tuple #[.pointer (some ⟨w.heap.size, 0, none⟩), .int .i64 0]) ∧ Below w.heap.size w w' ∧ Ring w' w.heap.size (keysTo s n) := by
  obtain ⟨i9', hi9, hz9, hz9s, hy9⟩ := info9
  have e1 : decide ((n : Int) < 0) = false := by simp
  have e2 : decide (16 < (n : Int)) = false := by simp; omega
  have h2 := hG.two
  go_enter Tryd.func20, Tryd.ntmps20
  go_wp2_with (with_reducible refine at_list ?_; first
    | (refine wpList_build0 rfl _ rfl _ built62 ?_)
    | (refine wpList_boxRow rfl _ _ rfl #[.slice none 0 0] rfl ?_; intro w1 hw1 hs1 hb1; replace hs1 := hs1.symm))
  have hR1 : Ring w1 w.heap.size (keysTo s 0) := ⟨_, hb1, .inl ⟨rfl, rfl⟩⟩
  clear hb1 hs1 e1 e2
  go_loopw [18] (fun v wl => ∃ i : Nat, i ≤ n ∧ v = .int .i64 i ∧ Below w.heap.size w wl ∧ Ring wl w.heap.size (keysTo s i)) (fun v _ => n - (intOf v).toNat)
  case atStart => exact ⟨0, by omega, rfl, hw1, hR1⟩
  case round =>
    clear hw1 hR1
    obtain ⟨i, hi, rfl, hB, hR⟩ := hrel
    by_cases hlt : i < n
    · have hni := n8_ofNat i (by omega)
      have HN : Hid (((i : Nat) : Int) = n8 (UInt8.ofNat i)) := hni
      clear hni
      go_wp2_with (with_reducible refine at_list ?_; first
        | (refine wpList_bsl1 rfl _ rfl (UInt8.ofNat i) (Eq.trans (b := Value.int .u8 (i : Int)) rfl (congrArg (Value.int .u8) HN.out)) ?_; intro w2 hw2 hs2 hb2; replace hs2 := hs2.symm)
        | (refine wpList_bytesString rfl _ _ _ rfl wr.heap.size 1 1 rfl _ Tryd.underlying40 Tryd.underlying5 Tryd.underlying9 _ _ _ hb2 (Nat.le_refl _) ?_; rw [show strF (fun _ => UInt8.ofNat i) 1 = ⟨[UInt8.ofNat i].toArray⟩ from rfl]))
      obtain ⟨sl, hBk0, hSL0⟩ := hR.out
      have hBk : Blk w2.drew w.heap.size #[sl] 62 := (hBk0.belowSize hw2).drew
      have hSL : SLof w2.drew w.heap.size sl (keysTo s i) := (hSL0.below hw2).below (Below.refl _ _).drew
      have hBl : Below w.heap.size w w2.drew := (hB.trans (hw2.mono hB.size)).drew
      have hGl : Glob w2.drew := (hG.belowSize hBl)
      clear hBk0 hSL0 hw2 hs2 hb2 hB hR
      refine wp_region_any (by kernel_rfl) ?_
      change wpAny _ _ _ _ _ _ _ (World.drew _)
      refine wpAny_take (i := 0) (oi := ⟨some 25, _, _, _, _, _⟩) (v := .pointer (some ⟨w.heap.size, 0, none⟩)) rfl (by kernel_rfl) (by kernel_rfl) (by kernel_rfl) (fun _ _ _ h => h) (Or.inl ⟨by rfl, fun w => by go_simp⟩) ?_
      refine wpAny_take (i := 1) (oi := ⟨some 26, _, _, _, _, _⟩) (v := .pointer (some ⟨w.heap.size, 0, none⟩)) rfl (by kernel_rfl) (by kernel_rfl) (by kernel_rfl) (fun _ _ _ h => h) (Or.inl ⟨by rfl, fun w => by go_simp⟩) ?_
      refine wpAny_take (i := 2) (oi := ⟨some 27, _, _, _, _, _⟩) (v := .pointer (some ⟨w.heap.size, 0, none⟩)) rfl (by kernel_rfl) (by kernel_rfl) (by kernel_rfl) (fun _ _ _ h => h) (Or.inl ⟨by rfl, fun w => by go_simp⟩) ?_
      refine wpAny_take (i := 3) (oi := ⟨some 28, _, _, _, _, _⟩) (v := .pointer (some ⟨w.heap.size, 0, none⟩)) rfl (by kernel_rfl) (by kernel_rfl) (by kernel_rfl) (fun _ _ _ h => h) (Or.inl ⟨by rfl, fun w => by go_simp⟩) ?_
      refine wpAny_take (i := 5) (oi := ⟨some 30, _, _, _, _, _⟩) (v := .string ⟨s.toArray⟩) rfl (by kernel_rfl) (by kernel_rfl) (by kernel_rfl) (fun _ _ _ h => h) (Or.inl ⟨by rfl, fun w => by go_simp⟩) ?_
      refine wpAny_take (i := 6) (oi := ⟨some 31, _, _, _, _, _⟩) (v := .string ⟨[UInt8.ofNat i].toArray⟩) rfl (by kernel_rfl) (by kernel_rfl) (by kernel_rfl) (fun _ _ _ h => h) (Or.inl ⟨by rfl, fun w => by go_simp⟩) ?_
      simp only [Act.put, List.setIfInBounds_toArray, List.set_cons_zero, List.set_cons_succ]
      refine wpAny_ready (rs := [4, 7]) (by kernel_rfl) (by simp) ?_
      refine AllReady.cons (o := ⟨some 29, .load 41 (.tmp 28), _, _, _, _⟩) rfl (fun K hK => ?_) (AllReady.cons (o := ⟨some 32, .buildSlice 41 2 #[(0, .tmp 30), (1, .tmp 31)], _, _, _, _⟩) rfl (fun K hK => ?_) AllReady.nil)
      · rw [if_pos (by rfl)]
        refine wp_run _ _ (run_loadCell _ _ rfl w.heap.size 0 rfl _ _ hBk _ Tryd.underlying41 rfl sl rfl) ?_
        refine hK _ _ ?_
        clear hK K
        refine wpAny_ready (rs := [7]) (by kernel_rfl) (by simp) ?_
        refine AllReady.cons (o := ⟨some 32, .buildSlice 41 2 #[(0, .tmp 30), (1, .tmp 31)], _, _, _, _⟩) rfl (fun K hK => ?_) AllReady.nil
        rw [if_pos (by rfl)]
        refine wp_tsl2 _ _ rfl s [UInt8.ofNat i] rfl rfl ?_
        intro w7 hw7 hs7 hb7
        refine hK _ _ ?_
        clear hK K
        replace hBk := hBk.belowSize hw7; replace hSL := hSL.below hw7; replace hBl := hBl.trans (hw7.mono hBl.size); replace hGl := hGl.belowSize hw7
        clear hw7 hs7
        refine wpAny_ready (rs := [8]) (by kernel_rfl) (by simp) ?_
        refine AllReady.cons (o := ⟨some 33, .call ⟨.value (.func 36), #[.const (.int .u8 75), .tmp 32], #[5, 41]⟩, _, _, _, _⟩) rfl (fun K hK => ?_) AllReady.nil
        rw [if_pos (by rfl)]
        go_simp
        refine (tagged_any 75 w2.heap.size 0 2 2 [s, [UInt8.ofNat i]] _ hGl (fun j hj => tagCells hb7 j hj) (by rw [tag2_length]; omega)).mono ?_
        rintro e w8 ⟨rfl, hw8⟩
        refine hK _ _ ?_
        clear hK K hb7
        replace hBk := hBk.belowSize hw8; replace hSL := hSL.below hw8; replace hBl := hBl.trans (hw8.mono hBl.size); replace hGl := hGl.belowSize hw8
        clear hw8
        refine wpAny_ready (rs := [9]) (by kernel_rfl) (by simp) ?_
        refine AllReady.cons (o := ⟨some 34, .buildSlice 41 1 #[(0, .tmp 33)], _, _, _, _⟩) rfl (fun K hK => ?_) AllReady.nil
        rw [if_pos (by rfl)]
        refine wp_tsl1 _ rfl (keyOf s i) rfl ?_
        intro w9 hw9 hs9 hb9
        refine hK _ _ ?_
        clear hK K
        replace hBk := hBk.belowSize hw9; replace hSL := hSL.below hw9; replace hBl := hBl.trans (hw9.mono hBl.size); replace hGl := hGl.belowSize hw9
        clear hw9 hs9
        refine wpAny_ready (rs := [10]) (by kernel_rfl) (by simp) ?_
        refine AllReady.cons (o := ⟨some 35, .call ⟨.builtin .append, #[.tmp 29, .tmp 34], #[41, 41]⟩, _, _, _, _⟩) rfl (fun K hK => ?_) AllReady.nil
        rw [if_pos (by rfl)]
        refine wp_appendSL (.tmp 29) (.tmp 34) 41 rfl w.heap.size sl (keysTo s i) hBk.lt rfl hSL w8.heap.size 1 rfl (keyOf s i) _ hb9 _ Tryd.underlying41 hi9 hz9 hz9s hy9 (by rw [keysTo_length]; omega) ?_
        intro w10 sl1 hw10 hSL1
        rw [keysTo_succ] at hSL1
        refine hK _ _ ?_
        clear hK K
        replace hBk := hBk.below hw10 (by omega)
        replace hBl := hBl.trans (hw10.mono (by omega))
        clear hw10 hSL hGl hb9
        simp only [Act.put, List.setIfInBounds_toArray, List.set_cons_zero, List.set_cons_succ]
        refine wpAny_take (i := 11) (oi := ⟨some 36, _, _, _, _, _⟩) (v := .pointer (some ⟨w.heap.size, 0, none⟩)) rfl (by kernel_rfl) (by kernel_rfl) (by kernel_rfl) (fun _ _ _ h => h) (Or.inl ⟨by rfl, fun w => by go_simp⟩) ?_
        refine wpAny_take (i := 12) (oi := ⟨some 37, _, _, _, _, _⟩) (v := .pointer (some ⟨w.heap.size, 0, none⟩)) rfl (by kernel_rfl) (by kernel_rfl) (by kernel_rfl) (fun _ _ _ h => h) (Or.inl ⟨by rfl, fun w => by go_simp⟩) ?_
        refine wpAny_ready (rs := [13]) (by kernel_rfl) (by simp) ?_
        refine AllReady.cons (o := ⟨none, .store 41 (.tmp 37) (.tmp 35), _, _, _, _⟩) rfl (fun K hK => ?_) AllReady.nil
        rw [if_pos (by rfl)]
        refine wp_storeCell 41 (.tmp 37) (.tmp 35) rfl w.heap.size 0 rfl sl1 rfl #[sl] 62 hBk i41 hSL1.cells.1 hSL1.cells.2 (by simp) ?_
        refine hK _ _ ?_
        clear hK K
        refine wpAny_done (by kernel_rfl) ?_ _
        have hR2 : Ring (w10.setCell ⟨w.heap.size, 0, none⟩ sl1) w.heap.size (keysTo s (i + 1)) := ⟨sl1, hBk.setCell 0 sl1, hSL1.setCell sl1⟩
        have hB2 : Below w.heap.size w (w10.setCell ⟨w.heap.size, 0, none⟩ sl1) := hBl.trans (below_of_grown (grown_setCell _ _ _ _) (Nat.le_refl _) hBl.size)
        generalize w10.setCell ⟨w.heap.size, 0, none⟩ sl1 = w11 at hR2 hB2 ⊢
        clear hBk hSL1 hBl
        simp only [Act.put, List.setIfInBounds_toArray, List.set_cons_zero, List.set_cons_succ]
        go_simp
        go_wp2_with fail
        go_roundw
        case rel => exact ⟨i + 1, by omega, by go_num, hB2, hR2⟩
        case measure => simp [intOf]; omega
      · rw [if_pos (by rfl)]
        refine wp_tsl2 _ _ rfl s [UInt8.ofNat i] rfl rfl ?_
        intro w7 hw7 hs7 hb7
        refine hK _ _ ?_
        clear hK K
        replace hBk := hBk.belowSize hw7; replace hSL := hSL.below hw7; replace hBl := hBl.trans (hw7.mono hBl.size); replace hGl := hGl.belowSize hw7
        clear hw7 hs7
        refine wpAny_ready (rs := [4, 8]) (by kernel_rfl) (by simp) ?_
        refine AllReady.cons (o := ⟨some 29, .load 41 (.tmp 28), _, _, _, _⟩) rfl (fun K hK => ?_) (AllReady.cons (o := ⟨some 33, .call ⟨.value (.func 36), #[.const (.int .u8 75), .tmp 32], #[5, 41]⟩, _, _, _, _⟩) rfl (fun K hK => ?_) AllReady.nil)
        · rw [if_pos (by rfl)]
          refine wp_run _ _ (run_loadCell _ _ rfl w.heap.size 0 rfl _ _ hBk _ Tryd.underlying41 rfl sl rfl) ?_
          refine hK _ _ ?_
          clear hK K
          refine wpAny_ready (rs := [8]) (by kernel_rfl) (by simp) ?_
          refine AllReady.cons (o := ⟨some 33, .call ⟨.value (.func 36), #[.const (.int .u8 75), .tmp 32], #[5, 41]⟩, _, _, _, _⟩) rfl (fun K hK => ?_) AllReady.nil
          rw [if_pos (by rfl)]
          go_simp
          refine (tagged_any 75 w2.heap.size 0 2 2 [s, [UInt8.ofNat i]] _ hGl (fun j hj => tagCells hb7 j hj) (by rw [tag2_length]; omega)).mono ?_
          rintro e w8 ⟨rfl, hw8⟩
          refine hK _ _ ?_
          clear hK K hb7
          replace hBk := hBk.belowSize hw8; replace hSL := hSL.below hw8; replace hBl := hBl.trans (hw8.mono hBl.size); replace hGl := hGl.belowSize hw8
          clear hw8
          refine wpAny_ready (rs := [9]) (by kernel_rfl) (by simp) ?_
          refine AllReady.cons (o := ⟨some 34, .buildSlice 41 1 #[(0, .tmp 33)], _, _, _, _⟩) rfl (fun K hK => ?_) AllReady.nil
          rw [if_pos (by rfl)]
          refine wp_tsl1 _ rfl (keyOf s i) rfl ?_
          intro w9 hw9 hs9 hb9
          refine hK _ _ ?_
          clear hK K
          replace hBk := hBk.belowSize hw9; replace hSL := hSL.below hw9; replace hBl := hBl.trans (hw9.mono hBl.size); replace hGl := hGl.belowSize hw9
          clear hw9 hs9
          refine wpAny_ready (rs := [10]) (by kernel_rfl) (by simp) ?_
          refine AllReady.cons (o := ⟨some 35, .call ⟨.builtin .append, #[.tmp 29, .tmp 34], #[41, 41]⟩, _, _, _, _⟩) rfl (fun K hK => ?_) AllReady.nil
          rw [if_pos (by rfl)]
          refine wp_appendSL (.tmp 29) (.tmp 34) 41 rfl w.heap.size sl (keysTo s i) hBk.lt rfl hSL w8.heap.size 1 rfl (keyOf s i) _ hb9 _ Tryd.underlying41 hi9 hz9 hz9s hy9 (by rw [keysTo_length]; omega) ?_
          intro w10 sl1 hw10 hSL1
          rw [keysTo_succ] at hSL1
          refine hK _ _ ?_
          clear hK K
          replace hBk := hBk.below hw10 (by omega)
          replace hBl := hBl.trans (hw10.mono (by omega))
          clear hw10 hSL hGl hb9
          simp only [Act.put, List.setIfInBounds_toArray, List.set_cons_zero, List.set_cons_succ]
          refine wpAny_take (i := 11) (oi := ⟨some 36, _, _, _, _, _⟩) (v := .pointer (some ⟨w.heap.size, 0, none⟩)) rfl (by kernel_rfl) (by kernel_rfl) (by kernel_rfl) (fun _ _ _ h => h) (Or.inl ⟨by rfl, fun w => by go_simp⟩) ?_
          refine wpAny_take (i := 12) (oi := ⟨some 37, _, _, _, _, _⟩) (v := .pointer (some ⟨w.heap.size, 0, none⟩)) rfl (by kernel_rfl) (by kernel_rfl) (by kernel_rfl) (fun _ _ _ h => h) (Or.inl ⟨by rfl, fun w => by go_simp⟩) ?_
          refine wpAny_ready (rs := [13]) (by kernel_rfl) (by simp) ?_
          refine AllReady.cons (o := ⟨none, .store 41 (.tmp 37) (.tmp 35), _, _, _, _⟩) rfl (fun K hK => ?_) AllReady.nil
          rw [if_pos (by rfl)]
          refine wp_storeCell 41 (.tmp 37) (.tmp 35) rfl w.heap.size 0 rfl sl1 rfl #[sl] 62 hBk i41 hSL1.cells.1 hSL1.cells.2 (by simp) ?_
          refine hK _ _ ?_
          clear hK K
          refine wpAny_done (by kernel_rfl) ?_ _
          have hR2 : Ring (w10.setCell ⟨w.heap.size, 0, none⟩ sl1) w.heap.size (keysTo s (i + 1)) := ⟨sl1, hBk.setCell 0 sl1, hSL1.setCell sl1⟩
          have hB2 : Below w.heap.size w (w10.setCell ⟨w.heap.size, 0, none⟩ sl1) := hBl.trans (below_of_grown (grown_setCell _ _ _ _) (Nat.le_refl _) hBl.size)
          generalize w10.setCell ⟨w.heap.size, 0, none⟩ sl1 = w11 at hR2 hB2 ⊢
          clear hBk hSL1 hBl
          simp only [Act.put, List.setIfInBounds_toArray, List.set_cons_zero, List.set_cons_succ]
          go_simp
          go_wp2_with fail
          go_roundw
          case rel => exact ⟨i + 1, by omega, by go_num, hB2, hR2⟩
          case measure => simp [intOf]; omega
        · rw [if_pos (by rfl)]
          go_simp
          refine (tagged_any 75 w2.heap.size 0 2 2 [s, [UInt8.ofNat i]] _ hGl (fun j hj => tagCells hb7 j hj) (by rw [tag2_length]; omega)).mono ?_
          rintro e w8 ⟨rfl, hw8⟩
          refine hK _ _ ?_
          clear hK K hb7
          replace hBk := hBk.belowSize hw8; replace hSL := hSL.below hw8; replace hBl := hBl.trans (hw8.mono hBl.size); replace hGl := hGl.belowSize hw8
          clear hw8
          refine wpAny_ready (rs := [4, 9]) (by kernel_rfl) (by simp) ?_
          refine AllReady.cons (o := ⟨some 29, .load 41 (.tmp 28), _, _, _, _⟩) rfl (fun K hK => ?_) (AllReady.cons (o := ⟨some 34, .buildSlice 41 1 #[(0, .tmp 33)], _, _, _, _⟩) rfl (fun K hK => ?_) AllReady.nil)
          · rw [if_pos (by rfl)]
            refine wp_run _ _ (run_loadCell _ _ rfl w.heap.size 0 rfl _ _ hBk _ Tryd.underlying41 rfl sl rfl) ?_
            refine hK _ _ ?_
            clear hK K
            refine wpAny_ready (rs := [9]) (by kernel_rfl) (by simp) ?_
            refine AllReady.cons (o := ⟨some 34, .buildSlice 41 1 #[(0, .tmp 33)], _, _, _, _⟩) rfl (fun K hK => ?_) AllReady.nil
            rw [if_pos (by rfl)]
            refine wp_tsl1 _ rfl (keyOf s i) rfl ?_
            intro w9 hw9 hs9 hb9
            refine hK _ _ ?_
            clear hK K
            replace hBk := hBk.belowSize hw9; replace hSL := hSL.below hw9; replace hBl := hBl.trans (hw9.mono hBl.size); replace hGl := hGl.belowSize hw9
            clear hw9 hs9
            refine wpAny_ready (rs := [10]) (by kernel_rfl) (by simp) ?_
            refine AllReady.cons (o := ⟨some 35, .call ⟨.builtin .append, #[.tmp 29, .tmp 34], #[41, 41]⟩, _, _, _, _⟩) rfl (fun K hK => ?_) AllReady.nil
            rw [if_pos (by rfl)]
            refine wp_appendSL (.tmp 29) (.tmp 34) 41 rfl w.heap.size sl (keysTo s i) hBk.lt rfl hSL w8.heap.size 1 rfl (keyOf s i) _ hb9 _ Tryd.underlying41 hi9 hz9 hz9s hy9 (by rw [keysTo_length]; omega) ?_
            intro w10 sl1 hw10 hSL1
            rw [keysTo_succ] at hSL1
            refine hK _ _ ?_
            clear hK K
            replace hBk := hBk.below hw10 (by omega)
            replace hBl := hBl.trans (hw10.mono (by omega))
            clear hw10 hSL hGl hb9
            simp only [Act.put, List.setIfInBounds_toArray, List.set_cons_zero, List.set_cons_succ]
            refine wpAny_take (i := 11) (oi := ⟨some 36, _, _, _, _, _⟩) (v := .pointer (some ⟨w.heap.size, 0, none⟩)) rfl (by kernel_rfl) (by kernel_rfl) (by kernel_rfl) (fun _ _ _ h => h) (Or.inl ⟨by rfl, fun w => by go_simp⟩) ?_
            refine wpAny_take (i := 12) (oi := ⟨some 37, _, _, _, _, _⟩) (v := .pointer (some ⟨w.heap.size, 0, none⟩)) rfl (by kernel_rfl) (by kernel_rfl) (by kernel_rfl) (fun _ _ _ h => h) (Or.inl ⟨by rfl, fun w => by go_simp⟩) ?_
            refine wpAny_ready (rs := [13]) (by kernel_rfl) (by simp) ?_
            refine AllReady.cons (o := ⟨none, .store 41 (.tmp 37) (.tmp 35), _, _, _, _⟩) rfl (fun K hK => ?_) AllReady.nil
            rw [if_pos (by rfl)]
            refine wp_storeCell 41 (.tmp 37) (.tmp 35) rfl w.heap.size 0 rfl sl1 rfl #[sl] 62 hBk i41 hSL1.cells.1 hSL1.cells.2 (by simp) ?_
            refine hK _ _ ?_
            clear hK K
            refine wpAny_done (by kernel_rfl) ?_ _
            have hR2 : Ring (w10.setCell ⟨w.heap.size, 0, none⟩ sl1) w.heap.size (keysTo s (i + 1)) := ⟨sl1, hBk.setCell 0 sl1, hSL1.setCell sl1⟩
            have hB2 : Below w.heap.size w (w10.setCell ⟨w.heap.size, 0, none⟩ sl1) := hBl.trans (below_of_grown (grown_setCell _ _ _ _) (Nat.le_refl _) hBl.size)
            generalize w10.setCell ⟨w.heap.size, 0, none⟩ sl1 = w11 at hR2 hB2 ⊢
            clear hBk hSL1 hBl
            simp only [Act.put, List.setIfInBounds_toArray, List.set_cons_zero, List.set_cons_succ]
            go_simp
            go_wp2_with fail
            go_roundw
            case rel => exact ⟨i + 1, by omega, by go_num, hB2, hR2⟩
            case measure => simp [intOf]; omega
          · rw [if_pos (by rfl)]
            refine wp_tsl1 _ rfl (keyOf s i) rfl ?_
            intro w9 hw9 hs9 hb9
            refine hK _ _ ?_
            clear hK K
            replace hBk := hBk.belowSize hw9; replace hSL := hSL.below hw9; replace hBl := hBl.trans (hw9.mono hBl.size); replace hGl := hGl.belowSize hw9
            clear hw9 hs9
            refine wpAny_ready (rs := [4]) (by kernel_rfl) (by simp) ?_
            refine AllReady.cons (o := ⟨some 29, .load 41 (.tmp 28), _, _, _, _⟩) rfl (fun K hK => ?_) AllReady.nil
            rw [if_pos (by rfl)]
            refine wp_run _ _ (run_loadCell _ _ rfl w.heap.size 0 rfl _ _ hBk _ Tryd.underlying41 rfl sl rfl) ?_
            refine hK _ _ ?_
            clear hK K
            refine wpAny_ready (rs := [10]) (by kernel_rfl) (by simp) ?_
            refine AllReady.cons (o := ⟨some 35, .call ⟨.builtin .append, #[.tmp 29, .tmp 34], #[41, 41]⟩, _, _, _, _⟩) rfl (fun K hK => ?_) AllReady.nil
            rw [if_pos (by rfl)]
            refine wp_appendSL (.tmp 29) (.tmp 34) 41 rfl w.heap.size sl (keysTo s i) hBk.lt rfl hSL w8.heap.size 1 rfl (keyOf s i) _ hb9 _ Tryd.underlying41 hi9 hz9 hz9s hy9 (by rw [keysTo_length]; omega) ?_
            intro w10 sl1 hw10 hSL1
            rw [keysTo_succ] at hSL1
            refine hK _ _ ?_
            clear hK K
            replace hBk := hBk.below hw10 (by omega)
            replace hBl := hBl.trans (hw10.mono (by omega))
            clear hw10 hSL hGl hb9
            simp only [Act.put, List.setIfInBounds_toArray, List.set_cons_zero, List.set_cons_succ]
            refine wpAny_take (i := 11) (oi := ⟨some 36, _, _, _, _, _⟩) (v := .pointer (some ⟨w.heap.size, 0, none⟩)) rfl (by kernel_rfl) (by kernel_rfl) (by kernel_rfl) (fun _ _ _ h => h) (Or.inl ⟨by rfl, fun w => by go_simp⟩) ?_
            refine wpAny_take (i := 12) (oi := ⟨some 37, _, _, _, _, _⟩) (v := .pointer (some ⟨w.heap.size, 0, none⟩)) rfl (by kernel_rfl) (by kernel_rfl) (by kernel_rfl) (fun _ _ _ h => h) (Or.inl ⟨by rfl, fun w => by go_simp⟩) ?_
            refine wpAny_ready (rs := [13]) (by kernel_rfl) (by simp) ?_
            refine AllReady.cons (o := ⟨none, .store 41 (.tmp 37) (.tmp 35), _, _, _, _⟩) rfl (fun K hK => ?_) AllReady.nil
            rw [if_pos (by rfl)]
            refine wp_storeCell 41 (.tmp 37) (.tmp 35) rfl w.heap.size 0 rfl sl1 rfl #[sl] 62 hBk i41 hSL1.cells.1 hSL1.cells.2 (by simp) ?_
            refine hK _ _ ?_
            clear hK K
            refine wpAny_done (by kernel_rfl) ?_ _
            have hR2 : Ring (w10.setCell ⟨w.heap.size, 0, none⟩ sl1) w.heap.size (keysTo s (i + 1)) := ⟨sl1, hBk.setCell 0 sl1, hSL1.setCell sl1⟩
            have hB2 : Below w.heap.size w (w10.setCell ⟨w.heap.size, 0, none⟩ sl1) := hBl.trans (below_of_grown (grown_setCell _ _ _ _) (Nat.le_refl _) hBl.size)
            generalize w10.setCell ⟨w.heap.size, 0, none⟩ sl1 = w11 at hR2 hB2 ⊢
            clear hBk hSL1 hBl
            simp only [Act.put, List.setIfInBounds_toArray, List.set_cons_zero, List.set_cons_succ]
            go_simp
            go_wp2_with fail
            go_roundw
            case rel => exact ⟨i + 1, by omega, by go_num, hB2, hR2⟩
            case measure => simp [intOf]; omega
    · go_wp2_with fail
      go_ret2
      refine ⟨rfl, hB, ?_⟩
      rw [show n = i from by omega]
      exact hR
end Go.Proofs.YtminjelnbnajhaaDoor
