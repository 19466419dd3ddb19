/- What MacRings does. -/
import Derived.Test.YtminjelnbnajhaaDoorNr
import Derived.Test.YtminjelnbnajhaaDoorRgm
import Derived.Test.YtminjelnbnajhaaDoorRt
namespace Go.Proofs.YtminjelnbnajhaaDoor
open Go Go.RowKit
theorem conv1 (w : World) (k : Nat) (hk : k < 256) : (convert 40 9 (.slice (some ⟨w.heap.size, 0, none⟩) 1 1)).run Tryd.prog (w.alloc (.cells #[.int .u8 (k : Int)] 5)) = .ok (.string ⟨[UInt8.ofNat k].toArray⟩) (w.alloc (.cells #[.int .u8 (k : Int)] 5)) := by
  have hb : Blk (w.alloc (.cells #[.int .u8 (k : Int)] 5)) w.heap.size (row8 (fun _ => UInt8.ofNat k) 1) 5 := by
    have := Blk.new w #[.int .u8 (k : Int)] 5
    rw [n8_ofNat k hk, row8_one8] at this
    rw [n8_ofNat k hk]
    exact this
  generalize w.alloc (.cells #[.int .u8 (k : Int)] 5) = w1 at *
  have hr := run_bytesToString (P := Tryd.prog) w1 ⟨w.heap.size, 0, none⟩ 1 1 ((List.range 1).map fun _ => n8 (UInt8.ofNat k)) (hb.loadBytes (Nat.le_refl 1))
  rw [foldl_push] at hr
  rw [run_convert_bytes_string w1 40 9 5 _ _ _ Tryd.underlying40 Tryd.underlying5 Tryd.underlying9, hr]
  have e2 : UInt8.ofNat (n8 (UInt8.ofNat k)).toNat = UInt8.ofNat k := ofNat_n8 _
  show Result.ok (Value.string ⟨ByteArray.empty.data ++ #[UInt8.ofNat (n8 (UInt8.ofNat k)).toNat]⟩) w1 = _
  rw [e2, show ByteArray.empty.data = #[] from rfl, Array.empty_append]
theorem pairBlk (w : World) (o : Obj) (x y : List UInt8) : Blk ((w.alloc o).alloc (.cells #[sv x, sv y] 9)) (w.heap.size + 1) #[sv x, sv y] 9 := by
  have := Blk.new (w.alloc o) #[sv x, sv y] 9
  rw [show (w.alloc o).heap.size = w.heap.size + 1 from by simp] at this
  exact this
theorem pairBelow (w : World) (o o2 : Obj) : Below w.heap.size w ((w.alloc o).alloc o2) := ((Below.refl _ w).alloc (Nat.le_refl _) o).alloc (by simp) o2
set_option maxRecDepth 100000 in
set_option maxHeartbeats 2000000 in
theorem macRings_any (a : List UInt8) (n i : Int) (w : World) (hG : Glob w) : Calls Tryd.prog 6 #[.string ⟨a.toArray⟩, .int .i64 n, .int .i64 i] w fun e w' => e = .returned (.bool true) ∧ Below w.heap.size w w' := by
  have hla := fewL_length a
  by_cases hn : n < 0 ∨ 16 < n
  · have HN : Hid (n < 0 ∨ 16 < n) := hn
    by_cases h1 : n < 0
    case' pos => have e1 : decide (n < 0) = true := decide_eq_true h1
    case' neg =>
      have e1 : decide (n < 0) = false := decide_eq_false h1
      have e2 : decide (16 < n) = true := decide_eq_true (by omega)
    all_goals
      clear hn h1
      go_enter Tryd.func6, Tryd.ntmps6
      go_wp2_with (first
        | (go_at_call 13; refine (few_any _ _).mono ?_; rintro e w' ⟨rfl, hw'⟩; have hw2 := hw'.symm; subst hw2; clear hw')
        | (go_at_call 20; refine (newRing_bad _ n _ HN.out).mono ?_; rintro e w' ⟨rfl, hw'⟩; have hw2 := hw'.symm; subst hw2; clear hw')
        | (go_at_call 15; refine (awake_any _ hG).mono ?_; rintro e w1 ⟨rfl, hw1⟩))
      go_ret
      exact ⟨rfl, hw1⟩
  · obtain ⟨m, rfl⟩ : ∃ m : Nat, n = (m : Int) := ⟨n.toNat, by omega⟩
    have hm : m ≤ 16 := by omega
    have e1 : decide ((m : Int) < 0) = false := by simp
    have e2 : decide (16 < (m : Int)) = false := by simp; omega
    clear hn
    go_enter Tryd.func6, Tryd.ntmps6
    go_wp2_with (first
      | (go_at_call 13; refine (few_any _ _).mono ?_; rintro e w' ⟨rfl, hw'⟩; have hw2 := hw'.symm; subst hw2; clear hw')
      | (go_at_call 20; refine (newRing_any (fewL a) m _ hG hm (by omega)).mono ?_; rintro e w1 ⟨rfl, hw1, hR1⟩)
      | (go_at_call 15; refine (awake_any _ (hG.belowSize hw1)).mono ?_; rintro e w2 ⟨rfl, hw2⟩)
      | (go_at_call 21; refine (len_any w.heap.size (keysTo (fewL a) m) _ (hR1.below hw2)).mono ?_; rintro e w' ⟨rfl, hw'⟩; have hw3 := hw'.symm; subst hw3; clear hw'; rw [keysTo_length]))
    generalize fewL a = s at *
    have hB2 := hw1.trans (hw2.mono hw1.size)
    have hR2 := hR1.below hw2
    clear hw1 hw2 hR1 e1 e2
    go_loopw [10] (fun v wl => ∃ k : Nat, k ≤ m ∧ v = .int .i64 k ∧ Below w.heap.size w wl ∧ Ring wl w.heap.size (keysTo s m)) (fun v _ => m - (intOf v).toNat)
    case atStart => exact ⟨0, by omega, rfl, hB2, hR2⟩
    case round =>
      clear hB2 hR2
      obtain ⟨k, hk, rfl, hB, hR⟩ := hrel
      have hGr := hG.belowSize hB
      by_cases hlt : k < m
      · have HN : Hid (((k : Nat) : Int) = n8 (UInt8.ofNat k)) := n8_ofNat k (by omega)
        have HG : Hid ((keysTo s m).getD k [] = keyOf s k) := keysTo_get s m k hlt
        have HD : Hid (digest (tagTo 75 [s, [UInt8.ofNat k]] 2) = keyOf s k) := rfl
        have hcv := conv1 wr k (by omega)
        have hb4 := pairBlk wr (.cells #[.int .u8 (k : Int)] 5) s [UInt8.ofNat k]
        have hw4 := pairBelow wr (.cells #[.int .u8 (k : Int)] 5) (.cells #[sv s, sv [UInt8.ofNat k]] 9)
        have hR4 := hR.below hw4
        have hB4 := hB.trans (hw4.mono hB.size)
        clear hw4
        go_wp2_with (first
          | (go_at_call 22; refine (key_in w.heap.size (keysTo s m) k _ hR (by rw [keysTo_length]; exact hlt)).mono ?_; rintro e w' ⟨rfl, hw'⟩; have hw3 := hw'.symm; subst hw3; clear hw'; rw [HG.out])
          | (go_at_call 23; refine (rtagged_any 75 (wr.heap.size + 1) 0 2 2 [s, [UInt8.ofNat k]] _ (fun j hj => tagCells hb4 j hj) (by rw [tag2_length]; omega)).mono ?_; rintro e w5 ⟨rfl, hw5⟩; rw [HD.out]))
        go_roundw
        case rel => exact ⟨k + 1, by omega, by go_num, hB4.trans (hw5.mono hB4.size), hR4.below hw5⟩
        case measure => simp [intOf]; omega
      · by_cases hi : i < 0 ∨ (m : Int) ≤ i
        · have HI : Hid (i < 0 ∨ ((keysTo s m).length : Int) ≤ i) := by rw [keysTo_length]; exact hi
          by_cases h1 : i < 0
          case' pos => have f1 : decide (0 ≤ i) = false := decide_eq_false (by omega)
          case' neg =>
            have f1 : decide (0 ≤ i) = true := decide_eq_true (by omega)
            have f2 : decide (i < (m : Int)) = false := decide_eq_false (by omega)
          all_goals
            clear h1 hi
            go_wp2_with (first
              | (go_at_call 22; refine (key_out w.heap.size (keysTo s m) i _ hR HI.out).mono ?_; rintro e w' ⟨rfl, hw'⟩; have hw3 := hw'.symm; subst hw3; clear hw')
              | (go_at_call 24; refine (rtag_out w.heap.size (keysTo s m) i _ _ hR HI.out).mono ?_; rintro e w' ⟨rfl, hw'⟩; have hw3 := hw'.symm; subst hw3; clear hw')
              | (go_at_call 25; refine (rcheck_out w.heap.size (keysTo s m) i _ _ _ hR HI.out).mono ?_; rintro e w' ⟨rfl, hw'⟩; have hw3 := hw'.symm; subst hw3; clear hw'))
            go_ret
            exact ⟨rfl, hB⟩
        · obtain ⟨j, rfl⟩ : ∃ j : Nat, i = (j : Int) := ⟨i.toNat, by omega⟩
          have hj : j < m := by omega
          have hjl : j < (keysTo s m).length := by rw [keysTo_length]; exact hj
          have HJ : Hid (j < (keysTo s m).length) := hjl
          have hkl : ((keysTo s m).getD j []).length ≤ 32 := by rw [keysTo_get s m j hj, keyOf_length]; exact Nat.le_refl _
          have f1 : decide (0 ≤ (j : Int)) = true := by simp
          have f2 : decide ((j : Int) < (m : Int)) = true := by simp; omega
          clear hjl
          obtain ⟨key, hkey⟩ : ∃ key, key = (keysTo s m).getD j [] := ⟨_, rfl⟩
          have HK : Hid ((keysTo s m).getD j [] = key) := hkey.symm
          have hk2 : key.length ≤ 32 := by rw [hkey]; exact hkl
          have HK2 : Hid (((keysTo s m).getD j []).length ≤ 549755813888) := Nat.le_trans hkl (by omega)
          clear hkey hkl hi
          obtain ⟨T, hT⟩ : ∃ T, T = hmac key [116, 101, 120, 116] := ⟨_, rfl⟩
          obtain ⟨O, hO⟩ : ∃ O, O = hmac key [111, 116, 104, 101, 114] := ⟨_, rfl⟩
          have HT : Hid (hmac key [116, 101, 120, 116] = T) := hT.symm
          have HO : Hid (hmac key [111, 116, 104, 101, 114] = O) := hO.symm
          clear hT hO
          have f16 : Hid True := trivial
          have f25 : Hid True := trivial
          have hGc := hGr
          have hBc := hB
          have hRc := hR
          clear hGr hB hR
          by_cases hA : O = T
          case' pos =>
            have hA' := hA.symm
            clear hA
            subst hA'
          case' neg =>
            have a1 : (O == T) = false := beq_eq_false_iff_ne.2 hA
            have a2 : decide (O = T) = false := decide_eq_false hA
            clear hA
          all_goals
            go_wp2_with (first
              | (go_at_call 22; refine (key_in w.heap.size (keysTo s m) j _ hRc HJ.out).mono ?_; rintro e w' ⟨rfl, hw'⟩; have hw3 := hw'.symm; subst hw3; clear hw'; rw [HK.out])
              | (go_at_call 24; refine (rtag_in w.heap.size (keysTo s m) j [116, 101, 120, 116] _ hGc hRc HJ.out HK2.out (by simp)).mono ?_; rintro e w2 ⟨rfl, hw2⟩; replace hBc := hBc.trans (hw2.mono hBc.size); replace hGc := hGc.belowSize hw2; replace hRc := hRc.below hw2; clear hw2; rw [HK.out, HT.out])
              | (go_at_call 16; clear f16; refine (rtag_any key [116, 101, 120, 116] _ (by omega) (by simp)).mono ?_; rintro e w2 ⟨rfl, hw2⟩; replace hBc := hBc.trans (hw2.mono hBc.size); replace hGc := hGc.belowSize hw2; replace hRc := hRc.below hw2; clear hw2; rw [HT.out])
              | (go_at_call 16; refine (rtag_any key [111, 116, 104, 101, 114] _ (by omega) (by simp)).mono ?_; rintro e w2 ⟨rfl, hw2⟩; replace hBc := hBc.trans (hw2.mono hBc.size); replace hGc := hGc.belowSize hw2; replace hRc := hRc.below hw2; clear hw2; rw [HO.out])
              | (go_at_call 25; clear f25; refine (rcheck_in w.heap.size (keysTo s m) j [116, 101, 120, 116] T _ hGc hRc HJ.out HK2.out (by simp)).mono ?_; rintro e w2 ⟨rfl, hw2⟩; replace hBc := hBc.trans (hw2.mono hBc.size); replace hGc := hGc.belowSize hw2; replace hRc := hRc.below hw2; clear hw2; rw [HK.out, HT.out])
              | (go_at_call 25; refine (rcheck_in w.heap.size (keysTo s m) j [111, 116, 104, 101, 114] T _ hGc hRc HJ.out HK2.out (by simp)).mono ?_; rintro e w2 ⟨rfl, hw2⟩; replace hBc := hBc.trans (hw2.mono hBc.size); replace hGc := hGc.belowSize hw2; replace hRc := hRc.below hw2; clear hw2; rw [HK.out, HO.out]))
            go_ret
            exact ⟨rfl, hBc⟩
end Go.Proofs.YtminjelnbnajhaaDoor
