/- Where a name stands on a disk, and what its file is. -/
import Derived.Test.YtgkkpmliociieaaSml
namespace Go.Proofs.Ytgkkpmliociieaa
open Go Go.RowKit
set_option maxRecDepth 100000 in
set_option maxHeartbeats 1000000 in
theorem rangeAt_below {w w' : World} {g o : Nat} {x : List Value} {N : Nat} (h : w.rangeAt g o x) (hb : Below N w w') (hg : g < N) : w'.rangeAt g o x := fun j v hv => by
  rw [hb.cell hg]
  exact h j v hv
theorem search_any (l : List F) (n : B) (a : Option Addr) (cap : Nat) (w : World) (hL : FL w (.slice a l.length cap) l) (hr : Ris l) (hl : l.length ≤ 1000000) :
    Calls Try.prog 72 #[.slice a l.length cap, .string ⟨n.toArray⟩, .func (.func 73) #[] #[]] w fun e w' => e = .returned (.tuple #[.int .i64 (plc n l : Nat), .bool (fnd n l)]) ∧ Below w.heap.size w w' := by
  obtain ⟨N, hN⟩ : ∃ N, Hid (N = plc n l) := ⟨_, rfl⟩
  obtain ⟨K, hK⟩ : ∃ K, Hid (K = fnd n l) := ⟨_, rfl⟩
  rw [← hN.out, ← hK.out]
  have hNl : N ≤ l.length := by rw [hN.out]; exact plc_le n l
  go_enter Try.func72, Try.ntmps72
  go_wp2_with fail
  go_loopw [9, 10, 11] (fun v9 v10 _ wl => ∃ i j : Nat, i ≤ N ∧ N ≤ j ∧ j ≤ l.length ∧ v9 = .int .i64 i ∧ v10 = .int .i64 j ∧ Below w.heap.size w wl) (fun v9 v10 _ _ => (intOf v10).toNat - (intOf v9).toNat)
  case atStart => exact ⟨0, l.length, by omega, hNl, by omega, rfl, rfl, Below.refl _ _⟩
  case round =>
    obtain ⟨i, j, hiN, hNj, hjl, rfl, rfl, hB⟩ := hrel
    by_cases hlt : i < j
    · have hd : decide ((i : Int) < (j : Int)) = true := decide_eq_true (by omega)
      obtain ⟨h, hh⟩ : ∃ h, h = (i + j) / 2 := ⟨_, rfl⟩
      have hh1 : i ≤ h ∧ h < j := by omega
      obtain ⟨f, hf⟩ : ∃ f, l[h]? = some f := ⟨_, List.getElem?_eq_getElem (by omega)⟩
      obtain ⟨g, rfl, hS, hg⟩ := hL.at h f hf
      have hg2 := rangeAt_below hg hB hS.lt
      have HP := fun w' => place1_any f n w'
      by_cases hc : f.name < n
      · have hc0 : Lib.compareBytes f.name n < 0 := (cmp_lt _ _).2 hc
        have hhN : h + 1 ≤ N := by
          rw [hN.out]
          by_cases h9 : h < plc n l
          · exact h9
          · exact absurd hc (plc_ge n l hr h f (by omega) hf)
        have hdc : decide (Lib.compareBytes f.name n < 0) = true := decide_eq_true hc0
        clear hc hf hr
        generalize Lib.compareBytes f.name n = z at *
        subst hh
        go_wp2_with (first
          | (go_at_call 73; refine (HP _).mono ?_; rintro e w' ⟨rfl, hw'⟩)
          | (with_reducible refine at_list ?_; first
            | (refine wpList_loadAt (op := ⟨some 28, _, _, _, _, _⟩) rfl _ _ rfl g ((i + j) / 2 * 6) rfl (fC f) hg2 _ Try.underlying80 rfl (iFile f) ?_)))
        go_roundw
        case rel => exact ⟨(i + j) / 2 + 1, j, by omega, by omega, by omega, by go_num, rfl, hB.trans (hw'.mono hB.size)⟩
        case measure => simp [intOf]; omega
      · have hc0 : ¬ Lib.compareBytes f.name n < 0 := fun h => hc ((cmp_lt _ _).1 h)
        have hhN : N ≤ h := by
          rw [hN.out]
          by_cases h9 : h < plc n l
          · exact absurd (plc_lt n l h f h9 hf) hc
          · omega
        have hdc : decide (Lib.compareBytes f.name n < 0) = false := decide_eq_false hc0
        clear hc hf hr
        generalize Lib.compareBytes f.name n = z at *
        subst hh
        go_wp2_with (first
          | (go_at_call 73; refine (HP _).mono ?_; rintro e w' ⟨rfl, hw'⟩)
          | (with_reducible refine at_list ?_; first
            | (refine wpList_loadAt (op := ⟨some 28, _, _, _, _, _⟩) rfl _ _ rfl g ((i + j) / 2 * 6) rfl (fC f) hg2 _ Try.underlying80 rfl (iFile f) ?_)))
        go_roundw
        case rel => exact ⟨i, (i + j) / 2, by omega, by omega, by omega, rfl, rfl, hB.trans (hw'.mono hB.size)⟩
        case measure => simp [intOf]; omega
    · have hd : decide ((i : Int) < (j : Int)) = false := decide_eq_false (by omega)
      obtain rfl : i = N := by omega
      by_cases hil : i < l.length
      · have hd2 : decide ((i : Int) < (l.length : Int)) = true := decide_eq_true (by omega)
        obtain ⟨f, hf⟩ : ∃ f, l[i]? = some f := ⟨_, List.getElem?_eq_getElem hil⟩
        obtain ⟨g, rfl, hS, hg⟩ := hL.at i f hf
        have hg2 := rangeAt_below hg hB hS.lt
        have c0 : wr.cell? ⟨g, i * 6, none⟩ = _ := hg2 0 _ (fC_g0 f)
        have c1 : wr.cell? ⟨g, i * 6 + 1, none⟩ = _ := hg2 1 _ (fC_g1 f)
        have c2 : wr.cell? ⟨g, i * 6 + 2, none⟩ = _ := hg2 2 _ (fC_g2 f)
        have c3 : wr.cell? ⟨g, i * 6 + 3, none⟩ = _ := hg2 3 _ (fC_g3 f)
        have c4 : wr.cell? ⟨g, i * 6 + 4, none⟩ = _ := hg2 4 _ (fC_g4 f)
        have c5 : wr.cell? ⟨g, i * 6 + 5, none⟩ = _ := hg2 5 _ (fC_g5 f)
        have hKf : Hid (K = decide (Lib.compareBytes f.name n = 0)) := by
          show _ = _
          rw [hK.out, fnd, ← hN.out, hf, Bool.eq_iff_iff, decide_eq_true_eq, cmp_eq0]
          simp
        have HP := fun w' => place1_any f n w'
        generalize Lib.compareBytes f.name n = z at *
        clear hf hr hg hg2 hL hS
        go_wp2_with (go_at_call 73; refine (HP _).mono ?_; rintro e w' ⟨rfl, hw'⟩)
        go_ret2
        refine ⟨?_, hB.trans (hw'.mono hB.size)⟩
        rw [hKf.out]
        rfl
      · have hd2 : decide ((i : Int) < (l.length : Int)) = false := decide_eq_false (by omega)
        have hKf : K = false := by
          rw [hK.out, fnd, ← hN.out, List.getElem?_eq_none (by omega)]
        subst hKf
        clear hK
        go_wp2_with fail
        go_ret2
        exact ⟨rfl, hB⟩
end Go.Proofs.Ytgkkpmliociieaa
