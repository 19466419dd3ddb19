/- What WalNil tells: a nil log, no disk, a dead one, segments of nothing. -/
import Derived.Test.YtaiiojbakmminabGreatDoorWag
namespace Go.Proofs.YtaiiojbakmminabGreatDoor
open Go Go.RowKit
set_option maxRecDepth 100000 in
set_option maxHeartbeats 4000000 in
theorem walNil_few (z : Int) (hz : z < 1) (a : Option Addr) (n cap : Nat) (w : World) (hG : Gw w) :
    Calls Tryz.prog 3 #[.slice a n cap, .int .i64 z] w fun e w' => e = .returned (.bool true) ∧ Below w.heap.size w w' := by
  have h2g := hG.two
  have hz1 : ¬ 1 ≤ z := by omega
  have HN := newD w
  have HO0 := open_nil 10 w
  have hok : Okn (cm [] 0 0) := cm_okn (by simp [RisP]) (fun x hx => by cases hx) 0 0 (by simp) (by simp [usedP]) (by omega)
  go_enter Tryz.func3, Tryz.ntmps3
  go_wp2_with (first
    | (go_at_call 4; refine HO0.mono ?_; rintro e wx ⟨rfl, hwx⟩; have hwx2 := hwx.symm; subst hwx2; clear hwx; clear HO0)
    | (go_at_call 5; refine HN.mono ?_; rintro e w1 ⟨rfl, hw1, hD1⟩; clear HN; have HN2 := newD w1)
    | (go_at_call 5; refine HN2.mono ?_; rintro e w2 ⟨rfl, hw2, hD2⟩; clear HN2; have HO := open_few w1.heap.size z hz w2; have hB2 := hw1.trans (hw2.mono hw1.size); have HC := crashD w.heap.size none (cm [] 0 0) 0 0 w2 (hD1.below hw2) hok rfl rfl)
    | (go_at_call 4; refine HO.mono ?_; rintro e wx ⟨rfl, hwx⟩; have hwx2 := hwx.symm; subst hwx2; clear hwx; clear HO)
    | (go_at_call 6; refine HC.mono ?_; rintro e w4 ⟨rfl, b4, hC4, hD4⟩; clear HC; obtain ⟨hlo4, _, _⟩ := wch_low (Wch.chg (q := w.heap.size) (rb := none) hC4) hB2.size (Nat.le_refl _) (Nat.le_refl _) (fun k e => by cases e) (fun k e => by cases e); have hB4 := hB2.trans hlo4; have HDd := open_dead w.heap.size b4 _ 10 (by decide) w4 hD4 rfl; have HA := awakeW w4 (hG.below hB4))
    | (go_at_call 4; refine HDd.mono ?_; rintro e wx ⟨rfl, hwx⟩; have hwx2 := hwx.symm; subst hwx2; clear hwx; clear HDd)
    | (go_at_call 7; refine HA.mono ?_; rintro e w5 ⟨rfl, hw5⟩; clear HA; have hB5 := hB4.trans (hw5.mono hB4.size); have HAd := addL_nil (.slice a n cap) rfl w5)
    | (go_at_call 8; refine HAd.mono ?_; rintro e w6 ⟨rfl, hw6⟩; clear HAd; have hB6 := hB5.trans (hw6.mono hB5.size); have HRe := resetL_nil (.string ⟨#[]⟩) (.slice a n cap) rfl rfl w6)
    | (go_at_call 9; refine HRe.mono ?_; rintro e w7 ⟨rfl, hw7⟩; clear HRe; have hB7 := hB6.trans (hw7.mono hB6.size))
    | (go_at_call 10; refine (snapL_nil _).mono ?_; rintro e wx ⟨rfl, hwx⟩; have hwx2 := hwx.symm; subst hwx2; clear hwx)
    | (go_at_call 11; refine (allL_nil _).mono ?_; rintro e wx ⟨rfl, hwx⟩; have hwx2 := hwx.symm; subst hwx2; clear hwx)
    | (go_at_call 12; refine (lenL_nil _).mono ?_; rintro e wx ⟨rfl, hwx⟩; have hwx2 := hwx.symm; subst hwx2; clear hwx)
    | (go_at_call 13; refine (segsL_nil _).mono ?_; rintro e wx ⟨rfl, hwx⟩; have hwx2 := hwx.symm; subst hwx2; clear hwx)
    | (go_at_call 14; refine (genL_nil _).mono ?_; rintro e wx ⟨rfl, hwx⟩; have hwx2 := hwx.symm; subst hwx2; clear hwx))
  go_ret
  refine ⟨?_, hB7⟩
  show Ending.returned (.bool (!decide (1 ≤ z))) = _
  rw [decide_eq_false (by omega : ¬ 1 ≤ z)]
  rfl
set_option maxRecDepth 100000 in
set_option maxHeartbeats 4000000 in
theorem walNil_more (z : Int) (hz : 1 ≤ z) (a : Option Addr) (n cap : Nat) (w : World) (hG : Gw w) :
    Calls Tryz.prog 3 #[.slice a n cap, .int .i64 z] w fun e w' => e = .returned (.bool true) ∧ Below w.heap.size w w' := by
  have h2g := hG.two
  have hz1 : ¬ z < 1 := by omega
  have HN := newD w
  have HO0 := open_nil 10 w
  have hok : Okn (cm [] 0 0) := cm_okn (by simp [RisP]) (fun x hx => by cases hx) 0 0 (by simp) (by simp [usedP]) (by omega)
  go_enter Tryz.func3, Tryz.ntmps3
  go_wp2_with (first
    | (go_at_call 4; refine HO0.mono ?_; rintro e wx ⟨rfl, hwx⟩; have hwx2 := hwx.symm; subst hwx2; clear hwx; clear HO0)
    | (go_at_call 5; refine HN.mono ?_; rintro e w1 ⟨rfl, hw1, hD1⟩; clear HN; have HN2 := newD w1)
    | (go_at_call 5; refine HN2.mono ?_; rintro e w2 ⟨rfl, hw2, hD2⟩; clear HN2; have hB2 := hw1.trans (hw2.mono hw1.size); obtain ⟨ch2, _, HO⟩ := open_new w1.heap.size z hz w2 hD2 (Nat.le_trans h2g hw1.size) (hG.below hB2))
    | (go_at_call 4; refine HO.mono ?_; intro e w3 hop; obtain ⟨q, b3, rb3, rfl, hq, hW3, _⟩ := op_ok hop; clear hop HO; obtain ⟨hlo3, _, _⟩ := wch_low hW3 hw2.size (Nat.le_trans hw2.size hq) (Nat.le_refl _) (fun k e => by cases e) (fun k e => by cases e); have hw3 := hw2.trans hlo3; have hB3 := hw1.trans (hw3.mono hw1.size); have HC := crashD w.heap.size none (cm [] 0 0) 0 0 w3 (hD1.below hw3) hok rfl rfl)
    | (go_at_call 6; refine HC.mono ?_; rintro e w4 ⟨rfl, b4, hC4, hD4⟩; clear HC; obtain ⟨hlo4, _, _⟩ := wch_low (Wch.chg (q := w.heap.size) (rb := none) hC4) hB3.size (Nat.le_refl _) (Nat.le_refl _) (fun k e => by cases e) (fun k e => by cases e); have hB4 := hB3.trans hlo4; have HDd := open_dead w.heap.size b4 _ 10 (by decide) w4 hD4 rfl; have HA := awakeW w4 (hG.below hB4))
    | (go_at_call 4; refine HDd.mono ?_; rintro e wx ⟨rfl, hwx⟩; have hwx2 := hwx.symm; subst hwx2; clear hwx; clear HDd)
    | (go_at_call 7; refine HA.mono ?_; rintro e w5 ⟨rfl, hw5⟩; clear HA; have hB5 := hB4.trans (hw5.mono hB4.size); have HAd := addL_nil (.slice a n cap) rfl w5)
    | (go_at_call 8; refine HAd.mono ?_; rintro e w6 ⟨rfl, hw6⟩; clear HAd; have hB6 := hB5.trans (hw6.mono hB5.size); have HRe := resetL_nil (.string ⟨#[]⟩) (.slice a n cap) rfl rfl w6)
    | (go_at_call 9; refine HRe.mono ?_; rintro e w7 ⟨rfl, hw7⟩; clear HRe; have hB7 := hB6.trans (hw7.mono hB6.size))
    | (go_at_call 10; refine (snapL_nil _).mono ?_; rintro e wx ⟨rfl, hwx⟩; have hwx2 := hwx.symm; subst hwx2; clear hwx)
    | (go_at_call 11; refine (allL_nil _).mono ?_; rintro e wx ⟨rfl, hwx⟩; have hwx2 := hwx.symm; subst hwx2; clear hwx)
    | (go_at_call 12; refine (lenL_nil _).mono ?_; rintro e wx ⟨rfl, hwx⟩; have hwx2 := hwx.symm; subst hwx2; clear hwx)
    | (go_at_call 13; refine (segsL_nil _).mono ?_; rintro e wx ⟨rfl, hwx⟩; have hwx2 := hwx.symm; subst hwx2; clear hwx)
    | (go_at_call 14; refine (genL_nil _).mono ?_; rintro e wx ⟨rfl, hwx⟩; have hwx2 := hwx.symm; subst hwx2; clear hwx))
  go_ret
  exact ⟨rfl, hB7⟩
theorem walNil_any (z : Int) (a : Option Addr) (n cap : Nat) (w : World) (hG : Gw w) :
    Calls Tryz.prog 3 #[.slice a n cap, .int .i64 z] w fun e w' => e = .returned (.bool true) ∧ Below w.heap.size w w' := by
  by_cases hz : z < 1
  · exact walNil_few z hz a n cap w hG
  · exact walNil_more z (by omega) a n cap w hG
end Go.Proofs.YtaiiojbakmminabGreatDoor
