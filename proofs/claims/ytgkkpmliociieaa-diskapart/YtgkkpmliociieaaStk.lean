/- What struck and isFull of a disk do, where no fall is planned. -/
import Derived.Test.YtgkkpmliociieaaUse
import Derived.Test.YtgkkpmliociieaaRgr
namespace Go.Proofs.Ytgkkpmliociieaa
open Go Go.RowKit
set_option maxRecDepth 100000 in
set_option maxHeartbeats 2000000 in
theorem struck_any (p : Nat) (b : Option Nat) (m : DM) (w : World) (h : DK w p b m) (hc : m.ch ≤ 1000000) :
    Calls Try.prog 64 #[.pointer (some ⟨p, 0, none⟩)] w fun e w' => e = .returned (.bool false) ∧ Chg w w' p b b ∧ DK w' p b { m with ch := m.ch + 1 } := by
  obtain ⟨sl, hD, hF, hb⟩ := h.out
  have c4 : w.cell? ⟨p, 4, none⟩ = some (.slice none 0 0) := (hD.cell 4).trans (dC_g4 _ _)
  have hw1 : IntKind.i64.wrap ((m.ch : Int) + 1) = ((m.ch + 1 : Nat) : Int) := by rw [IntKind.wrap_i64]; omega
  go_enter Try.func64, Try.ntmps64
  go_wp2_with fail
  go_loopw [4] (fun _ wl => wl = w) (fun _ _ => 0)
  case atStart => rfl
  case round =>
    have hw2 := hrel.symm
    subst hw2
    clear hrel
    go_wp2_with fail
    go_region
    go_wp2_with fail
    go_region
    have hD2 := hD.drew.drew
    have hF2 := hF.drew.drew
    have hB2 : Below w.heap.size w w.drew.drew := (Below.refl _ w).drew.drew
    go_wp2_with (with_reducible refine at_list ?_; first
      | (refine wpList_loadCell (op := ⟨some 55, _, _, _, _, _⟩) rfl _ _ rfl p 5 rfl _ _ hD2 _ Try.underlying3 rfl _ (dC_g5 _ _) ?_)
      | (refine wpList_storeCell (op := ⟨none, .store 3 (.tmp 58) (.tmp 56), _, _, _, _⟩) rfl _ _ _ rfl p 5 rfl (.int .i64 ((m.ch + 1 : Nat) : Int)) rfl _ _ hD2 iInt rfl rfl (by rw [dC_size]; decide) ?_; intro w1 hg1 hs1 hD3; rw [dC_s5] at hD3))
    go_ret
    exact ⟨rfl, (Chg.below hB2).trans (Chg.own hg1), ⟨sl, hD3, hF2.grown hg1 (hF2.ne hD2 (by decide)), hb⟩⟩
/-- Is there no room for so many bytes more? -/
def fullE (m : DM) (d : Int) : Bool := m.lim && decide (0 < d) && decide (m.room - (usedL m.l : Nat) < d)
set_option maxRecDepth 100000 in
set_option maxHeartbeats 2000000 in
theorem isFull_any (p : Nat) (b : Option Nat) (m : DM) (d : Int) (w : World) (h : DK w p b m) (hl : m.l.length ≤ 1000000) (hu : usedL m.l ≤ 1000000000000) (hr : m.lim = true → 0 ≤ m.room ∧ m.room ≤ 9223372036854775807) :
    Calls Try.prog 63 #[.pointer (some ⟨p, 0, none⟩), .int .i64 d] w fun e w' => e = .returned (.bool (fullE m d)) ∧ Below w.heap.size w w' := by
  have HU := fun w1 (hB : Below w.heap.size w w1) => used_any p b m w1 (h.below hB) hl hu
  obtain ⟨sl, hD, hF, hb⟩ := h.out
  have c2 : w.cell? ⟨p, 2, none⟩ = some (.bool m.lim) := (hD.cell 2).trans (dC_g2 _ _)
  have c3 : w.cell? ⟨p, 3, none⟩ = some (.int .i64 m.room) := (hD.cell 3).trans (dC_g3 _ _)
  unfold fullE
  have hp := hD.lt
  clear hD hF hb h
  generalize m.lim = li at *
  cases li with
  | false =>
    simp only [Bool.false_and]
    clear HU c3 hr
    go_enter Try.func63, Try.ntmps63
    go_wp2_with fail
    go_region
    go_wp2_with fail
    go_ret
    exact ⟨rfl, (Below.refl _ _).drew⟩
  | true =>
    simp only [Bool.true_and]
    obtain ⟨hr1, hr2⟩ := hr rfl
    clear hr
    by_cases hd : 0 < d
    · have hd0 : decide (0 < d) = true := decide_eq_true hd
      rw [hd0, Bool.true_and]
      generalize usedL m.l = u at *
      generalize m.room = r at *
      have hw1 : IntKind.i64.wrap (r - (u : Int)) = r - (u : Int) := by rw [IntKind.wrap_i64]; omega
      go_enter Try.func63, Try.ntmps63
      go_wp2_with fail
      go_region_held3 (fun w' => w'.cell? ⟨p, 2, none⟩ = some (.bool true) ∧ w'.cell? ⟨p, 3, none⟩ = some (.int .i64 r)) ((go_split_ands; first | exact ⟨c2, c3⟩ | exact ⟨(hw1'.cell (by simpa using hp)).trans c2, (hw1'.cell (by simpa using hp)).trans c3⟩)) ((go_at_call 18; refine (HU _ ((Below.refl _ w).drew)).mono ?_; rintro e w1 ⟨rfl, hw1'⟩))
      go_wp2_with fail
      go_ret
      exact ⟨rfl, (Below.refl _ w).drew.trans hw1'⟩
    · have hd0 : decide (0 < d) = false := decide_eq_false hd
      rw [hd0, Bool.false_and]
      clear HU c3
      go_enter Try.func63, Try.ntmps63
      go_wp2_with fail
      go_region
      go_wp2_with fail
      go_ret
      exact ⟨rfl, (Below.refl _ _).drew⟩
end Go.Proofs.Ytgkkpmliociieaa
