/- What Members, digests and Check of a header do. -/
import Derived.Test.YtdolgkegeomafaaDoorHdq
import Derived.Test.YtdolgkegeomafaaDoorVsi
namespace Go.Proofs.YtdolgkegeomafaaDoor
open Go Go.RowKit
/-- The least that the next number may be. -/
def lst (l : List Int) (i : Nat) : Int := if i = 0 then 0 else l.getD (i - 1) 0 + 1
theorem lst_zero (l : List Int) : lst l 0 = 0 := rfl
theorem lst_succ (l : List Int) (i : Nat) : lst l (i + 1) = l.getD i 0 + 1 := by simp [lst]
theorem lst_step {l : List Int} {i : Nat} (h : ∀ j, j < i → 0 ≤ l.getD j 0 ∧ l.getD j 0 ≤ 15 ∧ (0 < j → l.getD (j - 1) 0 < l.getD j 0)) :
    0 ≤ lst l i ∧ (lst l i ≤ l.getD i 0 ↔ 0 ≤ l.getD i 0 ∧ (0 < i → l.getD (i - 1) 0 < l.getD i 0)) := by
  by_cases h0 : i = 0
  · subst h0
    simp [lst]
  · have h1 := h (i - 1) (by omega)
    unfold lst
    rw [if_neg h0]
    refine ⟨by omega, fun h2 => ⟨by omega, fun _ => by omega⟩, fun h2 => ?_⟩
    have := h2.2 (by omega)
    omega
set_option maxRecDepth 100000 in
set_option maxHeartbeats 4000000 in
theorem members_any (l : List Int) (a : Option Addr) (cap : Nat) (w : World) (hA : IA w a l) (B : Bool) (hB0 : Hid (okM l = B)) :
    Calls Tryd.prog 9 #[.slice a l.length cap] w fun e w' => e = .returned (.bool B) ∧ w' = w := by
  go_enter Tryd.func9, Tryd.ntmps9
  go_wp2_with fail
  go_loopw [3, 8] (fun v3 v8 wl => ∃ i : Nat, i ≤ l.length ∧ v8 = .int .i64 i ∧ v3 = .int .i64 (lst l i) ∧ Hid (∀ j, j < i → 0 ≤ l.getD j 0 ∧ l.getD j 0 ≤ 15 ∧ (0 < j → l.getD (j - 1) 0 < l.getD j 0)) ∧ wl = w) (fun _ v8 _ => l.length - (intOf v8).toNat)
  case atStart => exact ⟨0, by omega, rfl, rfl, (fun j hj => absurd hj (Nat.not_lt_zero _)), rfl⟩
  case round =>
    obtain ⟨i, hil, rfl, rfl, hI, hw⟩ := hrel
    have hw2 := hw.symm
    subst hw2
    clear hw
    have hi16 : i ≤ 16 := rise_le hI.out
    obtain ⟨hs0, hs1⟩ := lst_step hI.out
    by_cases hlt : i < l.length
    · obtain ⟨g, o, rfl⟩ := hA.ex (by omega)
      have c0 := hA.cell hlt
      have hz1 : (0 : Int) ≤ (i : Int) := by omega
      have hz2 : (i : Int) < (l.length : Int) := by omega
      have hz3 : i < l.length := hlt
      have hL : Hid (lst l (i + 1) = l.getD i 0 + 1) := lst_succ l i
      by_cases h1 : l.getD i 0 < lst l i
      · have hBf : B = false := by
          rw [← hB0.out, Bool.eq_false_iff]
          intro h
          have := (okM_at.1 h).2 i hlt
          have := hs1.2 ⟨this.1, this.2.2⟩
          omega
        subst hBf
        clear hI hs1 hL
        generalize l.getD i 0 = x at *
        generalize lst l i = m at *
        have hd1 : decide (x < m) = true := decide_eq_true h1
        go_wp2_with fail
        go_ret
        exact ⟨rfl, rfl⟩
      · by_cases h2 : 16 ≤ l.getD i 0
        · have hBf : B = false := by
            rw [← hB0.out, Bool.eq_false_iff]
            intro h
            have := (okM_at.1 h).2 i hlt
            omega
          subst hBf
          clear hI hs1 hL
          generalize l.getD i 0 = x at *
          generalize lst l i = m at *
          have hd1 : decide (x < m) = false := decide_eq_false h1
          have hd2 : decide (16 ≤ x) = true := decide_eq_true h2
          go_wp2_with fail
          go_ret
          exact ⟨rfl, rfl⟩
        · have hI2 : Hid (∀ j, j < i + 1 → 0 ≤ l.getD j 0 ∧ l.getD j 0 ≤ 15 ∧ (0 < j → l.getD (j - 1) 0 < l.getD j 0)) := fun j hj => by
            by_cases hji : j < i
            · exact hI.out j hji
            · obtain rfl : j = i := by omega
              have := hs1.1 (by omega)
              exact ⟨this.1, by omega, this.2⟩
          clear hI hs1
          generalize l.getD i 0 = x at *
          generalize lst l i = m at *
          have hd1 : decide (x < m) = false := decide_eq_false h1
          have hd2 : decide (16 ≤ x) = false := decide_eq_false h2
          have hw1 : IntKind.i64.wrap (x + 1) = x + 1 := by rw [IntKind.wrap_i64]; omega
          go_wp2_with fail
          go_roundw
          case rel => exact ⟨i + 1, by omega, by go_num, by rw [hL.out], hI2, trivial⟩
          case measure => simp [intOf]; omega
    · have hz2 : ¬ (i : Int) < (l.length : Int) := by omega
      have hBl : B = decide (0 < l.length) := by
        rw [← hB0.out, Bool.eq_iff_iff, decide_eq_true_eq, okM_at]
        exact ⟨fun h => h.1, fun h => ⟨h, fun j hj => hI.out j (by omega)⟩⟩
      clear hI hB0 hs1 hs0
      subst hBl
      generalize lst l i = m at *
      go_wp2_with fail
      go_ret
      exact ⟨rfl, rfl⟩
end Go.Proofs.YtdolgkegeomafaaDoor
