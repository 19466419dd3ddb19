/- What the landed Most does. -/
import Derived.Test.YtcaoibdimeajfaaCmb
import Derived.Test.YtcaoibdimeajfaaCnp
namespace Go.Proofs.Ytcaoibdimeajfaa
open Go Go.RowKit Go.Maps
/-- How many of the first i numbers the map says yes of. -/
def yesN (l : List Int) (f : Int → Bool) (i : Nat) : Nat := ((l.take i).filter f).length
theorem yesN_zero (l : List Int) (f : Int → Bool) : yesN l f 0 = 0 := rfl
theorem yesN_step {l : List Int} {f : Int → Bool} {i : Nat} (h : i < l.length) (q : Bool) (hq : f (l.getD i 0) = q) : yesN l f (i + 1) = yesN l f i + q.toNat := by
  unfold yesN
  rw [take_getD h]
  generalize l.getD i 0 = x at *
  rw [List.filter_append]
  cases q <;> simp [hq]
theorem yesN_le (l : List Int) (f : Int → Bool) (i : Nat) : yesN l f i ≤ l.length := by
  unfold yesN
  refine Nat.le_trans (List.length_filter_le ..) ?_
  rw [List.length_take]
  omega
set_option maxRecDepth 100000 in
theorem hmost_any (n : Nat) (hn : n ≤ 1000000) (w : World) : Calls Try.prog 27 #[.int .i64 (n : Nat)] w fun e w' => e = .returned (.int .i64 ((n / 2 + 1 : Nat) : Int)) ∧ w' = w := by
  have hw1 : IntKind.i64.wrap ((n : Int).tdiv 2 + 1) = ((n / 2 + 1 : Nat) : Int) := by
    rw [IntKind.wrap_i64, Int.tdiv_eq_ediv_of_nonneg (Int.natCast_nonneg n)]; omega
  have hw2 : IntKind.i64.wrap ((n : Int) / 2 + 1) = ((n / 2 + 1 : Nat) : Int) := by
    rw [IntKind.wrap_i64]; omega
  go_enter Try.func27, Try.ntmps27
  go_wp2_with fail
  go_ret
  exact ⟨by go_num, rfl⟩
set_option maxRecDepth 100000 in
set_option maxHeartbeats 800000 in
theorem most_any : MostC := fun l a cap b n f w hA hl hx hO => by
  have HM := fun w => hmost_any l.length (by omega) w
  obtain ⟨R, hR0⟩ : ∃ R, decide (l.length < 2 * (l.filter f).length) = R := ⟨_, rfl⟩
  rw [hR0]
  have hR : Hid (decide (l.length < 2 * (l.filter f).length) = R) := hR0
  clear hR0
  go_enter Try.func16, Try.ntmps16
  go_wp2_with fail
  go_loopw [5, 10] (fun v5 v10 wl => ∃ i : Nat, i ≤ l.length ∧ v10 = .int .i64 i ∧ v5 = .int .i64 (yesN l f i : Nat) ∧ wl = w) (fun _ v10 _ => l.length - (intOf v10).toNat)
  case atStart => exact ⟨0, by omega, rfl, rfl, rfl⟩
  case round =>
    obtain ⟨i, hil, rfl, rfl, hw⟩ := hrel
    have hw2 := hw.symm
    subst hw2
    clear hw
    by_cases hlt : i < l.length
    · obtain ⟨g, o, rfl⟩ := hA.ex (by omega)
      have c0 := hA.cell hlt
      have hw1 : IntKind.i64.wrap ((i : Int) + 1) = ((i + 1 : Nat) : Int) := by rw [IntKind.wrap_i64]; omega
      have hz1 : (0 : Int) ≤ (i : Int) := by omega
      have hz2 : (i : Int) < (l.length : Int) := by omega
      have hd : decide ((i : Int) < (l.length : Int)) = true := decide_eq_true hz2
      have hle := yesN_le l f i
      have hw2 : IntKind.i64.wrap ((yesN l f i : Int) + 1) = ((yesN l f i + 1 : Nat) : Int) := by rw [IntKind.wrap_i64]; omega
      have hxi := hx (l.getD i 0) (by rw [List.getD_eq_getElem?_getD, List.getElem?_eq_getElem hlt]; exact List.getElem_mem hlt)
      have hg := run_getB hO (l.getD i 0) (WalkArith.wf_i64 (by omega))
      cases hq : f (l.getD i 0) with
      | true =>
        have hs := yesN_step hlt true hq
        rw [hq] at hg
        clear hq hx hxi
        generalize l.getD i 0 = x at *
        go_wp2_with fail
        go_roundw
        case rel => exact ⟨i + 1, by omega, by go_num, by rw [hs]; go_num, by trivial⟩
        case measure => simp [intOf]; omega
      | false =>
        have hs := yesN_step hlt false hq
        rw [hq] at hg
        clear hq hx hxi
        generalize l.getD i 0 = x at *
        go_wp2_with fail
        go_roundw
        case rel => exact ⟨i + 1, by omega, by go_num, by rw [hs]; rfl, by trivial⟩
        case measure => simp [intOf]; omega
    · have hd : decide ((i : Int) < (l.length : Int)) = false := decide_eq_false (by omega)
      have hz2 : ¬ (i : Int) < (l.length : Int) := by omega
      obtain rfl : i = l.length := by omega
      have he : yesN l f l.length = (l.filter f).length := by unfold yesN; rw [List.take_length]
      have hR1 := hR.out
      rw [← he] at hR1
      have hB := Below.refl w.heap.size w
      have hq : decide (((l.length / 2 + 1 : Nat) : Int) ≤ (yesN l f l.length : Int)) = R := by
        rw [← hR1]
        by_cases h : l.length < 2 * yesN l f l.length
        · rw [decide_eq_true h, decide_eq_true (by omega)]
        · rw [decide_eq_false h, decide_eq_false (by omega)]
      clear hR hR1 he
      generalize yesN l f l.length = c at *
      subst hq
      go_wp2_with (go_at_call 27; refine (HM _).mono ?_; rintro e w1 ⟨rfl, h1⟩; replace h1 := h1.symm; subst h1; clear HM)
      go_ret
      exact ⟨rfl, hB⟩
end Go.Proofs.Ytcaoibdimeajfaa
