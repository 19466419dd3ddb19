/- What the landed Latest does. -/
import Derived.Test.YtcaoibdimeajfaaClt
import Derived.Test.YtcaoibdimeajfaaCcl
import Derived.Test.YtcaoibdimeajfaaCnp
namespace Go.Proofs.Ytcaoibdimeajfaa
open Go Go.RowKit
theorem ltM_len {base : List Int} {l : List LE} (hb : base.length ≤ 17592186044416) (hm : ∀ i (h : i < l.length), (l[i]).mem.length ≤ 17592186044416) : ∀ i, (ltM base l i).1.length ≤ 17592186044416
  | 0 => hb
  | i + 1 => by
    by_cases h : i < l.length
    · cases hc : l[i].conf with
      | true => rw [ltM_yes h hc]; exact hm i h
      | false => rw [ltM_no h hc]; exact ltM_len hb hm i
    · show (if h : i < l.length then bif l[i].conf then (l[i].mem, i + 1) else ltM base l i else ltM base l i).1.length ≤ _
      rw [dif_neg h]
      exact ltM_len hb hm i
set_option maxRecDepth 100000 in
set_option maxHeartbeats 800000 in
theorem latest_any : LatestC := fun base l a b ca cb w hA hb hE hl => by
  have HC := fun (m : List Int) x c w (h : IA w x m) (hm : m.length ≤ 17592186044416) => scloneI_all x m c w h hm
  obtain ⟨R, hR0⟩ : ∃ R, ltM base l l.length = R := ⟨_, rfl⟩
  rw [hR0]
  have hR : Hid (ltM base l l.length = R) := hR0
  clear hR0
  have hBel := Below.refl w.heap.size w
  go_enter Try.func17, Try.ntmps17
  go_wp2_with fail
  go_loopw [6] (fun v6 wl => ∃ i : Nat, i ≤ l.length ∧ v6 = .int .i64 i ∧ Hid (ltM base l i = R) ∧ wl = w) (fun v6 _ => (intOf v6).toNat)
  case atStart => exact ⟨l.length, by omega, rfl, hR, rfl⟩
  case round =>
    obtain ⟨i, hil, rfl, hI, hw⟩ := hrel
    have hw2 := hw.symm
    subst hw2
    clear hw
    by_cases h0 : 0 < i
    · obtain ⟨j, rfl⟩ : ∃ j, i = j + 1 := ⟨i - 1, by omega⟩
      have hj : j < l.length := by omega
      obtain ⟨g, o, rfl⟩ := hE.ex (by omega)
      obtain ⟨ma, cm, c2, c3, hIm, hml⟩ := hE.at j hj
      have hz0 : (0 : Int) < ((j + 1 : Nat) : Int) := by omega
      have hz1 : (0 : Int) ≤ (j : Int) := by omega
      have hz2 : (j : Int) < (l.length : Int) := by omega
      have hw1 : IntKind.i64.wrap (((j + 1 : Nat) : Int) - 1) = (j : Int) := by rw [IntKind.wrap_i64]; omega
      have hw2 : IntKind.i64.wrap (j : Int) = (j : Int) := by rw [IntKind.wrap_i64]; omega
      have hd : decide ((0 : Int) < (j : Int) + 1) = true := decide_eq_true (by omega)
      cases hc : l[j].conf with
      | true =>
        have hy := ltM_yes (base := base) hj hc
        rw [hI.out] at hy
        rw [hc] at c2
        generalize l[j].mem = mm at *
        subst hy
        have H1 := HC _ ma cm _ hIm hml
        clear hc hI hR HC hE
        go_wp2_with (go_at_call 19; refine H1.mono ?_; rintro e w1 ⟨x, c, rfl, h1, h2⟩; clear H1)
        go_ret2
        exact ⟨x, ⟨c, rfl⟩, h1, h2⟩
      | false =>
        have hy := ltM_no (base := base) hj hc
        have hI2 : Hid (ltM base l j = R) := by show _ = _; rw [← hy]; exact hI.out
        rw [hc] at c2
        clear hc hI hy hR
        go_wp2_with fail
        go_roundw
        case rel => exact ⟨j, by omega, by go_num, hI2, by trivial⟩
        case measure => simp [intOf]
    · obtain rfl : i = 0 := by omega
      have hy : R = (base, 0) := by rw [← hI.out]; rfl
      subst hy
      have H1 := HC _ a ca _ hA (Nat.le_trans hb (by decide))
      clear hI hR HC hE
      go_wp2_with (go_at_call 19; refine H1.mono ?_; rintro e w1 ⟨x, c, rfl, h1, h2⟩; clear H1)
      go_ret2
      exact ⟨x, ⟨c, rfl⟩, h1, h2⟩
end Go.Proofs.Ytcaoibdimeajfaa
