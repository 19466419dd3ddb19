/- What slices.Index and slices.Contains do to numbers. -/
import Derived.Test.YtcaoibdimeajfaaCnx
namespace Go.Proofs.Ytcaoibdimeajfaa
open Go Go.RowKit
/-- Where k stands in l; -1: nowhere. -/
def ixI (l : List Int) (k : Int) : Int := match l.findIdx? (· == k) with
  | some i => (i : Int)
  | none => -1
theorem ixI_at {l : List Int} {k : Int} {i : Nat} (hi : i < l.length) (h : l.getD i 0 = k) (hn : ∀ j, j < i → l.getD j 0 ≠ k) : ixI l k = (i : Int) := by
  unfold ixI
  have : l.findIdx? (· == k) = some i := by
    rw [List.findIdx?_eq_some_iff_getElem]
    refine ⟨hi, ?_, fun j hj => ?_⟩
    · rw [List.getD_eq_getElem?_getD, List.getElem?_eq_getElem hi] at h
      simpa using h
    · have := hn j hj
      rw [List.getD_eq_getElem?_getD, List.getElem?_eq_getElem (by omega)] at this
      simpa using this
  rw [this]
theorem ixI_no {l : List Int} {k : Int} (hn : ∀ j, j < l.length → l.getD j 0 ≠ k) : ixI l k = -1 := by
  unfold ixI
  have : l.findIdx? (· == k) = none := by
    rw [List.findIdx?_eq_none_iff]
    intro x hx
    obtain ⟨j, hj, rfl⟩ := List.mem_iff_getElem.1 hx
    have := hn j hj
    rw [List.getD_eq_getElem?_getD, List.getElem?_eq_getElem hj] at this
    simpa using this
  rw [this]
theorem ixI_mem (l : List Int) (k : Int) : decide (ixI l k ≥ 0) = decide (k ∈ l) := by
  unfold ixI
  cases h : l.findIdx? (· == k) with
  | some i =>
    obtain ⟨hi, h1, _⟩ := List.findIdx?_eq_some_iff_getElem.1 h
    have : k ∈ l := by
      have h2 : l[i] = k := by simpa using h1
      rw [← h2]
      exact List.getElem_mem hi
    rw [decide_eq_true this]
    exact decide_eq_true (Int.natCast_nonneg i)
  | none =>
    rw [List.findIdx?_eq_none_iff] at h
    have : k ∉ l := fun hm => by
      have := h k hm
      simp at this
    rw [decide_eq_false this]
    decide
set_option maxRecDepth 100000 in
set_option maxHeartbeats 800000 in
theorem index_any (l : List Int) (a : Option Addr) (cap : Nat) (k : Int) (w : World) (hA : IA w a l) (hln : l.length ≤ 17592186044416) :
    Calls Try.prog 28 #[.slice a l.length cap, .int .i64 k] w fun e w' => e = .returned (.int .i64 (ixI l k)) ∧ Below w.heap.size w w' := by
  obtain ⟨R, hR0⟩ : ∃ R, ixI l k = R := ⟨_, rfl⟩
  rw [hR0]
  have hR : Hid (ixI l k = R) := hR0
  clear hR0
  go_enter Try.func28, Try.ntmps28
  go_wp2_with fail
  go_loopw [8] (fun v8 wl => ∃ i : Nat, i ≤ l.length ∧ v8 = .int .i64 i ∧ Hid (∀ j, j < i → l.getD j 0 ≠ k) ∧ Below w.heap.size w wl) (fun v8 _ => l.length - (intOf v8).toNat)
  case atStart => exact ⟨0, by omega, rfl, fun j hj => absurd hj (Nat.not_lt_zero j), Below.refl _ _⟩
  case round =>
    obtain ⟨i, hil, rfl, hE, hW⟩ := hrel
    by_cases hlt : i < l.length
    · obtain ⟨g, o, rfl⟩ := hA.ex (by omega)
      have c0 := (hA.below hW).cell hlt
      have hw1 : IntKind.i64.wrap ((i : Int) + 1) = ((i + 1 : Nat) : Int) := by rw [IntKind.wrap_i64]; omega
      have hz1 : (0 : Int) ≤ (i : Int) := by omega
      have hz2 : (i : Int) < (l.length : Int) := by omega
      have hd : decide ((i : Int) < (l.length : Int)) = true := decide_eq_true hz2
      by_cases he : l.getD i 0 = k
      · have hix := ixI_at hlt he hE.out
        rw [he] at c0
        obtain rfl : R = (i : Int) := by rw [← hR.out, hix]
        have hx : (k == k) = true := beq_self_eq_true k
        clear hE he hix
        go_wp2_with fail
        go_ret
        exact ⟨rfl, hW⟩
      · have hE2 : Hid (∀ j, j < i + 1 → l.getD j 0 ≠ k) := fun j hj => by
          by_cases hji : j < i
          · exact hE.out j hji
          · obtain rfl : j = i := by omega
            exact he
        have hx : (k == l.getD i 0) = false := by rw [beq_eq_false_iff_ne]; exact fun e => he e.symm
        clear hE he
        generalize l.getD i 0 = x at *
        go_wp2_with fail
        go_roundw
        case rel => exact ⟨i + 1, by omega, by go_num, hE2, hW⟩
        case measure => simp [intOf]; omega
    · have hd : decide ((i : Int) < (l.length : Int)) = false := decide_eq_false (by omega)
      have hz2 : ¬ (i : Int) < (l.length : Int) := by omega
      have hix : ixI l k = -1 := ixI_no fun j hj => hE.out j (by omega)
      obtain rfl : R = -1 := by rw [← hR.out, hix]
      clear hE hix
      go_wp2_with fail
      go_ret
      exact ⟨rfl, hW⟩
set_option maxRecDepth 100000 in
set_option maxHeartbeats 800000 in
theorem contains_any (l : List Int) (a : Option Addr) (cap : Nat) (k : Int) (w : World) (hA : IA w a l) (hln : l.length ≤ 17592186044416) :
    Calls Try.prog 18 #[.slice a l.length cap, .int .i64 k] w fun e w' => e = .returned (.bool (decide (k ∈ l))) ∧ Below w.heap.size w w' := by
  have H := fun w (h : IA w a l) => index_any l a cap k w h hln
  rw [← ixI_mem]
  generalize ixI l k = x at *
  go_enter Try.func18, Try.ntmps18
  go_wp2_with (go_at_call 28; refine (H _ hA).mono ?_; rintro e w1 ⟨rfl, h1⟩)
  go_ret
  exact ⟨rfl, h1⟩
end Go.Proofs.Ytcaoibdimeajfaa
