/- What slices.Index and slices.Contains do to numbers. A map from numbers to yes or no. What the landed Next does. What the landed Most does. -/
import Derived.Test.YtahpkahbifnndaaCcl
import Derived.Deep.CutRange
import Derived.Maps.OwnOps
import Derived.Maps.Views
namespace Go.Proofs.Ytahpkahbifnndaa
open Go Go.RowKit
/-- Where k stands in l; -1: nowhere. -/
def ixI (l : List Int) (k : Int) : Int := match l.findIdx? (· == k) with
  | some i => (i : Int)
  | none => -1
theorem ixI_at {l : List Int} {k : Int} {i : Nat} (hi : i < l.length) (h : l.getD i 0 = k) (hn : ∀ j, j < i → l.getD j 0 ≠ k) : ixI l k = (i : Int) := by
  unfold ixI
  have : l.findIdx? (· == k) = some i := by
    rw [List.findIdx?_eq_some_iff_getElem]
    refine ⟨hi, ?_, fun j hj => ?_⟩
    · rw [List.getD_eq_getElem?_getD, List.getElem?_eq_getElem hi] at h
      simpa using h
    · have := hn j hj
      rw [List.getD_eq_getElem?_getD, List.getElem?_eq_getElem (by omega)] at this
      simpa using this
  rw [this]
theorem ixI_no {l : List Int} {k : Int} (hn : ∀ j, j < l.length → l.getD j 0 ≠ k) : ixI l k = -1 := by
  unfold ixI
  have : l.findIdx? (· == k) = none := by
    rw [List.findIdx?_eq_none_iff]
    intro x hx
    obtain ⟨j, hj, rfl⟩ := List.mem_iff_getElem.1 hx
    have := hn j hj
    rw [List.getD_eq_getElem?_getD, List.getElem?_eq_getElem hj] at this
    simpa using this
  rw [this]
theorem ixI_mem (l : List Int) (k : Int) : decide (ixI l k ≥ 0) = decide (k ∈ l) := by
  unfold ixI
  cases h : l.findIdx? (· == k) with
  | some i =>
    obtain ⟨hi, h1, _⟩ := List.findIdx?_eq_some_iff_getElem.1 h
    have : k ∈ l := by
      have h2 : l[i] = k := by simpa using h1
      rw [← h2]
      exact List.getElem_mem hi
    rw [decide_eq_true this]
    exact decide_eq_true (Int.natCast_nonneg i)
  | none =>
    rw [List.findIdx?_eq_none_iff] at h
    have : k ∉ l := fun hm => by
      have := h k hm
      simp at this
    rw [decide_eq_false this]
    decide
set_option maxRecDepth 100000 in
set_option maxHeartbeats 800000 in
theorem index_any (l : List Int) (a : Option Addr) (cap : Nat) (k : Int) (w : World) (hA : IA w a l) (hln : l.length ≤ 17592186044416) :
    Calls Try.prog 83 #[.slice a l.length cap, .int .i64 k] w fun e w' => e = .returned (.int .i64 (ixI l k)) ∧ Below w.heap.size w w' := by
  obtain ⟨R, hR0⟩ : ∃ R, ixI l k = R := ⟨_, rfl⟩
  rw [hR0]
  have hR : Hid (ixI l k = R) := hR0
  clear hR0
  go_enter Try.func83, Try.ntmps83
  go_wp2_with fail
  go_loopw [8] (fun v8 wl => ∃ i : Nat, i ≤ l.length ∧ v8 = .int .i64 i ∧ Hid (∀ j, j < i → l.getD j 0 ≠ k) ∧ Below w.heap.size w wl) (fun v8 _ => l.length - (intOf v8).toNat)
  case atStart => exact ⟨0, by omega, rfl, fun j hj => absurd hj (Nat.not_lt_zero j), Below.refl _ _⟩
  case round =>
    obtain ⟨i, hil, rfl, hE, hW⟩ := hrel
    by_cases hlt : i < l.length
    · obtain ⟨g, o, rfl⟩ := hA.ex (by omega)
      have c0 := (hA.below hW).cell hlt
      have hw1 : IntKind.i64.wrap ((i : Int) + 1) = ((i + 1 : Nat) : Int) := by rw [IntKind.wrap_i64]; omega
      have hz1 : (0 : Int) ≤ (i : Int) := by omega
      have hz2 : (i : Int) < (l.length : Int) := by omega
      have hd : decide ((i : Int) < (l.length : Int)) = true := decide_eq_true hz2
      by_cases he : l.getD i 0 = k
      · have hix := ixI_at hlt he hE.out
        rw [he] at c0
        obtain rfl : R = (i : Int) := by rw [← hR.out, hix]
        have hx : (k == k) = true := beq_self_eq_true k
        clear hE he hix
        go_wp2_with fail
        go_ret
        exact ⟨rfl, hW⟩
      · have hE2 : Hid (∀ j, j < i + 1 → l.getD j 0 ≠ k) := fun j hj => by
          by_cases hji : j < i
          · exact hE.out j hji
          · obtain rfl : j = i := by omega
            exact he
        have hx : (k == l.getD i 0) = false := by rw [beq_eq_false_iff_ne]; exact fun e => he e.symm
        clear hE he
        generalize l.getD i 0 = x at *
        go_wp2_with fail
        go_roundw
        case rel => exact ⟨i + 1, by omega, by go_num, hE2, hW⟩
        case measure => simp [intOf]; omega
    · have hd : decide ((i : Int) < (l.length : Int)) = false := decide_eq_false (by omega)
      have hz2 : ¬ (i : Int) < (l.length : Int) := by omega
      have hix : ixI l k = -1 := ixI_no fun j hj => hE.out j (by omega)
      obtain rfl : R = -1 := by rw [← hR.out, hix]
      clear hE hix
      go_wp2_with fail
      go_ret
      exact ⟨rfl, hW⟩
set_option maxRecDepth 100000 in
set_option maxHeartbeats 800000 in
theorem contains_any (l : List Int) (a : Option Addr) (cap : Nat) (k : Int) (w : World) (hA : IA w a l) (hln : l.length ≤ 17592186044416) :
    Calls Try.prog 69 #[.slice a l.length cap, .int .i64 k] w fun e w' => e = .returned (.bool (decide (k ∈ l))) ∧ Below w.heap.size w w' := by
  have H := fun w (h : IA w a l) => index_any l a cap k w h hln
  rw [← ixI_mem]
  generalize ixI l k = x at *
  go_enter Try.func69, Try.ntmps69
  go_wp2_with (go_at_call 83; refine (H _ hA).mono ?_; rintro e w1 ⟨rfl, h1⟩)
  go_ret
  exact ⟨rfl, h1⟩
end Go.Proofs.Ytahpkahbifnndaa
namespace Go.Proofs.Ytahpkahbifnndaa
open Go Go.RowKit Go.Maps
theorem KI : Keyed Try.prog 3 := int_keyed Try.underlying3
theorem zeroBo (w : World) : (zeroValue 4).run Try.prog w = .ok (.bool false) w := by kernel_rfl
/-- Block b is a map of at most n entries that says f of every number. -/
def OB (w : World) (b n : Nat) (f : Int → Bool) : Prop := ∃ D : DataW Unit, w.ownsMap Try.prog 3 (plainElem Try.prog 4) b n D ∧ IsMap D ∧ ∀ x : Int, D.atKey (.int .i64 x) (.lit (.bool false)) = .lit (.bool (f x))
section
variable {ops : Array Oper} {rest : List Oper} {op : Oper} {a : Act} {w : World} {Q : Exit → Act → World → Prop}
set_option maxRecDepth 100000 in
theorem run_getB {b n : Nat} {f : Int → Bool} (hown : OB w b n f) (k : Int) (hk : (Lit.int .i64 k).wf = true) : (Instr.lookup 63 (.map (some b)) (.int .i64 k) false).run Try.prog w = .ok (.bool (f k)) w := by
  obtain ⟨D, h1, h2, h3⟩ := hown
  obtain ⟨v, ps, hrun, hv⟩ := h1.lookup KI Try.underlying63 (zeroBo w) (plainElem_bool Try.underlying4 false) (keyOf_int_mk Try.underlying3 hk)
  rw [h3 k] at hv
  have : v = .bool (f k) := by
    unfold plainElem at hv
    rw [Try.underlying4] at hv
    cases v <;> simp at hv
    rw [hv.1]
  rw [hrun, this]
end
/-- What Most is asked to do. -/
def MostC : Prop := ∀ (l : List Int) (a : Option Addr) (cap b n : Nat) (f : Int → Bool) (w : World), IA w a l → l.length ≤ 17592186044416 → (∀ x ∈ l, (Lit.int .i64 x).wf = true) → OB w b n f → Calls Try.prog 70 #[.slice a l.length cap, .map (some b)] w fun e w' => e = .returned (.bool (decide (l.length < 2 * (l.filter f).length))) ∧ Below w.heap.size w w'
end Go.Proofs.Ytahpkahbifnndaa
namespace Go.Proofs.Ytahpkahbifnndaa
open Go Go.RowKit
theorem take_getD {l : List Int} {i : Nat} (h : i < l.length) : l.take (i + 1) = l.take i ++ [l.getD i 0] := by
  rw [List.take_add_one, List.getElem?_eq_getElem h, List.getD_eq_getElem?_getD, List.getElem?_eq_getElem h]
  rfl
end Go.Proofs.Ytahpkahbifnndaa
namespace Go.Proofs.Ytahpkahbifnndaa
open Go Go.RowKit Go.Maps
/-- How many of the first i numbers the map says yes of. -/
def yesN (l : List Int) (f : Int → Bool) (i : Nat) : Nat := ((l.take i).filter f).length
theorem yesN_step {l : List Int} {f : Int → Bool} {i : Nat} (h : i < l.length) (q : Bool) (hq : f (l.getD i 0) = q) : yesN l f (i + 1) = yesN l f i + q.toNat := by
  unfold yesN
  rw [take_getD h]
  generalize l.getD i 0 = x at *
  rw [List.filter_append]
  cases q <;> simp [hq]
theorem yesN_le (l : List Int) (f : Int → Bool) (i : Nat) : yesN l f i ≤ l.length := by
  unfold yesN
  refine Nat.le_trans (List.length_filter_le ..) ?_
  rw [List.length_take]
  omega
set_option maxRecDepth 100000 in
theorem hmost_any (n : Nat) (hn : n ≤ 17592186044416) (w : World) : Calls Try.prog 82 #[.int .i64 (n : Nat)] w fun e w' => e = .returned (.int .i64 ((n / 2 + 1 : Nat) : Int)) ∧ w' = w := by
  have hw1 : IntKind.i64.wrap ((n : Int).tdiv 2 + 1) = ((n / 2 + 1 : Nat) : Int) := by
    rw [IntKind.wrap_i64, Int.tdiv_eq_ediv_of_nonneg (Int.natCast_nonneg n)]; omega
  have hw2 : IntKind.i64.wrap ((n : Int) / 2 + 1) = ((n / 2 + 1 : Nat) : Int) := by
    rw [IntKind.wrap_i64]; omega
  go_enter Try.func82, Try.ntmps82
  go_wp2_with fail
  go_ret
  exact ⟨by go_num, rfl⟩
set_option maxRecDepth 100000 in
set_option maxHeartbeats 800000 in
theorem most_any : MostC := fun l a cap b n f w hA hl hx hO => by
  have HM := fun w => hmost_any l.length (by omega) w
  obtain ⟨R, hR0⟩ : ∃ R, decide (l.length < 2 * (l.filter f).length) = R := ⟨_, rfl⟩
  rw [hR0]
  have hR : Hid (decide (l.length < 2 * (l.filter f).length) = R) := hR0
  clear hR0
  go_enter Try.func70, Try.ntmps70
  go_wp2_with fail
  go_loopw [5, 10] (fun v5 v10 wl => ∃ i : Nat, i ≤ l.length ∧ v10 = .int .i64 i ∧ v5 = .int .i64 (yesN l f i : Nat) ∧ wl = w) (fun _ v10 _ => l.length - (intOf v10).toNat)
  case atStart => exact ⟨0, by omega, rfl, rfl, rfl⟩
  case round =>
    obtain ⟨i, hil, rfl, rfl, hw⟩ := hrel
    have hw2 := hw.symm
    subst hw2
    clear hw
    by_cases hlt : i < l.length
    · obtain ⟨g, o, rfl⟩ := hA.ex (by omega)
      have c0 := hA.cell hlt
      have hw1 : IntKind.i64.wrap ((i : Int) + 1) = ((i + 1 : Nat) : Int) := by rw [IntKind.wrap_i64]; omega
      have hz1 : (0 : Int) ≤ (i : Int) := by omega
      have hz2 : (i : Int) < (l.length : Int) := by omega
      have hd : decide ((i : Int) < (l.length : Int)) = true := decide_eq_true hz2
      have hle := yesN_le l f i
      have hw2 : IntKind.i64.wrap ((yesN l f i : Int) + 1) = ((yesN l f i + 1 : Nat) : Int) := by rw [IntKind.wrap_i64]; omega
      have hxi := hx (l.getD i 0) (by rw [List.getD_eq_getElem?_getD, List.getElem?_eq_getElem hlt]; exact List.getElem_mem hlt)
      have hg := run_getB hO (l.getD i 0) hxi
      cases hq : f (l.getD i 0) with
      | true =>
        have hs := yesN_step hlt true hq
        rw [hq] at hg
        clear hq hx hxi
        generalize l.getD i 0 = x at *
        go_wp2_with fail
        go_roundw
        case rel => exact ⟨i + 1, by omega, by go_num, by rw [hs]; go_num, by trivial⟩
        case measure => simp [intOf]; omega
      | false =>
        have hs := yesN_step hlt false hq
        rw [hq] at hg
        clear hq hx hxi
        generalize l.getD i 0 = x at *
        go_wp2_with fail
        go_roundw
        case rel => exact ⟨i + 1, by omega, by go_num, by rw [hs]; rfl, by trivial⟩
        case measure => simp [intOf]; omega
    · have hd : decide ((i : Int) < (l.length : Int)) = false := decide_eq_false (by omega)
      have hz2 : ¬ (i : Int) < (l.length : Int) := by omega
      obtain rfl : i = l.length := by omega
      have he : yesN l f l.length = (l.filter f).length := by unfold yesN; rw [List.take_length]
      have hR1 := hR.out
      rw [← he] at hR1
      have hB := Below.refl w.heap.size w
      have hq : decide (((l.length / 2 + 1 : Nat) : Int) ≤ (yesN l f l.length : Int)) = R := by
        rw [← hR1]
        by_cases h : l.length < 2 * yesN l f l.length
        · rw [decide_eq_true h, decide_eq_true (by omega)]
        · rw [decide_eq_false h, decide_eq_false (by omega)]
      clear hR hR1 he
      generalize yesN l f l.length = c at *
      subst hq
      go_wp2_with (go_at_call 82; refine (HM _).mono ?_; rintro e w1 ⟨rfl, h1⟩; replace h1 := h1.symm; subst h1; clear HM)
      go_ret
      exact ⟨rfl, hB⟩
end Go.Proofs.Ytahpkahbifnndaa
