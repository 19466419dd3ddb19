/- What the landed Next does. -/
import Derived.Test.YtcaoibdimeajfaaCix
import Derived.Deep.CutRange
namespace Go.Proofs.Ytcaoibdimeajfaa
open Go Go.RowKit
/-- How many of the first i numbers of one list another one lacks. -/
def lkN (l m : List Int) (i : Nat) : Nat := ((l.take i).filter fun x => decide (x ∉ m)).length
theorem lkN_zero (l m : List Int) : lkN l m 0 = 0 := rfl
theorem lkN_all (l m : List Int) : lkN l m l.length = lack l m := by unfold lkN lack; rw [List.take_length]
theorem take_getD {l : List Int} {i : Nat} (h : i < l.length) : l.take (i + 1) = l.take i ++ [l.getD i 0] := by
  rw [List.take_add_one, List.getElem?_eq_getElem h, List.getD_eq_getElem?_getD, List.getElem?_eq_getElem h]
  rfl
theorem lkN_in {l m : List Int} {i : Nat} (h : i < l.length) (hx : decide (l.getD i 0 ∈ m) = true) : lkN l m (i + 1) = lkN l m i := by
  unfold lkN
  rw [take_getD h, List.filter_append]
  have : ¬ (l.getD i 0 ∉ m) := fun e => e (of_decide_eq_true hx)
  simp only [List.filter_cons, decide_eq_false this, List.filter_nil, Bool.false_eq_true, if_false, List.append_nil]
theorem lkN_out {l m : List Int} {i : Nat} (h : i < l.length) (hx : decide (l.getD i 0 ∈ m) = false) : lkN l m (i + 1) = lkN l m i + 1 := by
  unfold lkN
  rw [take_getD h, List.filter_append]
  have : l.getD i 0 ∉ m := of_decide_eq_false hx
  simp only [List.filter_cons, decide_eq_true this, List.filter_nil, if_true, List.length_append]
  rfl
theorem lkN_le (l m : List Int) (i : Nat) : lkN l m i ≤ l.length := by
  unfold lkN
  refine Nat.le_trans (List.length_filter_le ..) ?_
  rw [List.length_take]
  omega
set_option maxRecDepth 100000 in
set_option maxHeartbeats 800000 in
theorem lacks_any (l m : List Int) (a b : Option Addr) (ca cb : Nat) (w : World) (hA : IA w a l) (hB : IA w b m) (hl : l.length ≤ 20) (hm : m.length ≤ 20) :
    Calls Try.prog 26 #[.slice a l.length ca, .slice b m.length cb] w fun e w' => e = .returned (.int .i64 (lack l m : Nat)) ∧ Below w.heap.size w w' := by
  have HC := fun k w (h : IA w b m) => contains_any m b cb k w h (by omega)
  go_enter Try.func26, Try.ntmps26
  go_wp2_with fail
  go_loopw [5, 10] (fun v5 v10 wl => ∃ i : Nat, i ≤ l.length ∧ v10 = .int .i64 i ∧ v5 = .int .i64 (lkN l m i : Nat) ∧ Below w.heap.size w wl) (fun _ v10 _ => l.length - (intOf v10).toNat)
  case atStart => exact ⟨0, by omega, rfl, rfl, Below.refl _ _⟩
  case round =>
    obtain ⟨i, hil, rfl, rfl, hW⟩ := hrel
    by_cases hlt : i < l.length
    · obtain ⟨g, o, rfl⟩ := hA.ex (by omega)
      have c0 := (hA.below hW).cell hlt
      have hB1 := hB.below hW
      have hw1 : IntKind.i64.wrap ((i : Int) + 1) = ((i + 1 : Nat) : Int) := by rw [IntKind.wrap_i64]; omega
      have hz1 : (0 : Int) ≤ (i : Int) := by omega
      have hz2 : (i : Int) < (l.length : Int) := by omega
      have hd : decide ((i : Int) < (l.length : Int)) = true := decide_eq_true hz2
      have hle := lkN_le l m i
      have hw2 : IntKind.i64.wrap ((lkN l m i : Int) + 1) = ((lkN l m i + 1 : Nat) : Int) := by rw [IntKind.wrap_i64]; omega
      have H1 := HC (l.getD i 0) wr hB1
      cases hx : decide (l.getD i 0 ∈ m) with
      | true =>
        have hs := lkN_in hlt hx
        rw [hx] at H1
        clear hx
        generalize l.getD i 0 = x at *
        go_wp2_with (go_at_call 18; refine H1.mono ?_; rintro e w1 ⟨rfl, h1⟩)
        go_roundw
        case rel => exact ⟨i + 1, by omega, by go_num, by rw [hs], hW.trans (h1.mono hW.size)⟩
        case measure => simp [intOf]; omega
      | false =>
        have hs := lkN_out hlt hx
        rw [hx] at H1
        clear hx
        generalize l.getD i 0 = x at *
        go_wp2_with (go_at_call 18; refine H1.mono ?_; rintro e w1 ⟨rfl, h1⟩)
        go_roundw
        case rel => exact ⟨i + 1, by omega, by go_num, by rw [hs]; go_num, hW.trans (h1.mono hW.size)⟩
        case measure => simp [intOf]; omega
    · have hd : decide ((i : Int) < (l.length : Int)) = false := decide_eq_false (by omega)
      have hz2 : ¬ (i : Int) < (l.length : Int) := by omega
      obtain rfl : i = l.length := by omega
      go_wp2_with fail
      go_ret
      exact ⟨by rw [lkN_all]; rfl, hW⟩
set_option maxRecDepth 100000 in
set_option maxHeartbeats 800000 in
theorem next_any : NextC := fun l m a b ca cb w hA hB hl hm => by
  have HM1 := fun (B : Bool) (h : Hid (okM l = B)) => members_any l a ca w hA B h
  have HM2 := fun (B : Bool) (h : Hid (okM m = B)) w (h2 : IA w b m) => members_any m b cb w h2 B h
  have HL1 := fun w (h1 : IA w a l) (h2 : IA w b m) => lacks_any l m a b ca cb w h1 h2 hl hm
  have HL2 := fun w (h1 : IA w a l) (h2 : IA w b m) => lacks_any m l b a cb ca w h2 h1 hm hl
  obtain ⟨R, hR⟩ : ∃ R, nx l m = R := ⟨_, rfl⟩
  have hx1 : lack l m ≤ 20 := Nat.le_trans (List.length_filter_le ..) hl
  have hx2 : lack m l ≤ 20 := Nat.le_trans (List.length_filter_le ..) hm
  have hwp : IntKind.i64.wrap ((lack l m : Int) + (lack m l : Int)) = (lack l m : Int) + (lack m l : Int) := by rw [IntKind.wrap_i64]; omega
  have hd : ∀ q, decide (lack l m + lack m l = 1) = q → ((lack l m : Int) + (lack m l : Int) == 1) = q := fun q h => by
    rw [← h]
    by_cases e : lack l m + lack m l = 1
    · rw [decide_eq_true e]
      simp
      omega
    · rw [decide_eq_false e]
      simp
      omega
  rw [hR]
  unfold nx at hR
  have hBel := Below.refl w.heap.size w
  cases h1 : okM l with
  | false =>
    rw [h1] at hR
    subst hR
    replace HM1 := HM1 false h1
    clear h1 HL1 HL2 HM2 hd
    go_enter Try.func14, Try.ntmps14
    go_wp2_with (first
      | (go_at_call 25; refine HM1.mono ?_; rintro e w1 ⟨rfl, h1⟩; replace h1 := h1.symm; subst h1; clear HM1))
    go_ret
    exact ⟨rfl, hBel⟩
  | true =>
    rw [h1] at hR
    replace HM1 := HM1 true h1
    clear h1
    cases h2 : okM m with
    | false =>
      rw [h2] at hR
      subst hR
      replace HM2 := HM2 false h2
      clear h2 HL1 HL2 hd
      go_enter Try.func14, Try.ntmps14
      go_wp2_with (first
        | (go_at_call 25; refine HM1.mono ?_; rintro e w1 ⟨rfl, h1⟩; replace h1 := h1.symm; subst h1; clear HM1)
        | (go_at_call 25; refine (HM2 _ hB).mono ?_; rintro e w2 ⟨rfl, h2⟩; replace h2 := h2.symm; subst h2; clear HM2))
      go_ret
      exact ⟨rfl, hBel⟩
    | true =>
      rw [h2] at hR
      replace HM2 := HM2 true h2
      clear h2
      have hd := hd _ rfl
      generalize decide (lack l m + lack m l = 1) = q at *
      generalize lack l m = x at *
      generalize lack m l = y at *
      subst hR
      go_enter Try.func14, Try.ntmps14
      go_wp2_with (first
        | (go_at_call 25; refine HM1.mono ?_; rintro e w1 ⟨rfl, h1⟩; replace h1 := h1.symm; subst h1; clear HM1)
        | (go_at_call 25; refine (HM2 _ hB).mono ?_; rintro e w2 ⟨rfl, h2⟩; replace h2 := h2.symm; subst h2; clear HM2)
        | (go_at_call 26; refine (HL1 _ hA hB).mono ?_; rintro e w3 ⟨rfl, h3⟩; clear HL1; replace hBel := hBel.trans (h3.mono hBel.size); replace hA := hA.below h3; replace hB := hB.below h3)
        | (go_at_call 26; refine (HL2 _ hA hB).mono ?_; rintro e w4 ⟨rfl, h4⟩; clear HL2; replace hBel := hBel.trans (h4.mono hBel.size)))
      go_ret
      exact ⟨rfl, hBel⟩
end Go.Proofs.Ytcaoibdimeajfaa
