/- What list does: the list of who takes part by the bits of a number. -/
import Derived.Test.YtcaoibdimeajfaaCbt
namespace Go.Proofs.Ytcaoibdimeajfaa
open Go Go.RowKit
/-- The first i of the bits. -/
def lsT (a i : Nat) : List Int := ((List.range i).filter fun j => a.testBit j).map fun (j : Nat) => (j : Int)
def lsI (a : Nat) : List Int := (lsB a).map fun (j : Nat) => (j : Int)
theorem lsT_all (a : Nat) : lsT a 16 = lsI a := rfl
theorem lsT_zero (a : Nat) : lsT a 0 = [] := rfl
theorem lsT_yes {a i : Nat} (h : a.testBit i = true) : lsT a (i + 1) = lsT a i ++ [(i : Int)] := by
  unfold lsT; rw [List.range_succ, List.filter_append]; simp [h]
theorem lsT_no {a i : Nat} (h : a.testBit i = false) : lsT a (i + 1) = lsT a i := by
  unfold lsT; rw [List.range_succ, List.filter_append]; simp [h]
theorem lsT_len (a i : Nat) : (lsT a i).length ≤ i := by
  unfold lsT; rw [List.length_map]; exact Nat.le_trans (List.length_filter_le ..) (by simp)
set_option maxRecDepth 100000 in
set_option maxHeartbeats 800000 in
theorem list_any (a : Nat) (ha : a < 65536) (w : World) :
    Calls Try.prog 7 #[.int .i64 (a : Int)] w fun e w' => ∃ sl, e = .returned sl ∧ VL w' 3 w.heap.size sl ((lsI a).map fun x => .int .i64 x) ∧ Below w.heap.size w w' := by
  obtain ⟨ii, hi, hz, hs, hby⟩ := infoI
  go_enter Try.func7, Try.ntmps7
  go_wp2_with (with_reducible refine at_list ?_; first
    | (refine wpList_bsl0I (op := ⟨some 5, _, _, _, _, _⟩) rfl rfl ?_; intro w1 hw1 hs1 hv1; replace hs1 := hs1.symm))
  go_loopw [3, 4] (fun v3 v4 wl => ∃ i : Nat, i ≤ 16 ∧ v4 = .int .i64 i ∧ VL wl 3 w.heap.size v3 ((lsT a i).map fun x => .int .i64 x) ∧ Below w.heap.size w wl) (fun _ v4 _ => 16 - (intOf v4).toNat)
  case atStart => exact ⟨0, by omega, rfl, hv1, hw1⟩
  case round =>
    obtain ⟨i, hil, rfl, hV, hB⟩ := hrel
    clear hv1 hw1 hs1
    by_cases hlt : i < 16
    · have hd : decide ((i : Int) < 16) = true := decide_eq_true (by omega)
      have hbt := bit_eq a i ha
      have hll := lsT_len a i
      cases hb : a.testBit i with
      | true =>
        rw [hb] at hbt
        go_wp2_with (with_reducible refine at_list ?_; first
          | (refine wpList_bsl1I (op := ⟨some 18, _, _, _, _, _⟩) rfl _ rfl _ rfl ?_; intro w2 hw2 hs2 hb2)
          | (refine wpList_appendVL (op := ⟨some 19, _, _, _, _, _⟩) rfl _ _ _ _ rfl w.heap.size _ _ (by have := hB.size; have := hw2.size; omega) rfl (hV.below hw2) wr.heap.size 1 rfl _ _ rfl hb2 ii (.int .i64 0) rfl Try.underlying22 hi hz hs hby (by rw [List.length_map]; omega) ?_; intro w3 sl3 hw3 hV3))
        refine ⟨⟨i + 1, by omega, rfl, ?_, (hB.trans (hw2.mono hB.size)).trans hw3⟩, by simp only [intOf]; omega⟩
        rw [lsT_yes hb, List.map_append]
        exact hV3
      | false =>
        rw [hb] at hbt
        go_wp2_with fail
        exact ⟨⟨i + 1, by omega, rfl, by rw [lsT_no hb]; exact hV, hB⟩, by simp only [intOf]; omega⟩
    · have hd : decide ((i : Int) < 16) = false := decide_eq_false (by omega)
      obtain rfl : i = 16 := by omega
      go_wp2_with fail
      rw [lsT_all] at hV
      go_ret
      exact ⟨_, rfl, hV, hB⟩
set_option maxRecDepth 100000 in
set_option maxHeartbeats 800000 in
theorem bits_any (a : Nat) (ha : a < 65536) (w : World) :
    Calls Try.prog 13 #[.int .i64 (a : Int)] w fun e w' => e = .returned (.int .i64 (cnt a : Int)) ∧ Below w.heap.size w w' := by
  have HL := fun w1 => list_any a ha w1
  go_enter Try.func13, Try.ntmps13
  go_wp2_with (go_at_call 7; refine (HL _).mono ?_; rintro e w1 ⟨sl, rfl, hV1, hw1⟩; obtain ⟨a1, c1, rfl, hI1⟩ := hV1.ia)
  go_ret
  have e : (lsI a).length = cnt a := by unfold lsI cnt; rw [List.length_map]
  rw [e]
  exact ⟨rfl, hw1⟩
set_option maxRecDepth 100000 in
set_option maxHeartbeats 800000 in
/-- Do two lists hold the same numbers? -/
theorem same_any (l m : List Int) (a b : Option Addr) (cap cap2 : Nat) (w : World) (hA : IA w a l) (hB : IA w b m) (hln : l.length ≤ 140737488355328) (q : Bool) (hq0 : decide (l = m) = q) :
    Calls Try.prog 10 #[.slice a l.length cap, .slice b m.length cap2] w fun e w' => e = .returned (.bool q) ∧ Below w.heap.size w w' := by
  have hq : Hid (decide (l = m) = q) := hq0
  clear hq0
  by_cases hl : l.length = m.length
  · have hn : ((l.length : Int) == (m.length : Int)) = true := by rw [beq_iff_eq]; omega
    have hl' : Hid (l.length = m.length) := hl
    go_enter Try.func10, Try.ntmps10
    go_wp2_with fail
    go_loopw [5] (fun v5 wl => ∃ i : Nat, i ≤ l.length ∧ v5 = .int .i64 i ∧ (∀ j, j < i → l[j]? = m[j]?) ∧ Below w.heap.size w wl) (fun v5 _ => l.length - (intOf v5).toNat)
    case atStart => exact ⟨0, by omega, rfl, fun j hj => absurd hj (Nat.not_lt_zero j), Below.refl _ _⟩
    case round =>
      obtain ⟨i, hil, rfl, hE, hW⟩ := hrel
      clear hl
      by_cases hlt : i < l.length
      · have hm : i < m.length := by have := hl'.out; omega
        obtain ⟨g, o, rfl⟩ := hA.ex (by omega)
        obtain ⟨g2, o2, rfl⟩ := hB.ex (by omega)
        have c0 := (hA.below hW).cell hlt
        have c1 := (hB.below hW).cell hm
        have hw1 : IntKind.i64.wrap ((i : Int) + 1) = ((i + 1 : Nat) : Int) := by rw [IntKind.wrap_i64]; omega
        have hz1 : (0 : Int) ≤ (i : Int) := by omega
        have hz2 : (i : Int) < (l.length : Int) := by omega
        have hz2' : (i : Int) < (m.length : Int) := by omega
        have g1 : l[i]? = some (l.getD i 0) := by rw [List.getD_eq_getElem?_getD, List.getElem?_eq_getElem hlt]; rfl
        have g2 : m[i]? = some (m.getD i 0) := by rw [List.getD_eq_getElem?_getD, List.getElem?_eq_getElem hm]; rfl
        by_cases he : l.getD i 0 = m.getD i 0
        · have hE2 : Hid (∀ j, j < i + 1 → l[j]? = m[j]?) := fun j hj => by
            by_cases hji : j < i
            · exact hE j hji
            · obtain rfl : j = i := by omega
              rw [g1, g2, he]
          clear hE g1 g2
          rw [← he] at c1
          clear he
          generalize l.getD i 0 = x at *
          have hx : (x == x) = true := beq_self_eq_true x
          go_wp2_with fail
          go_quiet (fail)
          go_wp2_with fail
          go_roundw
          case rel => exact ⟨i + 1, by omega, by go_num, hE2.out, below_draws hW _⟩
          case measure => simp [intOf]; omega
        · have hq' : q = false := by
            rw [← hq.out, decide_eq_false]
            intro e
            rw [e] at he
            exact he rfl
          subst hq'
          have hx : (l.getD i 0 == m.getD i 0) = false := by rw [beq_eq_false_iff_ne]; exact he
          clear hE g1 g2
          generalize l.getD i 0 = x at *
          generalize m.getD i 0 = y at *
          go_wp2_with fail
          go_quiet (fail)
          go_wp2_with fail
          go_ret
          exact ⟨rfl, below_draws hW _⟩
      · have hz2 : ¬ (i : Int) < (l.length : Int) := by omega
        have hq' : q = true := by
          rw [← hq.out, decide_eq_true]
          refine List.ext_getElem? fun j => ?_
          by_cases hj : j < i
          · exact hE j hj
          · rw [List.getElem?_eq_none (by omega), List.getElem?_eq_none (by have := hl'.out; omega)]
        subst hq'
        clear hE
        go_wp2_with fail
        go_ret
        exact ⟨rfl, hW⟩
  · have hn : ((l.length : Int) == (m.length : Int)) = false := by rw [beq_eq_false_iff_ne]; omega
    have hq' : q = false := by rw [← hq.out, decide_eq_false (fun h => hl (congrArg List.length h))]
    subst hq'
    go_enter Try.func10, Try.ntmps10
    go_wp2_with fail
    go_ret
    exact ⟨rfl, Below.refl _ _⟩
end Go.Proofs.Ytcaoibdimeajfaa
