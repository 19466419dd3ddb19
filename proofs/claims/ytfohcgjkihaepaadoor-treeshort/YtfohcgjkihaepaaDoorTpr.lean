/- TreeProves tells true. -/
import Derived.Test.YtfohcgjkihaepaaDoorTrn
namespace Go.Proofs.YtfohcgjkihaepaaDoor.Sh
open Go Go.RowKit
/-- A list lies in memory, and a proof. -/
structure Lst (w : World) (g c : Nat) (A : List (List UInt8)) (w1 : World) : Prop where
  bel : Below w.heap.size w w1
  sa : SS w1 g c A
theorem Lst.to {w w1 w2 : World} {g c : Nat} {A : List (List UInt8)} (h : Lst w g c A w1) (hb : Below w1.heap.size w1 w2) : Lst w g c A w2 :=
  ⟨h.bel.trans (hb.mono h.bel.size), h.sa.belowSize hb⟩
theorem SS.get {w : World} {g c : Nat} {A : List (List UInt8)} (h : SS w g c A) {i : Nat} {x : List UInt8} (hx : A[i]? = some x) : w.cell? ⟨g, i, none⟩ = some (.string ⟨x.toArray⟩) := by
  obtain ⟨hi, rfl⟩ := List.getElem?_eq_some_iff.1 hx
  rw [h.cell i hi, List.getD_eq_getElem?_getD, List.getElem?_eq_getElem hi]
  rfl
section
attribute [local go_sem] mkApp_nat mkApp0 mkApp1
set_option maxRecDepth 100000 in
set_option maxHeartbeats 1000000 in
theorem treeProves_out (x : List (List UInt8)) (i : Int) (ax : Option Addr) (cx : Nat) (w : World) (hG : Glob w) (hX : XA w ax x) (hi : ¬ (0 ≤ i ∧ i < (fewD x).length)) :
    Calls Tryd.prog 3 #[.slice ax x.length cx, .int .i64 i] w fun e w' => e = .returned (.bool true) ∧ Below w.heap.size w w' := by
  have HF1 := few_any x ax cx w hX
  have la := fewD_len x
  have HA := fun w1 g c (h : SS w1 g c (fewD x)) (hb : Below w.heap.size w w1) => root_ss h (by omega) (few_small x) (hG.belowSize hb)
  have HA2 := fun w1 g c (h : SS w1 g c (fewD x)) => rroot_ss h (by omega) (few_small x)
  have HP := fun w1 g c => prove_bad (fewD x) (some ⟨g, 0, none⟩) c i w1 hi
  have HV := fun w1 (hb : Below w.heap.size w w1) => verify_any (rootD digest (fewD x)) [97] i (fewD x).length [] none 0 w1 (by omega) (by decide) (XA.nil _ _) (hG.belowSize hb) false ⟨fun h => Bool.noConfusion h, fun h => absurd ⟨h.1.1, h.1.2.1⟩ hi⟩
  have HW := fun w1 (hb : Below w.heap.size w w1) => awake_any w1 (hG.belowSize hb)
  generalize fewD x = A at *
  generalize rootD digest A = rA at *
  clear hX hG
  by_cases h0 : i < 0
  · clear hi
    go_enter Tryd.func3, Tryd.ntmps3
    go_wp2_with (first
      | (go_at_call 8; refine HF1.mono ?_; rintro e w1 ⟨g, c, rfl, hSa, hga, hw1⟩; have T : Lst w g c A w1 := ⟨hw1, hSa⟩)
      | (go_at_call 9; refine (HA _ _ _ T.sa T.bel).mono ?_; rintro e w2 ⟨rfl, hw2⟩; replace T := T.to hw2)
      | (go_at_call 10; refine (HP _ _ _).mono ?_; rintro e w3 ⟨rfl, hw3⟩; have hw3 := hw3.symm; subst hw3)
      | (go_at_call 11; refine (HW _ T.bel).mono ?_; rintro e w4 ⟨rfl, hw4⟩; replace T := T.to hw4)
      | (go_at_call 12; refine (HA2 _ _ _ T.sa).mono ?_; rintro e w5 ⟨rfl, hw5⟩; replace T := T.to hw5)
      | (go_at_call 13; refine (HV _ T.bel).mono ?_; rintro e w6 ⟨rfl, hw6⟩; replace T := T.to hw6))
    go_ret
    exact ⟨rfl, T.bel⟩
  · have h1 : (A.length : Int) ≤ i := by omega
    clear hi
    go_enter Tryd.func3, Tryd.ntmps3
    go_wp2_with (first
      | (go_at_call 8; refine HF1.mono ?_; rintro e w1 ⟨g, c, rfl, hSa, hga, hw1⟩; have T : Lst w g c A w1 := ⟨hw1, hSa⟩)
      | (go_at_call 9; refine (HA _ _ _ T.sa T.bel).mono ?_; rintro e w2 ⟨rfl, hw2⟩; replace T := T.to hw2)
      | (go_at_call 10; refine (HP _ _ _).mono ?_; rintro e w3 ⟨rfl, hw3⟩; have hw3 := hw3.symm; subst hw3)
      | (go_at_call 11; refine (HW _ T.bel).mono ?_; rintro e w4 ⟨rfl, hw4⟩; replace T := T.to hw4)
      | (go_at_call 12; refine (HA2 _ _ _ T.sa).mono ?_; rintro e w5 ⟨rfl, hw5⟩; replace T := T.to hw5)
      | (go_at_call 13; refine (HV _ T.bel).mono ?_; rintro e w6 ⟨rfl, hw6⟩; replace T := T.to hw6))
    go_ret
    exact ⟨rfl, T.bel⟩
set_option maxRecDepth 100000 in
set_option maxHeartbeats 2000000 in
theorem treeProves_in (x : List (List UInt8)) (i : Nat) (ax : Option Addr) (cx : Nat) (w : World) (hG : Glob w) (hX : XA w ax x) (hi : i < (fewD x).length) :
    Calls Tryd.prog 3 #[.slice ax x.length cx, .int .i64 i] w fun e w' => e = .returned (.bool true) ∧ Below w.heap.size w w' := by
  have HF1 := few_any x ax cx w hX
  have la := fewD_len x
  have HA := fun w1 g c (h : SS w1 g c (fewD x)) (hb : Below w.heap.size w w1) => root_ss h (by omega) (few_small x) (hG.belowSize hb)
  have HA2 := fun w1 g c (h : SS w1 g c (fewD x)) => rroot_ss h (by omega) (few_small x)
  have HP := fun w1 g c (h : SS w1 g c (fewD x)) (hb : Below w.heap.size w w1) => prove_any (fewD x) (some ⟨g, 0, none⟩) c i w1 h.xa h.le (by omega) (few_small x) (hG.belowSize hb) hi
  have HPt := fun w1 g c (h : SS w1 g c (fewD x)) => rpath_of rsum_any (fewD x).length (fewD x) (some ⟨g, 0, none⟩) c i w1 rfl h.xa h.le (by omega) (few_small x) (by omega)
  have hps := path_short digest (fewD x) i (by omega)
  have HSm := fun w1 a c g2 c2 (h : XA w1 a (pathD digest (fewD x) i)) (h2 : SS w1 g2 c2 (pathD digest (fewD x) i)) => same_list (pathD digest (fewD x) i) (pathD digest (fewD x) i) a (some ⟨g2, 0, none⟩) c c2 w1 h h2.xa (by omega)
  rw [decide_eq_true rfl] at HSm
  obtain ⟨s, hs⟩ : ∃ s, (fewD x)[i]? = some s := ⟨_, List.getElem?_eq_getElem hi⟩
  have hsl : s.length ≤ 1000 := few_small x s (List.mem_of_getElem? hs)
  have HV := fun w1 a c (h : XA w1 a (pathD digest (fewD x) i)) (hb : Below w.heap.size w w1) => verify_any (rootD digest (fewD x)) s i (fewD x).length (pathD digest (fewD x) i) a c w1 (by omega) hsl h (hG.belowSize hb) true
    ⟨fun _ => ⟨good_path digest digest_length hi, by obtain ⟨_, rfl⟩ := List.getElem?_eq_some_iff.1 hs; exact top_path digest hi⟩, fun _ => rfl⟩
  have HL := fun w1 (hb : Below w.heap.size w w1) => leaf_any s (by omega) w1 (hG.belowSize hb)
  have HS := fun w1 => rsum_any (0 :: s) w1 (by simp; omega)
  have HW := fun w1 (hb : Below w.heap.size w w1) => awake_any w1 (hG.belowSize hb)
  generalize fewD x = A at *
  generalize rootD digest A = rA at *
  generalize pathD digest A i = P at *
  generalize digest (0 :: s) = ds at *
  clear hX hG
  have h0 : ¬ ((i : Int) < 0) := by omega
  have h1 : ¬ ((A.length : Int) ≤ (i : Int)) := by omega
  have h2 : (0 : Int) ≤ (i : Int) := by omega
  have h3 : (i : Int) < (A.length : Int) := by omega
  have f1 : ¬ 9223372036854775807 < 1 + s.length := by omega
  have f3 : ¬ 9223372036854775807 < s.length + 1 := by omega
  replace hs : Hid (A[i]? = some s) := hs
  go_enter Tryd.func3, Tryd.ntmps3
  go_wp2_with (first
    | (go_at_call 8; refine HF1.mono ?_; rintro e w1 ⟨g, c, rfl, hSa, hga, hw1⟩; have T : Lst w g c A w1 := ⟨hw1, hSa⟩)
    | (go_at_call 9; refine (HA _ _ _ T.sa T.bel).mono ?_; rintro e w2 ⟨rfl, hw2⟩; replace T := T.to hw2)
    | (go_at_call 10; refine (HP _ _ _ T.sa T.bel).mono ?_; rintro e w3 ⟨sl, rfl, hV3, hw3⟩; obtain ⟨ap, cp, rfl⟩ := hV3.form; rw [List.length_map] at hV3 ⊢; have hXp := hV3.texts; replace T := T.to hw3)
    | (go_at_call 11; refine (HW _ T.bel).mono ?_; rintro e w4 ⟨rfl, hw4⟩; replace T := T.to hw4; replace hXp := hXp.below hw4)
    | (go_at_call 12; refine (HA2 _ _ _ T.sa).mono ?_; rintro e w5 ⟨rfl, hw5⟩; replace T := T.to hw5; replace hXp := hXp.below hw5))
  have c5 := T.sa.get hs.out
  go_region_held3 (fun w' => w'.cell? ⟨g, i, none⟩ = some (.string ⟨s.toArray⟩)) (first | assumption | exact c5) (first
    | (go_at_call 15; refine (HPt _ _ _ T.sa.drew).mono ?_; rintro e w6 ⟨g6, c6, rfl, hS6, hg6, hw6⟩; have hD : Below w5.heap.size w5 w5.drew := (Below.refl _ _).drew; replace T := (T.to hD).to hw6; replace hXp := (hXp.below hD).below hw6; have k6 := T.sa.get hs.out)
    | (go_at_call 14; refine (HSm _ _ _ _ _ hXp hS6).mono ?_; rintro e w7 ⟨rfl, hw7⟩; replace T := T.to hw7; replace hXp := hXp.below hw7; have k7 := T.sa.get hs.out)
    | (go_at_call 13; refine (HV _ _ _ hXp T.bel).mono ?_; rintro e w8 ⟨rfl, hw8⟩; replace T := T.to hw8; have k8 := T.sa.get hs.out)
    | (go_at_call 16; refine (HL _ T.bel).mono ?_; rintro e w9 ⟨rfl, hw9⟩; replace T := T.to hw9; have k9 := T.sa.get hs.out)
    | (go_at_call 17; refine (HS _).mono ?_; rintro e w10 ⟨rfl, hw10⟩; replace T := T.to hw10; have k10 := T.sa.get hs.out))
  go_wp2_with fail
  go_ret
  exact ⟨rfl, T.bel⟩
end
theorem treeProves_any (x : List (List UInt8)) (i : Int) (ax : Option Addr) (cx : Nat) (w : World) (hG : Glob w) (hX : XA w ax x) (_ : -9223372036854775808 ≤ i ∧ i ≤ 9223372036854775807) :
    Calls Tryd.prog 3 #[.slice ax x.length cx, .int .i64 i] w fun e w' => e = .returned (.bool true) ∧ Below w.heap.size w w' := by
  by_cases h : 0 ≤ i ∧ i < (fewD x).length
  · obtain ⟨j, rfl⟩ := Int.eq_ofNat_of_zero_le h.1
    exact treeProves_in x j ax cx w hG hX (by omega)
  · exact treeProves_out x i ax cx w hG hX h
end Go.Proofs.YtfohcgjkihaepaaDoor.Sh
