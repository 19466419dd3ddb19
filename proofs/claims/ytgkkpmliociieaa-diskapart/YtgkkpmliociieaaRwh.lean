/- What the plain why does. -/
import Derived.Test.YtgkkpmliociieaaRsy
namespace Go.Proofs.Ytgkkpmliociieaa
open Go Go.RowKit
/-- A change of the plain disk. -/
structure RC where
  kind : Int
  name : B
  to : B
  s : B
  n : Int
def chC (c : RC) : Array Value := #[.int .i64 c.kind, .string ⟨c.name.toArray⟩, .string ⟨c.to.toArray⟩, .string ⟨c.s.toArray⟩, .int .i64 c.n]
theorem chC_size (c : RC) : (chC c).size = 5 := rfl
theorem chC_one (c : RC) : (chC c).all (·.oneCell') = true := by simp [chC, Value.oneCell']
theorem chC_g0 (c : RC) : (chC c)[0]? = some (.int .i64 c.kind) := rfl
theorem chC_g1 (c : RC) : (chC c)[1]? = some (.string ⟨c.name.toArray⟩) := rfl
theorem chC_g2 (c : RC) : (chC c)[2]? = some (.string ⟨c.to.toArray⟩) := rfl
theorem chC_g3 (c : RC) : (chC c)[3]? = some (.string ⟨c.s.toArray⟩) := rfl
theorem chC_g4 (c : RC) : (chC c)[4]? = some (.int .i64 c.n) := rfl
theorem iChc (c : RC) : (Try.prog.info? 66).map (·.size) = some (chC c).size := by kernel_rfl
/-- How many bytes more. -/
def moreB (k : Int) (fl sl : Nat) : Int := (sl : Int) - (if k = 1 then (fl : Int) else 0)
def whyB (off ok is : Bool) (k : Int) (okt same : Bool) (n : Int) (fl sl : Nat) (room : Int) (u : Nat) : Int :=
  if off = true then 7 else if ok = false then 110 else if 1 < k ∧ is = false then 2 else if k = 2 ∧ okt = false then 110 else if (k = 2 ∧ same = true) ∨ (k = 4 ∧ (n < 0 ∨ (fl : Int) < n)) then 1
  else if k < 2 ∧ 0 < moreB k fl sl ∧ 0 ≤ room ∧ room - (u : Int) < moreB k fl sl then 111 else 0
def whyR (m : RD) (c : RC) : Int := whyB m.off (okN c.name) (findR m.now c.name).isSome c.kind (okN c.to) (c.name == c.to) c.n ((findR m.now c.name).getD rf0).s.length c.s.length m.room (usedR m.now)
set_option maxRecDepth 100000 in
set_option maxHeartbeats 4000000 in
theorem why_any (m : RD) (c : RC) (x y v : Value) (w : World) (h : RK w v m x y) (hl : m.now.length ≤ 1000000) (hu : usedR m.now ≤ 1000000000000) (h1 : c.name.length ≤ 9223372036854775807) (h2 : c.to.length ≤ 9223372036854775807) (h3 : c.s.length ≤ 1000000000000) (h4 : ((findR m.now c.name).getD rf0).s.length ≤ 1000000000000) (hr : m.room ≤ 9223372036854775807) (hkk : c.kind = 0 ∨ c.kind = 1 ∨ c.kind = 2 ∨ c.kind = 3 ∨ c.kind = 4) :
    Calls Try.prog 53 #[v, .agg (chC c)] w fun e w' => e = .returned (.int .i64 (whyR m c)) ∧ Below w.heap.size w w' := by
  have HF := fun w1 (hB : Below w.heap.size w w1) => find_any m.now c.name x 0 w1 (h.now.below hB) hl
  have HN := fun w1 => rname_any c.name w1 h1
  have HT := fun w1 => rname_any c.to w1 h2
  have HS := fun w1 (hB : Below w.heap.size w w1) => size_any m.now x 0 w1 (h.now.below hB) hl hu
  obtain ⟨rfl, hnx, _⟩ := h
  obtain ⟨a0, cap0, rfl⟩ := hnx.sl
  generalize hxe : Value.slice a0 m.now.length cap0 = x at *
  unfold whyR
  have g5 := rdC_g5 m x y
  have g0 := chC_g0 c
  clear h1 h2 hl hnx
  generalize (findR m.now c.name).getD rf0 = f0 at *
  generalize (findR m.now c.name).isSome = b0 at *
  generalize okN c.name = ok at *
  generalize okN c.to = okt at *
  generalize hsm : (c.name == c.to) = same at *
  generalize m.off = off at *
  cases off with
  | true =>
    rw [show whyB true ok b0 c.kind okt same c.n f0.s.length c.s.length m.room (usedR m.now) = 7 from rfl]
    go_enter Try.func53, Try.ntmps53
    go_wp2_with (first | (go_at_call 25; first | (refine (HN _).mono ?_; rintro e w6 ⟨rfl, hw6⟩; have hw6 := hw6.symm; subst hw6; clear HN) | (refine (HT _).mono ?_; rintro e w6 ⟨rfl, hw6⟩; have hw6 := hw6.symm; subst hw6; clear HT)) | (go_at_call 17; refine (HF _ hB2).mono ?_; rintro e w3 ⟨rfl, hw3⟩; clear HF c20 c31; have hB3 := hB2.trans (hw3.mono hB2.size); have l3 := h3.lt; replace h2 := h2.belowSize hw3; replace h3 := h3.belowSize hw3) | (with_reducible refine at_list ?_; first | (refine wpList_boxRow (op := ⟨some 2, _, _, _, _, _⟩) rfl _ _ rfl _ rfl ?_; intro w1 hw1 hs1 h2; clear hs1) | (refine wpList_boxRow (op := ⟨some 3, _, _, _, _, _⟩) rfl _ _ rfl _ rfl ?_; intro w2 hw2 hs2 h3; clear hs2; have hB2 := hw1.trans (hw2.mono hw1.size); have l2 := h2.lt; replace h2 := h2.belowSize hw2; have c20 := (h2.cell 0).trans (rdC_g0 m x y); have c31 := (h3.cell 1).trans (chC_g1 c)) | (refine wpList_allocRow (op := ⟨some 5, _, _, _, _, _⟩) rfl _ rfl _ zRf.1 ?_; intro w4 hw4 hs4 h4; clear hs4; have hB4 := hB3.trans (hw4.mono hB3.size); have l23 := h2.lt; have l33 := h3.lt; replace h2 := h2.belowSize hw4; replace h3 := h3.belowSize hw4) | (refine wpList_storeRow (op := ⟨none, .store 49 (.tmp 5) (.tmp 14), _, _, _, _⟩) rfl _ _ _ rfl w3.heap.size (rC f0) rfl rfl _ _ h4 rfl (iRf _) (rC_one _) ?_; intro w5 hg5 hs5 h5; clear hs5; have hB5 := hB4.trans (below_of_grown hg5 hB3.size hB4.size); replace h2 := h2.grown hg5 (fun e => by have := Option.some.inj e; omega); replace h3 := h3.grown hg5 (fun e => by have := Option.some.inj e; omega); have c20 := (h2.cell 0).trans (rdC_g0 m x y); have c22 := (h2.cell 2).trans (rdC_g2 m x y); have c25 := (h2.cell 5).trans g5; have c30 := (h3.cell 0).trans g0; have c31 := (h3.cell 1).trans (chC_g1 c); have c32 := (h3.cell 2).trans (chC_g2 c); have c33 := (h3.cell 3).trans (chC_g3 c); have c34 := (h3.cell 4).trans (chC_g4 c); have c51 := (h5.cell 1).trans (rC_g1 f0); clear hw1 hw2 hw3 hw4 hg5)))
    go_ret
    exact ⟨rfl, hB5⟩
  | false =>
    cases ok with
    | false =>
      rw [show whyB false false b0 c.kind okt same c.n f0.s.length c.s.length m.room (usedR m.now) = 110 from rfl]
      go_enter Try.func53, Try.ntmps53
      go_wp2_with (first | (go_at_call 25; first | (refine (HN _).mono ?_; rintro e w6 ⟨rfl, hw6⟩; have hw6 := hw6.symm; subst hw6; clear HN) | (refine (HT _).mono ?_; rintro e w6 ⟨rfl, hw6⟩; have hw6 := hw6.symm; subst hw6; clear HT)) | (go_at_call 17; refine (HF _ hB2).mono ?_; rintro e w3 ⟨rfl, hw3⟩; clear HF c20 c31; have hB3 := hB2.trans (hw3.mono hB2.size); have l3 := h3.lt; replace h2 := h2.belowSize hw3; replace h3 := h3.belowSize hw3) | (with_reducible refine at_list ?_; first | (refine wpList_boxRow (op := ⟨some 2, _, _, _, _, _⟩) rfl _ _ rfl _ rfl ?_; intro w1 hw1 hs1 h2; clear hs1) | (refine wpList_boxRow (op := ⟨some 3, _, _, _, _, _⟩) rfl _ _ rfl _ rfl ?_; intro w2 hw2 hs2 h3; clear hs2; have hB2 := hw1.trans (hw2.mono hw1.size); have l2 := h2.lt; replace h2 := h2.belowSize hw2; have c20 := (h2.cell 0).trans (rdC_g0 m x y); have c31 := (h3.cell 1).trans (chC_g1 c)) | (refine wpList_allocRow (op := ⟨some 5, _, _, _, _, _⟩) rfl _ rfl _ zRf.1 ?_; intro w4 hw4 hs4 h4; clear hs4; have hB4 := hB3.trans (hw4.mono hB3.size); have l23 := h2.lt; have l33 := h3.lt; replace h2 := h2.belowSize hw4; replace h3 := h3.belowSize hw4) | (refine wpList_storeRow (op := ⟨none, .store 49 (.tmp 5) (.tmp 14), _, _, _, _⟩) rfl _ _ _ rfl w3.heap.size (rC f0) rfl rfl _ _ h4 rfl (iRf _) (rC_one _) ?_; intro w5 hg5 hs5 h5; clear hs5; have hB5 := hB4.trans (below_of_grown hg5 hB3.size hB4.size); replace h2 := h2.grown hg5 (fun e => by have := Option.some.inj e; omega); replace h3 := h3.grown hg5 (fun e => by have := Option.some.inj e; omega); have c20 := (h2.cell 0).trans (rdC_g0 m x y); have c22 := (h2.cell 2).trans (rdC_g2 m x y); have c25 := (h2.cell 5).trans g5; have c30 := (h3.cell 0).trans g0; have c31 := (h3.cell 1).trans (chC_g1 c); have c32 := (h3.cell 2).trans (chC_g2 c); have c33 := (h3.cell 3).trans (chC_g3 c); have c34 := (h3.cell 4).trans (chC_g4 c); have c51 := (h5.cell 1).trans (rC_g1 f0); clear hw1 hw2 hw3 hw4 hg5)))
      go_ret
      exact ⟨rfl, hB5⟩
    | true =>
      rcases hkk with hk | hk | hk | hk | hk
      · rw [hk] at g0 ⊢
        have hmo : moreB 0 f0.s.length c.s.length = (c.s.length : Int) := by simp [moreB]
        have hE : whyB false true b0 0 okt same c.n f0.s.length c.s.length m.room (usedR m.now) = if 0 < (c.s.length : Int) ∧ 0 ≤ m.room ∧ m.room - (usedR m.now : Int) < (c.s.length : Int) then 111 else 0 := by rw [← hmo]; simp [whyB]
        rw [hE]
        clear hE hmo
        generalize usedR m.now = U at *
        by_cases q1 : 0 < (c.s.length : Int)
        · have d1 : decide (0 < (c.s.length : Int)) = true := decide_eq_true q1
          by_cases q2 : 0 ≤ m.room
          · have hwr : IntKind.i64.wrap (m.room - (U : Int)) = m.room - (U : Int) := by rw [IntKind.wrap_i64]; omega
            have d2 : decide (0 ≤ m.room) = true := decide_eq_true q2
            by_cases q3 : m.room - (U : Int) < (c.s.length : Int)
            · rw [if_pos ⟨q1, q2, q3⟩]
              go_enter Try.func53, Try.ntmps53
              go_wp2_with (first | (go_at_call 25; first | (refine (HN _).mono ?_; rintro e w6 ⟨rfl, hw6⟩; have hw6 := hw6.symm; subst hw6; clear HN) | (refine (HT _).mono ?_; rintro e w6 ⟨rfl, hw6⟩; have hw6 := hw6.symm; subst hw6; clear HT)) | (go_at_call 17; refine (HF _ hB2).mono ?_; rintro e w3 ⟨rfl, hw3⟩; clear HF c20 c31; have hB3 := hB2.trans (hw3.mono hB2.size); have l3 := h3.lt; replace h2 := h2.belowSize hw3; replace h3 := h3.belowSize hw3) | (with_reducible refine at_list ?_; first | (refine wpList_boxRow (op := ⟨some 2, _, _, _, _, _⟩) rfl _ _ rfl _ rfl ?_; intro w1 hw1 hs1 h2; clear hs1) | (refine wpList_boxRow (op := ⟨some 3, _, _, _, _, _⟩) rfl _ _ rfl _ rfl ?_; intro w2 hw2 hs2 h3; clear hs2; have hB2 := hw1.trans (hw2.mono hw1.size); have l2 := h2.lt; replace h2 := h2.belowSize hw2; have c20 := (h2.cell 0).trans (rdC_g0 m x y); have c31 := (h3.cell 1).trans (chC_g1 c)) | (refine wpList_allocRow (op := ⟨some 5, _, _, _, _, _⟩) rfl _ rfl _ zRf.1 ?_; intro w4 hw4 hs4 h4; clear hs4; have hB4 := hB3.trans (hw4.mono hB3.size); have l23 := h2.lt; have l33 := h3.lt; replace h2 := h2.belowSize hw4; replace h3 := h3.belowSize hw4) | (refine wpList_storeRow (op := ⟨none, .store 49 (.tmp 5) (.tmp 14), _, _, _, _⟩) rfl _ _ _ rfl w3.heap.size (rC f0) rfl rfl _ _ h4 rfl (iRf _) (rC_one _) ?_; intro w5 hg5 hs5 h5; clear hs5; have hB5 := hB4.trans (below_of_grown hg5 hB3.size hB4.size); replace h2 := h2.grown hg5 (fun e => by have := Option.some.inj e; omega); replace h3 := h3.grown hg5 (fun e => by have := Option.some.inj e; omega); have c20 := (h2.cell 0).trans (rdC_g0 m x y); have c22 := (h2.cell 2).trans (rdC_g2 m x y); have c25 := (h2.cell 5).trans g5; have c30 := (h3.cell 0).trans g0; have c31 := (h3.cell 1).trans (chC_g1 c); have c32 := (h3.cell 2).trans (chC_g2 c); have c33 := (h3.cell 3).trans (chC_g3 c); have c34 := (h3.cell 4).trans (chC_g4 c); have c51 := (h5.cell 1).trans (rC_g1 f0); clear hw1 hw2 hw3 hw4 hg5)))
              generalize hDD : (c.s.length : Int) = D at *
              go_region_held3 (fun w' => w' = w5.drew) (first | rfl | exact hw1') ((go_at_call 34; refine (HS _ hB5.drew).mono ?_; rintro e w7 ⟨rfl, hw1'⟩))
              subst hw1'
              go_wp2_with fail
              go_ret
              exact ⟨rfl, hB5.drew⟩
            · rw [if_neg (fun hh => q3 hh.2.2)]
              go_enter Try.func53, Try.ntmps53
              go_wp2_with (first | (go_at_call 25; first | (refine (HN _).mono ?_; rintro e w6 ⟨rfl, hw6⟩; have hw6 := hw6.symm; subst hw6; clear HN) | (refine (HT _).mono ?_; rintro e w6 ⟨rfl, hw6⟩; have hw6 := hw6.symm; subst hw6; clear HT)) | (go_at_call 17; refine (HF _ hB2).mono ?_; rintro e w3 ⟨rfl, hw3⟩; clear HF c20 c31; have hB3 := hB2.trans (hw3.mono hB2.size); have l3 := h3.lt; replace h2 := h2.belowSize hw3; replace h3 := h3.belowSize hw3) | (with_reducible refine at_list ?_; first | (refine wpList_boxRow (op := ⟨some 2, _, _, _, _, _⟩) rfl _ _ rfl _ rfl ?_; intro w1 hw1 hs1 h2; clear hs1) | (refine wpList_boxRow (op := ⟨some 3, _, _, _, _, _⟩) rfl _ _ rfl _ rfl ?_; intro w2 hw2 hs2 h3; clear hs2; have hB2 := hw1.trans (hw2.mono hw1.size); have l2 := h2.lt; replace h2 := h2.belowSize hw2; have c20 := (h2.cell 0).trans (rdC_g0 m x y); have c31 := (h3.cell 1).trans (chC_g1 c)) | (refine wpList_allocRow (op := ⟨some 5, _, _, _, _, _⟩) rfl _ rfl _ zRf.1 ?_; intro w4 hw4 hs4 h4; clear hs4; have hB4 := hB3.trans (hw4.mono hB3.size); have l23 := h2.lt; have l33 := h3.lt; replace h2 := h2.belowSize hw4; replace h3 := h3.belowSize hw4) | (refine wpList_storeRow (op := ⟨none, .store 49 (.tmp 5) (.tmp 14), _, _, _, _⟩) rfl _ _ _ rfl w3.heap.size (rC f0) rfl rfl _ _ h4 rfl (iRf _) (rC_one _) ?_; intro w5 hg5 hs5 h5; clear hs5; have hB5 := hB4.trans (below_of_grown hg5 hB3.size hB4.size); replace h2 := h2.grown hg5 (fun e => by have := Option.some.inj e; omega); replace h3 := h3.grown hg5 (fun e => by have := Option.some.inj e; omega); have c20 := (h2.cell 0).trans (rdC_g0 m x y); have c22 := (h2.cell 2).trans (rdC_g2 m x y); have c25 := (h2.cell 5).trans g5; have c30 := (h3.cell 0).trans g0; have c31 := (h3.cell 1).trans (chC_g1 c); have c32 := (h3.cell 2).trans (chC_g2 c); have c33 := (h3.cell 3).trans (chC_g3 c); have c34 := (h3.cell 4).trans (chC_g4 c); have c51 := (h5.cell 1).trans (rC_g1 f0); clear hw1 hw2 hw3 hw4 hg5)))
              generalize hDD : (c.s.length : Int) = D at *
              go_region_held3 (fun w' => w' = w5.drew) (first | rfl | exact hw1') ((go_at_call 34; refine (HS _ hB5.drew).mono ?_; rintro e w7 ⟨rfl, hw1'⟩))
              subst hw1'
              go_wp2_with fail
              go_ret
              exact ⟨rfl, hB5.drew⟩
          · rw [if_neg (fun hh => q2 hh.2.1)]
            have d2 : decide (0 ≤ m.room) = false := decide_eq_false q2
            go_enter Try.func53, Try.ntmps53
            go_wp2_with (first | (go_at_call 25; first | (refine (HN _).mono ?_; rintro e w6 ⟨rfl, hw6⟩; have hw6 := hw6.symm; subst hw6; clear HN) | (refine (HT _).mono ?_; rintro e w6 ⟨rfl, hw6⟩; have hw6 := hw6.symm; subst hw6; clear HT)) | (go_at_call 17; refine (HF _ hB2).mono ?_; rintro e w3 ⟨rfl, hw3⟩; clear HF c20 c31; have hB3 := hB2.trans (hw3.mono hB2.size); have l3 := h3.lt; replace h2 := h2.belowSize hw3; replace h3 := h3.belowSize hw3) | (with_reducible refine at_list ?_; first | (refine wpList_boxRow (op := ⟨some 2, _, _, _, _, _⟩) rfl _ _ rfl _ rfl ?_; intro w1 hw1 hs1 h2; clear hs1) | (refine wpList_boxRow (op := ⟨some 3, _, _, _, _, _⟩) rfl _ _ rfl _ rfl ?_; intro w2 hw2 hs2 h3; clear hs2; have hB2 := hw1.trans (hw2.mono hw1.size); have l2 := h2.lt; replace h2 := h2.belowSize hw2; have c20 := (h2.cell 0).trans (rdC_g0 m x y); have c31 := (h3.cell 1).trans (chC_g1 c)) | (refine wpList_allocRow (op := ⟨some 5, _, _, _, _, _⟩) rfl _ rfl _ zRf.1 ?_; intro w4 hw4 hs4 h4; clear hs4; have hB4 := hB3.trans (hw4.mono hB3.size); have l23 := h2.lt; have l33 := h3.lt; replace h2 := h2.belowSize hw4; replace h3 := h3.belowSize hw4) | (refine wpList_storeRow (op := ⟨none, .store 49 (.tmp 5) (.tmp 14), _, _, _, _⟩) rfl _ _ _ rfl w3.heap.size (rC f0) rfl rfl _ _ h4 rfl (iRf _) (rC_one _) ?_; intro w5 hg5 hs5 h5; clear hs5; have hB5 := hB4.trans (below_of_grown hg5 hB3.size hB4.size); replace h2 := h2.grown hg5 (fun e => by have := Option.some.inj e; omega); replace h3 := h3.grown hg5 (fun e => by have := Option.some.inj e; omega); have c20 := (h2.cell 0).trans (rdC_g0 m x y); have c22 := (h2.cell 2).trans (rdC_g2 m x y); have c25 := (h2.cell 5).trans g5; have c30 := (h3.cell 0).trans g0; have c31 := (h3.cell 1).trans (chC_g1 c); have c32 := (h3.cell 2).trans (chC_g2 c); have c33 := (h3.cell 3).trans (chC_g3 c); have c34 := (h3.cell 4).trans (chC_g4 c); have c51 := (h5.cell 1).trans (rC_g1 f0); clear hw1 hw2 hw3 hw4 hg5)))
            generalize hDD : (c.s.length : Int) = D at *
            go_region
            go_wp2_with fail
            go_ret
            exact ⟨rfl, hB5.drew⟩
        · rw [if_neg (fun hh => q1 hh.1)]
          have d1 : decide (0 < (c.s.length : Int)) = false := decide_eq_false q1
          go_enter Try.func53, Try.ntmps53
          go_wp2_with (first | (go_at_call 25; first | (refine (HN _).mono ?_; rintro e w6 ⟨rfl, hw6⟩; have hw6 := hw6.symm; subst hw6; clear HN) | (refine (HT _).mono ?_; rintro e w6 ⟨rfl, hw6⟩; have hw6 := hw6.symm; subst hw6; clear HT)) | (go_at_call 17; refine (HF _ hB2).mono ?_; rintro e w3 ⟨rfl, hw3⟩; clear HF c20 c31; have hB3 := hB2.trans (hw3.mono hB2.size); have l3 := h3.lt; replace h2 := h2.belowSize hw3; replace h3 := h3.belowSize hw3) | (with_reducible refine at_list ?_; first | (refine wpList_boxRow (op := ⟨some 2, _, _, _, _, _⟩) rfl _ _ rfl _ rfl ?_; intro w1 hw1 hs1 h2; clear hs1) | (refine wpList_boxRow (op := ⟨some 3, _, _, _, _, _⟩) rfl _ _ rfl _ rfl ?_; intro w2 hw2 hs2 h3; clear hs2; have hB2 := hw1.trans (hw2.mono hw1.size); have l2 := h2.lt; replace h2 := h2.belowSize hw2; have c20 := (h2.cell 0).trans (rdC_g0 m x y); have c31 := (h3.cell 1).trans (chC_g1 c)) | (refine wpList_allocRow (op := ⟨some 5, _, _, _, _, _⟩) rfl _ rfl _ zRf.1 ?_; intro w4 hw4 hs4 h4; clear hs4; have hB4 := hB3.trans (hw4.mono hB3.size); have l23 := h2.lt; have l33 := h3.lt; replace h2 := h2.belowSize hw4; replace h3 := h3.belowSize hw4) | (refine wpList_storeRow (op := ⟨none, .store 49 (.tmp 5) (.tmp 14), _, _, _, _⟩) rfl _ _ _ rfl w3.heap.size (rC f0) rfl rfl _ _ h4 rfl (iRf _) (rC_one _) ?_; intro w5 hg5 hs5 h5; clear hs5; have hB5 := hB4.trans (below_of_grown hg5 hB3.size hB4.size); replace h2 := h2.grown hg5 (fun e => by have := Option.some.inj e; omega); replace h3 := h3.grown hg5 (fun e => by have := Option.some.inj e; omega); have c20 := (h2.cell 0).trans (rdC_g0 m x y); have c22 := (h2.cell 2).trans (rdC_g2 m x y); have c25 := (h2.cell 5).trans g5; have c30 := (h3.cell 0).trans g0; have c31 := (h3.cell 1).trans (chC_g1 c); have c32 := (h3.cell 2).trans (chC_g2 c); have c33 := (h3.cell 3).trans (chC_g3 c); have c34 := (h3.cell 4).trans (chC_g4 c); have c51 := (h5.cell 1).trans (rC_g1 f0); clear hw1 hw2 hw3 hw4 hg5)))
          generalize hDD : (c.s.length : Int) = D at *
          go_region
          go_wp2_with fail
          go_ret
          exact ⟨rfl, hB5.drew⟩
      · rw [hk] at g0 ⊢
        have hmo : moreB 1 f0.s.length c.s.length = ((c.s.length : Int) - (f0.s.length : Int)) := by simp [moreB]
        have hE : whyB false true b0 1 okt same c.n f0.s.length c.s.length m.room (usedR m.now) = if 0 < ((c.s.length : Int) - (f0.s.length : Int)) ∧ 0 ≤ m.room ∧ m.room - (usedR m.now : Int) < ((c.s.length : Int) - (f0.s.length : Int)) then 111 else 0 := by rw [← hmo]; simp [whyB]
        rw [hE]
        clear hE hmo
        generalize usedR m.now = U at *
        have hwm : IntKind.i64.wrap ((c.s.length : Int) - (f0.s.length : Int)) = (c.s.length : Int) - (f0.s.length : Int) := by rw [IntKind.wrap_i64]; omega
        by_cases q1 : 0 < ((c.s.length : Int) - (f0.s.length : Int))
        · have d1 : decide (0 < ((c.s.length : Int) - (f0.s.length : Int))) = true := decide_eq_true q1
          by_cases q2 : 0 ≤ m.room
          · have hwr : IntKind.i64.wrap (m.room - (U : Int)) = m.room - (U : Int) := by rw [IntKind.wrap_i64]; omega
            have d2 : decide (0 ≤ m.room) = true := decide_eq_true q2
            by_cases q3 : m.room - (U : Int) < ((c.s.length : Int) - (f0.s.length : Int))
            · rw [if_pos ⟨q1, q2, q3⟩]
              go_enter Try.func53, Try.ntmps53
              go_wp2_with (first | (go_at_call 25; first | (refine (HN _).mono ?_; rintro e w6 ⟨rfl, hw6⟩; have hw6 := hw6.symm; subst hw6; clear HN) | (refine (HT _).mono ?_; rintro e w6 ⟨rfl, hw6⟩; have hw6 := hw6.symm; subst hw6; clear HT)) | (go_at_call 17; refine (HF _ hB2).mono ?_; rintro e w3 ⟨rfl, hw3⟩; clear HF c20 c31; have hB3 := hB2.trans (hw3.mono hB2.size); have l3 := h3.lt; replace h2 := h2.belowSize hw3; replace h3 := h3.belowSize hw3) | (with_reducible refine at_list ?_; first | (refine wpList_boxRow (op := ⟨some 2, _, _, _, _, _⟩) rfl _ _ rfl _ rfl ?_; intro w1 hw1 hs1 h2; clear hs1) | (refine wpList_boxRow (op := ⟨some 3, _, _, _, _, _⟩) rfl _ _ rfl _ rfl ?_; intro w2 hw2 hs2 h3; clear hs2; have hB2 := hw1.trans (hw2.mono hw1.size); have l2 := h2.lt; replace h2 := h2.belowSize hw2; have c20 := (h2.cell 0).trans (rdC_g0 m x y); have c31 := (h3.cell 1).trans (chC_g1 c)) | (refine wpList_allocRow (op := ⟨some 5, _, _, _, _, _⟩) rfl _ rfl _ zRf.1 ?_; intro w4 hw4 hs4 h4; clear hs4; have hB4 := hB3.trans (hw4.mono hB3.size); have l23 := h2.lt; have l33 := h3.lt; replace h2 := h2.belowSize hw4; replace h3 := h3.belowSize hw4) | (refine wpList_storeRow (op := ⟨none, .store 49 (.tmp 5) (.tmp 14), _, _, _, _⟩) rfl _ _ _ rfl w3.heap.size (rC f0) rfl rfl _ _ h4 rfl (iRf _) (rC_one _) ?_; intro w5 hg5 hs5 h5; clear hs5; have hB5 := hB4.trans (below_of_grown hg5 hB3.size hB4.size); replace h2 := h2.grown hg5 (fun e => by have := Option.some.inj e; omega); replace h3 := h3.grown hg5 (fun e => by have := Option.some.inj e; omega); have c20 := (h2.cell 0).trans (rdC_g0 m x y); have c22 := (h2.cell 2).trans (rdC_g2 m x y); have c25 := (h2.cell 5).trans g5; have c30 := (h3.cell 0).trans g0; have c31 := (h3.cell 1).trans (chC_g1 c); have c32 := (h3.cell 2).trans (chC_g2 c); have c33 := (h3.cell 3).trans (chC_g3 c); have c34 := (h3.cell 4).trans (chC_g4 c); have c51 := (h5.cell 1).trans (rC_g1 f0); clear hw1 hw2 hw3 hw4 hg5)))
              generalize hDD : ((c.s.length : Int) - (f0.s.length : Int)) = D at *
              go_region_held3 (fun w' => w' = w5.drew) (first | rfl | exact hw1') ((go_at_call 34; refine (HS _ hB5.drew).mono ?_; rintro e w7 ⟨rfl, hw1'⟩))
              subst hw1'
              go_wp2_with fail
              go_ret
              exact ⟨rfl, hB5.drew⟩
            · rw [if_neg (fun hh => q3 hh.2.2)]
              go_enter Try.func53, Try.ntmps53
              go_wp2_with (first | (go_at_call 25; first | (refine (HN _).mono ?_; rintro e w6 ⟨rfl, hw6⟩; have hw6 := hw6.symm; subst hw6; clear HN) | (refine (HT _).mono ?_; rintro e w6 ⟨rfl, hw6⟩; have hw6 := hw6.symm; subst hw6; clear HT)) | (go_at_call 17; refine (HF _ hB2).mono ?_; rintro e w3 ⟨rfl, hw3⟩; clear HF c20 c31; have hB3 := hB2.trans (hw3.mono hB2.size); have l3 := h3.lt; replace h2 := h2.belowSize hw3; replace h3 := h3.belowSize hw3) | (with_reducible refine at_list ?_; first | (refine wpList_boxRow (op := ⟨some 2, _, _, _, _, _⟩) rfl _ _ rfl _ rfl ?_; intro w1 hw1 hs1 h2; clear hs1) | (refine wpList_boxRow (op := ⟨some 3, _, _, _, _, _⟩) rfl _ _ rfl _ rfl ?_; intro w2 hw2 hs2 h3; clear hs2; have hB2 := hw1.trans (hw2.mono hw1.size); have l2 := h2.lt; replace h2 := h2.belowSize hw2; have c20 := (h2.cell 0).trans (rdC_g0 m x y); have c31 := (h3.cell 1).trans (chC_g1 c)) | (refine wpList_allocRow (op := ⟨some 5, _, _, _, _, _⟩) rfl _ rfl _ zRf.1 ?_; intro w4 hw4 hs4 h4; clear hs4; have hB4 := hB3.trans (hw4.mono hB3.size); have l23 := h2.lt; have l33 := h3.lt; replace h2 := h2.belowSize hw4; replace h3 := h3.belowSize hw4) | (refine wpList_storeRow (op := ⟨none, .store 49 (.tmp 5) (.tmp 14), _, _, _, _⟩) rfl _ _ _ rfl w3.heap.size (rC f0) rfl rfl _ _ h4 rfl (iRf _) (rC_one _) ?_; intro w5 hg5 hs5 h5; clear hs5; have hB5 := hB4.trans (below_of_grown hg5 hB3.size hB4.size); replace h2 := h2.grown hg5 (fun e => by have := Option.some.inj e; omega); replace h3 := h3.grown hg5 (fun e => by have := Option.some.inj e; omega); have c20 := (h2.cell 0).trans (rdC_g0 m x y); have c22 := (h2.cell 2).trans (rdC_g2 m x y); have c25 := (h2.cell 5).trans g5; have c30 := (h3.cell 0).trans g0; have c31 := (h3.cell 1).trans (chC_g1 c); have c32 := (h3.cell 2).trans (chC_g2 c); have c33 := (h3.cell 3).trans (chC_g3 c); have c34 := (h3.cell 4).trans (chC_g4 c); have c51 := (h5.cell 1).trans (rC_g1 f0); clear hw1 hw2 hw3 hw4 hg5)))
              generalize hDD : ((c.s.length : Int) - (f0.s.length : Int)) = D at *
              go_region_held3 (fun w' => w' = w5.drew) (first | rfl | exact hw1') ((go_at_call 34; refine (HS _ hB5.drew).mono ?_; rintro e w7 ⟨rfl, hw1'⟩))
              subst hw1'
              go_wp2_with fail
              go_ret
              exact ⟨rfl, hB5.drew⟩
          · rw [if_neg (fun hh => q2 hh.2.1)]
            have d2 : decide (0 ≤ m.room) = false := decide_eq_false q2
            go_enter Try.func53, Try.ntmps53
            go_wp2_with (first | (go_at_call 25; first | (refine (HN _).mono ?_; rintro e w6 ⟨rfl, hw6⟩; have hw6 := hw6.symm; subst hw6; clear HN) | (refine (HT _).mono ?_; rintro e w6 ⟨rfl, hw6⟩; have hw6 := hw6.symm; subst hw6; clear HT)) | (go_at_call 17; refine (HF _ hB2).mono ?_; rintro e w3 ⟨rfl, hw3⟩; clear HF c20 c31; have hB3 := hB2.trans (hw3.mono hB2.size); have l3 := h3.lt; replace h2 := h2.belowSize hw3; replace h3 := h3.belowSize hw3) | (with_reducible refine at_list ?_; first | (refine wpList_boxRow (op := ⟨some 2, _, _, _, _, _⟩) rfl _ _ rfl _ rfl ?_; intro w1 hw1 hs1 h2; clear hs1) | (refine wpList_boxRow (op := ⟨some 3, _, _, _, _, _⟩) rfl _ _ rfl _ rfl ?_; intro w2 hw2 hs2 h3; clear hs2; have hB2 := hw1.trans (hw2.mono hw1.size); have l2 := h2.lt; replace h2 := h2.belowSize hw2; have c20 := (h2.cell 0).trans (rdC_g0 m x y); have c31 := (h3.cell 1).trans (chC_g1 c)) | (refine wpList_allocRow (op := ⟨some 5, _, _, _, _, _⟩) rfl _ rfl _ zRf.1 ?_; intro w4 hw4 hs4 h4; clear hs4; have hB4 := hB3.trans (hw4.mono hB3.size); have l23 := h2.lt; have l33 := h3.lt; replace h2 := h2.belowSize hw4; replace h3 := h3.belowSize hw4) | (refine wpList_storeRow (op := ⟨none, .store 49 (.tmp 5) (.tmp 14), _, _, _, _⟩) rfl _ _ _ rfl w3.heap.size (rC f0) rfl rfl _ _ h4 rfl (iRf _) (rC_one _) ?_; intro w5 hg5 hs5 h5; clear hs5; have hB5 := hB4.trans (below_of_grown hg5 hB3.size hB4.size); replace h2 := h2.grown hg5 (fun e => by have := Option.some.inj e; omega); replace h3 := h3.grown hg5 (fun e => by have := Option.some.inj e; omega); have c20 := (h2.cell 0).trans (rdC_g0 m x y); have c22 := (h2.cell 2).trans (rdC_g2 m x y); have c25 := (h2.cell 5).trans g5; have c30 := (h3.cell 0).trans g0; have c31 := (h3.cell 1).trans (chC_g1 c); have c32 := (h3.cell 2).trans (chC_g2 c); have c33 := (h3.cell 3).trans (chC_g3 c); have c34 := (h3.cell 4).trans (chC_g4 c); have c51 := (h5.cell 1).trans (rC_g1 f0); clear hw1 hw2 hw3 hw4 hg5)))
            generalize hDD : ((c.s.length : Int) - (f0.s.length : Int)) = D at *
            go_region
            go_wp2_with fail
            go_ret
            exact ⟨rfl, hB5.drew⟩
        · rw [if_neg (fun hh => q1 hh.1)]
          have d1 : decide (0 < ((c.s.length : Int) - (f0.s.length : Int))) = false := decide_eq_false q1
          go_enter Try.func53, Try.ntmps53
          go_wp2_with (first | (go_at_call 25; first | (refine (HN _).mono ?_; rintro e w6 ⟨rfl, hw6⟩; have hw6 := hw6.symm; subst hw6; clear HN) | (refine (HT _).mono ?_; rintro e w6 ⟨rfl, hw6⟩; have hw6 := hw6.symm; subst hw6; clear HT)) | (go_at_call 17; refine (HF _ hB2).mono ?_; rintro e w3 ⟨rfl, hw3⟩; clear HF c20 c31; have hB3 := hB2.trans (hw3.mono hB2.size); have l3 := h3.lt; replace h2 := h2.belowSize hw3; replace h3 := h3.belowSize hw3) | (with_reducible refine at_list ?_; first | (refine wpList_boxRow (op := ⟨some 2, _, _, _, _, _⟩) rfl _ _ rfl _ rfl ?_; intro w1 hw1 hs1 h2; clear hs1) | (refine wpList_boxRow (op := ⟨some 3, _, _, _, _, _⟩) rfl _ _ rfl _ rfl ?_; intro w2 hw2 hs2 h3; clear hs2; have hB2 := hw1.trans (hw2.mono hw1.size); have l2 := h2.lt; replace h2 := h2.belowSize hw2; have c20 := (h2.cell 0).trans (rdC_g0 m x y); have c31 := (h3.cell 1).trans (chC_g1 c)) | (refine wpList_allocRow (op := ⟨some 5, _, _, _, _, _⟩) rfl _ rfl _ zRf.1 ?_; intro w4 hw4 hs4 h4; clear hs4; have hB4 := hB3.trans (hw4.mono hB3.size); have l23 := h2.lt; have l33 := h3.lt; replace h2 := h2.belowSize hw4; replace h3 := h3.belowSize hw4) | (refine wpList_storeRow (op := ⟨none, .store 49 (.tmp 5) (.tmp 14), _, _, _, _⟩) rfl _ _ _ rfl w3.heap.size (rC f0) rfl rfl _ _ h4 rfl (iRf _) (rC_one _) ?_; intro w5 hg5 hs5 h5; clear hs5; have hB5 := hB4.trans (below_of_grown hg5 hB3.size hB4.size); replace h2 := h2.grown hg5 (fun e => by have := Option.some.inj e; omega); replace h3 := h3.grown hg5 (fun e => by have := Option.some.inj e; omega); have c20 := (h2.cell 0).trans (rdC_g0 m x y); have c22 := (h2.cell 2).trans (rdC_g2 m x y); have c25 := (h2.cell 5).trans g5; have c30 := (h3.cell 0).trans g0; have c31 := (h3.cell 1).trans (chC_g1 c); have c32 := (h3.cell 2).trans (chC_g2 c); have c33 := (h3.cell 3).trans (chC_g3 c); have c34 := (h3.cell 4).trans (chC_g4 c); have c51 := (h5.cell 1).trans (rC_g1 f0); clear hw1 hw2 hw3 hw4 hg5)))
          generalize hDD : ((c.s.length : Int) - (f0.s.length : Int)) = D at *
          go_region
          go_wp2_with fail
          go_ret
          exact ⟨rfl, hB5.drew⟩
      · cases b0 with
        | false =>
          rw [hk] at g0 ⊢
          have hE : whyB false true false 2 okt same c.n f0.s.length c.s.length m.room (usedR m.now) = 2 := by simp [whyB]
          rw [hE]
          clear hE
          go_enter Try.func53, Try.ntmps53
          go_wp2_with (first | (go_at_call 25; first | (refine (HN _).mono ?_; rintro e w6 ⟨rfl, hw6⟩; have hw6 := hw6.symm; subst hw6; clear HN) | (refine (HT _).mono ?_; rintro e w6 ⟨rfl, hw6⟩; have hw6 := hw6.symm; subst hw6; clear HT)) | (go_at_call 17; refine (HF _ hB2).mono ?_; rintro e w3 ⟨rfl, hw3⟩; clear HF c20 c31; have hB3 := hB2.trans (hw3.mono hB2.size); have l3 := h3.lt; replace h2 := h2.belowSize hw3; replace h3 := h3.belowSize hw3) | (with_reducible refine at_list ?_; first | (refine wpList_boxRow (op := ⟨some 2, _, _, _, _, _⟩) rfl _ _ rfl _ rfl ?_; intro w1 hw1 hs1 h2; clear hs1) | (refine wpList_boxRow (op := ⟨some 3, _, _, _, _, _⟩) rfl _ _ rfl _ rfl ?_; intro w2 hw2 hs2 h3; clear hs2; have hB2 := hw1.trans (hw2.mono hw1.size); have l2 := h2.lt; replace h2 := h2.belowSize hw2; have c20 := (h2.cell 0).trans (rdC_g0 m x y); have c31 := (h3.cell 1).trans (chC_g1 c)) | (refine wpList_allocRow (op := ⟨some 5, _, _, _, _, _⟩) rfl _ rfl _ zRf.1 ?_; intro w4 hw4 hs4 h4; clear hs4; have hB4 := hB3.trans (hw4.mono hB3.size); have l23 := h2.lt; have l33 := h3.lt; replace h2 := h2.belowSize hw4; replace h3 := h3.belowSize hw4) | (refine wpList_storeRow (op := ⟨none, .store 49 (.tmp 5) (.tmp 14), _, _, _, _⟩) rfl _ _ _ rfl w3.heap.size (rC f0) rfl rfl _ _ h4 rfl (iRf _) (rC_one _) ?_; intro w5 hg5 hs5 h5; clear hs5; have hB5 := hB4.trans (below_of_grown hg5 hB3.size hB4.size); replace h2 := h2.grown hg5 (fun e => by have := Option.some.inj e; omega); replace h3 := h3.grown hg5 (fun e => by have := Option.some.inj e; omega); have c20 := (h2.cell 0).trans (rdC_g0 m x y); have c22 := (h2.cell 2).trans (rdC_g2 m x y); have c25 := (h2.cell 5).trans g5; have c30 := (h3.cell 0).trans g0; have c31 := (h3.cell 1).trans (chC_g1 c); have c32 := (h3.cell 2).trans (chC_g2 c); have c33 := (h3.cell 3).trans (chC_g3 c); have c34 := (h3.cell 4).trans (chC_g4 c); have c51 := (h5.cell 1).trans (rC_g1 f0); clear hw1 hw2 hw3 hw4 hg5)))
          go_ret
          exact ⟨rfl, hB5⟩
        | true =>
          cases okt with
          | false =>
            rw [hk] at g0 ⊢
            have hE : whyB false true true 2 false same c.n f0.s.length c.s.length m.room (usedR m.now) = 110 := by simp [whyB]
            rw [hE]
            clear hE
            go_enter Try.func53, Try.ntmps53
            go_wp2_with (first | (go_at_call 25; first | (refine (HN _).mono ?_; rintro e w6 ⟨rfl, hw6⟩; have hw6 := hw6.symm; subst hw6; clear HN) | (refine (HT _).mono ?_; rintro e w6 ⟨rfl, hw6⟩; have hw6 := hw6.symm; subst hw6; clear HT)) | (go_at_call 17; refine (HF _ hB2).mono ?_; rintro e w3 ⟨rfl, hw3⟩; clear HF c20 c31; have hB3 := hB2.trans (hw3.mono hB2.size); have l3 := h3.lt; replace h2 := h2.belowSize hw3; replace h3 := h3.belowSize hw3) | (with_reducible refine at_list ?_; first | (refine wpList_boxRow (op := ⟨some 2, _, _, _, _, _⟩) rfl _ _ rfl _ rfl ?_; intro w1 hw1 hs1 h2; clear hs1) | (refine wpList_boxRow (op := ⟨some 3, _, _, _, _, _⟩) rfl _ _ rfl _ rfl ?_; intro w2 hw2 hs2 h3; clear hs2; have hB2 := hw1.trans (hw2.mono hw1.size); have l2 := h2.lt; replace h2 := h2.belowSize hw2; have c20 := (h2.cell 0).trans (rdC_g0 m x y); have c31 := (h3.cell 1).trans (chC_g1 c)) | (refine wpList_allocRow (op := ⟨some 5, _, _, _, _, _⟩) rfl _ rfl _ zRf.1 ?_; intro w4 hw4 hs4 h4; clear hs4; have hB4 := hB3.trans (hw4.mono hB3.size); have l23 := h2.lt; have l33 := h3.lt; replace h2 := h2.belowSize hw4; replace h3 := h3.belowSize hw4) | (refine wpList_storeRow (op := ⟨none, .store 49 (.tmp 5) (.tmp 14), _, _, _, _⟩) rfl _ _ _ rfl w3.heap.size (rC f0) rfl rfl _ _ h4 rfl (iRf _) (rC_one _) ?_; intro w5 hg5 hs5 h5; clear hs5; have hB5 := hB4.trans (below_of_grown hg5 hB3.size hB4.size); replace h2 := h2.grown hg5 (fun e => by have := Option.some.inj e; omega); replace h3 := h3.grown hg5 (fun e => by have := Option.some.inj e; omega); have c20 := (h2.cell 0).trans (rdC_g0 m x y); have c22 := (h2.cell 2).trans (rdC_g2 m x y); have c25 := (h2.cell 5).trans g5; have c30 := (h3.cell 0).trans g0; have c31 := (h3.cell 1).trans (chC_g1 c); have c32 := (h3.cell 2).trans (chC_g2 c); have c33 := (h3.cell 3).trans (chC_g3 c); have c34 := (h3.cell 4).trans (chC_g4 c); have c51 := (h5.cell 1).trans (rC_g1 f0); clear hw1 hw2 hw3 hw4 hg5)))
            go_ret
            exact ⟨rfl, hB5⟩
          | true =>
            cases same with
            | true =>
              rw [hk] at g0 ⊢
              have hE : whyB false true true 2 true true c.n f0.s.length c.s.length m.room (usedR m.now) = 1 := by simp [whyB]
              rw [hE]
              clear hE
              go_enter Try.func53, Try.ntmps53
              go_wp2_with (first | (go_at_call 25; first | (refine (HN _).mono ?_; rintro e w6 ⟨rfl, hw6⟩; have hw6 := hw6.symm; subst hw6; clear HN) | (refine (HT _).mono ?_; rintro e w6 ⟨rfl, hw6⟩; have hw6 := hw6.symm; subst hw6; clear HT)) | (go_at_call 17; refine (HF _ hB2).mono ?_; rintro e w3 ⟨rfl, hw3⟩; clear HF c20 c31; have hB3 := hB2.trans (hw3.mono hB2.size); have l3 := h3.lt; replace h2 := h2.belowSize hw3; replace h3 := h3.belowSize hw3) | (with_reducible refine at_list ?_; first | (refine wpList_boxRow (op := ⟨some 2, _, _, _, _, _⟩) rfl _ _ rfl _ rfl ?_; intro w1 hw1 hs1 h2; clear hs1) | (refine wpList_boxRow (op := ⟨some 3, _, _, _, _, _⟩) rfl _ _ rfl _ rfl ?_; intro w2 hw2 hs2 h3; clear hs2; have hB2 := hw1.trans (hw2.mono hw1.size); have l2 := h2.lt; replace h2 := h2.belowSize hw2; have c20 := (h2.cell 0).trans (rdC_g0 m x y); have c31 := (h3.cell 1).trans (chC_g1 c)) | (refine wpList_allocRow (op := ⟨some 5, _, _, _, _, _⟩) rfl _ rfl _ zRf.1 ?_; intro w4 hw4 hs4 h4; clear hs4; have hB4 := hB3.trans (hw4.mono hB3.size); have l23 := h2.lt; have l33 := h3.lt; replace h2 := h2.belowSize hw4; replace h3 := h3.belowSize hw4) | (refine wpList_storeRow (op := ⟨none, .store 49 (.tmp 5) (.tmp 14), _, _, _, _⟩) rfl _ _ _ rfl w3.heap.size (rC f0) rfl rfl _ _ h4 rfl (iRf _) (rC_one _) ?_; intro w5 hg5 hs5 h5; clear hs5; have hB5 := hB4.trans (below_of_grown hg5 hB3.size hB4.size); replace h2 := h2.grown hg5 (fun e => by have := Option.some.inj e; omega); replace h3 := h3.grown hg5 (fun e => by have := Option.some.inj e; omega); have c20 := (h2.cell 0).trans (rdC_g0 m x y); have c22 := (h2.cell 2).trans (rdC_g2 m x y); have c25 := (h2.cell 5).trans g5; have c30 := (h3.cell 0).trans g0; have c31 := (h3.cell 1).trans (chC_g1 c); have c32 := (h3.cell 2).trans (chC_g2 c); have c33 := (h3.cell 3).trans (chC_g3 c); have c34 := (h3.cell 4).trans (chC_g4 c); have c51 := (h5.cell 1).trans (rC_g1 f0); clear hw1 hw2 hw3 hw4 hg5)))
              go_ret
              exact ⟨rfl, hB5⟩
            | false =>
              rw [hk] at g0 ⊢
              have hE : whyB false true true 2 true false c.n f0.s.length c.s.length m.room (usedR m.now) = 0 := by simp [whyB]
              rw [hE]
              clear hE
              go_enter Try.func53, Try.ntmps53
              go_wp2_with (first | (go_at_call 25; first | (refine (HN _).mono ?_; rintro e w6 ⟨rfl, hw6⟩; have hw6 := hw6.symm; subst hw6; clear HN) | (refine (HT _).mono ?_; rintro e w6 ⟨rfl, hw6⟩; have hw6 := hw6.symm; subst hw6; clear HT)) | (go_at_call 17; refine (HF _ hB2).mono ?_; rintro e w3 ⟨rfl, hw3⟩; clear HF c20 c31; have hB3 := hB2.trans (hw3.mono hB2.size); have l3 := h3.lt; replace h2 := h2.belowSize hw3; replace h3 := h3.belowSize hw3) | (with_reducible refine at_list ?_; first | (refine wpList_boxRow (op := ⟨some 2, _, _, _, _, _⟩) rfl _ _ rfl _ rfl ?_; intro w1 hw1 hs1 h2; clear hs1) | (refine wpList_boxRow (op := ⟨some 3, _, _, _, _, _⟩) rfl _ _ rfl _ rfl ?_; intro w2 hw2 hs2 h3; clear hs2; have hB2 := hw1.trans (hw2.mono hw1.size); have l2 := h2.lt; replace h2 := h2.belowSize hw2; have c20 := (h2.cell 0).trans (rdC_g0 m x y); have c31 := (h3.cell 1).trans (chC_g1 c)) | (refine wpList_allocRow (op := ⟨some 5, _, _, _, _, _⟩) rfl _ rfl _ zRf.1 ?_; intro w4 hw4 hs4 h4; clear hs4; have hB4 := hB3.trans (hw4.mono hB3.size); have l23 := h2.lt; have l33 := h3.lt; replace h2 := h2.belowSize hw4; replace h3 := h3.belowSize hw4) | (refine wpList_storeRow (op := ⟨none, .store 49 (.tmp 5) (.tmp 14), _, _, _, _⟩) rfl _ _ _ rfl w3.heap.size (rC f0) rfl rfl _ _ h4 rfl (iRf _) (rC_one _) ?_; intro w5 hg5 hs5 h5; clear hs5; have hB5 := hB4.trans (below_of_grown hg5 hB3.size hB4.size); replace h2 := h2.grown hg5 (fun e => by have := Option.some.inj e; omega); replace h3 := h3.grown hg5 (fun e => by have := Option.some.inj e; omega); have c20 := (h2.cell 0).trans (rdC_g0 m x y); have c22 := (h2.cell 2).trans (rdC_g2 m x y); have c25 := (h2.cell 5).trans g5; have c30 := (h3.cell 0).trans g0; have c31 := (h3.cell 1).trans (chC_g1 c); have c32 := (h3.cell 2).trans (chC_g2 c); have c33 := (h3.cell 3).trans (chC_g3 c); have c34 := (h3.cell 4).trans (chC_g4 c); have c51 := (h5.cell 1).trans (rC_g1 f0); clear hw1 hw2 hw3 hw4 hg5)))
              go_region
              go_wp2_with fail
              go_ret
              exact ⟨rfl, hB5.drew⟩
      · cases b0 with
        | false =>
          rw [hk] at g0 ⊢
          have hE : whyB false true false 3 okt same c.n f0.s.length c.s.length m.room (usedR m.now) = 2 := by simp [whyB]
          rw [hE]
          clear hE
          go_enter Try.func53, Try.ntmps53
          go_wp2_with (first | (go_at_call 25; first | (refine (HN _).mono ?_; rintro e w6 ⟨rfl, hw6⟩; have hw6 := hw6.symm; subst hw6; clear HN) | (refine (HT _).mono ?_; rintro e w6 ⟨rfl, hw6⟩; have hw6 := hw6.symm; subst hw6; clear HT)) | (go_at_call 17; refine (HF _ hB2).mono ?_; rintro e w3 ⟨rfl, hw3⟩; clear HF c20 c31; have hB3 := hB2.trans (hw3.mono hB2.size); have l3 := h3.lt; replace h2 := h2.belowSize hw3; replace h3 := h3.belowSize hw3) | (with_reducible refine at_list ?_; first | (refine wpList_boxRow (op := ⟨some 2, _, _, _, _, _⟩) rfl _ _ rfl _ rfl ?_; intro w1 hw1 hs1 h2; clear hs1) | (refine wpList_boxRow (op := ⟨some 3, _, _, _, _, _⟩) rfl _ _ rfl _ rfl ?_; intro w2 hw2 hs2 h3; clear hs2; have hB2 := hw1.trans (hw2.mono hw1.size); have l2 := h2.lt; replace h2 := h2.belowSize hw2; have c20 := (h2.cell 0).trans (rdC_g0 m x y); have c31 := (h3.cell 1).trans (chC_g1 c)) | (refine wpList_allocRow (op := ⟨some 5, _, _, _, _, _⟩) rfl _ rfl _ zRf.1 ?_; intro w4 hw4 hs4 h4; clear hs4; have hB4 := hB3.trans (hw4.mono hB3.size); have l23 := h2.lt; have l33 := h3.lt; replace h2 := h2.belowSize hw4; replace h3 := h3.belowSize hw4) | (refine wpList_storeRow (op := ⟨none, .store 49 (.tmp 5) (.tmp 14), _, _, _, _⟩) rfl _ _ _ rfl w3.heap.size (rC f0) rfl rfl _ _ h4 rfl (iRf _) (rC_one _) ?_; intro w5 hg5 hs5 h5; clear hs5; have hB5 := hB4.trans (below_of_grown hg5 hB3.size hB4.size); replace h2 := h2.grown hg5 (fun e => by have := Option.some.inj e; omega); replace h3 := h3.grown hg5 (fun e => by have := Option.some.inj e; omega); have c20 := (h2.cell 0).trans (rdC_g0 m x y); have c22 := (h2.cell 2).trans (rdC_g2 m x y); have c25 := (h2.cell 5).trans g5; have c30 := (h3.cell 0).trans g0; have c31 := (h3.cell 1).trans (chC_g1 c); have c32 := (h3.cell 2).trans (chC_g2 c); have c33 := (h3.cell 3).trans (chC_g3 c); have c34 := (h3.cell 4).trans (chC_g4 c); have c51 := (h5.cell 1).trans (rC_g1 f0); clear hw1 hw2 hw3 hw4 hg5)))
          go_ret
          exact ⟨rfl, hB5⟩
        | true =>
          rw [hk] at g0 ⊢
          have hE : whyB false true true 3 okt same c.n f0.s.length c.s.length m.room (usedR m.now) = 0 := by simp [whyB]
          rw [hE]
          clear hE
          go_enter Try.func53, Try.ntmps53
          go_wp2_with (first | (go_at_call 25; first | (refine (HN _).mono ?_; rintro e w6 ⟨rfl, hw6⟩; have hw6 := hw6.symm; subst hw6; clear HN) | (refine (HT _).mono ?_; rintro e w6 ⟨rfl, hw6⟩; have hw6 := hw6.symm; subst hw6; clear HT)) | (go_at_call 17; refine (HF _ hB2).mono ?_; rintro e w3 ⟨rfl, hw3⟩; clear HF c20 c31; have hB3 := hB2.trans (hw3.mono hB2.size); have l3 := h3.lt; replace h2 := h2.belowSize hw3; replace h3 := h3.belowSize hw3) | (with_reducible refine at_list ?_; first | (refine wpList_boxRow (op := ⟨some 2, _, _, _, _, _⟩) rfl _ _ rfl _ rfl ?_; intro w1 hw1 hs1 h2; clear hs1) | (refine wpList_boxRow (op := ⟨some 3, _, _, _, _, _⟩) rfl _ _ rfl _ rfl ?_; intro w2 hw2 hs2 h3; clear hs2; have hB2 := hw1.trans (hw2.mono hw1.size); have l2 := h2.lt; replace h2 := h2.belowSize hw2; have c20 := (h2.cell 0).trans (rdC_g0 m x y); have c31 := (h3.cell 1).trans (chC_g1 c)) | (refine wpList_allocRow (op := ⟨some 5, _, _, _, _, _⟩) rfl _ rfl _ zRf.1 ?_; intro w4 hw4 hs4 h4; clear hs4; have hB4 := hB3.trans (hw4.mono hB3.size); have l23 := h2.lt; have l33 := h3.lt; replace h2 := h2.belowSize hw4; replace h3 := h3.belowSize hw4) | (refine wpList_storeRow (op := ⟨none, .store 49 (.tmp 5) (.tmp 14), _, _, _, _⟩) rfl _ _ _ rfl w3.heap.size (rC f0) rfl rfl _ _ h4 rfl (iRf _) (rC_one _) ?_; intro w5 hg5 hs5 h5; clear hs5; have hB5 := hB4.trans (below_of_grown hg5 hB3.size hB4.size); replace h2 := h2.grown hg5 (fun e => by have := Option.some.inj e; omega); replace h3 := h3.grown hg5 (fun e => by have := Option.some.inj e; omega); have c20 := (h2.cell 0).trans (rdC_g0 m x y); have c22 := (h2.cell 2).trans (rdC_g2 m x y); have c25 := (h2.cell 5).trans g5; have c30 := (h3.cell 0).trans g0; have c31 := (h3.cell 1).trans (chC_g1 c); have c32 := (h3.cell 2).trans (chC_g2 c); have c33 := (h3.cell 3).trans (chC_g3 c); have c34 := (h3.cell 4).trans (chC_g4 c); have c51 := (h5.cell 1).trans (rC_g1 f0); clear hw1 hw2 hw3 hw4 hg5)))
          go_region
          go_wp2_with fail
          go_ret
          exact ⟨rfl, hB5.drew⟩
      · cases b0 with
        | false =>
          rw [hk] at g0 ⊢
          have hE : whyB false true false 4 okt same c.n f0.s.length c.s.length m.room (usedR m.now) = 2 := by simp [whyB]
          rw [hE]
          clear hE
          go_enter Try.func53, Try.ntmps53
          go_wp2_with (first | (go_at_call 25; first | (refine (HN _).mono ?_; rintro e w6 ⟨rfl, hw6⟩; have hw6 := hw6.symm; subst hw6; clear HN) | (refine (HT _).mono ?_; rintro e w6 ⟨rfl, hw6⟩; have hw6 := hw6.symm; subst hw6; clear HT)) | (go_at_call 17; refine (HF _ hB2).mono ?_; rintro e w3 ⟨rfl, hw3⟩; clear HF c20 c31; have hB3 := hB2.trans (hw3.mono hB2.size); have l3 := h3.lt; replace h2 := h2.belowSize hw3; replace h3 := h3.belowSize hw3) | (with_reducible refine at_list ?_; first | (refine wpList_boxRow (op := ⟨some 2, _, _, _, _, _⟩) rfl _ _ rfl _ rfl ?_; intro w1 hw1 hs1 h2; clear hs1) | (refine wpList_boxRow (op := ⟨some 3, _, _, _, _, _⟩) rfl _ _ rfl _ rfl ?_; intro w2 hw2 hs2 h3; clear hs2; have hB2 := hw1.trans (hw2.mono hw1.size); have l2 := h2.lt; replace h2 := h2.belowSize hw2; have c20 := (h2.cell 0).trans (rdC_g0 m x y); have c31 := (h3.cell 1).trans (chC_g1 c)) | (refine wpList_allocRow (op := ⟨some 5, _, _, _, _, _⟩) rfl _ rfl _ zRf.1 ?_; intro w4 hw4 hs4 h4; clear hs4; have hB4 := hB3.trans (hw4.mono hB3.size); have l23 := h2.lt; have l33 := h3.lt; replace h2 := h2.belowSize hw4; replace h3 := h3.belowSize hw4) | (refine wpList_storeRow (op := ⟨none, .store 49 (.tmp 5) (.tmp 14), _, _, _, _⟩) rfl _ _ _ rfl w3.heap.size (rC f0) rfl rfl _ _ h4 rfl (iRf _) (rC_one _) ?_; intro w5 hg5 hs5 h5; clear hs5; have hB5 := hB4.trans (below_of_grown hg5 hB3.size hB4.size); replace h2 := h2.grown hg5 (fun e => by have := Option.some.inj e; omega); replace h3 := h3.grown hg5 (fun e => by have := Option.some.inj e; omega); have c20 := (h2.cell 0).trans (rdC_g0 m x y); have c22 := (h2.cell 2).trans (rdC_g2 m x y); have c25 := (h2.cell 5).trans g5; have c30 := (h3.cell 0).trans g0; have c31 := (h3.cell 1).trans (chC_g1 c); have c32 := (h3.cell 2).trans (chC_g2 c); have c33 := (h3.cell 3).trans (chC_g3 c); have c34 := (h3.cell 4).trans (chC_g4 c); have c51 := (h5.cell 1).trans (rC_g1 f0); clear hw1 hw2 hw3 hw4 hg5)))
          go_ret
          exact ⟨rfl, hB5⟩
        | true =>
          by_cases q1 : c.n < 0
          · rw [hk] at g0 ⊢
            have hE : whyB false true true 4 okt same c.n f0.s.length c.s.length m.room (usedR m.now) = 1 := by simp [whyB, q1]
            rw [hE]
            clear hE
            go_enter Try.func53, Try.ntmps53
            go_wp2_with (first | (go_at_call 25; first | (refine (HN _).mono ?_; rintro e w6 ⟨rfl, hw6⟩; have hw6 := hw6.symm; subst hw6; clear HN) | (refine (HT _).mono ?_; rintro e w6 ⟨rfl, hw6⟩; have hw6 := hw6.symm; subst hw6; clear HT)) | (go_at_call 17; refine (HF _ hB2).mono ?_; rintro e w3 ⟨rfl, hw3⟩; clear HF c20 c31; have hB3 := hB2.trans (hw3.mono hB2.size); have l3 := h3.lt; replace h2 := h2.belowSize hw3; replace h3 := h3.belowSize hw3) | (with_reducible refine at_list ?_; first | (refine wpList_boxRow (op := ⟨some 2, _, _, _, _, _⟩) rfl _ _ rfl _ rfl ?_; intro w1 hw1 hs1 h2; clear hs1) | (refine wpList_boxRow (op := ⟨some 3, _, _, _, _, _⟩) rfl _ _ rfl _ rfl ?_; intro w2 hw2 hs2 h3; clear hs2; have hB2 := hw1.trans (hw2.mono hw1.size); have l2 := h2.lt; replace h2 := h2.belowSize hw2; have c20 := (h2.cell 0).trans (rdC_g0 m x y); have c31 := (h3.cell 1).trans (chC_g1 c)) | (refine wpList_allocRow (op := ⟨some 5, _, _, _, _, _⟩) rfl _ rfl _ zRf.1 ?_; intro w4 hw4 hs4 h4; clear hs4; have hB4 := hB3.trans (hw4.mono hB3.size); have l23 := h2.lt; have l33 := h3.lt; replace h2 := h2.belowSize hw4; replace h3 := h3.belowSize hw4) | (refine wpList_storeRow (op := ⟨none, .store 49 (.tmp 5) (.tmp 14), _, _, _, _⟩) rfl _ _ _ rfl w3.heap.size (rC f0) rfl rfl _ _ h4 rfl (iRf _) (rC_one _) ?_; intro w5 hg5 hs5 h5; clear hs5; have hB5 := hB4.trans (below_of_grown hg5 hB3.size hB4.size); replace h2 := h2.grown hg5 (fun e => by have := Option.some.inj e; omega); replace h3 := h3.grown hg5 (fun e => by have := Option.some.inj e; omega); have c20 := (h2.cell 0).trans (rdC_g0 m x y); have c22 := (h2.cell 2).trans (rdC_g2 m x y); have c25 := (h2.cell 5).trans g5; have c30 := (h3.cell 0).trans g0; have c31 := (h3.cell 1).trans (chC_g1 c); have c32 := (h3.cell 2).trans (chC_g2 c); have c33 := (h3.cell 3).trans (chC_g3 c); have c34 := (h3.cell 4).trans (chC_g4 c); have c51 := (h5.cell 1).trans (rC_g1 f0); clear hw1 hw2 hw3 hw4 hg5)))
            go_ret
            exact ⟨rfl, hB5⟩
          · by_cases q2 : (f0.s.length : Int) < c.n
            · rw [hk] at g0 ⊢
              have hE : whyB false true true 4 okt same c.n f0.s.length c.s.length m.room (usedR m.now) = 1 := by simp [whyB, q1, q2]
              rw [hE]
              clear hE
              go_enter Try.func53, Try.ntmps53
              go_wp2_with (first | (go_at_call 25; first | (refine (HN _).mono ?_; rintro e w6 ⟨rfl, hw6⟩; have hw6 := hw6.symm; subst hw6; clear HN) | (refine (HT _).mono ?_; rintro e w6 ⟨rfl, hw6⟩; have hw6 := hw6.symm; subst hw6; clear HT)) | (go_at_call 17; refine (HF _ hB2).mono ?_; rintro e w3 ⟨rfl, hw3⟩; clear HF c20 c31; have hB3 := hB2.trans (hw3.mono hB2.size); have l3 := h3.lt; replace h2 := h2.belowSize hw3; replace h3 := h3.belowSize hw3) | (with_reducible refine at_list ?_; first | (refine wpList_boxRow (op := ⟨some 2, _, _, _, _, _⟩) rfl _ _ rfl _ rfl ?_; intro w1 hw1 hs1 h2; clear hs1) | (refine wpList_boxRow (op := ⟨some 3, _, _, _, _, _⟩) rfl _ _ rfl _ rfl ?_; intro w2 hw2 hs2 h3; clear hs2; have hB2 := hw1.trans (hw2.mono hw1.size); have l2 := h2.lt; replace h2 := h2.belowSize hw2; have c20 := (h2.cell 0).trans (rdC_g0 m x y); have c31 := (h3.cell 1).trans (chC_g1 c)) | (refine wpList_allocRow (op := ⟨some 5, _, _, _, _, _⟩) rfl _ rfl _ zRf.1 ?_; intro w4 hw4 hs4 h4; clear hs4; have hB4 := hB3.trans (hw4.mono hB3.size); have l23 := h2.lt; have l33 := h3.lt; replace h2 := h2.belowSize hw4; replace h3 := h3.belowSize hw4) | (refine wpList_storeRow (op := ⟨none, .store 49 (.tmp 5) (.tmp 14), _, _, _, _⟩) rfl _ _ _ rfl w3.heap.size (rC f0) rfl rfl _ _ h4 rfl (iRf _) (rC_one _) ?_; intro w5 hg5 hs5 h5; clear hs5; have hB5 := hB4.trans (below_of_grown hg5 hB3.size hB4.size); replace h2 := h2.grown hg5 (fun e => by have := Option.some.inj e; omega); replace h3 := h3.grown hg5 (fun e => by have := Option.some.inj e; omega); have c20 := (h2.cell 0).trans (rdC_g0 m x y); have c22 := (h2.cell 2).trans (rdC_g2 m x y); have c25 := (h2.cell 5).trans g5; have c30 := (h3.cell 0).trans g0; have c31 := (h3.cell 1).trans (chC_g1 c); have c32 := (h3.cell 2).trans (chC_g2 c); have c33 := (h3.cell 3).trans (chC_g3 c); have c34 := (h3.cell 4).trans (chC_g4 c); have c51 := (h5.cell 1).trans (rC_g1 f0); clear hw1 hw2 hw3 hw4 hg5)))
              go_ret
              exact ⟨rfl, hB5⟩
            · rw [hk] at g0 ⊢
              have hE : whyB false true true 4 okt same c.n f0.s.length c.s.length m.room (usedR m.now) = 0 := by simp [whyB, q1, q2]
              rw [hE]
              clear hE
              go_enter Try.func53, Try.ntmps53
              go_wp2_with (first | (go_at_call 25; first | (refine (HN _).mono ?_; rintro e w6 ⟨rfl, hw6⟩; have hw6 := hw6.symm; subst hw6; clear HN) | (refine (HT _).mono ?_; rintro e w6 ⟨rfl, hw6⟩; have hw6 := hw6.symm; subst hw6; clear HT)) | (go_at_call 17; refine (HF _ hB2).mono ?_; rintro e w3 ⟨rfl, hw3⟩; clear HF c20 c31; have hB3 := hB2.trans (hw3.mono hB2.size); have l3 := h3.lt; replace h2 := h2.belowSize hw3; replace h3 := h3.belowSize hw3) | (with_reducible refine at_list ?_; first | (refine wpList_boxRow (op := ⟨some 2, _, _, _, _, _⟩) rfl _ _ rfl _ rfl ?_; intro w1 hw1 hs1 h2; clear hs1) | (refine wpList_boxRow (op := ⟨some 3, _, _, _, _, _⟩) rfl _ _ rfl _ rfl ?_; intro w2 hw2 hs2 h3; clear hs2; have hB2 := hw1.trans (hw2.mono hw1.size); have l2 := h2.lt; replace h2 := h2.belowSize hw2; have c20 := (h2.cell 0).trans (rdC_g0 m x y); have c31 := (h3.cell 1).trans (chC_g1 c)) | (refine wpList_allocRow (op := ⟨some 5, _, _, _, _, _⟩) rfl _ rfl _ zRf.1 ?_; intro w4 hw4 hs4 h4; clear hs4; have hB4 := hB3.trans (hw4.mono hB3.size); have l23 := h2.lt; have l33 := h3.lt; replace h2 := h2.belowSize hw4; replace h3 := h3.belowSize hw4) | (refine wpList_storeRow (op := ⟨none, .store 49 (.tmp 5) (.tmp 14), _, _, _, _⟩) rfl _ _ _ rfl w3.heap.size (rC f0) rfl rfl _ _ h4 rfl (iRf _) (rC_one _) ?_; intro w5 hg5 hs5 h5; clear hs5; have hB5 := hB4.trans (below_of_grown hg5 hB3.size hB4.size); replace h2 := h2.grown hg5 (fun e => by have := Option.some.inj e; omega); replace h3 := h3.grown hg5 (fun e => by have := Option.some.inj e; omega); have c20 := (h2.cell 0).trans (rdC_g0 m x y); have c22 := (h2.cell 2).trans (rdC_g2 m x y); have c25 := (h2.cell 5).trans g5; have c30 := (h3.cell 0).trans g0; have c31 := (h3.cell 1).trans (chC_g1 c); have c32 := (h3.cell 2).trans (chC_g2 c); have c33 := (h3.cell 3).trans (chC_g3 c); have c34 := (h3.cell 4).trans (chC_g4 c); have c51 := (h5.cell 1).trans (rC_g1 f0); clear hw1 hw2 hw3 hw4 hg5)))
              go_region
              go_wp2_with fail
              go_ret
              exact ⟨rfl, hB5.drew⟩
end Go.Proofs.Ytgkkpmliociieaa
