/- TreeTurns tells true. -/
import Derived.Test.YtfohcgjkihaepaaDoorAwk
import Derived.Test.YtfohcgjkihaepaaDoorFwl
import Derived.Test.YtfohcgjkihaepaaDoorSWi
namespace Go.Proofs.YtfohcgjkihaepaaDoor.Sh
open Go Go.RowKit
theorem SS.le {w : World} {g cap : Nat} {l : List (List UInt8)} (h : SS w g cap l) : l.length ≤ cap := by
  obtain ⟨_, _, _, h2, _⟩ := h.out
  exact h2
/-- Two lists lie in memory. -/
structure Two (w : World) (ga ca : Nat) (A : List (List UInt8)) (gb cb : Nat) (B : List (List UInt8)) (w1 : World) : Prop where
  bel : Below w.heap.size w w1
  sa : SS w1 ga ca A
  sb : SS w1 gb cb B
theorem Two.to {w w1 w2 : World} {ga ca gb cb : Nat} {A B : List (List UInt8)} (h : Two w ga ca A gb cb B w1) (hb : Below w1.heap.size w1 w2) : Two w ga ca A gb cb B w2 :=
  ⟨h.bel.trans (hb.mono h.bel.size), h.sa.belowSize hb, h.sb.belowSize hb⟩
theorem few_small (x : List (List UInt8)) : ∀ y ∈ fewD x, y.length ≤ 1000 := fun y hy => by
  have := fewD_each hy
  omega
theorem root_ss {w : World} {g c : Nat} {A : List (List UInt8)} (hS : SS w g c A) (hl : A.length ≤ 100) (hs : ∀ y ∈ A, y.length ≤ 1000) (hG : Glob w) :
    Calls Tryd.prog 9 #[.slice (some ⟨g, 0, none⟩) A.length c] w fun e w' => e = .returned (.string ⟨(rootD digest A).toArray⟩) ∧ Below w.heap.size w w' :=
  troot_of A.length A (some ⟨g, 0, none⟩) c w rfl hS.xa hS.le hl hs hG
theorem rroot_ss {w : World} {g c : Nat} {A : List (List UInt8)} (hS : SS w g c A) (hl : A.length ≤ 100) (hs : ∀ y ∈ A, y.length ≤ 1000) :
    Calls Tryd.prog 12 #[.slice (some ⟨g, 0, none⟩) A.length c] w fun e w' => e = .returned (.string ⟨(rootD digest A).toArray⟩) ∧ Below w.heap.size w w' :=
  rroot_of rsum_any A.length A (some ⟨g, 0, none⟩) c w rfl hS.xa hS.le (by omega) hs
set_option maxRecDepth 100000 in
set_option maxHeartbeats 1000000 in
theorem treeTurns_any (x y : List (List UInt8)) (ax ay : Option Addr) (cx cy : Nat) (w : World) (hG : Glob w) (hX : XA w ax x) (hY : XA w ay y) :
    Calls Tryd.prog 5 #[.slice ax x.length cx, .slice ay y.length cy] w fun e w' => e = .returned (.bool true) ∧ Below w.heap.size w w' := by
  have HF1 := few_any x ax cx w hX
  have HF2 := fun w1 (h : Below w.heap.size w w1) => few_any y ay cy w1 (hY.below h)
  have la := fewD_len x
  have lb := fewD_len y
  have HA := fun w1 g c (h : SS w1 g c (fewD x)) (hb : Below w.heap.size w w1) => root_ss h (by omega) (few_small x) (hG.belowSize hb)
  have HB := fun w1 g c (h : SS w1 g c (fewD y)) (hb : Below w.heap.size w w1) => root_ss h (by omega) (few_small y) (hG.belowSize hb)
  have HA2 := fun w1 g c (h : SS w1 g c (fewD x)) => rroot_ss h (by omega) (few_small x)
  have HB2 := fun w1 g c (h : SS w1 g c (fewD y)) => rroot_ss h (by omega) (few_small y)
  have HW := fun w1 (hb : Below w.heap.size w w1) => awake_any w1 (hG.belowSize hb)
  have HS := fun w1 ga ca gb cb (h1 : SS w1 ga ca (fewD x)) (h2 : SS w1 gb cb (fewD y)) => same_list (fewD x) (fewD y) (some ⟨ga, 0, none⟩) (some ⟨gb, 0, none⟩) ca cb w1 h1.xa h2.xa (by omega)
  have hE : Hid (fewD x = fewD y → (rootD digest (fewD x) == rootD digest (fewD y)) = true) := fun h => by rw [h]; exact beq_self_eq_true _
  generalize fewD x = A at *
  generalize fewD y = B at *
  generalize rootD digest A = rA at *
  generalize rootD digest B = rB at *
  clear hX hY hG
  obtain ⟨s, hs⟩ : ∃ s : Bool, s = decide (A = B) := ⟨_, rfl⟩
  rw [← hs] at HS
  have hq : s = true → (rA == rB) = true := fun h => hE.out (by rw [hs] at h; exact of_decide_eq_true h)
  clear hs hE
  have f1 : True := trivial
  cases s
  · clear hq
    cases hc : (rA == rB)
    all_goals
      go_enter Tryd.func5, Tryd.ntmps5
      go_wp2_with (first
        | (go_at_call 8; clear f1; refine HF1.mono ?_; rintro e w1 ⟨ga, ca, rfl, hSa, hga, hw1⟩)
        | (go_at_call 8; refine (HF2 _ hw1).mono ?_; rintro e w2 ⟨gb, cb, rfl, hSb, hgb, hw2⟩; have T : Two w ga ca A gb cb B w2 := ⟨hw1.trans (hw2.mono hw1.size), hSa.belowSize hw2, hSb⟩)
        | (go_at_call 11; refine (HW _ T.bel).mono ?_; rintro e w3 ⟨rfl, hw3⟩; replace T := T.to hw3)
        | (go_at_call_of 9 (Value.slice (some ⟨ga, 0, none⟩) A.length ca); refine (HA _ _ _ T.sa T.bel).mono ?_; rintro e w4 ⟨rfl, hw4⟩; replace T := T.to hw4)
        | (go_at_call_of 9 (Value.slice (some ⟨gb, 0, none⟩) B.length cb); refine (HB _ _ _ T.sb T.bel).mono ?_; rintro e w5 ⟨rfl, hw5⟩; replace T := T.to hw5)
        | (go_at_call_of 12 (Value.slice (some ⟨ga, 0, none⟩) A.length ca); refine (HA2 _ _ _ T.sa).mono ?_; rintro e w6 ⟨rfl, hw6⟩; replace T := T.to hw6)
        | (go_at_call_of 12 (Value.slice (some ⟨gb, 0, none⟩) B.length cb); refine (HB2 _ _ _ T.sb).mono ?_; rintro e w7 ⟨rfl, hw7⟩; replace T := T.to hw7)
        | (go_at_call 14; refine (HS _ _ _ _ _ T.sa T.sb).mono ?_; rintro e w8 ⟨rfl, hw8⟩; replace T := T.to hw8))
      go_ret
      exact ⟨rfl, T.bel⟩
  · have hc := hq rfl
    clear hq
    go_enter Tryd.func5, Tryd.ntmps5
    go_wp2_with (first
      | (go_at_call 8; clear f1; refine HF1.mono ?_; rintro e w1 ⟨ga, ca, rfl, hSa, hga, hw1⟩)
      | (go_at_call 8; refine (HF2 _ hw1).mono ?_; rintro e w2 ⟨gb, cb, rfl, hSb, hgb, hw2⟩; have T : Two w ga ca A gb cb B w2 := ⟨hw1.trans (hw2.mono hw1.size), hSa.belowSize hw2, hSb⟩)
      | (go_at_call 11; refine (HW _ T.bel).mono ?_; rintro e w3 ⟨rfl, hw3⟩; replace T := T.to hw3)
      | (go_at_call_of 9 (Value.slice (some ⟨ga, 0, none⟩) A.length ca); refine (HA _ _ _ T.sa T.bel).mono ?_; rintro e w4 ⟨rfl, hw4⟩; replace T := T.to hw4)
      | (go_at_call_of 9 (Value.slice (some ⟨gb, 0, none⟩) B.length cb); refine (HB _ _ _ T.sb T.bel).mono ?_; rintro e w5 ⟨rfl, hw5⟩; replace T := T.to hw5)
      | (go_at_call_of 12 (Value.slice (some ⟨ga, 0, none⟩) A.length ca); refine (HA2 _ _ _ T.sa).mono ?_; rintro e w6 ⟨rfl, hw6⟩; replace T := T.to hw6)
      | (go_at_call_of 12 (Value.slice (some ⟨gb, 0, none⟩) B.length cb); refine (HB2 _ _ _ T.sb).mono ?_; rintro e w7 ⟨rfl, hw7⟩; replace T := T.to hw7)
      | (go_at_call 14; refine (HS _ _ _ _ _ T.sa T.sb).mono ?_; rintro e w8 ⟨rfl, hw8⟩; replace T := T.to hw8))
    go_ret
    exact ⟨rfl, T.bel⟩
end Go.Proofs.YtfohcgjkihaepaaDoor.Sh
