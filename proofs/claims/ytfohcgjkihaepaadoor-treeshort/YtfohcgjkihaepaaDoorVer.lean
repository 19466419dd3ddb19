/- What Verify does. -/
import Derived.Test.YtfohcgjkihaepaaDoorClb
namespace Go.Proofs.YtfohcgjkihaepaaDoor.Sh
open Go Go.RowKit
theorem goodP_ys {n i : Int} {p : List (List UInt8)} (h : goodP n i p) : ∀ j, j < p.length → (p.getD j []).length = 32 := fun j hj => by
  rw [List.getD_eq_getElem?_getD, List.getElem?_eq_getElem hj]
  exact h.2.2.2 _ (List.getElem_mem hj)
theorem goodP_len {n i : Int} {p : List (List UInt8)} (h : goodP n i p) (hn : n ≤ 100) : p.length ≤ 7 := by
  rw [h.2.2.1]
  exact sides_short (by omega)
theorem topup_any (s : List UInt8) (i n : Int) (p : List (List UInt8)) (g c : Nat) (w : World) (hn : n ≤ 100) (hs : s.length ≤ 1000) (hG : Glob w) (h : goodP n i p) (hS : SS w g c (upL digest (sides n.toNat i.toNat) (0 :: s) p p.length)) :
    Calls Tryd.prog 26 #[.slice (some ⟨g, 0, none⟩) (p.length + 1) c] w fun e w' => e = .returned (.string ⟨(topD digest n i s p).toArray⟩) ∧ Below w.heap.size w w' := by
  have hl := goodP_len h hn
  have hxs := upT_small digest digest_length (sides n.toNat i.toNat) (0 :: s) p (by simp; omega) p.length (goodP_ys h)
  exact top_any (upL digest (sides n.toNat i.toNat) (0 :: s) p p.length) g 0 c p.length _ (upL_len _ _ _ _ _) w hS.xa (by rw [List.getElem?_eq_getElem (by rw [upL_len]; omega), upL_get]) (by omega) (by omega) hG
set_option maxRecDepth 100000 in
set_option maxHeartbeats 1000000 in
theorem verify_any (r s : List UInt8) (i n : Int) (p : List (List UInt8)) (a : Option Addr) (cap : Nat) (w : World) (hn : n ≤ 100) (hs : s.length ≤ 1000) (hX : XA w a p) (hG : Glob w) (b : Bool) (hb : b = true ↔ goodP n i p ∧ topD digest n i s p = r) :
    Calls Tryd.prog 13 #[.string ⟨r.toArray⟩, .string ⟨s.toArray⟩, .int .i64 i, .int .i64 n, .slice a p.length cap] w fun e w' => e = .returned (.bool b) ∧ Below w.heap.size w w' := by
  by_cases hg : goodP n i p
  · have HC := climb_good s i n p a cap w hn hs hX hG hg
    have HT := fun w1 g c (hw : Below w.heap.size w w1) (hS : SS w1 g c (upL digest (sides n.toNat i.toNat) (0 :: s) p p.length)) => topup_any s i n p g c w1 hn hs (hG.belowSize hw) hg hS
    have hT : (topD digest n i s p == r) = b := by
      rw [Bool.eq_iff_iff, beq_iff_eq, hb]
      exact ⟨fun h => ⟨hg, h⟩, fun h => h.2⟩
    generalize topD digest n i s p = t at *
    generalize upL digest (sides n.toNat i.toNat) (0 :: s) p p.length = us at *
    clear hb hg hX
    go_enter Tryd.func13, Tryd.ntmps13
    go_wp2_with (first
      | (go_at_call 25; refine HC.mono ?_; rintro e w1 ⟨g, c, rfl, hw1, hlo, hS1⟩)
      | (go_at_call 26; refine (HT _ _ _ hw1 hS1).mono ?_; rintro e w2 ⟨rfl, hw2⟩))
    go_ret
    exact ⟨rfl, hw1.trans (hw2.mono hw1.size)⟩
  · have HC := climb_bad s i n p a cap w hn hs hX hG hg
    have hbf : b = false := by
      rw [Bool.eq_false_iff]
      exact fun h => hg (hb.1 h).1
    subst hbf
    clear hb hg hX
    go_enter Tryd.func13, Tryd.ntmps13
    go_wp2_with (go_at_call 25; refine HC.mono ?_; rintro e w1 ⟨rfl, hw1⟩)
    go_ret
    exact ⟨rfl, hw1⟩
end Go.Proofs.YtfohcgjkihaepaaDoor.Sh
