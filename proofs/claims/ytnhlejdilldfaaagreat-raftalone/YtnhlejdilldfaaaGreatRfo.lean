/- A replica follows; it commits what more than half have. -/
import Derived.Test.YtnhlejdilldfaaaGreatRmh
namespace Go.Proofs.YtnhlejdilldfaaaGreat
open Go Go.RowKit Go.Maps
theorem Bnd.upd {N N' : RN} (h : Bnd N) (h1 : N'.me = N.me) (h2 : 0 ≤ N'.k.term ∧ N'.k.term ≤ 1152921504606846976) (h3 : N'.k.bi = N.k.bi) (h4 : N'.k.bt = N.k.bt) (h5 : N'.k.base = N.k.base) (h6 : N'.k.bconf = N.k.bconf) (h7 : N'.k.log = N.k.log) (h8 : N'.keys = N.keys) (h9 : N'.k.bi ≤ N'.commit ∧ N'.commit ≤ N'.last) (h10 : N'.next = N.next) (h11 : N'.had = N.had) (h12 : N'.ends = N.ends) : Bnd N' :=
  ⟨by rw [h1]; exact h.me, h2, by rw [h3]; exact h.bi, by rw [h3, h7]; exact h.last, by rw [h4]; exact h.bt, by rw [h5]; exact h.base, by rw [h6]; exact h.bconf, by rw [h7]; exact h.log, by rw [h8]; exact h.keys, h9, by rw [h10]; exact h.next, by rw [h11]; exact h.had, by rw [h12]; exact h.ends⟩
section
variable (F : Nat → Prop) (nb : Nat) (M : NM) (lb : Option Nat) (w : World) (N : RN)
set_option maxRecDepth 100000 in
set_option maxHeartbeats 1000000 in
theorem follow_any (h : ND F nb M lb w N) (hb : Bnd N) (tm ld : Int) (ht : 0 ≤ tm ∧ tm ≤ 1152921504606846976) : Calls Tryz.prog 67 #[.pointer (some ⟨nb, 0, none⟩), .int .i64 tm, .int .i64 ld] w (DrP F nb M lb w (.tuple #[]) (N.follow tm ld)) := by
  have c1 := h.c1
  have c2 := h.c2
  have c8 := h.c8
  have c9 := h.c9
  have c14 := h.c14
  have f1 := h.frz 1
  have f2 := h.frz 2
  have f8 := h.frz 8
  have f9 := h.frz 9
  have f14 := h.frz 14
  by_cases hL : ld = -1
  · subst hL
    by_cases hB : N.role = 1
    · by_cases hA : tm > N.k.term
      · have hP := ((((h.p1 tm).p2 (-1)).p8 1).p9 (-1))
        have d1 : decide (tm > N.k.term) = true := decide_eq_true hA
        have d2 : (N.role == 1) = true := beq_iff_eq.2 hB
        have he : N.follow tm (-1) = ({ N with k := { N.k with term := tm, vote := -1 }, role := 1, leader := (-1), quiet := N.quiet } : RN) := by
          unfold RN.follow
          rw [if_pos hA]
          rw [if_pos ⟨hB, rfl⟩]; rfl
        rw [he]
        clear he
        clear hB
        go_enter Tryz.func67, Tryz.ntmps67
        go_wp2_with fail
        go_end0
        exact ⟨rfl, ((((Stp.refl.set _ _).set _ _).set _ _).set _ _), hP⟩
      · have hP := ((h.p8 1).p9 (-1))
        have d1 : decide (tm > N.k.term) = false := decide_eq_false hA
        have d2 : (N.role == 1) = true := beq_iff_eq.2 hB
        have he : N.follow tm (-1) = ({ N with k := N.k, role := 1, leader := (-1), quiet := N.quiet } : RN) := by
          unfold RN.follow
          rw [if_neg hA]
          rw [if_pos ⟨hB, rfl⟩]; rfl
        rw [he]
        clear he
        clear hB
        go_enter Tryz.func67, Tryz.ntmps67
        go_wp2_with fail
        go_end0
        exact ⟨rfl, ((Stp.refl.set _ _).set _ _), hP⟩
    · by_cases hA : tm > N.k.term
      · have hP := ((((h.p1 tm).p2 (-1)).p8 1).p9 (-1))
        have d1 : decide (tm > N.k.term) = true := decide_eq_true hA
        have d2 : (N.role == 1) = false := beq_eq_false_iff_ne.2 hB
        have HD := begin_any F nb M lb _ _ hP (hb.upd rfl ht rfl rfl rfl rfl rfl rfl hb.commit rfl rfl rfl)
        have he : N.follow tm (-1) = ({ N with k := { N.k with term := tm, vote := -1 }, role := 1, leader := (-1), quiet := N.quiet } : RN).begin := by
          unfold RN.follow
          rw [if_pos hA]
          rw [if_neg (fun e => hB e.1)]; rfl
        rw [he]
        clear he
        clear hB
        go_enter Tryz.func67, Tryz.ntmps67
        go_wp2_with (go_at_call 62; refine HD.mono ?_; rintro e w1 ⟨rfl, hS1, hN1⟩; clear HD)
        go_end0
        exact ⟨rfl, ((((Stp.refl.set _ _).set _ _).set _ _).set _ _).trans hS1, hN1⟩
      · have hP := ((h.p8 1).p9 (-1))
        have d1 : decide (tm > N.k.term) = false := decide_eq_false hA
        have d2 : (N.role == 1) = false := beq_eq_false_iff_ne.2 hB
        have HD := begin_any F nb M lb _ _ hP (hb.upd rfl hb.term rfl rfl rfl rfl rfl rfl hb.commit rfl rfl rfl)
        have he : N.follow tm (-1) = ({ N with k := N.k, role := 1, leader := (-1), quiet := N.quiet } : RN).begin := by
          unfold RN.follow
          rw [if_neg hA]
          rw [if_neg (fun e => hB e.1)]; rfl
        rw [he]
        clear he
        clear hB
        go_enter Tryz.func67, Tryz.ntmps67
        go_wp2_with (go_at_call 62; refine HD.mono ?_; rintro e w1 ⟨rfl, hS1, hN1⟩; clear HD)
        go_end0
        exact ⟨rfl, ((Stp.refl.set _ _).set _ _).trans hS1, hN1⟩
  · by_cases hA : tm > N.k.term
    · have hP := (((((h.p1 tm).p2 (-1)).p8 1).p9 ld).p14 0)
      have d1 : decide (tm > N.k.term) = true := decide_eq_true hA
      have d3 : (ld == -1) = false := beq_eq_false_iff_ne.2 hL
      have d4 : (ld != -1) = true := bne_iff_ne.2 hL
      have HD := begin_any F nb M lb _ _ hP (hb.upd rfl ht rfl rfl rfl rfl rfl rfl hb.commit rfl rfl rfl)
      have he : N.follow tm ld = ({ N with k := { N.k with term := tm, vote := -1 }, role := 1, leader := ld, quiet := 0 } : RN).begin := by
        unfold RN.follow
        rw [if_pos hA]
        rw [if_neg (fun e => hL e.2), if_neg hL]
      rw [he]
      clear he
      by_cases hr : N.role = 1
      · have d2 : (N.role == 1) = true := beq_iff_eq.2 hr
        clear hr hL
        go_enter Tryz.func67, Tryz.ntmps67
        go_wp2_with (go_at_call 62; refine HD.mono ?_; rintro e w1 ⟨rfl, hS1, hN1⟩; clear HD)
        go_end0
        exact ⟨rfl, (((((Stp.refl.set _ _).set _ _).set _ _).set _ _).set _ _).trans hS1, hN1⟩
      · have d2 : (N.role == 1) = false := beq_eq_false_iff_ne.2 hr
        clear hr hL
        go_enter Tryz.func67, Tryz.ntmps67
        go_wp2_with (go_at_call 62; refine HD.mono ?_; rintro e w1 ⟨rfl, hS1, hN1⟩; clear HD)
        go_end0
        exact ⟨rfl, (((((Stp.refl.set _ _).set _ _).set _ _).set _ _).set _ _).trans hS1, hN1⟩
    · have hP := (((h.p8 1).p9 ld).p14 0)
      have d1 : decide (tm > N.k.term) = false := decide_eq_false hA
      have d3 : (ld == -1) = false := beq_eq_false_iff_ne.2 hL
      have d4 : (ld != -1) = true := bne_iff_ne.2 hL
      have HD := begin_any F nb M lb _ _ hP (hb.upd rfl hb.term rfl rfl rfl rfl rfl rfl hb.commit rfl rfl rfl)
      have he : N.follow tm ld = ({ N with k := N.k, role := 1, leader := ld, quiet := 0 } : RN).begin := by
        unfold RN.follow
        rw [if_neg hA]
        rw [if_neg (fun e => hL e.2), if_neg hL]
      rw [he]
      clear he
      by_cases hr : N.role = 1
      · have d2 : (N.role == 1) = true := beq_iff_eq.2 hr
        clear hr hL
        go_enter Tryz.func67, Tryz.ntmps67
        go_wp2_with (go_at_call 62; refine HD.mono ?_; rintro e w1 ⟨rfl, hS1, hN1⟩; clear HD)
        go_end0
        exact ⟨rfl, (((Stp.refl.set _ _).set _ _).set _ _).trans hS1, hN1⟩
      · have d2 : (N.role == 1) = false := beq_eq_false_iff_ne.2 hr
        clear hr hL
        go_enter Tryz.func67, Tryz.ntmps67
        go_wp2_with (go_at_call 62; refine HD.mono ?_; rintro e w1 ⟨rfl, hS1, hN1⟩; clear HD)
        go_end0
        exact ⟨rfl, (((Stp.refl.set _ _).set _ _).set _ _).trans hS1, hN1⟩
end
end Go.Proofs.YtnhlejdilldfaaaGreat
