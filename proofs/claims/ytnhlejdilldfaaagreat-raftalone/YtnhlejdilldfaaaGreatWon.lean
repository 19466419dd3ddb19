/- one: a replica alone loses its power and stands up. -/
import Derived.Test.YtnhlejdilldfaaaGreatWbg
namespace Go.Proofs.YtnhlejdilldfaaaGreat
open Go Go.RowKit Go.Maps
theorem LX.hard {X : Nat → Prop} {w w1 : World} {nb : Nat} {t v : Int} {L : List LE} (h : LX X w nb t v L w1) (ht : 0 ≤ t ∧ t ≤ 900) (hL : L.length ≤ 900) : Calls Tryz.prog 22 #[.pointer (some ⟨nb, 0, none⟩)] w1 fun e w2 => ∃ x c a c', e = .returned (.agg #[.int .i64 t, .int .i64 v, .int .i64 0, .int .i64 0, .string ⟨#[]⟩, .slice x 1 c, .slice a L.length c']) ∧ IA w2 x [0] ∧ EA w2 a L ∧ Below w1.heap.size w1 w2 := by
  obtain ⟨N, wt, tk, q, ⟨F, M, lb, _, _, _, hN, _⟩, ha⟩ := h
  have hb := ha.bnd (by omega) (by omega) (by omega)
  have hk := ha.k
  refine (hard_any F nb M lb w1 N hN hb).mono ?_
  rintro e w2 ⟨x, c, u, he, h1, h2, h3, h4⟩
  obtain ⟨a, c', rfl, _, hE, _⟩ := h4.sl
  rw [hk] at he h3 hE
  exact ⟨x, c, a, c', he, h3.ia, hE, h1⟩
theorem AX.commit0 {X : Nat → Prop} {w w1 : World} {nb : Nat} {t v : Int} {L : List LE} (h : AX X w nb t v L 0 0 w1) (_ht : 0 ≤ t) : Calls Tryz.prog 21 #[.pointer (some ⟨nb, 0, none⟩)] w1 fun e w2 => e = .returned (.int .i64 0) ∧ w2 = w1 := by
  obtain ⟨N, ⟨F, M, lb, _, _, _, hN, _⟩, hr⟩ := h
  have := commit_any F nb M lb w1 N hN
  rcases hr with ⟨h1, h2⟩ | ⟨h1, h2⟩
  · rw [h2.commit] at this
    exact this
  · omega
theorem AX.store {X : Nat → Prop} {w w1 : World} {nb : Nat} {t v c : Int} {L : List LE} {i : Nat} (h : AX X w nb t v L c i w1) {b : Nat} (hX : X b) (hb : w.heap.size ≤ b) (o : Nat) (u : Value) : AX X w nb t v L c i (w1.setCell ⟨b, o, none⟩ u) := by
  obtain ⟨N, hN, hr⟩ := h
  exact ⟨N, hN.store hX hb o u, hr⟩
section
variable (w0 w : World)
set_option maxRecDepth 100000 in
set_option maxHeartbeats 4000000 in
theorem one_down (wb lb hb nb : Nat) (t v : Int) (L : List LE) (h : WA w wb lb hb nb) (hL : LX (X3 wb lb hb) w0 nb t v L w) (hw : w0.heap.size ≤ wb ∧ w0.heap.size ≤ lb ∧ w0.heap.size ≤ hb) (ht : 0 ≤ t ∧ t ≤ 900) (hv : v = 0 ∨ v = -1) (hLl : L.length ≤ 900) : Calls Tryz.prog 32 #[.pointer (some ⟨wb, 0, none⟩), .agg #[.int .i64 10, .int .i64 0, .int .i64 0], .int .i64 0] w fun e w' => ∃ nb2, e = .returned (.bool true) ∧ WA w' wb lb hb nb2 ∧ AX (X3 wb lb hb) w0 nb2 t v L 0 0 w' := by
  obtain ⟨cl, ch, am, ml, lc, hc, hW, hcl, hch, hLb, hl0, hHb, hh0⟩ := h.out
  have hne := h.ne
  have hb1 := bl_al (Below.refl w.heap.size w) (.cells #[.int .i64 10, .int .i64 0, .int .i64 0] 68)
  have hX1 := Blk.new w #[.int .i64 10, .int .i64 0, .int .i64 0] 68
  have hW1 := hW.alloc (.cells #[.int .i64 10, .int .i64 0, .int .i64 0] 68)
  have hL1 := hLb.alloc (.cells #[.int .i64 10, .int .i64 0, .int .i64 0] 68)
  have hH1 := hHb.alloc (.cells #[.int .i64 10, .int .i64 0, .int .i64 0] 68)
  have hLX := hL.below hb1
  have hpl : ∀ e ∈ L, e.conf = false ∧ e.mem = [] := by
    obtain ⟨N, wt, tk, q, _, ha⟩ := hL
    exact ha.plain
  go_enter Tryz.func32, Tryz.ntmps32
  go_upto_region 1 with fail
  generalize w.alloc (.cells #[.int .i64 10, .int .i64 0, .int .i64 0] 68) = A at *
  have e0 := hX1.cell 0
  have e1 := hX1.cell 1
  have e2 := hX1.cell 2
  have v0 := hW1.cell 0
  have v1 := hW1.cell 1
  have v4 := hW1.cell 4
  have u0 : A.cell? ⟨lb, 0, none⟩ = some (.pointer (some ⟨nb, 0, none⟩)) := (hL1.cell 0).trans hl0
  go_quiet (fail)
  go_upto_region 7 with fail
  go_quiet (fail)
  go_upto_region 20 with fail
  have HLn := fun n => hLX.below (below_draws (Below.refl A.heap.size A) n)
  have HWn := fun n => hW1.drewN n
  have HPn := fun n => hL1.drewN n
  have HHn := fun n => hH1.drewN n
  have hltX := hLX.lt
  have hsz1 := hb1.size
  have HN := fun (W : World) (x : Option Addr) (c : Nat) (a : Option Addr) (c' : Nat) (h1 : IA W x [0]) (h2 : EA W a L) => new_any W 0 ⟨t, v, 0, 0, [], [0], L⟩ [] x a none c c' 0 (by
    unfold RN.newOk MSG.cnt
    rcases hv with rfl | rfl
    · simp; omega
    · simp; omega) (by
    have h : Al (RN.raw 0 ⟨t, v, 0, 0, [], [0], L⟩ []) t v L 0 1 (-1) 0 0 0 := ⟨rfl, rfl, rfl, rfl, rfl, rfl, rfl, rfl, rfl, fun _ => rfl, fun _ => rfl, fun _ => rfl, Nat.zero_le _, hpl⟩
    exact h.bnd (by omega) (by omega) (by omega)) h1 h2 rfl
  go_upto_region 23 with (first
    | (go_at_call 22; refine ((HLn _).hard ht hLl).mono ?_; rintro e w2 ⟨x, c, a, c', rfl, hI2, hE2, hb2⟩; have hb02 := (HLn _).base.trans (hb2.mono (HLn _).base.size); have hW2 := (HWn _).belowSize hb2; have hP2 := (HPn _).belowSize hb2; have hH2 := (HHn _).belowSize hb2)
    | (go_at_call 20; refine (HN _ x c a c' hI2 hE2).mono ?_; rintro e w4 hP; obtain ⟨nb2, rfl, hNX, hKx⟩ := hP.nx (X := X3 wb lb hb) hb02 (fun q hq => Nat.lt_of_lt_of_le (hltX q hq) hb2.size); clear HN))
  have hW4 : Blk w4 wb #[.slice (some ⟨lb, 0, none⟩) 1 cl, .slice none 0 0, .map am, .map ml, .slice (some ⟨hb, 0, none⟩) 1 ch] 63 := ⟨(hKx _ (.inl rfl)).trans hW2.out⟩
  have hP4 : Blk w4 lb lc 45 := ⟨(hKx _ (.inr (.inl rfl))).trans hP2.out⟩
  have hH4 : Blk w4 hb hc 3 := ⟨(hKx _ (.inr (.inr rfl))).trans hH2.out⟩
  have v0 := hW4.cell 0
  have u0 : w4.cell? ⟨lb, 0, none⟩ = some (.pointer (some ⟨nb, 0, none⟩)) := (hP4.cell 0).trans hl0
  have f0 := hP4.frozen 0
  go_upto_region 24 with fail
  have hW5 := hW4.setCell_other ⟨lb, 0, none⟩ hne.1 (.pointer (some ⟨nb2, 0, none⟩))
  have hP5 := hP4.setCell 0 (.pointer (some ⟨nb2, 0, none⟩))
  have hHb5 := hH4.setCell_other ⟨lb, 0, none⟩ hne.2.2.symm (.pointer (some ⟨nb2, 0, none⟩))
  have hNX5 := hNX.store (.inr (.inl rfl)) hw.2.1 0 (.pointer (some ⟨nb2, 0, none⟩))
  have hAX5 : AX (X3 wb lb hb) w0 nb2 t v L 0 0 _ := ⟨_, hNX5, Run.zero t v L hpl⟩
  clear v0 u0 f0 hNX5
  generalize w4.setCell ⟨lb, 0, none⟩ (.pointer (some ⟨nb2, 0, none⟩)) = w5 at *
  refine wp_region_held_drew (S := fun w' : World => Blk w' wb #[.slice (some ⟨lb, 0, none⟩) 1 cl, .slice none 0 0, .map am, .map ml, .slice (some ⟨hb, 0, none⟩) 1 ch] 63) (by kernel_rfl) (hW5.drew) (fun hH => ?_)
  try go_frame
  refine wpAnyH_take (i := 0) (oi := ⟨some 274, _, _, _, _, _⟩) (v := .pointer (some ⟨wb, 0, none⟩)) rfl (by kernel_rfl) (by kernel_rfl) (by kernel_rfl) (fun _ _ _ h => h) (Or.inl ⟨by rfl, fun w hSw => by go_simp⟩) hH ?_
  try simp only [Act.put, List.setIfInBounds_toArray, List.set_cons_zero, List.set_cons_succ]
  refine wpAnyH_take (i := 1) (oi := ⟨some 275, _, _, _, _, _⟩) (v := .pointer (some ⟨wb, 0, none⟩)) rfl (by kernel_rfl) (by kernel_rfl) (by kernel_rfl) (fun _ _ _ h => h) (Or.inl ⟨by rfl, fun w hSw => by go_simp⟩) hH ?_
  try simp only [Act.put, List.setIfInBounds_toArray, List.set_cons_zero, List.set_cons_succ]
  refine wpAnyH_take (i := 2) (oi := ⟨some 276, _, _, _, _, _⟩) (v := .pointer (some ⟨wb, 4, none⟩)) rfl (by kernel_rfl) (by kernel_rfl) (by kernel_rfl) (fun _ _ _ h => h) (Or.inl ⟨by rfl, fun w hSw => by go_simp⟩) hH ?_
  try simp only [Act.put, List.setIfInBounds_toArray, List.set_cons_zero, List.set_cons_succ]
  refine wpAnyH_take (i := 3) (oi := ⟨some 277, _, _, _, _, _⟩) (v := .slice (some ⟨hb, 0, none⟩) 1 ch) rfl (by kernel_rfl) (by kernel_rfl) (by kernel_rfl) (fun _ _ _ h => h) (Or.inl ⟨by rfl, fun w hSw => run_loadC _ _ rfl _ _ rfl _ Tryz.underlying23 rfl _ (hSw.cell 4)⟩) hH ?_
  try simp only [Act.put, List.setIfInBounds_toArray, List.set_cons_zero, List.set_cons_succ]
  refine wpAnyH_take (i := 4) (oi := ⟨some 278, _, _, _, _, _⟩) (v := .int .i64 0) rfl (by kernel_rfl) (by kernel_rfl) (by kernel_rfl) (fun _ _ _ h => h) (Or.inl ⟨by rfl, fun w hSw => by go_simp⟩) hH ?_
  try simp only [Act.put, List.setIfInBounds_toArray, List.set_cons_zero, List.set_cons_succ]
  refine wpAnyH_take (i := 5) (oi := ⟨some 279, _, _, _, _, _⟩) (v := .pointer (some ⟨nb2, 0, none⟩)) rfl (by kernel_rfl) (by kernel_rfl) (by kernel_rfl) (fun _ _ _ h => h) (Or.inl ⟨by rfl, fun w hSw => by go_simp⟩) hH ?_
  try simp only [Act.put, List.setIfInBounds_toArray, List.set_cons_zero, List.set_cons_succ]
  refine wpAnyH_solo (i := 6) (o := ⟨some 280, _, _, _, _, _⟩) rfl (by kernel_rfl) (fun K hK => ?_)
  refine wpList_callR Tryz.func21 (by kernel_rfl) (by kernel_rfl) rfl _ _ rfl #[.pointer (some ⟨nb2, 0, none⟩)] (args1 rfl) _ (AX.commit0 (hAX5.below (Below.refl _ _).drew) ht.1) ?_
  rintro e wq ⟨rfl, hwq⟩
  replace hwq := hwq.symm
  subst hwq
  refine ⟨_, rfl, ?_⟩
  refine hK _ _ (hH) ?_
  clear hK K
  try simp only [Act.put, List.setIfInBounds_toArray, List.set_cons_zero, List.set_cons_succ]
  refine wpAnyH_solo (i := 7) (o := ⟨some 281, _, _, _, _, _⟩) rfl (by kernel_rfl) (fun K hK => ?_)
  refine wpList_pure rfl (.pointer (some ⟨hb, 0, none⟩)) (by go_simp) ?_
  refine hK _ _ hH ?_
  clear hK K
  try simp only [Act.put, List.setIfInBounds_toArray, List.set_cons_zero, List.set_cons_succ]
  refine wpAnyH_solo (i := 8) (o := ⟨none, _, _, _, _, _⟩) rfl (by kernel_rfl) (fun K hK => ?_)
  refine wpList_stC rfl _ _ _ rfl hb 0 rfl (.int .i64 0) rfl _ _ hHb5.drew i3 rfl rfl hh0 ?_
  have hH3 := hH.setCell_other ⟨hb, 0, none⟩ hne.2.1 (.int .i64 0)
  refine hK _ _ hH3 ?_
  clear hH
  have hH := hH3
  clear hK K
  try simp only [Act.put]
  refine wpAnyH_done (by kernel_rfl) ?_ _
  try simp only [Act.put]
  try go_simp
  have hW6 : Blk ((w5.setCell ⟨hb, 0, none⟩ (.int .i64 0)).drew) wb #[.slice (some ⟨lb, 0, none⟩) 1 cl, .slice none 0 0, .map am, .map ml, .slice (some ⟨hb, 0, none⟩) 1 ch] 63 := (hW5.setCell_other ⟨hb, 0, none⟩ hne.2.1 (.int .i64 0)).drew
  have hP6 := (hP5.setCell_other ⟨hb, 0, none⟩ hne.2.2 (.int .i64 0)).drew
  have hH6 := (hHb5.setCell 0 (.int .i64 0)).drew
  have hAX6 := (hAX5.store (.inr (.inr rfl)) hw.2.2 0 (.int .i64 0)).below (Below.refl _ _).drew
  have hlp : (lc.setIfInBounds 0 (.pointer (some ⟨nb2, 0, none⟩)))[0]? = some (.pointer (some ⟨nb2, 0, none⟩)) := by
    have := (Array.getElem?_eq_some_iff.1 hl0).1
    rw [Array.getElem?_setIfInBounds]
    simp [this]
  have hhp : 0 < (hc.setIfInBounds 0 (.int .i64 0)).size := by simpa using hh0
  clear hW5 hP5 hHb5 hAX5 hH hW4 hP4 hH4
  generalize (w5.setCell ⟨hb, 0, none⟩ (.int .i64 0)).drew = w6 at *
  have v1 := hW6.cell 1
  go_wp2_with fail
  go_ret
  exact ⟨nb2, rfl, ⟨⟨cl, ch, am, ml, _, _, hW6, hcl, hch, hP6, hlp, hH6, hhp⟩, hne⟩, hAX6⟩
end
end Go.Proofs.YtnhlejdilldfaaaGreat
