/- A candidate counts; it stands; a leader speaks; a tick passes. -/
import Derived.Test.YtnhlejdilldfaaaGreatRld
namespace Go.Proofs.YtnhlejdilldfaaaGreat
open Go Go.RowKit Go.Maps
theorem MB.ob {w : World} {b : Nat} {X : List Int} {f : Int → Bool} (h : MB w b X f) : ∃ n, OB w b n f := by
  obtain ⟨n, D, h1, h2, h3, _⟩ := h
  exact ⟨n, D, h1, h2, h3⟩
theorem won_ne {N : RN} (h : N.won = true) : N.mems ≠ [] := fun e => by
  have := of_decide_eq_true h
  rw [e] at this
  simp at this
section
variable (F : Nat → Prop) (nb : Nat) (M : NM) (lb : Option Nat) (w : World) (N : RN)
set_option maxRecDepth 100000 in
set_option maxHeartbeats 1000000 in
theorem count_any (h : ND F nb M lb w N) (hb : Bnd N) (hg : Gm N) (x : Int) (hx : 0 ≤ x ∧ x < 16) (h1 : N.last + 1 ≤ 1152921504606846976) (h2 : N.k.log.length + 1 ≤ 68719476736) : Calls Tryz.prog 96 #[.pointer (some ⟨nb, 0, none⟩), .int .i64 x] w (OuP F nb M lb w (N.count x)) := by
  have c15 := h.c15
  have hxwf : (Lit.int .i64 x).wf = true := WalkArith.wf_i64 (by omega)
  have hxX : x ∈ S16 := by simp; omega
  have hcd : N.count x = if (N.voted x).won then (N.voted x).lead else if x ≠ (N.voted x).me then (N.voted x, []) else (N.voted x, (N.voted x).others (N.voted x).ask) := rfl
  have hbv : Bnd (N.voted x) := hb.of_k rfl rfl rfl hb.commit rfl rfl rfl
  have hgv : Gm (N.voted x) := hg.of_k rfl
  have hN2 : (N.voted x) = { N with votes := fun j => if j = x then true else N.votes j } := rfl
  have h1v : (N.voted x).last + 1 ≤ 1152921504606846976 := h1
  have h2v : (N.voted x).k.log.length + 1 ≤ 68719476736 := h2
  generalize hV : N.voted x = N2 at *
  clear hV
  have hme : N2.me = N.me := by rw [hN2]
  replace hN2 : Hid (N2 = { N with votes := fun j => if j = x then true else N.votes j }) := hN2
  have HM := fun W (hW : ND F nb M lb W N2) => membersN F nb M lb W N2 hW hbv
  have HMo := fun W a c (hW : ND F nb M lb W N2) (hA : IA W a N2.mems) => (hW.votes.ob).elim fun n hO => most_any N2.mems a c M.bv n N2.votes W hA (by have := hgv.mems.1; omega) (fun y hy => WalkArith.wf_i64 (by have := hgv.mems.2 y hy; omega)) hO
  have hwon : decide (N2.mems.length < 2 * (N2.mems.filter N2.votes).length) = N2.won := rfl
  rw [hwon] at HMo
  rw [hcd]
  cases hw : N2.won with
  | true =>
    rw [hw] at HMo
    have HL := fun W (hW : ND F nb M lb W N2) => lead_any F nb M lb W N2 hW hbv hgv (won_ne hw) h1v h2v
    rw [if_pos rfl]
    clear hwon hcd hw hme
    generalize N2.lead = r at *
    generalize N2.mems = L at *
    go_enter Tryz.func96, Tryz.ntmps96
    go_upto_region 2 with (with_reducible refine at_list ?_; refine wpList_putM (op := ⟨none, .mapUpdate 105 (.tmp 8) (.tmp 9) (.const (.bool true)), _, _, _, _⟩) (k := x) (v := .bool true) rfl 105 _ _ _ rfl h.votes Tryz.underlying105 lt_max16 rfl rfl hxwf hxX rfl (plainElem_bool Tryz.underlying4 true) ?_; intro w2 hm2 hg2; have hNv := h.toVotes (MB.upd hm2) hg2)
    rw [← hN2.out] at hNv
    have hNd := hNv.drew
    refine wp_region_held_drew (S := fun w' : World => ND F nb M lb w' N2) (by kernel_rfl) (hNd) (fun hH => ?_)
    try go_frame
    refine wpAnyH_take (i := 0) (oi := ⟨some 10, _, _, _, _, _⟩) (v := .pointer (some ⟨nb, 0, none⟩)) rfl (by kernel_rfl) (by kernel_rfl) (by kernel_rfl) (fun _ _ _ h => h) (Or.inl ⟨by rfl, fun w hSw => by go_simp⟩) hH ?_
    try simp only [Act.put, List.setIfInBounds_toArray, List.set_cons_zero, List.set_cons_succ]
    refine wpAnyH_take (i := 2) (oi := ⟨some 12, _, _, _, _, _⟩) (v := .pointer (some ⟨nb, 0, none⟩)) rfl (by kernel_rfl) (by kernel_rfl) (by kernel_rfl) (fun _ _ _ h => h) (Or.inl ⟨by rfl, fun w hSw => by go_simp⟩) hH ?_
    try simp only [Act.put, List.setIfInBounds_toArray, List.set_cons_zero, List.set_cons_succ]
    refine wpAnyH_take (i := 3) (oi := ⟨some 13, _, _, _, _, _⟩) (v := .pointer (some ⟨nb, 0, none⟩)) rfl (by kernel_rfl) (by kernel_rfl) (by kernel_rfl) (fun _ _ _ h => h) (Or.inl ⟨by rfl, fun w hSw => by go_simp⟩) hH ?_
    try simp only [Act.put, List.setIfInBounds_toArray, List.set_cons_zero, List.set_cons_succ]
    refine wpAnyH_take (i := 4) (oi := ⟨some 14, _, _, _, _, _⟩) (v := .pointer (some ⟨nb, 15, none⟩)) rfl (by kernel_rfl) (by kernel_rfl) (by kernel_rfl) (fun _ _ _ h => h) (Or.inl ⟨by rfl, fun w hSw => by go_simp⟩) hH ?_
    try simp only [Act.put, List.setIfInBounds_toArray, List.set_cons_zero, List.set_cons_succ]
    refine wpAnyH_take (i := 5) (oi := ⟨some 15, _, _, _, _, _⟩) (v := .map (some M.bv)) rfl (by kernel_rfl) (by kernel_rfl) (by kernel_rfl) (fun _ _ _ h => h) (Or.inl ⟨by rfl, fun w hSw => run_loadC _ _ rfl _ _ rfl _ Tryz.underlying105 rfl _ (hSw.c15)⟩) hH ?_
    try simp only [Act.put, List.setIfInBounds_toArray, List.set_cons_zero, List.set_cons_succ]
    refine wpAnyH_solo (i := 1) (o := ⟨some 11, _, _, _, _, _⟩) rfl (by kernel_rfl) (fun K hK => ?_)
    refine wpList_callR Tryz.func36 (by kernel_rfl) (by kernel_rfl) rfl _ _ rfl #[.pointer (some ⟨nb, 0, none⟩)] (args1 rfl) _ (HM _ hH) ?_
    rintro e w3 ⟨a, c, rfl, hI3, hw3⟩
    have hH3 := hH.below hw3
    refine ⟨_, rfl, ?_⟩
    refine hK _ _ (hH3) ?_
    clear hH
    have hH := hH3
    clear hK K
    try simp only [Act.put, List.setIfInBounds_toArray, List.set_cons_zero, List.set_cons_succ]
    refine wpAnyH_solo (i := 6) (o := ⟨some 16, _, _, _, _, _⟩) rfl (by kernel_rfl) (fun K hK => ?_)
    refine wpList_callR Tryz.func118 (by kernel_rfl) (by kernel_rfl) rfl _ _ rfl #[.slice a L.length c, .map (some M.bv)] (args2 rfl rfl) _ (HMo _ a c hH hI3.ia) ?_
    rintro e w4 ⟨rfl, hw4⟩
    have hH4 := hH.below hw4
    refine ⟨_, rfl, ?_⟩
    refine hK _ _ (hH4) ?_
    clear hH
    have hH := hH4
    clear hK K
    try simp only [Act.put, List.setIfInBounds_toArray, List.set_cons_zero, List.set_cons_succ]
    refine wpAnyH_done (by kernel_rfl) ?_ _
    try simp only [Act.put]
    try go_simp
    go_wp2_with (go_at_call 119; refine (HL _ hH).mono ?_; rintro e w5 ⟨v, F', lb', rfl, hS5, hN5, hms⟩; clear HL)
    go_ret
    exact ⟨v, F', lb', rfl, ((((Stp.grown hg2 own_bv).drew).trans (Stp.below hw3)).trans (Stp.below hw4)).trans hS5, hN5, hms⟩
  | false =>
    rw [hw] at HMo
    rw [if_neg (by decide)]
    by_cases hxm : x = N2.me
    · rw [if_neg (not_not_intro hxm)]
      have HO := fun W (hW : ND F nb M lb W N2) => others_ask F nb M lb W N2 hW hbv hgv
      have d1 : (x != N2.me) = false := by rw [hxm]; simp
      clear hwon hcd hw hxm hme
      generalize N2.others N2.ask = ms at *
      generalize N2.mems = L at *
      go_enter Tryz.func96, Tryz.ntmps96
      go_upto_region 2 with (with_reducible refine at_list ?_; refine wpList_putM (op := ⟨none, .mapUpdate 105 (.tmp 8) (.tmp 9) (.const (.bool true)), _, _, _, _⟩) (k := x) (v := .bool true) rfl 105 _ _ _ rfl h.votes Tryz.underlying105 lt_max16 rfl rfl hxwf hxX rfl (plainElem_bool Tryz.underlying4 true) ?_; intro w2 hm2 hg2; have hNv := h.toVotes (MB.upd hm2) hg2)
      rw [← hN2.out] at hNv
      have hNd := hNv.drew
      refine wp_region_held_drew (S := fun w' : World => ND F nb M lb w' N2) (by kernel_rfl) (hNd) (fun hH => ?_)
      try go_frame
      refine wpAnyH_take (i := 0) (oi := ⟨some 10, _, _, _, _, _⟩) (v := .pointer (some ⟨nb, 0, none⟩)) rfl (by kernel_rfl) (by kernel_rfl) (by kernel_rfl) (fun _ _ _ h => h) (Or.inl ⟨by rfl, fun w hSw => by go_simp⟩) hH ?_
      try simp only [Act.put, List.setIfInBounds_toArray, List.set_cons_zero, List.set_cons_succ]
      refine wpAnyH_take (i := 2) (oi := ⟨some 12, _, _, _, _, _⟩) (v := .pointer (some ⟨nb, 0, none⟩)) rfl (by kernel_rfl) (by kernel_rfl) (by kernel_rfl) (fun _ _ _ h => h) (Or.inl ⟨by rfl, fun w hSw => by go_simp⟩) hH ?_
      try simp only [Act.put, List.setIfInBounds_toArray, List.set_cons_zero, List.set_cons_succ]
      refine wpAnyH_take (i := 3) (oi := ⟨some 13, _, _, _, _, _⟩) (v := .pointer (some ⟨nb, 0, none⟩)) rfl (by kernel_rfl) (by kernel_rfl) (by kernel_rfl) (fun _ _ _ h => h) (Or.inl ⟨by rfl, fun w hSw => by go_simp⟩) hH ?_
      try simp only [Act.put, List.setIfInBounds_toArray, List.set_cons_zero, List.set_cons_succ]
      refine wpAnyH_take (i := 4) (oi := ⟨some 14, _, _, _, _, _⟩) (v := .pointer (some ⟨nb, 15, none⟩)) rfl (by kernel_rfl) (by kernel_rfl) (by kernel_rfl) (fun _ _ _ h => h) (Or.inl ⟨by rfl, fun w hSw => by go_simp⟩) hH ?_
      try simp only [Act.put, List.setIfInBounds_toArray, List.set_cons_zero, List.set_cons_succ]
      refine wpAnyH_take (i := 5) (oi := ⟨some 15, _, _, _, _, _⟩) (v := .map (some M.bv)) rfl (by kernel_rfl) (by kernel_rfl) (by kernel_rfl) (fun _ _ _ h => h) (Or.inl ⟨by rfl, fun w hSw => run_loadC _ _ rfl _ _ rfl _ Tryz.underlying105 rfl _ (hSw.c15)⟩) hH ?_
      try simp only [Act.put, List.setIfInBounds_toArray, List.set_cons_zero, List.set_cons_succ]
      refine wpAnyH_solo (i := 1) (o := ⟨some 11, _, _, _, _, _⟩) rfl (by kernel_rfl) (fun K hK => ?_)
      refine wpList_callR Tryz.func36 (by kernel_rfl) (by kernel_rfl) rfl _ _ rfl #[.pointer (some ⟨nb, 0, none⟩)] (args1 rfl) _ (HM _ hH) ?_
      rintro e w3 ⟨a, c, rfl, hI3, hw3⟩
      have hH3 := hH.below hw3
      refine ⟨_, rfl, ?_⟩
      refine hK _ _ (hH3) ?_
      clear hH
      have hH := hH3
      clear hK K
      try simp only [Act.put, List.setIfInBounds_toArray, List.set_cons_zero, List.set_cons_succ]
      refine wpAnyH_solo (i := 6) (o := ⟨some 16, _, _, _, _, _⟩) rfl (by kernel_rfl) (fun K hK => ?_)
      refine wpList_callR Tryz.func118 (by kernel_rfl) (by kernel_rfl) rfl _ _ rfl #[.slice a L.length c, .map (some M.bv)] (args2 rfl rfl) _ (HMo _ a c hH hI3.ia) ?_
      rintro e w4 ⟨rfl, hw4⟩
      have hH4 := hH.below hw4
      refine ⟨_, rfl, ?_⟩
      refine hK _ _ (hH4) ?_
      clear hH
      have hH := hH4
      clear hK K
      try simp only [Act.put, List.setIfInBounds_toArray, List.set_cons_zero, List.set_cons_succ]
      refine wpAnyH_done (by kernel_rfl) ?_ _
      try simp only [Act.put]
      try go_simp
      have c0 := hH.c0
      go_wp2_with (go_at_call 93; refine (HO _ hH).mono ?_; rintro e w5 ⟨v, rfl, hms, hw5⟩; clear HO)
      go_ret
      exact ⟨v, Fb F w4 w5, lb, rfl, ((((Stp.grown hg2 own_bv).drew).trans (Stp.below hw3)).trans (Stp.below hw4)).trans (Stp.fresh hw5), hH.fresh hw5, hms.kept (fun _ _ => rfl) (fun k hk => .inr hk)⟩
    · rw [if_pos hxm]
      have d1 : (x != N2.me) = true := bne_iff_ne.2 hxm
      clear hwon hcd hw hxm hme
      generalize N2.mems = L at *
      go_enter Tryz.func96, Tryz.ntmps96
      go_upto_region 2 with (with_reducible refine at_list ?_; refine wpList_putM (op := ⟨none, .mapUpdate 105 (.tmp 8) (.tmp 9) (.const (.bool true)), _, _, _, _⟩) (k := x) (v := .bool true) rfl 105 _ _ _ rfl h.votes Tryz.underlying105 lt_max16 rfl rfl hxwf hxX rfl (plainElem_bool Tryz.underlying4 true) ?_; intro w2 hm2 hg2; have hNv := h.toVotes (MB.upd hm2) hg2)
      rw [← hN2.out] at hNv
      have hNd := hNv.drew
      refine wp_region_held_drew (S := fun w' : World => ND F nb M lb w' N2) (by kernel_rfl) (hNd) (fun hH => ?_)
      try go_frame
      refine wpAnyH_take (i := 0) (oi := ⟨some 10, _, _, _, _, _⟩) (v := .pointer (some ⟨nb, 0, none⟩)) rfl (by kernel_rfl) (by kernel_rfl) (by kernel_rfl) (fun _ _ _ h => h) (Or.inl ⟨by rfl, fun w hSw => by go_simp⟩) hH ?_
      try simp only [Act.put, List.setIfInBounds_toArray, List.set_cons_zero, List.set_cons_succ]
      refine wpAnyH_take (i := 2) (oi := ⟨some 12, _, _, _, _, _⟩) (v := .pointer (some ⟨nb, 0, none⟩)) rfl (by kernel_rfl) (by kernel_rfl) (by kernel_rfl) (fun _ _ _ h => h) (Or.inl ⟨by rfl, fun w hSw => by go_simp⟩) hH ?_
      try simp only [Act.put, List.setIfInBounds_toArray, List.set_cons_zero, List.set_cons_succ]
      refine wpAnyH_take (i := 3) (oi := ⟨some 13, _, _, _, _, _⟩) (v := .pointer (some ⟨nb, 0, none⟩)) rfl (by kernel_rfl) (by kernel_rfl) (by kernel_rfl) (fun _ _ _ h => h) (Or.inl ⟨by rfl, fun w hSw => by go_simp⟩) hH ?_
      try simp only [Act.put, List.setIfInBounds_toArray, List.set_cons_zero, List.set_cons_succ]
      refine wpAnyH_take (i := 4) (oi := ⟨some 14, _, _, _, _, _⟩) (v := .pointer (some ⟨nb, 15, none⟩)) rfl (by kernel_rfl) (by kernel_rfl) (by kernel_rfl) (fun _ _ _ h => h) (Or.inl ⟨by rfl, fun w hSw => by go_simp⟩) hH ?_
      try simp only [Act.put, List.setIfInBounds_toArray, List.set_cons_zero, List.set_cons_succ]
      refine wpAnyH_take (i := 5) (oi := ⟨some 15, _, _, _, _, _⟩) (v := .map (some M.bv)) rfl (by kernel_rfl) (by kernel_rfl) (by kernel_rfl) (fun _ _ _ h => h) (Or.inl ⟨by rfl, fun w hSw => run_loadC _ _ rfl _ _ rfl _ Tryz.underlying105 rfl _ (hSw.c15)⟩) hH ?_
      try simp only [Act.put, List.setIfInBounds_toArray, List.set_cons_zero, List.set_cons_succ]
      refine wpAnyH_solo (i := 1) (o := ⟨some 11, _, _, _, _, _⟩) rfl (by kernel_rfl) (fun K hK => ?_)
      refine wpList_callR Tryz.func36 (by kernel_rfl) (by kernel_rfl) rfl _ _ rfl #[.pointer (some ⟨nb, 0, none⟩)] (args1 rfl) _ (HM _ hH) ?_
      rintro e w3 ⟨a, c, rfl, hI3, hw3⟩
      have hH3 := hH.below hw3
      refine ⟨_, rfl, ?_⟩
      refine hK _ _ (hH3) ?_
      clear hH
      have hH := hH3
      clear hK K
      try simp only [Act.put, List.setIfInBounds_toArray, List.set_cons_zero, List.set_cons_succ]
      refine wpAnyH_solo (i := 6) (o := ⟨some 16, _, _, _, _, _⟩) rfl (by kernel_rfl) (fun K hK => ?_)
      refine wpList_callR Tryz.func118 (by kernel_rfl) (by kernel_rfl) rfl _ _ rfl #[.slice a L.length c, .map (some M.bv)] (args2 rfl rfl) _ (HMo _ a c hH hI3.ia) ?_
      rintro e w4 ⟨rfl, hw4⟩
      have hH4 := hH.below hw4
      refine ⟨_, rfl, ?_⟩
      refine hK _ _ (hH4) ?_
      clear hH
      have hH := hH4
      clear hK K
      try simp only [Act.put, List.setIfInBounds_toArray, List.set_cons_zero, List.set_cons_succ]
      refine wpAnyH_done (by kernel_rfl) ?_ _
      try simp only [Act.put]
      try go_simp
      have c0 := hH.c0
      go_wp2_with fail
      go_ret
      exact ⟨_, F, lb, rfl, (((Stp.grown hg2 own_bv).drew).trans (Stp.below hw3)).trans (Stp.below hw4), hH, MS.nil _ _⟩
end
end Go.Proofs.YtnhlejdilldfaaaGreat
