/- A candidate counts; it stands; a leader speaks; a tick passes. A replica stands, a leader speaks, a tick passes. -/
import Derived.Test.YtnhlejdilldfaaaGreatRld
namespace Go.Proofs.YtnhlejdilldfaaaGreat
open Go Go.RowKit Go.Maps
theorem MB.ob {w : World} {b : Nat} {X : List Int} {f : Int → Bool} (h : MB w b X f) : ∃ n, OB w b n f := by
  obtain ⟨n, D, h1, h2, h3, _⟩ := h
  exact ⟨n, D, h1, h2, h3⟩
theorem won_ne {N : RN} (h : N.won = true) : N.mems ≠ [] := fun e => by
  have := of_decide_eq_true h
  rw [e] at this
  simp at this
section
variable (F : Nat → Prop) (nb : Nat) (M : NM) (lb : Option Nat) (w : World) (N : RN)
set_option maxRecDepth 100000 in
set_option maxHeartbeats 1000000 in
theorem count_any (h : ND F nb M lb w N) (hb : Bnd N) (hg : Gm N) (x : Int) (hx : 0 ≤ x ∧ x < 16) (h1 : N.last + 1 ≤ 1152921504606846976) (h2 : N.k.log.length + 1 ≤ 68719476736) : Calls Tryz.prog 96 #[.pointer (some ⟨nb, 0, none⟩), .int .i64 x] w (OuP F nb M lb w (N.count x)) := by
  have c15 := h.c15
  have hxwf : (Lit.int .i64 x).wf = true := WalkArith.wf_i64 (by omega)
  have hxX : x ∈ S16 := by simp; omega
  have hcd : N.count x = if (N.voted x).won then (N.voted x).lead else if x ≠ (N.voted x).me then (N.voted x, []) else (N.voted x, (N.voted x).others (N.voted x).ask) := rfl
  have hbv : Bnd (N.voted x) := hb.of_k rfl rfl rfl hb.commit rfl rfl rfl
  have hgv : Gm (N.voted x) := hg.of_k rfl
  have hN2 : (N.voted x) = { N with votes := fun j => if j = x then true else N.votes j } := rfl
  have h1v : (N.voted x).last + 1 ≤ 1152921504606846976 := h1
  have h2v : (N.voted x).k.log.length + 1 ≤ 68719476736 := h2
  generalize hV : N.voted x = N2 at *
  clear hV
  have hme : N2.me = N.me := by rw [hN2]
  replace hN2 : Hid (N2 = { N with votes := fun j => if j = x then true else N.votes j }) := hN2
  have HM := fun W (hW : ND F nb M lb W N2) => membersN F nb M lb W N2 hW hbv
  have HMo := fun W a c (hW : ND F nb M lb W N2) (hA : IA W a N2.mems) => (hW.votes.ob).elim fun n hO => most_any N2.mems a c M.bv n N2.votes W hA (by have := hgv.mems.1; omega) (fun y hy => WalkArith.wf_i64 (by have := hgv.mems.2 y hy; omega)) hO
  have hwon : decide (N2.mems.length < 2 * (N2.mems.filter N2.votes).length) = N2.won := rfl
  rw [hwon] at HMo
  rw [hcd]
  cases hw : N2.won with
  | true =>
    rw [hw] at HMo
    have HL := fun W (hW : ND F nb M lb W N2) => lead_any F nb M lb W N2 hW hbv hgv (won_ne hw) h1v h2v
    rw [if_pos rfl]
    clear hwon hcd hw hme
    generalize N2.lead = r at *
    generalize N2.mems = L at *
    go_enter Tryz.func96, Tryz.ntmps96
    go_upto_region 2 with (with_reducible refine at_list ?_; refine wpList_putM (op := ⟨none, .mapUpdate 105 (.tmp 8) (.tmp 9) (.const (.bool true)), _, _, _, _⟩) (k := x) (v := .bool true) rfl 105 _ _ _ rfl h.votes Tryz.underlying105 lt_max16 rfl rfl hxwf hxX rfl (plainElem_bool Tryz.underlying4 true) ?_; intro w2 hm2 hg2; have hNv := h.toVotes (MB.upd hm2) hg2)
    rw [← hN2.out] at hNv
    have hNd := hNv.drew
    refine wp_region_held_drew (S := fun w' : World => ND F nb M lb w' N2) (by kernel_rfl) (hNd) (fun hH => ?_)
    try go_frame
    refine wpAnyH_take (i := 0) (oi := ⟨some 10, _, _, _, _, _⟩) (v := .pointer (some ⟨nb, 0, none⟩)) rfl (by kernel_rfl) (by kernel_rfl) (by kernel_rfl) (fun _ _ _ h => h) (Or.inl ⟨by rfl, fun w hSw => by go_simp⟩) hH ?_
    try simp only [Act.put, List.setIfInBounds_toArray, List.set_cons_zero, List.set_cons_succ]
    refine wpAnyH_take (i := 2) (oi := ⟨some 12, _, _, _, _, _⟩) (v := .pointer (some ⟨nb, 0, none⟩)) rfl (by kernel_rfl) (by kernel_rfl) (by kernel_rfl) (fun _ _ _ h => h) (Or.inl ⟨by rfl, fun w hSw => by go_simp⟩) hH ?_
    try simp only [Act.put, List.setIfInBounds_toArray, List.set_cons_zero, List.set_cons_succ]
    refine wpAnyH_take (i := 3) (oi := ⟨some 13, _, _, _, _, _⟩) (v := .pointer (some ⟨nb, 0, none⟩)) rfl (by kernel_rfl) (by kernel_rfl) (by kernel_rfl) (fun _ _ _ h => h) (Or.inl ⟨by rfl, fun w hSw => by go_simp⟩) hH ?_
    try simp only [Act.put, List.setIfInBounds_toArray, List.set_cons_zero, List.set_cons_succ]
    refine wpAnyH_take (i := 4) (oi := ⟨some 14, _, _, _, _, _⟩) (v := .pointer (some ⟨nb, 15, none⟩)) rfl (by kernel_rfl) (by kernel_rfl) (by kernel_rfl) (fun _ _ _ h => h) (Or.inl ⟨by rfl, fun w hSw => by go_simp⟩) hH ?_
    try simp only [Act.put, List.setIfInBounds_toArray, List.set_cons_zero, List.set_cons_succ]
    refine wpAnyH_take (i := 5) (oi := ⟨some 15, _, _, _, _, _⟩) (v := .map (some M.bv)) rfl (by kernel_rfl) (by kernel_rfl) (by kernel_rfl) (fun _ _ _ h => h) (Or.inl ⟨by rfl, fun w hSw => run_loadC _ _ rfl _ _ rfl _ Tryz.underlying105 rfl _ (hSw.c15)⟩) hH ?_
    try simp only [Act.put, List.setIfInBounds_toArray, List.set_cons_zero, List.set_cons_succ]
    refine wpAnyH_solo (i := 1) (o := ⟨some 11, _, _, _, _, _⟩) rfl (by kernel_rfl) (fun K hK => ?_)
    refine wpList_callR Tryz.func36 (by kernel_rfl) (by kernel_rfl) rfl _ _ rfl #[.pointer (some ⟨nb, 0, none⟩)] (args1 rfl) _ (HM _ hH) ?_
    rintro e w3 ⟨a, c, rfl, hI3, hw3⟩
    have hH3 := hH.below hw3
    refine ⟨_, rfl, ?_⟩
    refine hK _ _ (hH3) ?_
    clear hH
    have hH := hH3
    clear hK K
    try simp only [Act.put, List.setIfInBounds_toArray, List.set_cons_zero, List.set_cons_succ]
    refine wpAnyH_solo (i := 6) (o := ⟨some 16, _, _, _, _, _⟩) rfl (by kernel_rfl) (fun K hK => ?_)
    refine wpList_callR Tryz.func118 (by kernel_rfl) (by kernel_rfl) rfl _ _ rfl #[.slice a L.length c, .map (some M.bv)] (args2 rfl rfl) _ (HMo _ a c hH hI3.ia) ?_
    rintro e w4 ⟨rfl, hw4⟩
    have hH4 := hH.below hw4
    refine ⟨_, rfl, ?_⟩
    refine hK _ _ (hH4) ?_
    clear hH
    have hH := hH4
    clear hK K
    try simp only [Act.put, List.setIfInBounds_toArray, List.set_cons_zero, List.set_cons_succ]
    refine wpAnyH_done (by kernel_rfl) ?_ _
    try simp only [Act.put]
    try go_simp
    go_wp2_with (go_at_call 119; refine (HL _ hH).mono ?_; rintro e w5 ⟨v, F', lb', rfl, hS5, hN5, hms⟩; clear HL)
    go_ret
    exact ⟨v, F', lb', rfl, ((((Stp.grown hg2 own_bv).drew).trans (Stp.below hw3)).trans (Stp.below hw4)).trans hS5, hN5, hms⟩
  | false =>
    rw [hw] at HMo
    rw [if_neg (by decide)]
    by_cases hxm : x = N2.me
    · rw [if_neg (not_not_intro hxm)]
      have HO := fun W (hW : ND F nb M lb W N2) => others_ask F nb M lb W N2 hW hbv hgv
      have d1 : (x != N2.me) = false := by rw [hxm]; simp
      clear hwon hcd hw hxm hme
      generalize N2.others N2.ask = ms at *
      generalize N2.mems = L at *
      go_enter Tryz.func96, Tryz.ntmps96
      go_upto_region 2 with (with_reducible refine at_list ?_; refine wpList_putM (op := ⟨none, .mapUpdate 105 (.tmp 8) (.tmp 9) (.const (.bool true)), _, _, _, _⟩) (k := x) (v := .bool true) rfl 105 _ _ _ rfl h.votes Tryz.underlying105 lt_max16 rfl rfl hxwf hxX rfl (plainElem_bool Tryz.underlying4 true) ?_; intro w2 hm2 hg2; have hNv := h.toVotes (MB.upd hm2) hg2)
      rw [← hN2.out] at hNv
      have hNd := hNv.drew
      refine wp_region_held_drew (S := fun w' : World => ND F nb M lb w' N2) (by kernel_rfl) (hNd) (fun hH => ?_)
      try go_frame
      refine wpAnyH_take (i := 0) (oi := ⟨some 10, _, _, _, _, _⟩) (v := .pointer (some ⟨nb, 0, none⟩)) rfl (by kernel_rfl) (by kernel_rfl) (by kernel_rfl) (fun _ _ _ h => h) (Or.inl ⟨by rfl, fun w hSw => by go_simp⟩) hH ?_
      try simp only [Act.put, List.setIfInBounds_toArray, List.set_cons_zero, List.set_cons_succ]
      refine wpAnyH_take (i := 2) (oi := ⟨some 12, _, _, _, _, _⟩) (v := .pointer (some ⟨nb, 0, none⟩)) rfl (by kernel_rfl) (by kernel_rfl) (by kernel_rfl) (fun _ _ _ h => h) (Or.inl ⟨by rfl, fun w hSw => by go_simp⟩) hH ?_
      try simp only [Act.put, List.setIfInBounds_toArray, List.set_cons_zero, List.set_cons_succ]
      refine wpAnyH_take (i := 3) (oi := ⟨some 13, _, _, _, _, _⟩) (v := .pointer (some ⟨nb, 0, none⟩)) rfl (by kernel_rfl) (by kernel_rfl) (by kernel_rfl) (fun _ _ _ h => h) (Or.inl ⟨by rfl, fun w hSw => by go_simp⟩) hH ?_
      try simp only [Act.put, List.setIfInBounds_toArray, List.set_cons_zero, List.set_cons_succ]
      refine wpAnyH_take (i := 4) (oi := ⟨some 14, _, _, _, _, _⟩) (v := .pointer (some ⟨nb, 15, none⟩)) rfl (by kernel_rfl) (by kernel_rfl) (by kernel_rfl) (fun _ _ _ h => h) (Or.inl ⟨by rfl, fun w hSw => by go_simp⟩) hH ?_
      try simp only [Act.put, List.setIfInBounds_toArray, List.set_cons_zero, List.set_cons_succ]
      refine wpAnyH_take (i := 5) (oi := ⟨some 15, _, _, _, _, _⟩) (v := .map (some M.bv)) rfl (by kernel_rfl) (by kernel_rfl) (by kernel_rfl) (fun _ _ _ h => h) (Or.inl ⟨by rfl, fun w hSw => run_loadC _ _ rfl _ _ rfl _ Tryz.underlying105 rfl _ (hSw.c15)⟩) hH ?_
      try simp only [Act.put, List.setIfInBounds_toArray, List.set_cons_zero, List.set_cons_succ]
      refine wpAnyH_solo (i := 1) (o := ⟨some 11, _, _, _, _, _⟩) rfl (by kernel_rfl) (fun K hK => ?_)
      refine wpList_callR Tryz.func36 (by kernel_rfl) (by kernel_rfl) rfl _ _ rfl #[.pointer (some ⟨nb, 0, none⟩)] (args1 rfl) _ (HM _ hH) ?_
      rintro e w3 ⟨a, c, rfl, hI3, hw3⟩
      have hH3 := hH.below hw3
      refine ⟨_, rfl, ?_⟩
      refine hK _ _ (hH3) ?_
      clear hH
      have hH := hH3
      clear hK K
      try simp only [Act.put, List.setIfInBounds_toArray, List.set_cons_zero, List.set_cons_succ]
      refine wpAnyH_solo (i := 6) (o := ⟨some 16, _, _, _, _, _⟩) rfl (by kernel_rfl) (fun K hK => ?_)
      refine wpList_callR Tryz.func118 (by kernel_rfl) (by kernel_rfl) rfl _ _ rfl #[.slice a L.length c, .map (some M.bv)] (args2 rfl rfl) _ (HMo _ a c hH hI3.ia) ?_
      rintro e w4 ⟨rfl, hw4⟩
      have hH4 := hH.below hw4
      refine ⟨_, rfl, ?_⟩
      refine hK _ _ (hH4) ?_
      clear hH
      have hH := hH4
      clear hK K
      try simp only [Act.put, List.setIfInBounds_toArray, List.set_cons_zero, List.set_cons_succ]
      refine wpAnyH_done (by kernel_rfl) ?_ _
      try simp only [Act.put]
      try go_simp
      have c0 := hH.c0
      go_wp2_with (go_at_call 93; refine (HO _ hH).mono ?_; rintro e w5 ⟨v, rfl, hms, hw5⟩; clear HO)
      go_ret
      exact ⟨v, Fb F w4 w5, lb, rfl, ((((Stp.grown hg2 own_bv).drew).trans (Stp.below hw3)).trans (Stp.below hw4)).trans (Stp.fresh hw5), hH.fresh hw5, hms.kept (fun _ _ => rfl) (fun k hk => .inr hk)⟩
    · rw [if_pos hxm]
      have d1 : (x != N2.me) = true := bne_iff_ne.2 hxm
      clear hwon hcd hw hxm hme
      generalize N2.mems = L at *
      go_enter Tryz.func96, Tryz.ntmps96
      go_upto_region 2 with (with_reducible refine at_list ?_; refine wpList_putM (op := ⟨none, .mapUpdate 105 (.tmp 8) (.tmp 9) (.const (.bool true)), _, _, _, _⟩) (k := x) (v := .bool true) rfl 105 _ _ _ rfl h.votes Tryz.underlying105 lt_max16 rfl rfl hxwf hxX rfl (plainElem_bool Tryz.underlying4 true) ?_; intro w2 hm2 hg2; have hNv := h.toVotes (MB.upd hm2) hg2)
      rw [← hN2.out] at hNv
      have hNd := hNv.drew
      refine wp_region_held_drew (S := fun w' : World => ND F nb M lb w' N2) (by kernel_rfl) (hNd) (fun hH => ?_)
      try go_frame
      refine wpAnyH_take (i := 0) (oi := ⟨some 10, _, _, _, _, _⟩) (v := .pointer (some ⟨nb, 0, none⟩)) rfl (by kernel_rfl) (by kernel_rfl) (by kernel_rfl) (fun _ _ _ h => h) (Or.inl ⟨by rfl, fun w hSw => by go_simp⟩) hH ?_
      try simp only [Act.put, List.setIfInBounds_toArray, List.set_cons_zero, List.set_cons_succ]
      refine wpAnyH_take (i := 2) (oi := ⟨some 12, _, _, _, _, _⟩) (v := .pointer (some ⟨nb, 0, none⟩)) rfl (by kernel_rfl) (by kernel_rfl) (by kernel_rfl) (fun _ _ _ h => h) (Or.inl ⟨by rfl, fun w hSw => by go_simp⟩) hH ?_
      try simp only [Act.put, List.setIfInBounds_toArray, List.set_cons_zero, List.set_cons_succ]
      refine wpAnyH_take (i := 3) (oi := ⟨some 13, _, _, _, _, _⟩) (v := .pointer (some ⟨nb, 0, none⟩)) rfl (by kernel_rfl) (by kernel_rfl) (by kernel_rfl) (fun _ _ _ h => h) (Or.inl ⟨by rfl, fun w hSw => by go_simp⟩) hH ?_
      try simp only [Act.put, List.setIfInBounds_toArray, List.set_cons_zero, List.set_cons_succ]
      refine wpAnyH_take (i := 4) (oi := ⟨some 14, _, _, _, _, _⟩) (v := .pointer (some ⟨nb, 15, none⟩)) rfl (by kernel_rfl) (by kernel_rfl) (by kernel_rfl) (fun _ _ _ h => h) (Or.inl ⟨by rfl, fun w hSw => by go_simp⟩) hH ?_
      try simp only [Act.put, List.setIfInBounds_toArray, List.set_cons_zero, List.set_cons_succ]
      refine wpAnyH_take (i := 5) (oi := ⟨some 15, _, _, _, _, _⟩) (v := .map (some M.bv)) rfl (by kernel_rfl) (by kernel_rfl) (by kernel_rfl) (fun _ _ _ h => h) (Or.inl ⟨by rfl, fun w hSw => run_loadC _ _ rfl _ _ rfl _ Tryz.underlying105 rfl _ (hSw.c15)⟩) hH ?_
      try simp only [Act.put, List.setIfInBounds_toArray, List.set_cons_zero, List.set_cons_succ]
      refine wpAnyH_solo (i := 1) (o := ⟨some 11, _, _, _, _, _⟩) rfl (by kernel_rfl) (fun K hK => ?_)
      refine wpList_callR Tryz.func36 (by kernel_rfl) (by kernel_rfl) rfl _ _ rfl #[.pointer (some ⟨nb, 0, none⟩)] (args1 rfl) _ (HM _ hH) ?_
      rintro e w3 ⟨a, c, rfl, hI3, hw3⟩
      have hH3 := hH.below hw3
      refine ⟨_, rfl, ?_⟩
      refine hK _ _ (hH3) ?_
      clear hH
      have hH := hH3
      clear hK K
      try simp only [Act.put, List.setIfInBounds_toArray, List.set_cons_zero, List.set_cons_succ]
      refine wpAnyH_solo (i := 6) (o := ⟨some 16, _, _, _, _, _⟩) rfl (by kernel_rfl) (fun K hK => ?_)
      refine wpList_callR Tryz.func118 (by kernel_rfl) (by kernel_rfl) rfl _ _ rfl #[.slice a L.length c, .map (some M.bv)] (args2 rfl rfl) _ (HMo _ a c hH hI3.ia) ?_
      rintro e w4 ⟨rfl, hw4⟩
      have hH4 := hH.below hw4
      refine ⟨_, rfl, ?_⟩
      refine hK _ _ (hH4) ?_
      clear hH
      have hH := hH4
      clear hK K
      try simp only [Act.put, List.setIfInBounds_toArray, List.set_cons_zero, List.set_cons_succ]
      refine wpAnyH_done (by kernel_rfl) ?_ _
      try simp only [Act.put]
      try go_simp
      have c0 := hH.c0
      go_wp2_with fail
      go_ret
      exact ⟨_, F, lb, rfl, (((Stp.grown hg2 own_bv).drew).trans (Stp.below hw3)).trans (Stp.below hw4), hH, MS.nil _ _⟩
end
end Go.Proofs.YtnhlejdilldfaaaGreat
namespace Go.Proofs.YtnhlejdilldfaaaGreat
open Go Go.RowKit Go.Maps
/-- There is room for one more. -/
structure Room (N : RN) : Prop where
  term : N.k.term + 1 ≤ 1152921504606846976
  last : N.last + 1 ≤ 1152921504606846976
  log : N.k.log.length + 1 ≤ 68719476736
  ticks : 0 ≤ N.ticks ∧ N.ticks ≤ 1152921504606846976
  quiet : 0 ≤ N.quiet ∧ N.quiet ≤ 1152921504606846976
/-- What a leader tells the others next is there. -/
def Nxt (N : RN) : Prop := ∀ x ∈ N.mems, x ≠ N.me → 1 ≤ N.next x ∧ N.next x ≤ N.last + 1
theorem Bnd.begin {N : RN} (h : Bnd N) : Bnd N.begin := h.of_k rfl rfl rfl h.commit rfl rfl rfl
section
variable (F : Nat → Prop) (nb : Nat) (M : NM) (lb : Option Nat) (w : World) (N : RN)
set_option maxRecDepth 100000 in
set_option maxHeartbeats 1000000 in
theorem speak_any (h : ND F nb M lb w N) (hb : Bnd N) (hg : Gm N) (hn : Nxt N) : Calls Tryz.prog 69 #[.pointer (some ⟨nb, 0, none⟩)] w (OuP F nb M lb w N.speak) := by
  have c13 := h.c13
  have f13 := h.frz 13
  by_cases ht : N.ticks < 3
  · have he : N.speak = (N, []) := if_pos ht
    have d1 := decide_eq_true ht
    rw [he]
    clear he ht
    go_enter Tryz.func69, Tryz.ntmps69
    go_wp2_with fail
    go_ret
    exact ⟨_, F, lb, rfl, Stp.refl, h, MS.nil _ _⟩
  · have he : N.speak = ({ N with ticks := 0 }, N.others N.tell) := if_neg ht
    have d1 := decide_eq_false ht
    have hP := h.p13 0
    have HO := others_tell F nb M lb _ _ hP (hb.of_k rfl rfl rfl hb.commit rfl rfl rfl) (hg.of_k rfl) hn
    have ho : ({ N with ticks := 0 } : RN).others ({ N with ticks := 0 } : RN).tell = N.others N.tell := rfl
    rw [ho] at HO
    rw [he]
    clear he ht ho
    generalize N.others N.tell = ms at *
    go_enter Tryz.func69, Tryz.ntmps69
    go_wp2_with (go_at_call 93; refine HO.mono ?_; rintro e w5 ⟨v, rfl, hms, hw5⟩; clear HO)
    go_ret
    exact ⟨v, Fb F _ w5, lb, rfl, (Stp.refl.set 13 _).trans (Stp.fresh hw5), hP.fresh hw5, hms.kept (fun _ _ => rfl) (fun k hk => .inr hk)⟩
set_option maxRecDepth 100000 in
set_option maxHeartbeats 1000000 in
theorem stand_any (h : ND F nb M lb w N) (hb : Bnd N) (hg : Gm N) (hr : Room N) : Calls Tryz.prog 70 #[.pointer (some ⟨nb, 0, none⟩)] w (OuP F nb M lb w N.stand) := by
  have HM := mayStand_any F nb M lb w N h hb hg
  have hme := hb.me
  cases hm : N.mayStand with
  | false =>
    rw [hm] at HM
    have he : N.stand = (N.begin, []) := by unfold RN.stand; rw [hm]; rfl
    rw [he]
    have HB := fun W (hW : ND F nb M lb W N) => begin_any F nb M lb W N hW hb
    clear he hm
    go_enter Tryz.func70, Tryz.ntmps70
    go_wp2_with (first
      | (go_at_call 95; refine HM.mono ?_; rintro e w1 ⟨rfl, hw1⟩; clear HM)
      | (go_at_call 62; refine (HB _ (h.below hw1)).mono ?_; rintro e w2 ⟨rfl, hS2, hN2⟩; clear HB))
    go_ret
    exact ⟨_, F, lb, rfl, (Stp.below hw1).trans hS2, hN2, MS.nil _ _⟩
  | true =>
    rw [hm] at HM
    have he : N.stand = N.cand.count N.me := by unfold RN.stand; rw [hm]; rfl
    rw [he]
    have ht := hb.term
    have hrt := hr.term
    have hw1 : IntKind.i64.wrap (N.k.term + 1) = N.k.term + 1 := by rw [IntKind.wrap_i64]; omega
    obtain ⟨N1, hN1⟩ : ∃ N1 : RN, Hid (N1 = { N with k := { N.k with term := N.k.term + 1, vote := N.me }, role := 2, leader := -1 }) := ⟨_, rfl⟩
    have hb1 : Bnd N1 := by
      rw [hN1.out]
      exact hb.upd rfl ⟨by show 0 ≤ N.k.term + 1; omega, hrt⟩ rfl rfl rfl rfl rfl rfl hb.commit rfl rfl rfl
    have hcd : N.cand = { N1.begin with votes := fun _ => false } := by rw [hN1.out]; rfl
    have hg1 : Gm N1 := by rw [hN1.out]; exact ⟨hg.base, hg.log⟩
    have hbc : Bnd N.cand := by rw [hcd]; exact hb1.begin.of_k rfl rfl rfl hb1.commit rfl rfl rfl
    have hgc : Gm N.cand := by rw [hcd]; exact hg1.of_k rfl
    have HB := fun W (hW : ND F nb M lb W N1) => begin_any F nb M lb W N1 hW hb1
    have hl1 : N.cand.last + 1 ≤ 1152921504606846976 := hr.last
    have hl2 : N.cand.k.log.length + 1 ≤ 68719476736 := hr.log
    have HC := fun W (hW : ND F nb M lb W N.cand) => count_any F nb M lb W N.cand hW hbc hgc N.me hme hl1 hl2
    have hP := fun W (hW : ND F nb M lb W N) => (((hW.p1 (N.k.term + 1)).p2 N.me).p8 2).p9 (-1)
    have hC0 := fun W (hW : ND F nb M lb W N.cand) => (show W.cell? ⟨nb, 0, none⟩ = some (Value.int .i64 N.me) from hW.c0)
    replace hcd : Hid (N.cand = { N1.begin with votes := fun _ => false }) := hcd
    clear he hm hb1 hg1 hbc hgc hl1 hl2
    generalize N.cand.count N.me = r at *
    generalize N.cand = Nc at *
    go_enter Tryz.func70, Tryz.ntmps70
    go_wp2_with (first
      | (go_at_call 95; refine HM.mono ?_; rintro e w1 ⟨rfl, hw1⟩; clear HM; have h1 := h.below hw1; have c0 := h1.c0; have c1 := h1.c1; have c2 := h1.c2; have c8 := h1.c8; have c9 := h1.c9; have f1 := h1.frz 1; have f2 := h1.frz 2; have f8 := h1.frz 8; have f9 := h1.frz 9; have hP1 := hP _ h1; rw [← hN1.out] at hP1)
      | (go_at_call 62; refine (HB _ hP1).mono ?_; rintro e w2 ⟨rfl, hS2, hN2⟩; clear HB; have c15 := hN2.c15)
      | (with_reducible refine at_list ?_; refine wpList_clearM (op := ⟨none, .call { callee := .builtin .clear, args := #[.tmp 36], argTypes := #[105] }, _, _, _, _⟩) rfl 105 _ rfl hN2.votes Tryz.underlying105 rfl S16 ?_; intro w3 hm3 hg3; have hN3 := hN2.toVotes hm3 hg3; rw [← hcd.out] at hN3; have c0b := hC0 _ hN3)
      | (go_at_call 96; refine (HC _ hN3).mono ?_; rintro e w5 ⟨v, F', lb', rfl, hS5, hN5, hms⟩; clear HC))
    go_ret
    exact ⟨v, F', lb', rfl, ((((((((Stp.below hw1).set 1 _).set 2 _).set 8 _).set 9 _).trans hS2).trans (Stp.grown hg3 own_bv))).trans hS5, hN5, hms⟩
set_option maxRecDepth 100000 in
set_option maxHeartbeats 1000000 in
theorem tick_any (h : ND F nb M lb w N) (hb : Bnd N) (hg : Gm N) (hn : N.role = 3 → Nxt N) (hr : Room N.ticked) (h0 : Room N) : Calls Tryz.prog 26 #[.pointer (some ⟨nb, 0, none⟩)] w (OuP F nb M lb w N.tick) := by
  have HNo := none_any F nb M lb w N h
  have c13 := h.c13
  have c14 := h.c14
  have f13 := h.frz 13
  have f14 := h.frz 14
  have ht := h0.ticks
  have hq := h0.quiet
  have hw1 : IntKind.i64.wrap (N.ticks + 1) = N.ticks + 1 := by rw [IntKind.wrap_i64]; omega
  have hw2 : IntKind.i64.wrap (N.quiet + 1) = N.quiet + 1 := by rw [IntKind.wrap_i64]; omega
  have hP : ND F nb M lb _ N.ticked := (h.p13 (N.ticks + 1)).p14 (N.quiet + 1)
  have hbt : Bnd N.ticked := hb.of_k rfl rfl rfl hb.commit rfl rfl rfl
  have hgt : Gm N.ticked := hg.of_k rfl
  have hde : N.tick = if N.role = 3 then N.ticked.speak else if N.ticked.ticks < N.wait then (N.ticked, []) else N.ticked.stand := rfl
  rw [hde]
  by_cases h3 : N.role = 3
  · rw [if_pos h3]
    have HS := speak_any F nb M lb _ N.ticked hP hbt hgt (hn h3)
    have d1 : (N.ticked.role == 3) = true := beq_iff_eq.2 h3
    have c8 := hP.c8
    clear hde h3 hn
    generalize N.ticked.speak = r at *
    go_enter Tryz.func26, Tryz.ntmps26
    go_wp2_with (first
      | (go_at_call 63; refine HNo.mono ?_; rintro e w1 ⟨rfl, hw1⟩; replace hw1 := hw1.symm; subst hw1; clear HNo)
      | (go_at_call 69; refine HS.mono ?_; rintro e w5 ⟨v, F', lb', rfl, hS5, hN5, hms⟩; clear HS))
    go_ret
    exact ⟨v, F', lb', rfl, ((Stp.refl.set 13 _).set 14 _).trans hS5, hN5, hms⟩
  · rw [if_neg h3]
    have d1 : (N.ticked.role == 3) = false := beq_eq_false_iff_ne.2 h3
    have c8 := hP.c8
    have c12 := hP.c12
    have c13' := hP.c13
    by_cases hlt : N.ticked.ticks < N.wait
    · rw [if_pos hlt]
      have d2 : decide (N.ticked.ticks < N.ticked.wait) = true := decide_eq_true hlt
      clear hde h3 hn hlt
      go_enter Tryz.func26, Tryz.ntmps26
      go_wp2_with (go_at_call 63; refine HNo.mono ?_; rintro e w1 ⟨rfl, hw1⟩; replace hw1 := hw1.symm; subst hw1; clear HNo)
      go_region
      go_wp2_with fail
      go_ret
      exact ⟨_, F, lb, rfl, ((Stp.refl.set 13 _).set 14 _).drew, hP.drew, MS.nil _ _⟩
    · rw [if_neg hlt]
      have HS := fun W (hW : ND F nb M lb W N.ticked) => stand_any F nb M lb W N.ticked hW hbt hgt hr
      have d2 : decide (N.ticked.ticks < N.ticked.wait) = false := decide_eq_false hlt
      clear hde h3 hn hlt
      generalize N.ticked.stand = r at *
      go_enter Tryz.func26, Tryz.ntmps26
      go_wp2_with (go_at_call 63; refine HNo.mono ?_; rintro e w1 ⟨rfl, hw1⟩; replace hw1 := hw1.symm; subst hw1; clear HNo)
      go_region
      go_wp2_with (go_at_call 70; refine (HS _ hP.drew).mono ?_; rintro e w5 ⟨v, F', lb', rfl, hS5, hN5, hms⟩; clear HS)
      go_ret
      exact ⟨v, F', lb', rfl, (((Stp.refl.set 13 _).set 14 _).drew).trans hS5, hN5, hms⟩
end
end Go.Proofs.YtnhlejdilldfaaaGreat
