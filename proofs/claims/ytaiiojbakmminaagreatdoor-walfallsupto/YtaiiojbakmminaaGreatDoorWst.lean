/- What the steps of sweep and of Reset do, one by one. -/
import Derived.Test.YtaiiojbakmminaaGreatDoorWlg
namespace Go.Proofs.YtaiiojbakmminaaGreatDoor
open Go Go.RowKit
/-- What a step on the disk leaves. -/
def StP (w : World) (q p : Nat) (b rb : Option Nat) (L : LG) (r : DN × Nat) (e : Ending) (w' : World) : Prop := e = .returned (.int .i64 (r.2 : Nat)) ∧ ∃ b', Wch w w' q p b rb b' rb ∧ WK w' q p b' rb L r.1
theorem WK.logBlk {w w' : World} {q p : Nat} {b rb b' : Option Nat} {L : LG} {m : DN} {rv : Value} (h : WK w q p b rb L m) (hL : Blk w q (lC p L rv) 64) (hc : Chg w w' p b b') : Blk w' q (lC p L rv) 64 := by
  obtain ⟨⟨c1, f1, k1⟩, ⟨c2, f2, k2⟩, k3, k4⟩ := h.kinds
  exact ⟨(hc.block q hL.lt (kind_ne k1 k2 (by decide)) (fun e => by obtain ⟨c3, f3, k5⟩ := k3 q e.symm; exact kind_ne k1 k5 (by decide) rfl)).trans hL.out⟩
theorem Below.drewS (w : World) : Below w.heap.size w w.drew := (Below.refl _ _).drew
set_option maxRecDepth 100000 in
set_option maxHeartbeats 1000000 in
theorem sweep1_any (q p bl bn : Nat) (b rb : Option Nat) (L : LG) (m : DN) (x : B) (w : World) (hK : WK w q p b rb L m) (hG : Gw w) (hm : Okn m) (hx : okN x = true) (hxl : x.length ≤ 9223372036854775807) (ha : (atL x m.l).isSome = true)
    (hl : Blk w bl #[.pointer (some ⟨q, 0, none⟩)] 25) (hn : Blk w bn #[.string ⟨x.toArray⟩] 9) (hnr : some bn ≠ rb) :
    Calls Tryz.prog 77 #[.pointer (some ⟨bl, 0, none⟩), .pointer (some ⟨bn, 0, none⟩)] w (StP w q p b rb L (remN m x)) := by
  obtain ⟨rv, hL, hT, hD⟩ := hK.out
  have HR := fun w1 (hB : Below w.heap.size w w1) => removeN p b m x w1 (hD.below hB) hm hx hxl ha
  have hKd := hK.below (Below.drewS w)
  have hG2 : 2 ≤ w.drew.heap.size := hG.two
  have hq2 := fun w2 b2 (hC : Chg w.drew w2 p b b2) => hKd.logBlk hL.drew hC
  generalize remN m x = r at *
  go_enter Tryz.func77, Tryz.ntmps77
  go_wp2_with fail
  refine wp_region_held_drew (S := fun w' : World => Blk w' bl #[.pointer (some ⟨q, 0, none⟩)] 25 ∧ Blk w' q (lC p L rv) 64 ∧ Blk w' bn #[.string ⟨x.toArray⟩] 9) (by kernel_rfl) (⟨hl.drew, hL.drew, hn.drew⟩) (fun hH => ?_)
  try go_frame
  refine wpAnyH_take (i := 0) (oi := ⟨some 3, _, _, _, _, _⟩) (v := .pointer (some ⟨q, 0, none⟩)) rfl (by kernel_rfl) (by kernel_rfl) (by kernel_rfl) (fun _ _ _ h => h) (Or.inl ⟨by rfl, fun w hSw => run_loadCellB _ _ rfl _ 0 rfl _ _ hSw.1 _ Tryz.underlying25 rfl _ (rfl)⟩) hH ?_
  try simp only [Act.put, List.setIfInBounds_toArray, List.set_cons_zero, List.set_cons_succ]
  refine wpAnyH_take (i := 1) (oi := ⟨some 4, _, _, _, _, _⟩) (v := .pointer (some ⟨q, 0, none⟩)) rfl (by kernel_rfl) (by kernel_rfl) (by kernel_rfl) (fun _ _ _ h => h) (Or.inl ⟨by rfl, fun w hSw => by go_simp⟩) hH ?_
  try simp only [Act.put, List.setIfInBounds_toArray, List.set_cons_zero, List.set_cons_succ]
  refine wpAnyH_take (i := 2) (oi := ⟨some 5, _, _, _, _, _⟩) (v := .pointer (some ⟨q, 0, none⟩)) rfl (by kernel_rfl) (by kernel_rfl) (by kernel_rfl) (fun _ _ _ h => h) (Or.inl ⟨by rfl, fun w hSw => by go_simp⟩) hH ?_
  try simp only [Act.put, List.setIfInBounds_toArray, List.set_cons_zero, List.set_cons_succ]
  refine wpAnyH_take (i := 3) (oi := ⟨some 6, _, _, _, _, _⟩) (v := .pointer (some ⟨p, 0, none⟩)) rfl (by kernel_rfl) (by kernel_rfl) (by kernel_rfl) (fun _ _ _ h => h) (Or.inl ⟨by rfl, fun w hSw => run_loadCellB _ _ rfl _ 0 rfl _ _ hSw.2.1 _ Tryz.underlying23 rfl _ (lC_g0 _ _ _)⟩) hH ?_
  try simp only [Act.put, List.setIfInBounds_toArray, List.set_cons_zero, List.set_cons_succ]
  refine wpAnyH_take (i := 4) (oi := ⟨some 7, _, _, _, _, _⟩) (v := .string ⟨x.toArray⟩) rfl (by kernel_rfl) (by kernel_rfl) (by kernel_rfl) (fun _ _ _ h => h) (Or.inl ⟨by rfl, fun w hSw => run_loadCellB _ _ rfl _ 0 rfl _ _ hSw.2.2 _ Tryz.underlying9 rfl _ (rfl)⟩) hH ?_
  try simp only [Act.put, List.setIfInBounds_toArray, List.set_cons_zero, List.set_cons_succ]
  refine wpAnyH_solo (i := 5) (o := ⟨some 8, _, _, _, _, _⟩) rfl (by kernel_rfl) (fun K hK => ?_)
  refine wpList_callR Tryz.func78 (by kernel_rfl) (by kernel_rfl) rfl _ _ rfl #[.pointer (some ⟨p, 0, none⟩), .string ⟨x.toArray⟩] (args2 rfl rfl) _ (HR w.drew (Below.refl _ _).drew) ?_
  rintro e w2 ⟨rfl, b2, hC2, hD2⟩
  have hK2 := hKd.disk hG2 hC2 hD2
  have hw2 : Wch w.drew w2 q p b rb b2 rb := Wch.chg hC2
  have hH2 := And.intro (hw2.blk hKd hH.1 (by decide) (by decide) (by decide) (.inl (by decide))) (And.intro (hq2 w2 b2 hC2) (hw2.blk hKd hH.2.2 (by decide) (by decide) (by decide) (.inr hnr)))
  refine ⟨_, rfl, ?_⟩
  refine hK _ _ hH2 ?_
  clear hK K
  try simp only [Act.put, List.setIfInBounds_toArray, List.set_cons_zero, List.set_cons_succ]
  refine wpAnyH_solo (i := 6) (o := ⟨some 2, _, _, _, _, _⟩) rfl (by kernel_rfl) (fun K hK => ?_)
  refine wpList_pure rfl (.int .i64 (r.2 : Nat)) (by go_simp) ?_
  refine hK _ _ hH2 ?_
  clear hK K
  try simp only [Act.put, List.setIfInBounds_toArray, List.set_cons_zero, List.set_cons_succ]
  refine wpAnyH_done (by kernel_rfl) ?_ _
  try simp only [Act.put]
  try go_simp
  go_wp2_with fail
  go_ret
  exact ⟨rfl, b2, (Wch.below (Below.drewS w)).trans hw2, hK2⟩
theorem clone_ta (ad : Option Addr) (cap : Nat) (l : List B) (w : World) (hT : TA w ad l) (hl : l.length ≤ 1000000) :
    Calls Tryz.prog 50 #[.slice ad l.length cap] w fun e w' => ∃ v rb, e = .returned v ∧ Below w.heap.size w w' ∧ TS w' v rb l ∧ ∀ k, rb = some k → w.heap.size ≤ k := by
  cases l with
  | nil =>
    cases ad with
    | none =>
      refine (slices_Clone_string_nil 0 cap w).mono ?_
      rintro e w' ⟨rfl, rfl⟩
      exact ⟨_, none, rfl, Below.refl _ _, TS.nil _, fun k e => by cases e⟩
    | some a =>
      refine (slices_Clone_string_zero a cap w).mono ?_
      rintro e w' ⟨v, rfl, ⟨_, h2⟩, h3, h4⟩
      rcases h2 with ⟨h2, _⟩ | ⟨g, cp, cur, h5, h6, h7, h8, h9, h10, _⟩
      · exact absurd h2 h3
      · exact ⟨v, some g, rfl, h4, ⟨.inr ⟨g, 0, cp, cur, h5, rfl, h7, h8, by omega, fun j x hx => by simp at hx⟩⟩, fun k e => by cases e; exact h6⟩
  | cons y r =>
    obtain ⟨g0, o0, rfl, _, _⟩ := hT.at 0 y rfl
    have hcells : ∀ j, j < ((y :: r).map fun x => (⟨x.toArray⟩ : ByteArray)).length → w.cell? ⟨g0, o0 + j, none⟩ = some (.string (((y :: r).map fun x => (⟨x.toArray⟩ : ByteArray)).getD j ByteArray.empty)) := fun j hj => by
      rw [List.length_map] at hj
      obtain ⟨g, o, e, _, hc⟩ := hT.at j _ (List.getElem?_eq_getElem hj)
      have e := Option.some.inj e
      simp only [Addr.mk.injEq] at e
      obtain ⟨rfl, rfl, _⟩ := e
      rw [hc, List.getD_eq_getElem?_getD, List.getElem?_map, List.getElem?_eq_getElem hj]
      rfl
    refine (slices_Clone_string g0 o0 (y :: r).length cap _ w (by rw [List.length_map]; exact Nat.le_refl _) (by omega) hcells).mono ?_
    rintro e w' ⟨v, rfl, ⟨_, h2⟩, h3, h4⟩
    rcases h2 with ⟨h2, _⟩ | ⟨g, cp, cur, h5, h6, h7, h8, h9, h10, h11⟩
    · exact absurd h2 h3
    · refine ⟨v, some g, rfl, h4, ⟨.inr ⟨g, 0, cp, cur, h5, rfl, h7, h8, by omega, fun j x hx => ?_⟩⟩, fun k e => by cases e; exact h6⟩
      have hj : j < (y :: r).length := (List.getElem?_eq_some_iff.1 hx).1
      have e13 : List.take (y :: r).length (List.map (fun x => (⟨x.toArray⟩ : ByteArray)) (y :: r)) = List.map (fun x => (⟨x.toArray⟩ : ByteArray)) (y :: r) := List.take_of_length_le (by rw [List.length_map]; exact Nat.le_refl _)
      rw [Nat.mul_one, e13, List.map_map] at h11
      have h12 := congrArg (·[j]?) h11
      simp only [List.getElem?_take, List.getElem?_map, hx] at h12
      rw [if_pos hj] at h12
      rw [Nat.zero_add, ← Array.getElem?_toList, h12]
      rfl
theorem iIntS : (Tryz.prog.info? 3).map (·.size) = some 1 := by kernel_rfl
theorem iStrS : (Tryz.prog.info? 9).map (·.size) = some 1 := by kernel_rfl
theorem iSlS : (Tryz.prog.info? 30).map (·.size) = some 1 := by kernel_rfl
def becL (L : LG) (g : Nat) (s : B) (l : List B) : LG := ⟨L.most, g, s, l, 0, 0⟩
/-- What a step on the log leaves. -/
def LtP (w : World) (q p : Nat) (b rb : Option Nat) (L : LG) (m : DN) (e : Ending) (w' : World) : Prop := e = .returned (.int .i64 0) ∧ ∃ rb', Wch w w' q p b rb b rb' ∧ WK w' q p b rb' L m
set_option maxRecDepth 100000 in
set_option maxHeartbeats 1000000 in
theorem become_any (q p : Nat) (b rb : Option Nat) (L : LG) (m : DN) (g : Nat) (s : B) (l : List B) (ad : Option Addr) (cap : Nat) (w : World) (hK : WK w q p b rb L m) (hG : Gw w) (hT : TA w ad l) (hl : l.length ≤ 1000000) :
    Calls Tryz.prog 43 #[.pointer (some ⟨q, 0, none⟩), .int .i64 (g : Nat), .string ⟨s.toArray⟩, .slice ad l.length cap] w (LtP w q p b rb (becL L g s l) m) := by
  obtain ⟨rv, hL, hR, hD⟩ := hK.out
  have HC := clone_ta ad cap l w hT hl
  go_enter Tryz.func43, Tryz.ntmps43
  go_wp2_with (first
    | (go_at_call 50; refine HC.mono ?_; rintro e w2 ⟨v, rb2, rfl, hw2, hT2, hr2⟩; have hL2 := hL.belowSize hw2; have hv := hT2.sl.choose_spec.choose_spec.2.2)
    | (with_reducible refine at_list ?_; first
      | (refine wpList_storeCell (op := ⟨none, .store 3 (.tmp 17) (.tmp 12), _, _, _, _⟩) rfl _ _ _ rfl q 2 rfl (.int .i64 (g : Nat)) rfl _ _ hL2 iIntS rfl rfl (by rw [lC_size]; decide) ?_; intro w3 hg3 hs3 hL3; clear hs3; rw [lC_s2] at hL3)
      | (refine wpList_storeCell (op := ⟨none, .store 9 (.tmp 19) (.tmp 13), _, _, _, _⟩) rfl _ _ _ rfl q 3 rfl (.string ⟨s.toArray⟩) rfl _ _ hL3 iStrS rfl rfl (by rw [lC_size]; decide) ?_; intro w4 hg4 hs4 hL4; clear hs4; rw [lC_s3] at hL4)
      | (refine wpList_storeCell (op := ⟨none, .store 30 (.tmp 21) (.tmp 15), _, _, _, _⟩) rfl _ _ _ rfl q 4 rfl v (by with_unfolding_all exact rfl) _ _ hL4 iSlS hv.1 hv.2 (by rw [lC_size]; decide) ?_; intro w5 hg5 hs5 hL5; clear hs5; rw [lC_s4 _ _ _ _ l] at hL5)
      | (refine wpList_storeCell (op := ⟨none, .store 3 (.tmp 25) (.const (.int .i64 0)), _, _, _, _⟩) rfl _ _ _ rfl q 5 rfl (.int .i64 ((0 : Nat) : Int)) rfl _ _ hL5 iIntS rfl rfl (by rw [lC_size]; decide) ?_; intro w6 hg6 hs6 hL6; clear hs6; rw [lC_s5] at hL6)
      | (refine wpList_storeCell (op := ⟨none, .store 3 (.tmp 27) (.const (.int .i64 0)), _, _, _, _⟩) rfl _ _ _ rfl q 6 rfl (.int .i64 ((0 : Nat) : Int)) rfl _ _ hL6 iIntS rfl rfl (by rw [lC_size]; decide) ?_; intro w7 hg7 hs7 hL7; clear hs7; rw [lC_s6] at hL7)))
  go_ret
  have hgq := grown_trans (grown_trans (grown_trans (grown_trans hg3 hg4) hg5) hg6) hg7
  have hq2 := hK.q2
  have hqlt := hK.qlt
  have h2 := hG.two
  have hne : ∀ k, rb2 = some k → some k ≠ some q := fun k e e2 => by have := hr2 k e; have := Option.some.inj e2; omega
  refine ⟨rfl, rb2, ⟨hgq.os.trans hw2.os, hgq.tape.trans hw2.tape, hgq.output.trans hw2.output, Nat.le_trans hw2.size hgq.size, fun k hk h1 _ _ _ => (hgq.block k (Nat.lt_of_lt_of_le hk hw2.size) (fun e => h1 (Option.some.inj e))).trans (hw2.block k hk), fun _ e => .inl e, fun k e => .inr (hr2 k e)⟩, ⟨⟨v, hL7, hT2.grown hgq hne, (hD.below hw2).grown hgq hL2 (by decide) (by decide) (by decide)⟩, hK.q2, hK.p2, hK.b2, fun k e => by have := hr2 k e; omega⟩⟩
end Go.Proofs.YtaiiojbakmminaaGreatDoor
