/- A log on its disk in memory, and what stays when it changes. What the steps of sweep and of Reset do, one by one. What Plan of a disk does with one fall, or with none. -/
import Derived.Test.YtaiiojbakmminaaGreatDoorWun
import Derived.Test.YtaiiojbakmminaaGreatDoorWfm
namespace Go.Proofs.YtaiiojbakmminaaGreatDoor
open Go Go.RowKit
theorem args4 {a : Act} {x y z t : Operand} {u v r s : Value} (hx : a.eval x = u) (hy : a.eval y = v) (hz : a.eval z = r) (ht : a.eval t = s) : #[x, y, z, t].map a.eval = #[u, v, r, s] := by simp [hx, hy, hz, ht]
/-- A log lies at q, its disk at p with its files in block b, its records in block rb. -/
structure WK (w : World) (q p : Nat) (b rb : Option Nat) (L : LG) (m : DN) : Prop where
  out : ∃ rv, Blk w q (lC p L rv) 64 ∧ TS w rv rb L.recs ∧ DD w p b m
  q2 : 2 ≤ q
  p2 : 2 ≤ p
  b2 : ∀ k, b = some k → 2 ≤ k
  r2 : ∀ k, rb = some k → 2 ≤ k
/-- What stays but a log's own blocks. -/
structure Wch (w w' : World) (q p : Nat) (b rb b' rb' : Option Nat) : Prop where
  os : w'.os = w.os
  tape : w'.tape = w.tape
  output : w'.output = w.output
  size : w.heap.size ≤ w'.heap.size
  block : ∀ k, k < w.heap.size → k ≠ q → k ≠ p → some k ≠ b → some k ≠ rb → w'.heap[k]? = w.heap[k]?
  newb : ∀ k, b' = some k → b = some k ∨ w.heap.size ≤ k
  newr : ∀ k, rb' = some k → rb = some k ∨ w.heap.size ≤ k
theorem Wch.refl (w : World) (q p : Nat) (b rb : Option Nat) : Wch w w q p b rb b rb := ⟨rfl, rfl, rfl, Nat.le_refl _, fun _ _ _ _ _ _ => rfl, fun _ e => .inl e, fun _ e => .inl e⟩
theorem Wch.trans {w w1 w2 : World} {q p : Nat} {b rb b1 rb1 b2 rb2 : Option Nat} (h : Wch w w1 q p b rb b1 rb1) (k : Wch w1 w2 q p b1 rb1 b2 rb2) : Wch w w2 q p b rb b2 rb2 := by
  refine ⟨k.os.trans h.os, k.tape.trans h.tape, k.output.trans h.output, Nat.le_trans h.size k.size, fun i hi h1 h2 h3 h4 => ?_, fun r e => ?_, fun r e => ?_⟩
  · refine (k.block i (Nat.lt_of_lt_of_le hi h.size) h1 h2 (fun e => ?_) (fun e => ?_)).trans (h.block i hi h1 h2 h3 h4)
    · rcases h.newb i e.symm with h5 | h5
      · exact h3 h5.symm
      · omega
    · rcases h.newr i e.symm with h5 | h5
      · exact h4 h5.symm
      · omega
  · rcases k.newb r e with h5 | h5
    · exact h.newb r h5
    · exact .inr (Nat.le_trans h.size h5)
  · rcases k.newr r e with h5 | h5
    · exact h.newr r h5
    · exact .inr (Nat.le_trans h.size h5)
theorem Wch.below {w w' : World} {q p : Nat} {b rb : Option Nat} (h : Below w.heap.size w w') : Wch w w' q p b rb b rb := ⟨h.os, h.tape, h.output, h.size, fun k hk _ _ _ _ => h.block k hk, fun _ e => .inl e, fun _ e => .inl e⟩
theorem Wch.chg {w w' : World} {q p : Nat} {b rb b' : Option Nat} (h : Chg w w' p b b') : Wch w w' q p b rb b' rb := ⟨h.os, h.tape, h.output, h.size, fun k hk _ h2 h3 _ => h.block k hk h2 h3, h.new, fun _ e => .inl e⟩
theorem Wch.own {w w' : World} {q p : Nat} {b rb : Option Nat} (h : w.grownBy w' (some q)) : Wch w w' q p b rb b rb := ⟨h.os, h.tape, h.output, h.size, fun k hk h1 _ _ _ => h.block k hk (fun e => h1 (Option.some.inj e)), fun _ e => .inl e, fun _ e => .inl e⟩
theorem Wch.row {w w' : World} {q p : Nat} {b rb rb' : Option Nat} (h : w.grownBy w' rb) (hn : ∀ k, rb' = some k → rb = some k ∨ w.heap.size ≤ k) : Wch w w' q p b rb b rb' := ⟨h.os, h.tape, h.output, h.size, fun k hk _ _ _ h4 => h.block k hk h4, fun _ e => .inl e, hn⟩
theorem Wch.sep {w w' : World} {q p i : Nat} {b rb b' rb' : Option Nat} (h : Wch w w' q p b rb b' rb') (hi : i < w.heap.size) (hr : some i ≠ rb) : some i ≠ rb' := fun e => by
  rcases h.newr i e.symm with h5 | h5
  · exact hr h5.symm
  · omega
theorem WK.qlt {w : World} {q p : Nat} {b rb : Option Nat} {L : LG} {m : DN} (h : WK w q p b rb L m) : q < w.heap.size := by
  obtain ⟨rv, h1, _⟩ := h.out
  exact h1.lt
theorem WK.rlt {w : World} {q p : Nat} {b rb : Option Nat} {L : LG} {m : DN} (h : WK w q p b rb L m) : ∀ k, rb = some k → k < w.heap.size := by
  obtain ⟨rv, _, h2, _⟩ := h.out
  exact h2.lt
/-- What kind of block each of them is. -/
theorem WK.kinds {w : World} {q p : Nat} {b rb : Option Nat} {L : LG} {m : DN} (h : WK w q p b rb L m) : (∃ c fr, w.heap[q]? = some (.cells c 64 fr)) ∧ (∃ c fr, w.heap[p]? = some (.cells c 61 fr)) ∧ (∀ k, b = some k → ∃ c fr, w.heap[k]? = some (.cells c 93 fr)) ∧ (∀ k, rb = some k → ∃ c fr, w.heap[k]? = some (.cells c 9 fr)) := by
  obtain ⟨rv, h1, h2, h3⟩ := h.out
  obtain ⟨v, hK, _⟩ := h3.out
  obtain ⟨sl, k1, k2, k3⟩ := hK.out
  refine ⟨⟨_, _, h1.out⟩, ⟨_, _, k1.out⟩, fun k e => ?_, fun k e => ?_⟩
  · rcases k2.2 with ⟨_, rfl⟩ | ⟨g, cap, _, rfl, h4⟩
    · rw [← k3] at e; cases e
    · rw [← k3] at e
      cases e
      obtain ⟨cur, h5, _⟩ := h4.out
      exact ⟨_, _, h5⟩
  · rcases h2.out with ⟨_, hb, _⟩ | ⟨g, o, cap, cur, _, hb, hg, _⟩
    · rw [hb] at e; cases e
    · rw [hb] at e
      cases e
      exact ⟨_, _, hg⟩
theorem kind_ne {w : World} {i k : Nat} {c c' : Array Value} {t t' : TypeId} {fr fr' : Nat × Nat} (h : w.heap[i]? = some (.cells c t fr)) (h' : w.heap[k]? = some (.cells c' t' fr')) (hne : t ≠ t') : i ≠ k := fun e => by
  subst e
  rw [h] at h'
  simp only [Option.some.injEq, Obj.cells.injEq] at h'
  exact hne h'.2.1
/-- A block of another kind stays. -/
theorem Wch.raw {w w' : World} {q p i : Nat} {b rb b' rb' : Option Nat} {L : LG} {m : DN} {c : Array Value} {t : TypeId} {fr : Nat × Nat} (h : Wch w w' q p b rb b' rb') (hK : WK w q p b rb L m) (hi : w.heap[i]? = some (.cells c t fr)) (h1 : t ≠ 64) (h2 : t ≠ 61) (h3 : t ≠ 93) (h4 : t ≠ 9 ∨ some i ≠ rb) : w'.heap[i]? = some (.cells c t fr) := by
  obtain ⟨⟨c1, f1, k1⟩, ⟨c2, f2, k2⟩, k3, k4⟩ := hK.kinds
  refine (h.block i (Array.getElem?_eq_some_iff.1 hi).1 (kind_ne hi k1 h1) (kind_ne hi k2 h2) (fun e => ?_) (fun e => ?_)).trans hi
  · obtain ⟨c3, f3, k5⟩ := k3 i e.symm
    exact kind_ne hi k5 h3 rfl
  · rcases h4 with h4 | h4
    · obtain ⟨c3, f3, k5⟩ := k4 i e.symm
      exact kind_ne hi k5 h4 rfl
    · exact h4 e
theorem Wch.blk {w w' : World} {q p i : Nat} {b rb b' rb' : Option Nat} {L : LG} {m : DN} {c : Array Value} {t : TypeId} (h : Wch w w' q p b rb b' rb') (hK : WK w q p b rb L m) (hi : Blk w i c t) (h1 : t ≠ 64) (h2 : t ≠ 61) (h3 : t ≠ 93) (h4 : t ≠ 9 ∨ some i ≠ rb) : Blk w' i c t := ⟨h.raw hK hi.out h1 h2 h3 h4⟩
theorem Wch.ta {w w' : World} {q p : Nat} {b rb b' rb' : Option Nat} {L : LG} {m : DN} {a : Option Addr} {l : List B} (h : Wch w w' q p b rb b' rb') (hK : WK w q p b rb L m) (hT : TA w a l) (hs : ∀ ad, a = some ad → some ad.block ≠ rb) : TA w' a l := by
  rcases hT.out with h0 | ⟨g, o, cur, fr, h1, h2, h3⟩
  · exact ⟨.inl h0⟩
  · exact ⟨.inr ⟨g, o, cur, fr, h1, h.raw hK h2 (by decide) (by decide) (by decide) (.inr (hs _ h1)), h3⟩⟩
theorem Wch.gw {w w' : World} {q p : Nat} {b rb b' rb' : Option Nat} {L : LG} {m : DN} (h : Wch w w' q p b rb b' rb') (hK : WK w q p b rb L m) (hG : Gw w) : Gw w' := by
  refine hG.keep h.size fun k hk => ?_
  have h1 := hK.q2
  have h2 := hK.p2
  have h3 := hG.two
  exact h.block k (by omega) (by omega) (by omega) (fun e => by have := hK.b2 k e.symm; omega) (fun e => by have := hK.r2 k e.symm; omega)
theorem WK.below {w w' : World} {q p : Nat} {b rb : Option Nat} {L : LG} {m : DN} (h : WK w q p b rb L m) (hb : Below w.heap.size w w') : WK w' q p b rb L m := by
  obtain ⟨rv, h1, h2, h3⟩ := h.out
  exact ⟨⟨rv, h1.belowSize hb, h2.below hb, h3.below hb⟩, h.q2, h.p2, h.b2, h.r2⟩
/-- The disk changes. -/
theorem WK.disk {w w' : World} {q p : Nat} {b rb b' : Option Nat} {L : LG} {m m' : DN} (h : WK w q p b rb L m) (hG : 2 ≤ w.heap.size) (hc : Chg w w' p b b') (hD : DD w' p b' m') : WK w' q p b' rb L m' := by
  obtain ⟨rv, h1, h2, h3⟩ := h.out
  have hw : Wch w w' q p b rb b' rb := Wch.chg hc
  obtain ⟨⟨c1, f1, k1⟩, ⟨c2, f2, k2⟩, k3, k4⟩ := h.kinds
  have hq : w'.heap[q]? = w.heap[q]? := hc.block q h1.lt (kind_ne k1 k2 (by decide)) (fun e => by obtain ⟨c3, f3, k5⟩ := k3 q e.symm; exact kind_ne k1 k5 (by decide) rfl)
  refine ⟨⟨rv, ⟨hq.trans h1.out⟩, h2.keep fun k e => ?_, hD⟩, h.q2, h.p2, fun k e => ?_, h.r2⟩
  · obtain ⟨c3, f3, k5⟩ := k4 k e
    exact hc.block k (h2.lt k e) (kind_ne k5 k2 (by decide)) (fun e2 => by obtain ⟨c4, f4, k6⟩ := k3 k e2.symm; exact kind_ne k5 k6 (by decide) rfl)
  · rcases hc.new k e with h5 | h5
    · exact h.b2 k h5
    · omega
theorem DD.grown {w w' : World} {p q : Nat} {b : Option Nat} {m : DN} {c : Array Value} {t : TypeId} (h : DD w p b m) (hg : w.grownBy w' (some q)) (hq : Blk w q c t) (h1 : t ≠ 61) (h2 : t ≠ 93) (h3 : t ≠ 32) : DD w' p b m := by
  obtain ⟨v, hK, hP⟩ := h.out
  obtain ⟨sl, k1, k2, k3⟩ := hK.out
  refine ⟨v, ⟨sl, k1.grown hg (fun e => ?_), k2.grown hg (k2.ne hq h2), k3⟩, ?_⟩
  · have := Option.some.inj e
    subst this
    exact kind_ne k1.out hq.out (fun e => h1 e.symm) rfl
  · cases hp : m.pl with
    | none => rw [hp] at hP; exact hP
    | some f =>
      rw [hp] at hP
      obtain ⟨g, o, cap, cur, fr, e1, e2, e3, e4⟩ := (show PlA w v f from hP).out
      exact (⟨g, o, cap, cur, fr, e1, e2, (hg.block g (Array.getElem?_eq_some_iff.1 e3).1 (fun e => by
        have := Option.some.inj e
        subst this
        exact kind_ne e3 hq.out (fun e => h3 e.symm) rfl)).trans e3, e4⟩ : PlA w' v f)
/-- A log of its parts. -/
theorem WK.of {w : World} {q p : Nat} {b rb : Option Nat} {L : LG} {m : DN} {rv : Value} (h1 : Blk w q (lC p L rv) 64) (h2 : TS w rv rb L.recs) (h3 : DD w p b m) (hq : 2 ≤ q) (hp : 2 ≤ p) (hb : ∀ k, b = some k → 2 ≤ k) (hr : ∀ k, rb = some k → 2 ≤ k) : WK w q p b rb L m := ⟨⟨rv, h1, h2, h3⟩, hq, hp, hb, hr⟩
end Go.Proofs.YtaiiojbakmminaaGreatDoor
namespace Go.Proofs.YtaiiojbakmminaaGreatDoor
open Go Go.RowKit
/-- What a step on the disk leaves. -/
def StP (w : World) (q p : Nat) (b rb : Option Nat) (L : LG) (r : DN × Nat) (e : Ending) (w' : World) : Prop := e = .returned (.int .i64 (r.2 : Nat)) ∧ ∃ b', Wch w w' q p b rb b' rb ∧ WK w' q p b' rb L r.1
theorem WK.logBlk {w w' : World} {q p : Nat} {b rb b' : Option Nat} {L : LG} {m : DN} {rv : Value} (h : WK w q p b rb L m) (hL : Blk w q (lC p L rv) 64) (hc : Chg w w' p b b') : Blk w' q (lC p L rv) 64 := by
  obtain ⟨⟨c1, f1, k1⟩, ⟨c2, f2, k2⟩, k3, k4⟩ := h.kinds
  exact ⟨(hc.block q hL.lt (kind_ne k1 k2 (by decide)) (fun e => by obtain ⟨c3, f3, k5⟩ := k3 q e.symm; exact kind_ne k1 k5 (by decide) rfl)).trans hL.out⟩
theorem Below.drewS (w : World) : Below w.heap.size w w.drew := (Below.refl _ _).drew
set_option maxRecDepth 100000 in
set_option maxHeartbeats 1000000 in
theorem sweep1_any (q p bl bn : Nat) (b rb : Option Nat) (L : LG) (m : DN) (x : B) (w : World) (hK : WK w q p b rb L m) (hG : Gw w) (hm : Okn m) (hx : okN x = true) (hxl : x.length ≤ 9223372036854775807) (ha : (atL x m.l).isSome = true)
    (hl : Blk w bl #[.pointer (some ⟨q, 0, none⟩)] 25) (hn : Blk w bn #[.string ⟨x.toArray⟩] 9) (hnr : some bn ≠ rb) :
    Calls Tryz.prog 77 #[.pointer (some ⟨bl, 0, none⟩), .pointer (some ⟨bn, 0, none⟩)] w (StP w q p b rb L (remN m x)) := by
  obtain ⟨rv, hL, hT, hD⟩ := hK.out
  have HR := fun w1 (hB : Below w.heap.size w w1) => removeN p b m x w1 (hD.below hB) hm hx hxl ha
  have hKd := hK.below (Below.drewS w)
  have hG2 : 2 ≤ w.drew.heap.size := hG.two
  have hq2 := fun w2 b2 (hC : Chg w.drew w2 p b b2) => hKd.logBlk hL.drew hC
  generalize remN m x = r at *
  go_enter Tryz.func77, Tryz.ntmps77
  go_wp2_with fail
  refine wp_region_held_drew (S := fun w' : World => Blk w' bl #[.pointer (some ⟨q, 0, none⟩)] 25 ∧ Blk w' q (lC p L rv) 64 ∧ Blk w' bn #[.string ⟨x.toArray⟩] 9) (by kernel_rfl) (⟨hl.drew, hL.drew, hn.drew⟩) (fun hH => ?_)
  try go_frame
  refine wpAnyH_take (i := 0) (oi := ⟨some 3, _, _, _, _, _⟩) (v := .pointer (some ⟨q, 0, none⟩)) rfl (by kernel_rfl) (by kernel_rfl) (by kernel_rfl) (fun _ _ _ h => h) (Or.inl ⟨by rfl, fun w hSw => run_loadCellB _ _ rfl _ 0 rfl _ _ hSw.1 _ Tryz.underlying25 rfl _ (rfl)⟩) hH ?_
  try simp only [Act.put, List.setIfInBounds_toArray, List.set_cons_zero, List.set_cons_succ]
  refine wpAnyH_take (i := 1) (oi := ⟨some 4, _, _, _, _, _⟩) (v := .pointer (some ⟨q, 0, none⟩)) rfl (by kernel_rfl) (by kernel_rfl) (by kernel_rfl) (fun _ _ _ h => h) (Or.inl ⟨by rfl, fun w hSw => by go_simp⟩) hH ?_
  try simp only [Act.put, List.setIfInBounds_toArray, List.set_cons_zero, List.set_cons_succ]
  refine wpAnyH_take (i := 2) (oi := ⟨some 5, _, _, _, _, _⟩) (v := .pointer (some ⟨q, 0, none⟩)) rfl (by kernel_rfl) (by kernel_rfl) (by kernel_rfl) (fun _ _ _ h => h) (Or.inl ⟨by rfl, fun w hSw => by go_simp⟩) hH ?_
  try simp only [Act.put, List.setIfInBounds_toArray, List.set_cons_zero, List.set_cons_succ]
  refine wpAnyH_take (i := 3) (oi := ⟨some 6, _, _, _, _, _⟩) (v := .pointer (some ⟨p, 0, none⟩)) rfl (by kernel_rfl) (by kernel_rfl) (by kernel_rfl) (fun _ _ _ h => h) (Or.inl ⟨by rfl, fun w hSw => run_loadCellB _ _ rfl _ 0 rfl _ _ hSw.2.1 _ Tryz.underlying23 rfl _ (lC_g0 _ _ _)⟩) hH ?_
  try simp only [Act.put, List.setIfInBounds_toArray, List.set_cons_zero, List.set_cons_succ]
  refine wpAnyH_take (i := 4) (oi := ⟨some 7, _, _, _, _, _⟩) (v := .string ⟨x.toArray⟩) rfl (by kernel_rfl) (by kernel_rfl) (by kernel_rfl) (fun _ _ _ h => h) (Or.inl ⟨by rfl, fun w hSw => run_loadCellB _ _ rfl _ 0 rfl _ _ hSw.2.2 _ Tryz.underlying9 rfl _ (rfl)⟩) hH ?_
  try simp only [Act.put, List.setIfInBounds_toArray, List.set_cons_zero, List.set_cons_succ]
  refine wpAnyH_solo (i := 5) (o := ⟨some 8, _, _, _, _, _⟩) rfl (by kernel_rfl) (fun K hK => ?_)
  refine wpList_callR Tryz.func78 (by kernel_rfl) (by kernel_rfl) rfl _ _ rfl #[.pointer (some ⟨p, 0, none⟩), .string ⟨x.toArray⟩] (args2 rfl rfl) _ (HR w.drew (Below.refl _ _).drew) ?_
  rintro e w2 ⟨rfl, b2, hC2, hD2⟩
  have hK2 := hKd.disk hG2 hC2 hD2
  have hw2 : Wch w.drew w2 q p b rb b2 rb := Wch.chg hC2
  have hH2 := And.intro (hw2.blk hKd hH.1 (by decide) (by decide) (by decide) (.inl (by decide))) (And.intro (hq2 w2 b2 hC2) (hw2.blk hKd hH.2.2 (by decide) (by decide) (by decide) (.inr hnr)))
  refine ⟨_, rfl, ?_⟩
  refine hK _ _ hH2 ?_
  clear hK K
  try simp only [Act.put, List.setIfInBounds_toArray, List.set_cons_zero, List.set_cons_succ]
  refine wpAnyH_solo (i := 6) (o := ⟨some 2, _, _, _, _, _⟩) rfl (by kernel_rfl) (fun K hK => ?_)
  refine wpList_pure rfl (.int .i64 (r.2 : Nat)) (by go_simp) ?_
  refine hK _ _ hH2 ?_
  clear hK K
  try simp only [Act.put, List.setIfInBounds_toArray, List.set_cons_zero, List.set_cons_succ]
  refine wpAnyH_done (by kernel_rfl) ?_ _
  try simp only [Act.put]
  try go_simp
  go_wp2_with fail
  go_ret
  exact ⟨rfl, b2, (Wch.below (Below.drewS w)).trans hw2, hK2⟩
theorem clone_ta (ad : Option Addr) (cap : Nat) (l : List B) (w : World) (hT : TA w ad l) (hl : l.length ≤ 1000000) :
    Calls Tryz.prog 50 #[.slice ad l.length cap] w fun e w' => ∃ v rb, e = .returned v ∧ Below w.heap.size w w' ∧ TS w' v rb l ∧ ∀ k, rb = some k → w.heap.size ≤ k := by
  cases l with
  | nil =>
    cases ad with
    | none =>
      refine (slices_Clone_string_nil 0 cap w).mono ?_
      rintro e w' ⟨rfl, rfl⟩
      exact ⟨_, none, rfl, Below.refl _ _, TS.nil _, fun k e => by cases e⟩
    | some a =>
      refine (slices_Clone_string_zero a cap w).mono ?_
      rintro e w' ⟨v, rfl, ⟨_, h2⟩, h3, h4⟩
      rcases h2 with ⟨h2, _⟩ | ⟨g, cp, cur, h5, h6, h7, h8, h9, h10, _⟩
      · exact absurd h2 h3
      · exact ⟨v, some g, rfl, h4, ⟨.inr ⟨g, 0, cp, cur, h5, rfl, h7, h8, by omega, fun j x hx => by simp at hx⟩⟩, fun k e => by cases e; exact h6⟩
  | cons y r =>
    obtain ⟨g0, o0, rfl, _, _⟩ := hT.at 0 y rfl
    have hcells : ∀ j, j < ((y :: r).map fun x => (⟨x.toArray⟩ : ByteArray)).length → w.cell? ⟨g0, o0 + j, none⟩ = some (.string (((y :: r).map fun x => (⟨x.toArray⟩ : ByteArray)).getD j ByteArray.empty)) := fun j hj => by
      rw [List.length_map] at hj
      obtain ⟨g, o, e, _, hc⟩ := hT.at j _ (List.getElem?_eq_getElem hj)
      have e := Option.some.inj e
      simp only [Addr.mk.injEq] at e
      obtain ⟨rfl, rfl, _⟩ := e
      rw [hc, List.getD_eq_getElem?_getD, List.getElem?_map, List.getElem?_eq_getElem hj]
      rfl
    refine (slices_Clone_string g0 o0 (y :: r).length cap _ w (by rw [List.length_map]; exact Nat.le_refl _) (by omega) hcells).mono ?_
    rintro e w' ⟨v, rfl, ⟨_, h2⟩, h3, h4⟩
    rcases h2 with ⟨h2, _⟩ | ⟨g, cp, cur, h5, h6, h7, h8, h9, h10, h11⟩
    · exact absurd h2 h3
    · refine ⟨v, some g, rfl, h4, ⟨.inr ⟨g, 0, cp, cur, h5, rfl, h7, h8, by omega, fun j x hx => ?_⟩⟩, fun k e => by cases e; exact h6⟩
      have hj : j < (y :: r).length := (List.getElem?_eq_some_iff.1 hx).1
      have e13 : List.take (y :: r).length (List.map (fun x => (⟨x.toArray⟩ : ByteArray)) (y :: r)) = List.map (fun x => (⟨x.toArray⟩ : ByteArray)) (y :: r) := List.take_of_length_le (by rw [List.length_map]; exact Nat.le_refl _)
      rw [Nat.mul_one, e13, List.map_map] at h11
      have h12 := congrArg (·[j]?) h11
      simp only [List.getElem?_take, List.getElem?_map, hx] at h12
      rw [if_pos hj] at h12
      rw [Nat.zero_add, ← Array.getElem?_toList, h12]
      rfl
theorem iIntS : (Tryz.prog.info? 3).map (·.size) = some 1 := by kernel_rfl
theorem iStrS : (Tryz.prog.info? 9).map (·.size) = some 1 := by kernel_rfl
theorem iSlS : (Tryz.prog.info? 30).map (·.size) = some 1 := by kernel_rfl
def becL (L : LG) (g : Nat) (s : B) (l : List B) : LG := ⟨L.most, g, s, l, 0, 0⟩
/-- What a step on the log leaves. -/
def LtP (w : World) (q p : Nat) (b rb : Option Nat) (L : LG) (m : DN) (e : Ending) (w' : World) : Prop := e = .returned (.int .i64 0) ∧ ∃ rb', Wch w w' q p b rb b rb' ∧ WK w' q p b rb' L m
set_option maxRecDepth 100000 in
set_option maxHeartbeats 1000000 in
theorem become_any (q p : Nat) (b rb : Option Nat) (L : LG) (m : DN) (g : Nat) (s : B) (l : List B) (ad : Option Addr) (cap : Nat) (w : World) (hK : WK w q p b rb L m) (hG : Gw w) (hT : TA w ad l) (hl : l.length ≤ 1000000) :
    Calls Tryz.prog 43 #[.pointer (some ⟨q, 0, none⟩), .int .i64 (g : Nat), .string ⟨s.toArray⟩, .slice ad l.length cap] w (LtP w q p b rb (becL L g s l) m) := by
  obtain ⟨rv, hL, hR, hD⟩ := hK.out
  have HC := clone_ta ad cap l w hT hl
  go_enter Tryz.func43, Tryz.ntmps43
  go_wp2_with (first
    | (go_at_call 50; refine HC.mono ?_; rintro e w2 ⟨v, rb2, rfl, hw2, hT2, hr2⟩; have hL2 := hL.belowSize hw2; have hv := hT2.sl.choose_spec.choose_spec.2.2)
    | (with_reducible refine at_list ?_; first
      | (refine wpList_storeCell (op := ⟨none, .store 3 (.tmp 17) (.tmp 12), _, _, _, _⟩) rfl _ _ _ rfl q 2 rfl (.int .i64 (g : Nat)) rfl _ _ hL2 iIntS rfl rfl (by rw [lC_size]; decide) ?_; intro w3 hg3 hs3 hL3; clear hs3; rw [lC_s2] at hL3)
      | (refine wpList_storeCell (op := ⟨none, .store 9 (.tmp 19) (.tmp 13), _, _, _, _⟩) rfl _ _ _ rfl q 3 rfl (.string ⟨s.toArray⟩) rfl _ _ hL3 iStrS rfl rfl (by rw [lC_size]; decide) ?_; intro w4 hg4 hs4 hL4; clear hs4; rw [lC_s3] at hL4)
      | (refine wpList_storeCell (op := ⟨none, .store 30 (.tmp 21) (.tmp 15), _, _, _, _⟩) rfl _ _ _ rfl q 4 rfl v (by with_unfolding_all exact rfl) _ _ hL4 iSlS hv.1 hv.2 (by rw [lC_size]; decide) ?_; intro w5 hg5 hs5 hL5; clear hs5; rw [lC_s4 _ _ _ _ l] at hL5)
      | (refine wpList_storeCell (op := ⟨none, .store 3 (.tmp 25) (.const (.int .i64 0)), _, _, _, _⟩) rfl _ _ _ rfl q 5 rfl (.int .i64 ((0 : Nat) : Int)) rfl _ _ hL5 iIntS rfl rfl (by rw [lC_size]; decide) ?_; intro w6 hg6 hs6 hL6; clear hs6; rw [lC_s5] at hL6)
      | (refine wpList_storeCell (op := ⟨none, .store 3 (.tmp 27) (.const (.int .i64 0)), _, _, _, _⟩) rfl _ _ _ rfl q 6 rfl (.int .i64 ((0 : Nat) : Int)) rfl _ _ hL6 iIntS rfl rfl (by rw [lC_size]; decide) ?_; intro w7 hg7 hs7 hL7; clear hs7; rw [lC_s6] at hL7)))
  go_ret
  have hgq := grown_trans (grown_trans (grown_trans (grown_trans hg3 hg4) hg5) hg6) hg7
  have hq2 := hK.q2
  have hqlt := hK.qlt
  have h2 := hG.two
  have hne : ∀ k, rb2 = some k → some k ≠ some q := fun k e e2 => by have := hr2 k e; have := Option.some.inj e2; omega
  refine ⟨rfl, rb2, ⟨hgq.os.trans hw2.os, hgq.tape.trans hw2.tape, hgq.output.trans hw2.output, Nat.le_trans hw2.size hgq.size, fun k hk h1 _ _ _ => (hgq.block k (Nat.lt_of_lt_of_le hk hw2.size) (fun e => h1 (Option.some.inj e))).trans (hw2.block k hk), fun _ e => .inl e, fun k e => .inr (hr2 k e)⟩, ⟨⟨v, hL7, hT2.grown hgq hne, (hD.below hw2).grown hgq hL2 (by decide) (by decide) (by decide)⟩, hK.q2, hK.p2, hK.b2, fun k e => by have := hr2 k e; omega⟩⟩
end Go.Proofs.YtaiiojbakmminaaGreatDoor
namespace Go.Proofs.YtaiiojbakmminaaGreatDoor
open Go Go.RowKit
theorem iSlA : (Tryz.prog.info? 45).map (·.size) = some 1 := by kernel_rfl
theorem eqlNilA (w : World) : (binOp .eql 45 (.slice none 0 0) (.slice none 0 0)).run Tryz.prog w = .ok (.bool true) w := Lib.run_eql_slice_nil w 45 32 none 0 0 0 0 Tryz.underlying45
theorem eqlNilA1 (w : World) (b : Addr) (n c : Nat) : (binOp .eql 45 (.slice (some b) n c) (.slice none 0 0)).run Tryz.prog w = .ok (.bool false) w := Lib.run_eql_slice_nil w 45 32 (some b) n c 0 0 Tryz.underlying45
theorem infoFall : ∃ i, Tryz.prog.info? 32 = some i ∧ i.zero = some (.agg #[.int .i64 0, .int .i64 0, .int .i64 0]) ∧ i.size = 3 ∧ i.bytes ≤ 256 := by
  have h : (Tryz.prog.info? 32).map (fun i => (i.zero, i.size, decide (i.bytes ≤ 256))) = some (some (.agg #[.int .i64 0, .int .i64 0, .int .i64 0]), 3, true) := by kernel_rfl
  cases hq : Tryz.prog.info? 32 with
  | none => rw [hq] at h; cases h
  | some i => rw [hq] at h; simp at h; exact ⟨i, rfl, h.1, h.2.1, h.2.2⟩
theorem run_appendNewG {P : Program} {w : World} (st ty t : TypeId) (ba : Option Addr) (k : Nat) (l : List (List Value)) (g o c : Nat) (hall : ∀ x ∈ l, x.length = k) (hone : ∀ x ∈ l, ∀ u ∈ x, u.oneCell' = true) (hcell : ∀ (j : Nat) (v : Value), l.flatten[j]? = some v → w.cell? ⟨g, o + j, none⟩ = some v) (i : TypeInfo) (z : Value) (hz1 : z.cells.size = k)
    (hu : P.underlying st = some (.slice t)) (hi : P.info? t = some i) (hz : i.zero = some z) (hs : i.size = k) (hby : i.bytes ≤ 256) (h0 : 0 < l.length) (hlen : l.length ≤ 1000000) :
    ∃ (w1 : World) (cap1 : Nat), (Builtin.append_ #[st, st] ty #[.slice ba 0 0, .slice (some ⟨g, o, none⟩) l.length c]).run P w = .ok (.slice (some ⟨w.heap.size, 0, none⟩) l.length cap1) w1 ∧ Below w.heap.size w w1 ∧ GS w1 t k w.heap.size cap1 l := by
  have hfl := flat_len hall
  have hsrc : Src P i.size st (.slice (some ⟨g, o, none⟩) l.length c) l.length l.flatten w :=
    Src.ofSlice w hu ⟨g, o, none⟩ l.length c _ (by rw [hs, hfl]) (fun j u hj => by
      rw [Addr.add_mid]
      exact hcell j u hj) (fun u hu => by
        obtain ⟨x, hx, hux⟩ := List.mem_flatten.1 hu
        exact hone x hx u hux)
  have hold : (Builtin.firstCells i.size 0 (.slice ba 0 0)).run P w.drew = .ok ([] : List Value).toArray w.drew := by
    cases ba with
    | none => exact run_firstCells_none (w := w.drew) i.size 0 0 0
    | some b => exact run_firstCells_some w.drew i.size 0 b 0 0 [] (by simp) (fun j v hj => by simp at hj)
  have hr := run_append_grow_src (P := P) w st st ty t i _ hu hi hz ba 0 0 _ hold _ l.length _ hsrc (by omega) (by omega) (growslice_fits (by omega) (Nat.le_trans (Nat.mul_le_mul (show 0 + l.length ≤ 1000000 by omega) hby) (by decide)))
  have hge : 0 + l.length ≤ grownCap w (0 + l.length) 0 t := grownCap_ge w _ _ _
  refine ⟨_, _, by rw [Nat.zero_add] at hr; exact hr, (Below.refl _ w).drew.alloc (Nat.le_refl _) _, ?_⟩
  rw [Nat.zero_add] at hge
  refine ⟨_, heap_alloc_last w.drew _, hge, ?_, ?_⟩
  · simp only [Array.size_append, List.size_toArray, List.length_append, hfl, size_zeroCells, List.length_nil, hz1]
    have h9 : grownCap w l.length 0 t * k = l.length * k + (grownCap w l.length 0 t - l.length) * k := by
      rw [Nat.sub_mul]
      have := Nat.mul_le_mul_right k hge
      omega
    omega
  · intro j v hj
    have hjl := (List.getElem?_eq_some_iff.1 hj).1
    rw [Array.getElem?_append_left (by simpa using hjl)]
    simpa using hj
theorem bsl0A (w : World) : (Instr.buildSlice 45 0 #[]).run Tryz.prog w = .ok (.slice (some ⟨w.heap.size, 0, none⟩) 0 0) (w.alloc (.cells #[] 32)) := by
  simp [Instr.buildSlice, run_underlying Tryz.underlying45, sizeOf_run zFall.2, Sem.run_bind, Instr.fill, newRow, range0]
theorem run_bsl0A {op : Oper} {a : Act} {w : World} (ho : op.op = .buildSlice 45 0 #[]) : (execOp a.eval op).run Tryz.prog w = .ok (.value (.slice (some ⟨w.heap.size, 0, none⟩) 0 0)) (w.alloc (.cells #[] 32)) := by
  unfold execOp
  simp only [ho, Sem.run_bind, Array.map_empty, bsl0A, Result.andThen_ok]
  rfl
section
attribute [local go_sem] eqlNilA eqlNilA1
set_option maxRecDepth 100000 in
theorem sclA0 (w : World) : Calls Tryz.prog 51 #[.slice none 0 0] w fun e w' => e = .returned (.slice none 0 0) ∧ w' = w := by
  go_enter Tryz.func51, Tryz.ntmps51
  go_wp2_with fail
  go_ret
  exact ⟨rfl, rfl⟩
set_option maxRecDepth 100000 in
theorem sclA1 (f : FA) (g : Nat) (w : World) (hb : Blk w g (faA f) 32) : Calls Tryz.prog 51 #[.slice (some ⟨g, 0, none⟩) 1 1] w fun e w' => ∃ h c, e = .returned (.slice (some ⟨h, 0, none⟩) 1 c) ∧ Below w.heap.size w w' ∧ PlA w' (.slice (some ⟨h, 0, none⟩) 1 c) f := by
  obtain ⟨ii, hi, hz, hs, hby⟩ := infoFall
  have hA : Below w.heap.size w (w.alloc (.cells #[] 32)) := (Below.refl _ _).alloc (Nat.le_refl _) _
  have hb1 := hb.belowSize hA
  obtain ⟨w2, cap2, hr, hb2, hG⟩ := run_appendNewG (P := Tryz.prog) (w := w.alloc (.cells #[] 32)) 45 45 32 (some ⟨w.heap.size, 0, none⟩) 3 [faC f] g 0 1 (fun x hx => by rw [List.mem_singleton.1 hx]; rfl) (fun x hx u hu => by
    rw [List.mem_singleton.1 hx] at hu
    simp [faC] at hu
    rcases hu with rfl | rfl | rfl <;> rfl) (fun j v hj => by
    rw [Nat.zero_add, hb1.cell j]
    simpa [faA, faC] using hj) ii _ rfl Tryz.underlying45 hi hz hs hby (by simp) (by simp)
  have hPl : PlA w2 (.slice (some ⟨(w.alloc (.cells #[] 32)).heap.size, 0, none⟩) 1 cap2) f := by
    obtain ⟨cur, k1, k2, k3, k4⟩ := hG.out
    exact ⟨_, 0, cap2, cur, (0, 0), rfl, k2, k1, fun j u hj => by rw [Nat.zero_add]; exact k4 j u (by simpa using hj)⟩
  have hsz := hA.size
  generalize (w.alloc (.cells #[] 32)).heap.size = h2 at *
  go_enter Tryz.func51, Tryz.ntmps51
  go_wp2_with (with_reducible refine at_list ?_; first
    | (refine wpList_run (op := ⟨some 5, _, _, _, _, _⟩) rfl _ _ (run_bsl0A rfl) ?_)
    | (refine wpList_run (op := ⟨some 7, _, _, _, _, _⟩) rfl _ _ (wp_append _ _ _ _ rfl _ _ rfl rfl hr) ?_))
  go_ret
  exact ⟨_, _, rfl, hA.trans (hb2.mono hsz), hPl⟩
end
set_option maxRecDepth 100000 in
theorem insA (a : Option Addr) (n : Nat) (hn : n ≤ 1) (c : Nat) (x : Value) (w : World) : Calls Tryz.prog 105 #[.slice a n c, .int .i64 0, .int .i64 (n : Nat), x] w fun e w' => e = .returned (.tuple #[]) ∧ w' = w := by
  have h1 : ¬ (1 : Int) < (n : Int) := by omega
  go_enter Tryz.func105, Tryz.ntmps105
  go_wp2_with fail
  go_loopw [8] (fun v8 wl => v8 = .int .i64 1 ∧ wl = w) (fun _ _ => 0)
  case atStart => exact ⟨rfl, rfl⟩
  case round =>
    obtain ⟨rfl, hw⟩ := hrel
    have hw2 := hw.symm
    subst hw2
    go_wp2_with fail
    refine bodyPost_end (results_none rfl _ _ _) rfl ⟨rfl, rfl⟩
set_option maxRecDepth 100000 in
theorem stabA (a : Option Addr) (n : Nat) (hn : n ≤ 1) (c : Nat) (x : Value) (w : World) : Calls Tryz.prog 84 #[.slice a n c, .int .i64 (n : Nat), x] w fun e w' => e = .returned (.tuple #[]) ∧ w' = w := by
  have h1 : ¬ (20 : Int) ≤ (n : Int) := by omega
  have h2 : ¬ (20 : Int) < (n : Int) := by omega
  have HI := insA a n hn c x w
  go_enter Tryz.func84, Tryz.ntmps84
  go_wp2_with fail
  go_loopw [7, 8] (fun v7 v8 wl => v7 = .int .i64 0 ∧ v8 = .int .i64 20 ∧ wl = w) (fun _ _ _ => 0)
  case atStart => exact ⟨rfl, rfl, rfl⟩
  case round =>
    obtain ⟨rfl, rfl, hw⟩ := hrel
    have hw2 := hw.symm
    subst hw2
    go_wp2_with (go_at_call 105; refine HI.mono ?_; rintro e wx ⟨rfl, hwx⟩; have hwx2 := hwx.symm; subst hwx2; clear hwx)
    go_loopw [6, 7, 8, 9] (fun v6 _ _ _ wl => v6 = .int .i64 20 ∧ wl = w) (fun _ _ _ _ _ => 0)
    case atStart => exact ⟨rfl, rfl⟩
    case round =>
      obtain ⟨rfl, hw3⟩ := hrel
      have hw4 := hw3.symm
      subst hw4
      go_wp2_with fail
      refine bodyPost_end (results_none rfl _ _ _) rfl ⟨rfl, rfl⟩
set_option maxRecDepth 100000 in
theorem sortA (a : Option Addr) (n : Nat) (hn : n ≤ 1) (c : Nat) (x : Value) (w : World) : Calls Tryz.prog 52 #[.slice a n c, x] w fun e w' => e = .returned (.tuple #[]) ∧ w' = w := by
  have HS := stabA a n hn c x w
  go_enter Tryz.func52, Tryz.ntmps52
  go_wp2_with (go_at_call 84; refine HS.mono ?_; rintro e wx ⟨rfl, hwx⟩; have hwx2 := hwx.symm; subst hwx2; clear hwx)
  refine bodyPost_end (results_none rfl _ _ _) rfl ⟨rfl, rfl⟩
set_option maxRecDepth 100000 in
theorem plan_nil (p : Nat) (b : Option Nat) (m : DN) (w : World) (hD : DD w p b m) : Calls Tryz.prog 22 #[.pointer (some ⟨p, 0, none⟩), .slice none 0 0] w fun e w' => e = .returned (.tuple #[]) ∧ Chg w w' p b b ∧ DD w' p b { m with pl := none } := by
  obtain ⟨v, hK, _⟩ := hD.out
  obtain ⟨sl, hB, hF, hb⟩ := hK.out
  have HC := sclA0 w
  have HS := fun w1 => sortA none 0 (by omega) 0 (.func (.func 53) #[] #[]) w1
  go_enter Tryz.func22, Tryz.ntmps22
  go_wp2_with (first
    | (go_at_call 51; refine HC.mono ?_; rintro e wx ⟨rfl, hwx⟩; have hwx2 := hwx.symm; subst hwx2; clear hwx HC)
    | (go_at_call 52; refine (HS _).mono ?_; rintro e wx ⟨rfl, hwx⟩; have hwx2 := hwx.symm; subst hwx2; clear hwx)
    | (with_reducible refine at_list ?_; first
      | (refine wpList_storeCell (op := ⟨none, .store 45 (.tmp 10) (.tmp 8), _, _, _, _⟩) rfl _ _ _ rfl p 4 rfl (.slice none 0 0) rfl _ _ hB iSlA rfl rfl (by rw [dC_size]; decide) ?_; intro w1 hg1 hs1 hB1; clear hs1)
      | (refine wpList_loadCell (op := ⟨some 14, _, _, _, _, _⟩) rfl _ _ rfl p 4 rfl _ _ hB1 _ Tryz.underlying45 rfl _ rfl ?_)))
  rw [dC_s4] at hB1
  have hF1 := hF.grown hg1 (hF.ne hB (by decide))
  refine bodyPost_end (results_none rfl _ _ _) rfl ⟨rfl, Chg.own hg1, ⟨.slice none 0 0, ⟨sl, hB1, hF1, hb⟩, ⟨none, 0, rfl⟩⟩⟩
set_option maxRecDepth 100000 in
theorem plan_one (p g : Nat) (b : Option Nat) (m : DN) (f : FA) (w : World) (hD : DD w p b m) (hg : Blk w g (faA f) 32) : Calls Tryz.prog 22 #[.pointer (some ⟨p, 0, none⟩), .slice (some ⟨g, 0, none⟩) 1 1] w fun e w' => e = .returned (.tuple #[]) ∧ Chg w w' p b b ∧ DD w' p b { m with pl := some f } := by
  obtain ⟨v, hK, _⟩ := hD.out
  obtain ⟨sl, hB, hF, hb⟩ := hK.out
  have HC := sclA1 f g w hg
  have HS := fun a c w1 => sortA a 1 (by omega) c (.func (.func 53) #[] #[]) w1
  go_enter Tryz.func22, Tryz.ntmps22
  go_wp2_with (first
    | (go_at_call 51; refine HC.mono ?_; rintro e w1 ⟨h1, c1, rfl, hw1, hP1⟩; clear HC; have hB1 := hB.belowSize hw1)
    | (go_at_call 52; refine (HS _ _ _).mono ?_; rintro e wx ⟨rfl, hwx⟩; have hwx2 := hwx.symm; subst hwx2; clear hwx)
    | (with_reducible refine at_list ?_; first
      | (refine wpList_storeCell (op := ⟨none, .store 45 (.tmp 10) (.tmp 8), _, _, _, _⟩) rfl _ _ _ rfl p 4 rfl (.slice (some ⟨h1, 0, none⟩) 1 c1) rfl _ _ hB1 iSlA rfl rfl (by rw [dC_size]; decide) ?_; intro w2 hg2 hs2 hB2; clear hs2)
      | (refine wpList_loadCell (op := ⟨some 14, _, _, _, _, _⟩) rfl _ _ rfl p 4 rfl _ _ hB2 _ Tryz.underlying45 rfl _ rfl ?_)))
  rw [dC_s4] at hB2
  have hF1 := hF.below hw1
  have hF2 := hF1.grown hg2 (hF1.ne hB1 (by decide))
  have hP2 : PlA w2 (.slice (some ⟨h1, 0, none⟩) 1 c1) f := by
    obtain ⟨gg, o, cp, cur, fr, e1, e2, e3, e4⟩ := hP1.out
    refine ⟨gg, o, cp, cur, fr, e1, e2, (hg2.block gg (Array.getElem?_eq_some_iff.1 e3).1 (fun e => ?_)).trans e3, e4⟩
    have := Option.some.inj e
    subst this
    exact kind_ne e3 hB1.out (by decide) rfl
  refine bodyPost_end (results_none rfl _ _ _) rfl ⟨rfl, (Chg.below hw1).trans (Chg.own hg2), ⟨_, ⟨sl, hB2, hF2, hb⟩, hP2⟩⟩
end Go.Proofs.YtaiiojbakmminaaGreatDoor
