/- What begin of a log does, where there is a generation. -/
import Derived.Test.YtaiiojbakmminabGreatDoorWrs
import Derived.Test.YtaiiojbakmminabGreatDoorWrg
namespace Go.Proofs.YtaiiojbakmminabGreatDoor
open Go Go.RowKit
theorem usedN (p : Nat) (b : Option Nat) (m : DN) (w : World) (hD : DD w p b m) (hm : Okn m) : Calls Tryz.prog 38 #[.pointer (some ⟨p, 0, none⟩)] w fun e w' => e = .returned (.int .i64 (usedL m.l : Nat)) ∧ Below w.heap.size w w' := by
  obtain ⟨v, hK, _⟩ := hD.out
  have h1 := hm.len
  have h2 := hm.used
  exact used_any p b (m.lo v) w hK (by show m.l.length ≤ _; omega) (by show usedL m.l ≤ _; omega)
def B1P (w : World) (bt : Nat) (t : Int) (e : Ending) (w' : World) : Prop := e = .returned (.int .i64 0) ∧ ∃ w1, Below w.heap.size w w1 ∧ w1.grownBy w' (some bt) ∧ Blk w' bt #[.int .i64 t] 3
set_option maxRecDepth 100000 in
set_option maxHeartbeats 2000000 in
theorem begin1_any (q p bl bu bt U V : Nat) (b rb : Option Nat) (L : LG) (m : DN) (w : World) (hK : WK w q p b rb L m) (hm : Okn m) (hV : V = usedL m.l) (hU : U ≤ 1000000000000) (kl : Blk w bl #[.pointer (some ⟨q, 0, none⟩)] 23) (ku : Blk w bu #[.int .i64 (U : Nat)] 3) (t0 : Value) (kt : Blk w bt #[t0] 3) (hne : bu ≠ bt) :
    Calls Tryz.prog 41 #[.pointer (some ⟨bu, 0, none⟩), .pointer (some ⟨bl, 0, none⟩), .pointer (some ⟨bt, 0, none⟩)] w (B1P w bt ((U : Int) - (V : Int))) := by
  obtain ⟨rv, hL, hTR, hD⟩ := hK.out
  have hdr := Below.drewS w
  have HU := usedN p b m w.drew (hD.below hdr) hm
  have hmu := hm.used
  rw [← hV] at HU hmu
  have hw1 : IntKind.i64.wrap ((U : Int) - (V : Int)) = (U : Int) - (V : Int) := by rw [IntKind.wrap_i64]; omega
  clear hV
  go_enter Tryz.func41, Tryz.ntmps41
  go_wp2_with fail
  refine wp_region_held_drew (S := fun w' : World => Blk w' bu #[.int .i64 (U : Nat)] 3 ∧ Blk w' bl #[.pointer (some ⟨q, 0, none⟩)] 23 ∧ Blk w' q (lC p L rv) 39) (by kernel_rfl) (⟨ku.drew, kl.drew, hL.drew⟩) (fun hH => ?_)
  try go_frame
  refine wpAnyH_take (i := 0) (oi := ⟨some 4, _, _, _, _, _⟩) (v := .int .i64 (U : Nat)) rfl (by kernel_rfl) (by kernel_rfl) (by kernel_rfl) (fun _ _ _ h => h) (Or.inl ⟨by rfl, fun w hSw => run_loadCellB _ _ rfl _ 0 rfl _ _ hSw.1 _ Tryz.underlying3 rfl _ (rfl)⟩) hH ?_
  try simp only [Act.put, List.setIfInBounds_toArray, List.set_cons_zero, List.set_cons_succ]
  refine wpAnyH_take (i := 1) (oi := ⟨some 5, _, _, _, _, _⟩) (v := .pointer (some ⟨q, 0, none⟩)) rfl (by kernel_rfl) (by kernel_rfl) (by kernel_rfl) (fun _ _ _ h => h) (Or.inl ⟨by rfl, fun w hSw => run_loadCellB _ _ rfl _ 0 rfl _ _ hSw.2.1 _ Tryz.underlying23 rfl _ (rfl)⟩) hH ?_
  try simp only [Act.put, List.setIfInBounds_toArray, List.set_cons_zero, List.set_cons_succ]
  refine wpAnyH_take (i := 2) (oi := ⟨some 6, _, _, _, _, _⟩) (v := .pointer (some ⟨q, 0, none⟩)) rfl (by kernel_rfl) (by kernel_rfl) (by kernel_rfl) (fun _ _ _ h => h) (Or.inl ⟨by rfl, fun w hSw => by go_simp⟩) hH ?_
  try simp only [Act.put, List.setIfInBounds_toArray, List.set_cons_zero, List.set_cons_succ]
  refine wpAnyH_take (i := 3) (oi := ⟨some 7, _, _, _, _, _⟩) (v := .pointer (some ⟨q, 0, none⟩)) rfl (by kernel_rfl) (by kernel_rfl) (by kernel_rfl) (fun _ _ _ h => h) (Or.inl ⟨by rfl, fun w hSw => by go_simp⟩) hH ?_
  try simp only [Act.put, List.setIfInBounds_toArray, List.set_cons_zero, List.set_cons_succ]
  refine wpAnyH_take (i := 4) (oi := ⟨some 8, _, _, _, _, _⟩) (v := .pointer (some ⟨p, 0, none⟩)) rfl (by kernel_rfl) (by kernel_rfl) (by kernel_rfl) (fun _ _ _ h => h) (Or.inl ⟨by rfl, fun w hSw => run_loadCellB _ _ rfl _ 0 rfl _ _ hSw.2.2 _ Tryz.underlying27 rfl _ (lC_g0 _ _ _)⟩) hH ?_
  try simp only [Act.put, List.setIfInBounds_toArray, List.set_cons_zero, List.set_cons_succ]
  refine wpAnyH_solo (i := 5) (o := ⟨some 9, _, _, _, _, _⟩) rfl (by kernel_rfl) (fun K hK => ?_)
  refine wpList_callR Tryz.func38 (by kernel_rfl) (by kernel_rfl) rfl _ _ rfl #[.pointer (some ⟨p, 0, none⟩)] (args1 rfl) _ (HU) ?_
  rintro e w2 ⟨rfl, hw2⟩
  have hH2 := And.intro (hH.1.belowSize hw2) (And.intro (hH.2.1.belowSize hw2) (hH.2.2.belowSize hw2))
  refine ⟨_, rfl, ?_⟩
  refine hK _ _ hH2 ?_
  clear hK K
  try simp only [Act.put, List.setIfInBounds_toArray, List.set_cons_zero, List.set_cons_succ]
  refine wpAnyH_take (i := 6) (oi := ⟨some 10, _, _, _, _, _⟩) (v := .int .i64 ((U : Int) - (V : Int))) rfl (by kernel_rfl) (by kernel_rfl) (by kernel_rfl) (fun _ _ _ h => h) (Or.inl ⟨by rfl, fun w hSw => by go_simp⟩) hH2 ?_
  try simp only [Act.put, List.setIfInBounds_toArray, List.set_cons_zero, List.set_cons_succ]
  refine wpAnyH_solo (i := 7) (o := ⟨none, _, _, _, _, _⟩) rfl (by kernel_rfl) (fun K hK9 => ?_)
  refine wpList_storeCell rfl _ _ _ rfl bt 0 rfl (.int .i64 ((U : Int) - (V : Int))) rfl _ _ (kt.drew.belowSize hw2) iIntS rfl rfl (by simp) ?_
  intro w3 hg3 hs3 hb3
  clear hs3
  have hH3 := And.intro (hH2.1.grown hg3 (fun e => hne (Option.some.inj e))) (And.intro (hH2.2.1.grown hg3 (fun e => kind_ne hH2.2.1.out (kt.drew.belowSize hw2).out (by decide) (Option.some.inj e))) (hH2.2.2.grown hg3 (fun e => kind_ne hH2.2.2.out (kt.drew.belowSize hw2).out (by decide) (Option.some.inj e))))
  refine hK9 _ _ hH3 ?_
  clear hK9 K
  try simp only [Act.put]
  refine wpAnyH_done (by kernel_rfl) ?_ _
  try simp only [Act.put]
  try go_simp
  go_wp2_with fail
  go_ret
  exact ⟨rfl, w2, hdr.trans (hw2.mono hdr.size), hg3, hb3⟩
theorem WK.box {w w' : World} {q p i : Nat} {b rb : Option Nat} {L : LG} {m : DN} {c : Array Value} (h : WK w q p b rb L m) (hg : w.grownBy w' (some i)) (hi : Blk w i c 3) : WK w' q p b rb L m := by
  obtain ⟨rv, h1, h2, h3⟩ := h.out
  obtain ⟨⟨c1, f1, k1⟩, _, _, k4⟩ := h.kinds
  refine ⟨⟨rv, h1.grown hg (fun e => kind_ne k1 hi.out (by decide) (Option.some.inj e)), h2.grown hg (fun k e e2 => ?_), h3.grown hg hi (by decide) (by decide) (by decide)⟩, h.q2, h.p2, h.b2, h.r2⟩
  obtain ⟨c3, f3, k5⟩ := k4 k e
  exact kind_ne k5 hi.out (by decide) (Option.some.inj e2)
/-- A block that came later changes. -/
theorem Wch.loc {w w1 w' : World} {q p i : Nat} {b rb b' rb' : Option Nat} (h : Wch w w1 q p b rb b' rb') (hg : w1.grownBy w' (some i)) (hi : w.heap.size ≤ i) : Wch w w' q p b rb b' rb' :=
  ⟨hg.os.trans h.os, hg.tape.trans h.tape, hg.output.trans h.output, Nat.le_trans h.size hg.size, fun k hk h1 h2 h3 h4 => (hg.block k (Nat.lt_of_lt_of_le hk h.size) (fun e => by have := Option.some.inj e; omega)).trans (h.block k hk h1 h2 h3 h4), h.newb, h.newr⟩
def rbF (q : Nat) : Value := .func (.func 39) #[.pointer (some ⟨q, 0, none⟩)] #[]
def rsF (q : Nat) : Value := .func (.func 40) #[.pointer (some ⟨q, 0, none⟩)] #[]
def b1F (bu bl bt : Nat) : Value := .func (.func 41) #[] #[.pointer (some ⟨bu, 0, none⟩), .pointer (some ⟨bl, 0, none⟩), .pointer (some ⟨bt, 0, none⟩)]
theorem rb_stp (q : Nat) : Stp Tryz.prog (rbF q) 39 #[.pointer (some ⟨q, 0, none⟩)] := ⟨fn1_of Tryz.func39 (by kernel_rfl) (by kernel_rfl), _, #[], rfl, by simp⟩
theorem rs_stp (q : Nat) : Stp Tryz.prog (rsF q) 40 #[.pointer (some ⟨q, 0, none⟩)] := ⟨fn1_of Tryz.func40 (by kernel_rfl) (by kernel_rfl), _, #[], rfl, by simp⟩
theorem b1_stp (bu bl bt : Nat) : Stp Tryz.prog (b1F bu bl bt) 41 #[.pointer (some ⟨bu, 0, none⟩), .pointer (some ⟨bl, 0, none⟩), .pointer (some ⟨bt, 0, none⟩)] := ⟨fn1_of Tryz.func41 (by kernel_rfl) (by kernel_rfl), #[], _, rfl, by simp⟩
/-- What begin's steps leave. -/
def TnP (w : World) (q p bt : Nat) (b rb : Option Nat) (r : LG × (DN × Nat)) (t : Int) (e : Ending) (w' : World) : Prop := e = .returned (.int .i64 (r.2.2 : Nat)) ∧ ∃ b' rb', Wch w w' q p b rb b' rb' ∧ WK w' q p b' rb' r.1 r.2.1 ∧ Blk w' bt #[.int .i64 t] 3
def bgR (R1 R2 : LG × (DN × Nat)) : LG × (DN × Nat) := if R1.2.2 ≠ 0 then R1 else if R2.2.2 ≠ 0 then R2 else (R2.1, sweepN R2.1.g R2.2.1)
def bgT (U : Nat) (R1 R2 : LG × (DN × Nat)) : Int := if R1.2.2 ≠ 0 then 0 else if R2.2.2 ≠ 0 then 0 else (U : Int) - (usedL R2.2.1.l : Nat)
theorem begin_turn (q p bl bu bt g U cp : Nat) (b rb : Option Nat) (L : LG) (m : DN) (R1 R2 : LG × (DN × Nat)) (w0 w : World) (hK0 : WK w0 q p b rb L m) (hG0 : Gw w0) (hW0 : Below w0.heap.size w0 w) (hU : U ≤ 1000000000000)
    (kl : Blk w bl #[.pointer (some ⟨q, 0, none⟩)] 23) (ku : Blk w bu #[.int .i64 (U : Nat)] 3) (kt : Blk w bt #[.int .i64 0] 3) (kg : Blk w g #[rbF q, rsF q, b1F bu bl bt, swq q] TF) (lb : w0.heap.size ≤ bt) (hne : bu ≠ bt)
    (H1 : ∀ w' b' rb', WK w' q p b' rb' L m → Gw w' → Calls Tryz.prog 39 #[.pointer (some ⟨q, 0, none⟩)] w' (RsP w' q p b' rb' R1))
    (H2 : R1.2.2 = 0 → ∀ w' b' rb', WK w' q p b' rb' R1.1 R1.2.1 → Gw w' → Calls Tryz.prog 40 #[.pointer (some ⟨q, 0, none⟩)] w' (RsP w' q p b' rb' R2))
    (o : R1.2.2 = 0 → R2.2.2 = 0 → Okw R2.1 R2.2.1) :
    Calls Tryz.prog 24 #[.slice (some ⟨g, 0, none⟩) 4 cp] w (TnP w0 q p bt b rb (bgR R1 R2) (bgT U R1 R2)) := by
  have step : ∀ {w1 w2 : World} {b1 rb1 b2 rb2 : Option Nat} {L1 : LG} {m1 : DN} {tv : Value}, WK w1 q p b1 rb1 L1 m1 → Gw w1 → Blk w1 bl #[.pointer (some ⟨q, 0, none⟩)] 23 → Blk w1 bu #[.int .i64 (U : Nat)] 3 → Blk w1 g #[rbF q, rsF q, b1F bu bl bt, swq q] TF → Blk w1 bt #[tv] 3 → Wch w1 w2 q p b1 rb1 b2 rb2 → Gw w2 ∧ Blk w2 bl #[.pointer (some ⟨q, 0, none⟩)] 23 ∧ Blk w2 bu #[.int .i64 (U : Nat)] 3 ∧ Blk w2 g #[rbF q, rsF q, b1F bu bl bt, swq q] TF ∧ Blk w2 bt #[tv] 3 := fun hK hG h1 h2 h3 h4 hW =>
    ⟨hW.gw hK hG, hW.blk hK h1 (by decide) (by decide) (by decide) (.inl (by decide)), hW.blk hK h2 (by decide) (by decide) (by decide) (.inl (by decide)), hW.blk hK h3 (by decide) (by decide) (by decide) (.inl (by decide)), hW.blk hK h4 (by decide) (by decide) (by decide) (.inl (by decide))⟩
  refine (inTurn_rule (some ⟨g, 0, none⟩) 4 cp (fun i => (#[rbF q, rsF q, b1F bu bl bt, swq q][i]?).getD .nilFunc)
    (fun i w' => ∃ b' rb', Wch w0 w' q p b rb b' rb' ∧ Gw w' ∧ Blk w' bl #[.pointer (some ⟨q, 0, none⟩)] 23 ∧ Blk w' bu #[.int .i64 (U : Nat)] 3 ∧ Blk w' g #[rbF q, rsF q, b1F bu bl bt, swq q] TF ∧ match i with
      | 0 => WK w' q p b' rb' L m ∧ Blk w' bt #[.int .i64 0] 3
      | 1 => R1.2.2 = 0 ∧ WK w' q p b' rb' R1.1 R1.2.1 ∧ Blk w' bt #[.int .i64 0] 3
      | 2 => R1.2.2 = 0 ∧ R2.2.2 = 0 ∧ WK w' q p b' rb' R2.1 R2.2.1 ∧ Blk w' bt #[.int .i64 0] 3
      | 3 => R1.2.2 = 0 ∧ R2.2.2 = 0 ∧ WK w' q p b' rb' R2.1 R2.2.1 ∧ Blk w' bt #[.int .i64 ((U : Int) - (usedL R2.2.1.l : Nat))] 3
      | _ => R1.2.2 = 0 ∧ R2.2.2 = 0 ∧ (sweepN R2.1.g R2.2.1).2 = 0 ∧ WK w' q p b' rb' R2.1 (sweepN R2.1.g R2.2.1).1 ∧ Blk w' bt #[.int .i64 ((U : Int) - (usedL R2.2.1.l : Nat))] 3)
    (fun c w' => TnP w0 q p bt b rb (bgR R1 R2) (bgT U R1 R2) (.returned (.int .i64 (c : Nat))) w') w (by omega) ?_ ?_ ?_ ?_).mono ?_
  · rintro i w' ⟨b', rb', _, _, _, _, k, _⟩ hi
    obtain ⟨v, hv⟩ : ∃ v, #[rbF q, rsF q, b1F bu bl bt, swq q][i]? = some v := ⟨_, Array.getElem?_eq_getElem (by simpa using hi)⟩
    refine ⟨g, 0, rfl, ?_⟩
    rw [Nat.zero_add, hv, k.cell i, hv]
    rfl
  · intro i w' hR hi
    match i, hR, hi with
    | 0, ⟨b', rb', hW, G, Kl, Ku, Kg, hK', Kt⟩, _ =>
      refine ⟨_, _, rb_stp q, (H1 w' b' rb' hK' G).mono ?_⟩
      rintro e w2 ⟨rfl, b2, rb2, hW2, hK2⟩
      obtain ⟨G2, l2, u2, g2, t2⟩ := step hK' G Kl Ku Kg Kt hW2
      refine ⟨_, rfl, fun hc => ⟨b2, rb2, hW.trans hW2, G2, l2, u2, g2, hc, hK2, t2⟩, fun hc => ?_⟩
      unfold bgR bgT
      rw [if_pos hc, if_pos hc]
      exact ⟨rfl, b2, rb2, hW.trans hW2, hK2, t2⟩
    | 1, ⟨b', rb', hW, G, Kl, Ku, Kg, z1, hK', Kt⟩, _ =>
      refine ⟨_, _, rs_stp q, (H2 z1 w' b' rb' hK' G).mono ?_⟩
      rintro e w2 ⟨rfl, b2, rb2, hW2, hK2⟩
      obtain ⟨G2, l2, u2, g2, t2⟩ := step hK' G Kl Ku Kg Kt hW2
      refine ⟨_, rfl, fun hc => ⟨b2, rb2, hW.trans hW2, G2, l2, u2, g2, z1, hc, hK2, t2⟩, fun hc => ?_⟩
      unfold bgR bgT
      rw [if_neg (by simp [z1]), if_pos hc, if_neg (by simp [z1]), if_pos hc]
      exact ⟨rfl, b2, rb2, hW.trans hW2, hK2, t2⟩
    | 2, ⟨b', rb', hW, G, Kl, Ku, Kg, z1, z2, hK', Kt⟩, _ =>
      refine ⟨_, _, b1_stp bu bl bt, (begin1_any q p bl bu bt U _ b' rb' R2.1 R2.2.1 w' hK' (o z1 z2).m rfl hU Kl Ku _ Kt hne).mono ?_⟩
      rintro e w2 ⟨rfl, w1, hB1, hg2, t2⟩
      have hK1 := hK'.below hB1
      have hW1 : Wch w' w1 q p b' rb' b' rb' := Wch.below hB1
      obtain ⟨G1, l1, u1, g1, t1⟩ := step hK' G Kl Ku Kg Kt hW1
      have hK2 := hK1.box hg2 t1
      have hG2 : Gw w2 := G1.keep hg2.size fun k hk => hg2.block k (by have := G1.two; omega) (fun e => by have := Option.some.inj e; have := hG0.two; omega)
      refine ⟨0, rfl, fun _ => ⟨b', rb', (hW.trans hW1).loc hg2 lb, hG2, l1.grown hg2 (fun e => kind_ne l1.out t1.out (by decide) (Option.some.inj e)), u1.grown hg2 (fun e => hne (Option.some.inj e)), g1.grown hg2 (fun e => kind_ne g1.out t1.out (by decide) (Option.some.inj e)), z1, z2, hK2, t2⟩, fun hc => absurd rfl hc⟩
    | 3, ⟨b', rb', hW, G, Kl, Ku, Kg, z1, z2, hK', Kt⟩, _ =>
      refine ⟨_, _, swq_stp q, (sweep_any q p b' rb' R2.1 R2.2.1 w' hK' G (o z1 z2)).mono ?_⟩
      rintro e w2 ⟨rfl, b2, hW2, hK2⟩
      obtain ⟨G2, l2, u2, g2, t2⟩ := step hK' G Kl Ku Kg Kt hW2
      refine ⟨_, rfl, fun hc => ⟨b2, rb', hW.trans hW2, G2, l2, u2, g2, z1, z2, hc, hK2, t2⟩, fun hc => ?_⟩
      unfold bgR bgT
      rw [if_neg (by simp [z1]), if_neg (by simp [z2]), if_neg (by simp [z1]), if_neg (by simp [z2])]
      exact ⟨rfl, b2, rb', hW.trans hW2, hK2, t2⟩
    | i + 4, _, hi => exact absurd hi (by omega)
  · rintro w' ⟨b', rb', hW, G, Kl, Ku, Kg, z1, z2, z3, hK', Kt⟩
    unfold bgR bgT
    rw [if_neg (by simp [z1]), if_neg (by simp [z2]), if_neg (by simp [z1]), if_neg (by simp [z2])]
    exact ⟨by rw [z3], b', rb', hW, hK', Kt⟩
  · have hW : Wch w0 w q p b rb b rb := Wch.below hW0
    exact ⟨b, rb, hW, hW.gw hK0 hG0, kl, ku, kg, hK0.below hW0, kt⟩
  · rintro e w' ⟨c, rfl, h⟩
    exact h
end Go.Proofs.YtaiiojbakmminabGreatDoor
