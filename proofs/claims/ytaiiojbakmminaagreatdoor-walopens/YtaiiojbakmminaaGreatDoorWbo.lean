/- What begin of a log does, where there is a generation. What begin of a log does. -/
import Derived.Test.YtaiiojbakmminaaGreatDoorWrs
import Derived.Test.YtaiiojbakmminaaGreatDoorWrg
import Derived.Test.YtaiiojbakmminaaGreatDoorWaf
namespace Go.Proofs.YtaiiojbakmminaaGreatDoor
open Go Go.RowKit
theorem usedN (p : Nat) (b : Option Nat) (m : DN) (w : World) (hD : DD w p b m) (hm : Okn m) : Calls Tryz.prog 33 #[.pointer (some ⟨p, 0, none⟩)] w fun e w' => e = .returned (.int .i64 (usedL m.l : Nat)) ∧ Below w.heap.size w w' := by
  obtain ⟨v, hK, _⟩ := hD.out
  have h1 := hm.len
  have h2 := hm.used
  exact used_any p b (m.lo v) w hK (by show m.l.length ≤ _; omega) (by show usedL m.l ≤ _; omega)
def B1P (w : World) (bt : Nat) (t : Int) (e : Ending) (w' : World) : Prop := e = .returned (.int .i64 0) ∧ ∃ w1, Below w.heap.size w w1 ∧ w1.grownBy w' (some bt) ∧ Blk w' bt #[.int .i64 t] 3
set_option maxRecDepth 100000 in
set_option maxHeartbeats 2000000 in
theorem begin1_any (q p bl bu bt U V : Nat) (b rb : Option Nat) (L : LG) (m : DN) (w : World) (hK : WK w q p b rb L m) (hm : Okn m) (hV : V = usedL m.l) (hU : U ≤ 1000000000000) (kl : Blk w bl #[.pointer (some ⟨q, 0, none⟩)] 25) (ku : Blk w bu #[.int .i64 (U : Nat)] 3) (t0 : Value) (kt : Blk w bt #[t0] 3) (hne : bu ≠ bt) :
    Calls Tryz.prog 67 #[.pointer (some ⟨bu, 0, none⟩), .pointer (some ⟨bl, 0, none⟩), .pointer (some ⟨bt, 0, none⟩)] w (B1P w bt ((U : Int) - (V : Int))) := by
  obtain ⟨rv, hL, hTR, hD⟩ := hK.out
  have hdr := Below.drewS w
  have HU := usedN p b m w.drew (hD.below hdr) hm
  have hmu := hm.used
  rw [← hV] at HU hmu
  have hw1 : IntKind.i64.wrap ((U : Int) - (V : Int)) = (U : Int) - (V : Int) := by rw [IntKind.wrap_i64]; omega
  clear hV
  go_enter Tryz.func67, Tryz.ntmps67
  go_wp2_with fail
  refine wp_region_held_drew (S := fun w' : World => Blk w' bu #[.int .i64 (U : Nat)] 3 ∧ Blk w' bl #[.pointer (some ⟨q, 0, none⟩)] 25 ∧ Blk w' q (lC p L rv) 64) (by kernel_rfl) (⟨ku.drew, kl.drew, hL.drew⟩) (fun hH => ?_)
  try go_frame
  refine wpAnyH_take (i := 0) (oi := ⟨some 4, _, _, _, _, _⟩) (v := .int .i64 (U : Nat)) rfl (by kernel_rfl) (by kernel_rfl) (by kernel_rfl) (fun _ _ _ h => h) (Or.inl ⟨by rfl, fun w hSw => run_loadCellB _ _ rfl _ 0 rfl _ _ hSw.1 _ Tryz.underlying3 rfl _ (rfl)⟩) hH ?_
  try simp only [Act.put, List.setIfInBounds_toArray, List.set_cons_zero, List.set_cons_succ]
  refine wpAnyH_take (i := 1) (oi := ⟨some 5, _, _, _, _, _⟩) (v := .pointer (some ⟨q, 0, none⟩)) rfl (by kernel_rfl) (by kernel_rfl) (by kernel_rfl) (fun _ _ _ h => h) (Or.inl ⟨by rfl, fun w hSw => run_loadCellB _ _ rfl _ 0 rfl _ _ hSw.2.1 _ Tryz.underlying25 rfl _ (rfl)⟩) hH ?_
  try simp only [Act.put, List.setIfInBounds_toArray, List.set_cons_zero, List.set_cons_succ]
  refine wpAnyH_take (i := 2) (oi := ⟨some 6, _, _, _, _, _⟩) (v := .pointer (some ⟨q, 0, none⟩)) rfl (by kernel_rfl) (by kernel_rfl) (by kernel_rfl) (fun _ _ _ h => h) (Or.inl ⟨by rfl, fun w hSw => by go_simp⟩) hH ?_
  try simp only [Act.put, List.setIfInBounds_toArray, List.set_cons_zero, List.set_cons_succ]
  refine wpAnyH_take (i := 3) (oi := ⟨some 7, _, _, _, _, _⟩) (v := .pointer (some ⟨q, 0, none⟩)) rfl (by kernel_rfl) (by kernel_rfl) (by kernel_rfl) (fun _ _ _ h => h) (Or.inl ⟨by rfl, fun w hSw => by go_simp⟩) hH ?_
  try simp only [Act.put, List.setIfInBounds_toArray, List.set_cons_zero, List.set_cons_succ]
  refine wpAnyH_take (i := 4) (oi := ⟨some 8, _, _, _, _, _⟩) (v := .pointer (some ⟨p, 0, none⟩)) rfl (by kernel_rfl) (by kernel_rfl) (by kernel_rfl) (fun _ _ _ h => h) (Or.inl ⟨by rfl, fun w hSw => run_loadCellB _ _ rfl _ 0 rfl _ _ hSw.2.2 _ Tryz.underlying23 rfl _ (lC_g0 _ _ _)⟩) hH ?_
  try simp only [Act.put, List.setIfInBounds_toArray, List.set_cons_zero, List.set_cons_succ]
  refine wpAnyH_solo (i := 5) (o := ⟨some 9, _, _, _, _, _⟩) rfl (by kernel_rfl) (fun K hK => ?_)
  refine wpList_callR Tryz.func33 (by kernel_rfl) (by kernel_rfl) rfl _ _ rfl #[.pointer (some ⟨p, 0, none⟩)] (args1 rfl) _ (HU) ?_
  rintro e w2 ⟨rfl, hw2⟩
  have hH2 := And.intro (hH.1.belowSize hw2) (And.intro (hH.2.1.belowSize hw2) (hH.2.2.belowSize hw2))
  refine ⟨_, rfl, ?_⟩
  refine hK _ _ hH2 ?_
  clear hK K
  try simp only [Act.put, List.setIfInBounds_toArray, List.set_cons_zero, List.set_cons_succ]
  refine wpAnyH_take (i := 6) (oi := ⟨some 10, _, _, _, _, _⟩) (v := .int .i64 ((U : Int) - (V : Int))) rfl (by kernel_rfl) (by kernel_rfl) (by kernel_rfl) (fun _ _ _ h => h) (Or.inl ⟨by rfl, fun w hSw => by go_simp⟩) hH2 ?_
  try simp only [Act.put, List.setIfInBounds_toArray, List.set_cons_zero, List.set_cons_succ]
  refine wpAnyH_solo (i := 7) (o := ⟨none, _, _, _, _, _⟩) rfl (by kernel_rfl) (fun K hK9 => ?_)
  refine wpList_storeCell rfl _ _ _ rfl bt 0 rfl (.int .i64 ((U : Int) - (V : Int))) rfl _ _ (kt.drew.belowSize hw2) iIntS rfl rfl (by simp) ?_
  intro w3 hg3 hs3 hb3
  clear hs3
  have hH3 := And.intro (hH2.1.grown hg3 (fun e => hne (Option.some.inj e))) (And.intro (hH2.2.1.grown hg3 (fun e => kind_ne hH2.2.1.out (kt.drew.belowSize hw2).out (by decide) (Option.some.inj e))) (hH2.2.2.grown hg3 (fun e => kind_ne hH2.2.2.out (kt.drew.belowSize hw2).out (by decide) (Option.some.inj e))))
  refine hK9 _ _ hH3 ?_
  clear hK9 K
  try simp only [Act.put]
  refine wpAnyH_done (by kernel_rfl) ?_ _
  try simp only [Act.put]
  try go_simp
  go_wp2_with fail
  go_ret
  exact ⟨rfl, w2, hdr.trans (hw2.mono hdr.size), hg3, hb3⟩
theorem WK.box {w w' : World} {q p i : Nat} {b rb : Option Nat} {L : LG} {m : DN} {c : Array Value} (h : WK w q p b rb L m) (hg : w.grownBy w' (some i)) (hi : Blk w i c 3) : WK w' q p b rb L m := by
  obtain ⟨rv, h1, h2, h3⟩ := h.out
  obtain ⟨⟨c1, f1, k1⟩, _, _, k4⟩ := h.kinds
  refine ⟨⟨rv, h1.grown hg (fun e => kind_ne k1 hi.out (by decide) (Option.some.inj e)), h2.grown hg (fun k e e2 => ?_), h3.grown hg hi (by decide) (by decide) (by decide)⟩, h.q2, h.p2, h.b2, h.r2⟩
  obtain ⟨c3, f3, k5⟩ := k4 k e
  exact kind_ne k5 hi.out (by decide) (Option.some.inj e2)
/-- A block that came later changes. -/
theorem Wch.loc {w w1 w' : World} {q p i : Nat} {b rb b' rb' : Option Nat} (h : Wch w w1 q p b rb b' rb') (hg : w1.grownBy w' (some i)) (hi : w.heap.size ≤ i) : Wch w w' q p b rb b' rb' :=
  ⟨hg.os.trans h.os, hg.tape.trans h.tape, hg.output.trans h.output, Nat.le_trans h.size hg.size, fun k hk h1 h2 h3 h4 => (hg.block k (Nat.lt_of_lt_of_le hk h.size) (fun e => by have := Option.some.inj e; omega)).trans (h.block k hk h1 h2 h3 h4), h.newb, h.newr⟩
def rbF (q : Nat) : Value := .func (.func 65) #[.pointer (some ⟨q, 0, none⟩)] #[]
def rsF (q : Nat) : Value := .func (.func 66) #[.pointer (some ⟨q, 0, none⟩)] #[]
def b1F (bu bl bt : Nat) : Value := .func (.func 67) #[] #[.pointer (some ⟨bu, 0, none⟩), .pointer (some ⟨bl, 0, none⟩), .pointer (some ⟨bt, 0, none⟩)]
theorem rb_stp (q : Nat) : Stp Tryz.prog (rbF q) 65 #[.pointer (some ⟨q, 0, none⟩)] := ⟨fn1_of Tryz.func65 (by kernel_rfl) (by kernel_rfl), _, #[], rfl, by simp⟩
theorem rs_stp (q : Nat) : Stp Tryz.prog (rsF q) 66 #[.pointer (some ⟨q, 0, none⟩)] := ⟨fn1_of Tryz.func66 (by kernel_rfl) (by kernel_rfl), _, #[], rfl, by simp⟩
theorem b1_stp (bu bl bt : Nat) : Stp Tryz.prog (b1F bu bl bt) 67 #[.pointer (some ⟨bu, 0, none⟩), .pointer (some ⟨bl, 0, none⟩), .pointer (some ⟨bt, 0, none⟩)] := ⟨fn1_of Tryz.func67 (by kernel_rfl) (by kernel_rfl), #[], _, rfl, by simp⟩
/-- What begin's steps leave. -/
def TnP (w : World) (q p bt : Nat) (b rb : Option Nat) (r : LG × (DN × Nat)) (t : Int) (e : Ending) (w' : World) : Prop := e = .returned (.int .i64 (r.2.2 : Nat)) ∧ ∃ b' rb', Wch w w' q p b rb b' rb' ∧ WK w' q p b' rb' r.1 r.2.1 ∧ Blk w' bt #[.int .i64 t] 3
def bgR (R1 R2 : LG × (DN × Nat)) : LG × (DN × Nat) := if R1.2.2 ≠ 0 then R1 else if R2.2.2 ≠ 0 then R2 else (R2.1, sweepN R2.1.g R2.2.1)
def bgT (U : Nat) (R1 R2 : LG × (DN × Nat)) : Int := if R1.2.2 ≠ 0 then 0 else if R2.2.2 ≠ 0 then 0 else (U : Int) - (usedL R2.2.1.l : Nat)
theorem begin_turn (q p bl bu bt g U cp : Nat) (b rb : Option Nat) (L : LG) (m : DN) (R1 R2 : LG × (DN × Nat)) (w0 w : World) (hK0 : WK w0 q p b rb L m) (hG0 : Gw w0) (hW0 : Below w0.heap.size w0 w) (hU : U ≤ 1000000000000)
    (kl : Blk w bl #[.pointer (some ⟨q, 0, none⟩)] 25) (ku : Blk w bu #[.int .i64 (U : Nat)] 3) (kt : Blk w bt #[.int .i64 0] 3) (kg : Blk w g #[rbF q, rsF q, b1F bu bl bt, swq q] TF) (lb : w0.heap.size ≤ bt) (hne : bu ≠ bt)
    (H1 : ∀ w' b' rb', WK w' q p b' rb' L m → Gw w' → Calls Tryz.prog 65 #[.pointer (some ⟨q, 0, none⟩)] w' (RsP w' q p b' rb' R1))
    (H2 : R1.2.2 = 0 → ∀ w' b' rb', WK w' q p b' rb' R1.1 R1.2.1 → Gw w' → Calls Tryz.prog 66 #[.pointer (some ⟨q, 0, none⟩)] w' (RsP w' q p b' rb' R2))
    (o : R1.2.2 = 0 → R2.2.2 = 0 → Okw R2.1 R2.2.1) :
    Calls Tryz.prog 37 #[.slice (some ⟨g, 0, none⟩) 4 cp] w (TnP w0 q p bt b rb (bgR R1 R2) (bgT U R1 R2)) := by
  have step : ∀ {w1 w2 : World} {b1 rb1 b2 rb2 : Option Nat} {L1 : LG} {m1 : DN} {tv : Value}, WK w1 q p b1 rb1 L1 m1 → Gw w1 → Blk w1 bl #[.pointer (some ⟨q, 0, none⟩)] 25 → Blk w1 bu #[.int .i64 (U : Nat)] 3 → Blk w1 g #[rbF q, rsF q, b1F bu bl bt, swq q] TF → Blk w1 bt #[tv] 3 → Wch w1 w2 q p b1 rb1 b2 rb2 → Gw w2 ∧ Blk w2 bl #[.pointer (some ⟨q, 0, none⟩)] 25 ∧ Blk w2 bu #[.int .i64 (U : Nat)] 3 ∧ Blk w2 g #[rbF q, rsF q, b1F bu bl bt, swq q] TF ∧ Blk w2 bt #[tv] 3 := fun hK hG h1 h2 h3 h4 hW =>
    ⟨hW.gw hK hG, hW.blk hK h1 (by decide) (by decide) (by decide) (.inl (by decide)), hW.blk hK h2 (by decide) (by decide) (by decide) (.inl (by decide)), hW.blk hK h3 (by decide) (by decide) (by decide) (.inl (by decide)), hW.blk hK h4 (by decide) (by decide) (by decide) (.inl (by decide))⟩
  refine (inTurn_rule (some ⟨g, 0, none⟩) 4 cp (fun i => (#[rbF q, rsF q, b1F bu bl bt, swq q][i]?).getD .nilFunc)
    (fun i w' => ∃ b' rb', Wch w0 w' q p b rb b' rb' ∧ Gw w' ∧ Blk w' bl #[.pointer (some ⟨q, 0, none⟩)] 25 ∧ Blk w' bu #[.int .i64 (U : Nat)] 3 ∧ Blk w' g #[rbF q, rsF q, b1F bu bl bt, swq q] TF ∧ match i with
      | 0 => WK w' q p b' rb' L m ∧ Blk w' bt #[.int .i64 0] 3
      | 1 => R1.2.2 = 0 ∧ WK w' q p b' rb' R1.1 R1.2.1 ∧ Blk w' bt #[.int .i64 0] 3
      | 2 => R1.2.2 = 0 ∧ R2.2.2 = 0 ∧ WK w' q p b' rb' R2.1 R2.2.1 ∧ Blk w' bt #[.int .i64 0] 3
      | 3 => R1.2.2 = 0 ∧ R2.2.2 = 0 ∧ WK w' q p b' rb' R2.1 R2.2.1 ∧ Blk w' bt #[.int .i64 ((U : Int) - (usedL R2.2.1.l : Nat))] 3
      | _ => R1.2.2 = 0 ∧ R2.2.2 = 0 ∧ (sweepN R2.1.g R2.2.1).2 = 0 ∧ WK w' q p b' rb' R2.1 (sweepN R2.1.g R2.2.1).1 ∧ Blk w' bt #[.int .i64 ((U : Int) - (usedL R2.2.1.l : Nat))] 3)
    (fun c w' => TnP w0 q p bt b rb (bgR R1 R2) (bgT U R1 R2) (.returned (.int .i64 (c : Nat))) w') w (by omega) ?_ ?_ ?_ ?_).mono ?_
  · rintro i w' ⟨b', rb', _, _, _, _, k, _⟩ hi
    obtain ⟨v, hv⟩ : ∃ v, #[rbF q, rsF q, b1F bu bl bt, swq q][i]? = some v := ⟨_, Array.getElem?_eq_getElem (by simpa using hi)⟩
    refine ⟨g, 0, rfl, ?_⟩
    rw [Nat.zero_add, hv, k.cell i, hv]
    rfl
  · intro i w' hR hi
    match i, hR, hi with
    | 0, ⟨b', rb', hW, G, Kl, Ku, Kg, hK', Kt⟩, _ =>
      refine ⟨_, _, rb_stp q, (H1 w' b' rb' hK' G).mono ?_⟩
      rintro e w2 ⟨rfl, b2, rb2, hW2, hK2⟩
      obtain ⟨G2, l2, u2, g2, t2⟩ := step hK' G Kl Ku Kg Kt hW2
      refine ⟨_, rfl, fun hc => ⟨b2, rb2, hW.trans hW2, G2, l2, u2, g2, hc, hK2, t2⟩, fun hc => ?_⟩
      unfold bgR bgT
      rw [if_pos hc, if_pos hc]
      exact ⟨rfl, b2, rb2, hW.trans hW2, hK2, t2⟩
    | 1, ⟨b', rb', hW, G, Kl, Ku, Kg, z1, hK', Kt⟩, _ =>
      refine ⟨_, _, rs_stp q, (H2 z1 w' b' rb' hK' G).mono ?_⟩
      rintro e w2 ⟨rfl, b2, rb2, hW2, hK2⟩
      obtain ⟨G2, l2, u2, g2, t2⟩ := step hK' G Kl Ku Kg Kt hW2
      refine ⟨_, rfl, fun hc => ⟨b2, rb2, hW.trans hW2, G2, l2, u2, g2, z1, hc, hK2, t2⟩, fun hc => ?_⟩
      unfold bgR bgT
      rw [if_neg (by simp [z1]), if_pos hc, if_neg (by simp [z1]), if_pos hc]
      exact ⟨rfl, b2, rb2, hW.trans hW2, hK2, t2⟩
    | 2, ⟨b', rb', hW, G, Kl, Ku, Kg, z1, z2, hK', Kt⟩, _ =>
      refine ⟨_, _, b1_stp bu bl bt, (begin1_any q p bl bu bt U _ b' rb' R2.1 R2.2.1 w' hK' (o z1 z2).m rfl hU Kl Ku _ Kt hne).mono ?_⟩
      rintro e w2 ⟨rfl, w1, hB1, hg2, t2⟩
      have hK1 := hK'.below hB1
      have hW1 : Wch w' w1 q p b' rb' b' rb' := Wch.below hB1
      obtain ⟨G1, l1, u1, g1, t1⟩ := step hK' G Kl Ku Kg Kt hW1
      have hK2 := hK1.box hg2 t1
      have hG2 : Gw w2 := G1.keep hg2.size fun k hk => hg2.block k (by have := G1.two; omega) (fun e => by have := Option.some.inj e; have := hG0.two; omega)
      refine ⟨0, rfl, fun _ => ⟨b', rb', (hW.trans hW1).loc hg2 lb, hG2, l1.grown hg2 (fun e => kind_ne l1.out t1.out (by decide) (Option.some.inj e)), u1.grown hg2 (fun e => hne (Option.some.inj e)), g1.grown hg2 (fun e => kind_ne g1.out t1.out (by decide) (Option.some.inj e)), z1, z2, hK2, t2⟩, fun hc => absurd rfl hc⟩
    | 3, ⟨b', rb', hW, G, Kl, Ku, Kg, z1, z2, hK', Kt⟩, _ =>
      refine ⟨_, _, swq_stp q, (sweep_any q p b' rb' R2.1 R2.2.1 w' hK' G (o z1 z2)).mono ?_⟩
      rintro e w2 ⟨rfl, b2, hW2, hK2⟩
      obtain ⟨G2, l2, u2, g2, t2⟩ := step hK' G Kl Ku Kg Kt hW2
      refine ⟨_, rfl, fun hc => ⟨b2, rb', hW.trans hW2, G2, l2, u2, g2, z1, z2, hc, hK2, t2⟩, fun hc => ?_⟩
      unfold bgR bgT
      rw [if_neg (by simp [z1]), if_neg (by simp [z2]), if_neg (by simp [z1]), if_neg (by simp [z2])]
      exact ⟨rfl, b2, rb', hW.trans hW2, hK2, t2⟩
    | i + 4, _, hi => exact absurd hi (by omega)
  · rintro w' ⟨b', rb', hW, G, Kl, Ku, Kg, z1, z2, z3, hK', Kt⟩
    unfold bgR bgT
    rw [if_neg (by simp [z1]), if_neg (by simp [z2]), if_neg (by simp [z1]), if_neg (by simp [z2])]
    exact ⟨by rw [z3], b', rb', hW, hK', Kt⟩
  · have hW : Wch w0 w q p b rb b rb := Wch.below hW0
    exact ⟨b, rb, hW, hW.gw hK0 hG0, kl, ku, kg, hK0.below hW0, kt⟩
  · rintro e w' ⟨c, rfl, h⟩
    exact h
end Go.Proofs.YtaiiojbakmminaaGreatDoor
namespace Go.Proofs.YtaiiojbakmminaaGreatDoor
open Go Go.RowKit
/-- What begin leaves. -/
def BgP (w : World) (q p : Nat) (b rb : Option Nat) (r : LG × (DN × Nat)) (t : Int) (e : Ending) (w' : World) : Prop := e = .returned (.tuple #[.int .i64 t, .int .i64 (r.2.2 : Nat)]) ∧ ∃ b' rb', Wch w w' q p b rb b' rb' ∧ WK w' q p b' rb' r.1 r.2.1
theorem fcl_rb (q : Nat) : IsF (rbF q) := ⟨_, _, _, rfl⟩
theorem fcl_rs (q : Nat) : IsF (rsF q) := ⟨_, _, _, rfl⟩
theorem fcl_b1 (x y z : Nat) : IsF (b1F x y z) := ⟨_, _, _, rfl⟩
theorem range4 : Array.range 4 = #[0, 1, 2, 3] := by decide
theorem fsl4 (v1 v2 v3 v4 : Value) (h1 : IsF v1) (h2 : IsF v2) (h3 : IsF v3) (h4 : IsF v4) (w : World) : (Instr.buildSlice TFS 4 #[(0, v1), (1, v2), (2, v3), (3, v4)]).run Tryz.prog w = .ok (.slice (some ⟨w.heap.size, 0, none⟩) 4 4) (w.alloc (.cells #[v1, v2, v3, v4] TF)) := by
  obtain ⟨_, _, _, rfl⟩ := h1
  obtain ⟨_, _, _, rfl⟩ := h2
  obtain ⟨_, _, _, rfl⟩ := h3
  obtain ⟨_, _, _, rfl⟩ := h4
  simp [Instr.buildSlice, run_underlying Tryz.underlying97, sizeOf_run iFn, Sem.run_bind, Instr.fill, newRow, Value.cells, range4]
theorem wpList_fsl4 {ops : Array Oper} {rest : List Oper} {op : Oper} {a : Act} {w : World} {Q : Exit → Act → World → Prop} (hgd : op.guard = none) (x1 x2 x3 x4 : Operand) (ho : op.op = .buildSlice TFS 4 #[(0, x1), (1, x2), (2, x3), (3, x4)]) (v1 v2 v3 v4 : Value) (e1 : a.eval x1 = v1) (e2 : a.eval x2 = v2) (e3 : a.eval x3 = v3) (e4 : a.eval x4 = v4)
    (h1 : IsF v1) (h2 : IsF v2) (h3 : IsF v3) (h4 : IsF v4)
    (h : ∀ w1 : World, Below w.heap.size w w1 → Blk w1 w.heap.size #[v1, v2, v3, v4] TF → wpList Tryz.prog ops Q rest (a.put op.dst (.slice (some ⟨w.heap.size, 0, none⟩) 4 4)) w1) : wpList Tryz.prog ops Q (op :: rest) a w := by
  have e : (#[(0, x1), (1, x2), (2, x3), (3, x4)] : Array (Nat × Operand)).map (fun (i, x) => (i, a.eval x)) = #[(0, v1), (1, v2), (2, v3), (3, v4)] := by simp [e1, e2, e3, e4]
  refine wpList_run hgd _ _ ?_ (h _ ((Below.refl _ _).alloc (Nat.le_refl _) _) (Blk.new _ _ _))
  unfold execOp
  simp only [ho, Sem.run_bind, e, fsl4 v1 v2 v3 v4 h1 h2 h3 h4, Result.andThen_ok]
  rfl
section
variable {op : Oper} {a : Act} {w : World}
theorem mk_rb (x1 : Operand) {b1 : Nat} (ho : op.op = .makeFunc (.func 65) #[x1] #[]) (h1 : a.eval x1 = .pointer (some ⟨b1, 0, none⟩)) : (execOp a.eval op).run Tryz.prog w = .ok (.value (rbF b1)) w := run_mkF _ _ _ ho _ _ (args1 h1) args0
theorem mk_rs (x1 : Operand) {b1 : Nat} (ho : op.op = .makeFunc (.func 66) #[x1] #[]) (h1 : a.eval x1 = .pointer (some ⟨b1, 0, none⟩)) : (execOp a.eval op).run Tryz.prog w = .ok (.value (rsF b1)) w := run_mkF _ _ _ ho _ _ (args1 h1) args0
theorem mk_b1 (x1 x2 x3 : Operand) {b1 b2 b3 : Nat} (ho : op.op = .makeFunc (.func 67) #[] #[x1, x2, x3]) (h1 : a.eval x1 = .pointer (some ⟨b1, 0, none⟩)) (h2 : a.eval x2 = .pointer (some ⟨b2, 0, none⟩)) (h3 : a.eval x3 = .pointer (some ⟨b3, 0, none⟩)) : (execOp a.eval op).run Tryz.prog w = .ok (.value (b1F b1 b2 b3)) w := run_mkF _ _ _ ho _ _ args0 (args3 h1 h2 h3)
end
theorem below_loc {n i : Nat} {w w1 w2 : World} (h : Below n w w1) (hg : w1.grownBy w2 (some i)) (hi : n ≤ i) (hn : n ≤ w1.heap.size) : Below n w w2 := ⟨hg.os.trans h.os, hg.tape.trans h.tape, hg.output.trans h.output, Nat.le_trans h.size hg.size, fun k hk => (hg.block k (by omega) (fun e => by have := Option.some.inj e; omega)).trans (h.block k hk)⟩
theorem set1 (u v : Value) : (#[u] : Array Value).setIfInBounds 0 v = #[v] := rfl
set_option maxRecDepth 100000 in
set_option maxHeartbeats 1000000 in
theorem begin_any (q p : Nat) (b rb : Option Nat) (L : LG) (m : DN) (R1 R2 : LG × (DN × Nat)) (w : World) (hK : WK w q p b rb L m) (hG : Gw w) (hg : L.g ≠ 0) (hm : Okn m)
    (H1 : ∀ w' b' rb', WK w' q p b' rb' L m → Gw w' → Calls Tryz.prog 65 #[.pointer (some ⟨q, 0, none⟩)] w' (RsP w' q p b' rb' R1))
    (H2 : R1.2.2 = 0 → ∀ w' b' rb', WK w' q p b' rb' R1.1 R1.2.1 → Gw w' → Calls Tryz.prog 66 #[.pointer (some ⟨q, 0, none⟩)] w' (RsP w' q p b' rb' R2))
    (o : R1.2.2 = 0 → R2.2.2 = 0 → Okw R2.1 R2.2.1) :
    Calls Tryz.prog 35 #[.pointer (some ⟨q, 0, none⟩)] w (BgP w q p b rb (bgR R1 R2) (bgT (usedL m.l) R1 R2)) := by
  obtain ⟨rv, hL, hTR, hD⟩ := hK.out
  have hgz : ¬ (L.g : Int) = 0 := by omega
  have hU : usedL m.l ≤ 1000000000000 := by have := hm.used; omega
  have HU := fun w1 (hB : Below w.heap.size w w1) => usedN p b m w1 (hD.below hB) hm
  have HT : ∀ w8 bl bu bt g, Below w.heap.size w w8 → Blk w8 bl #[.pointer (some ⟨q, 0, none⟩)] 25 → Blk w8 bu #[.int .i64 (usedL m.l : Nat)] 3 → Blk w8 bt #[.int .i64 0] 3 → Blk w8 g #[rbF q, rsF q, b1F bu bl bt, swq q] TF → w.heap.size ≤ bt → bu ≠ bt → Calls Tryz.prog 37 #[.slice (some ⟨g, 0, none⟩) 4 4] w8 (TnP w q p bt b rb (bgR R1 R2) (bgT (usedL m.l) R1 R2)) := fun w8 bl bu bt g hB kl ku kt kg lb hne => begin_turn q p bl bu bt g (usedL m.l) 4 b rb L m R1 R2 w w8 hK hG hB hU kl ku kt kg lb hne H1 H2 o
  clear H1 H2 o hU
  generalize bgR R1 R2 = r at *
  generalize bgT (usedL m.l) R1 R2 = t at *
  generalize usedL m.l = U at *
  go_enter Tryz.func35, Tryz.ntmps35
  go_upto_region 4 with (first
    | (go_at_call 33; refine (HU _ hw1).mono ?_; rintro e w2 ⟨rfl, hw2⟩; have hB2 := hw1.trans (hw2.mono hw1.size); have hl2 := hl1.belowSize hw2)
    | (with_reducible refine at_list ?_; first
      | (refine wpList_box1 (op := ⟨some 1, _, _, _, _, _⟩) rfl _ _ rfl (.pointer (some ⟨q, 0, none⟩)) rfl rfl ?_; intro w1 hw1 hl1; have hL1 := hL.belowSize hw1)
      | (refine wpList_loadCell (op := ⟨some 7, _, _, _, _, _⟩) rfl _ _ rfl w.heap.size 0 rfl _ _ hl1 _ Tryz.underlying25 rfl _ rfl ?_)
      | (refine wpList_loadCell (op := ⟨some 10, _, _, _, _, _⟩) rfl _ _ rfl q 2 rfl _ _ hL1 _ Tryz.underlying3 rfl _ (lC_g2 _ _ _) ?_)
      | (refine wpList_loadCell (op := ⟨some 14, _, _, _, _, _⟩) rfl _ _ rfl w.heap.size 0 rfl _ _ hl1 _ Tryz.underlying25 rfl _ rfl ?_)
      | (refine wpList_loadCell (op := ⟨some 17, _, _, _, _, _⟩) rfl _ _ rfl q 0 rfl _ _ hL1 _ Tryz.underlying23 rfl _ (lC_g0 _ _ _) ?_)
      | (refine wpList_alloc1 (op := ⟨some 4, _, _, _, _, _⟩) rfl _ rfl _ zI rfl ?_; intro w3 hw3 hu3; try simp only [Act.put, List.setIfInBounds_toArray, List.set_cons_zero, List.set_cons_succ])
      | (refine wpList_alloc1 (op := ⟨some 5, _, _, _, _, _⟩) rfl _ rfl _ zI rfl ?_; intro w4 hw4 ht4; have hu4 := hu3.belowSize hw4; have hz3 := hu3.lt; have hB3 := hB2.trans (hw3.mono hB2.size); have hB4 := hB3.trans (hw4.mono hB3.size); have hl4 := (hl2.belowSize hw3).belowSize hw4; try simp only [Act.put, List.setIfInBounds_toArray, List.set_cons_zero, List.set_cons_succ])
      | (refine wpList_storeCell (op := ⟨none, .store 3 (.tmp 4) (.tmp 18), _, _, _, _⟩) rfl _ _ _ rfl w2.heap.size 0 rfl (.int .i64 (U : Nat)) rfl _ _ hu4 iIntS rfl rfl (by decide) ?_; intro w5 hg5 hs5 hu5; clear hs5; rw [set1] at hu5; have ht5 := ht4.grown hg5 (fun e => by have := Option.some.inj e; omega); have hz2 := hl2.lt; have hl5 := hl4.grown hg5 (fun e => by have := Option.some.inj e; omega); have hB5 := below_loc hB4 hg5 hB2.size hB4.size; try simp only [Act.put])
      | (refine wpList_storeCell (op := ⟨none, .store 3 (.tmp 5) (.const (.int .i64 0)), _, _, _, _⟩) rfl _ _ _ rfl w3.heap.size 0 rfl (.int .i64 0) rfl _ _ ht5 iIntS rfl rfl (by decide) ?_; intro w6 hg6 hs6 ht6; clear hs6; rw [set1] at ht6; have hu6 := hu5.grown hg6 (fun e => by have := Option.some.inj e; omega); have hl6 := hl5.grown hg6 (fun e => by have := Option.some.inj e; omega); have hB6 := below_loc hB5 hg6 hB3.size hB5.size; have hlt := hB3.size; have hne : w2.heap.size ≠ w3.heap.size := by omega; try simp only [Act.put])))
  go_wp2_with (first
    | (go_at_call 37; refine HC.mono ?_; rintro e w9 ⟨rfl, b9, rb9, hW9, hK9, ht9⟩)
    | (with_reducible refine at_list ?_; first
      | (refine wpList_loadCell (op := ⟨some 19, _, _, _, _, _⟩) rfl _ _ rfl w.heap.size 0 rfl _ _ hl6 _ Tryz.underlying25 rfl _ rfl ?_; try simp only [Act.put, List.setIfInBounds_toArray, List.set_cons_zero, List.set_cons_succ])
      | (refine wpList_loadCell (op := ⟨some 21, _, _, _, _, _⟩) rfl _ _ rfl w.heap.size 0 rfl _ _ hl6 _ Tryz.underlying25 rfl _ rfl ?_; try simp only [Act.put, List.setIfInBounds_toArray, List.set_cons_zero, List.set_cons_succ])
      | (refine wpList_loadCell (op := ⟨some 24, _, _, _, _, _⟩) rfl _ _ rfl w.heap.size 0 rfl _ _ hl6 _ Tryz.underlying25 rfl _ rfl ?_; try simp only [Act.put, List.setIfInBounds_toArray, List.set_cons_zero, List.set_cons_succ])
      | (refine wpList_pure (op := ⟨some 20, _, _, _, _, _⟩) rfl (rbF q) (mk_rb _ rfl rfl) ?_; try simp only [Act.put, List.setIfInBounds_toArray, List.set_cons_zero, List.set_cons_succ])
      | (refine wpList_pure (op := ⟨some 22, _, _, _, _, _⟩) rfl (rsF q) (mk_rs _ rfl rfl) ?_; try simp only [Act.put, List.setIfInBounds_toArray, List.set_cons_zero, List.set_cons_succ])
      | (refine wpList_pure (op := ⟨some 23, _, _, _, _, _⟩) rfl (b1F w2.heap.size w.heap.size w3.heap.size) (mk_b1 _ _ _ rfl rfl rfl rfl) ?_; try simp only [Act.put, List.setIfInBounds_toArray, List.set_cons_zero, List.set_cons_succ])
      | (refine wpList_pure (op := ⟨some 25, _, _, _, _, _⟩) rfl (swq q) (mk_sw _ rfl rfl) ?_; try simp only [Act.put, List.setIfInBounds_toArray, List.set_cons_zero, List.set_cons_succ])
      | (refine wpList_fsl4 (op := ⟨some 26, _, _, _, _, _⟩) rfl _ _ _ _ rfl (rbF q) (rsF q) (b1F w2.heap.size w.heap.size w3.heap.size) (swq q) rfl rfl rfl rfl (fcl_rb _) (fcl_rs _) (fcl_b1 _ _ _) (fcl_sw _) ?_; intro w7 hw7 hb7; have hB7 := hB6.trans (hw7.mono hB6.size); have hl7 := hl6.belowSize hw7; have hu7 := hu6.belowSize hw7; have ht7 := ht6.belowSize hw7; have HC := HT w7 w.heap.size w2.heap.size w3.heap.size w6.heap.size hB7 hl7 hu7 ht7 hb7 hlt hne; try simp only [Act.put, List.setIfInBounds_toArray, List.set_cons_zero, List.set_cons_succ])
      | (refine wpList_loadCell (op := ⟨some 28, _, _, _, _, _⟩) rfl _ _ rfl w3.heap.size 0 rfl _ _ ht9 _ Tryz.underlying3 rfl _ rfl ?_)))
  go_ret2
  exact ⟨rfl, b9, rb9, hW9, hK9⟩
set_option maxRecDepth 100000 in
set_option maxHeartbeats 4000000 in
theorem begin0_any (q p : Nat) (b rb : Option Nat) (L : LG) (m : DN) (w : World) (hK : WK w q p b rb L m) (hG : Gw w) (hg : L.g = 0) (ho : Okr L m ((frs [[]]).length + (frs []).length)) :
    Calls Tryz.prog 35 #[.pointer (some ⟨q, 0, none⟩)] w (BgP w q p b rb (resetN L m [] []) 0) := by
  obtain ⟨rv, hL, hTR, hD⟩ := hK.out
  have hgz : (L.g : Int) = 0 := by omega
  have HR := fun w1 (hB : Below w.heap.size w w1) => reset_any q p b rb L m [] [] none 0 w1 (hK.below hB) (hG.below hB) ho (TA.nil w1 none) (fun _ e => by cases e) (by simp)
  change ∀ w1 (_ : Below w.heap.size w w1), Calls Tryz.prog 12 #[.pointer (some ⟨q, 0, none⟩), .string ⟨#[]⟩, .slice none 0 0] w1 (RsP w1 q p b rb (resetN L m [] [])) at HR
  generalize resetN L m [] [] = r at *
  clear hg
  go_enter Tryz.func35, Tryz.ntmps35
  go_wp2_with (first
    | (go_at_call 12; refine (HR _ hw1).mono ?_; rintro e w9 ⟨rfl, b9, rb9, hW9, hK9⟩)
    | (with_reducible refine at_list ?_; first
      | (refine wpList_box1 (op := ⟨some 1, _, _, _, _, _⟩) rfl _ _ rfl (.pointer (some ⟨q, 0, none⟩)) rfl rfl ?_; intro w1 hw1 hl1; have hL1 := hL.belowSize hw1)
      | (refine wpList_loadCell (op := ⟨some 7, _, _, _, _, _⟩) rfl _ _ rfl w.heap.size 0 rfl _ _ hl1 _ Tryz.underlying25 rfl _ rfl ?_)
      | (refine wpList_loadCell (op := ⟨some 10, _, _, _, _, _⟩) rfl _ _ rfl q 2 rfl _ _ hL1 _ Tryz.underlying3 rfl _ (lC_g2 _ _ _) ?_)
      | (refine wpList_loadCell (op := ⟨some 12, _, _, _, _, _⟩) rfl _ _ rfl w.heap.size 0 rfl _ _ hl1 _ Tryz.underlying25 rfl _ rfl ?_)))
  go_ret2
  exact ⟨rfl, b9, rb9, (Wch.below hw1).trans hW9, hK9⟩
end Go.Proofs.YtaiiojbakmminaaGreatDoor
