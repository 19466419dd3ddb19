/- A replica stands, a leader speaks, a tick passes. What holds of a leader. A text is proposed. -/
import Derived.Test.YtnhlejdilldfaaaGreatRct
namespace Go.Proofs.YtnhlejdilldfaaaGreat
open Go Go.RowKit Go.Maps
/-- There is room for one more. -/
structure Room (N : RN) : Prop where
  term : N.k.term + 1 ≤ 1152921504606846976
  last : N.last + 1 ≤ 1152921504606846976
  log : N.k.log.length + 1 ≤ 68719476736
  ticks : 0 ≤ N.ticks ∧ N.ticks ≤ 1152921504606846976
  quiet : 0 ≤ N.quiet ∧ N.quiet ≤ 1152921504606846976
/-- What a leader tells the others next is there. -/
def Nxt (N : RN) : Prop := ∀ x ∈ N.mems, x ≠ N.me → 1 ≤ N.next x ∧ N.next x ≤ N.last + 1
theorem Bnd.begin {N : RN} (h : Bnd N) : Bnd N.begin := h.of_k rfl rfl rfl h.commit rfl rfl rfl
section
variable (F : Nat → Prop) (nb : Nat) (M : NM) (lb : Option Nat) (w : World) (N : RN)
set_option maxRecDepth 100000 in
set_option maxHeartbeats 1000000 in
theorem speak_any (h : ND F nb M lb w N) (hb : Bnd N) (hg : Gm N) (hn : Nxt N) : Calls Tryz.prog 69 #[.pointer (some ⟨nb, 0, none⟩)] w (OuP F nb M lb w N.speak) := by
  have c13 := h.c13
  have f13 := h.frz 13
  by_cases ht : N.ticks < 3
  · have he : N.speak = (N, []) := if_pos ht
    have d1 := decide_eq_true ht
    rw [he]
    clear he ht
    go_enter Tryz.func69, Tryz.ntmps69
    go_wp2_with fail
    go_ret
    exact ⟨_, F, lb, rfl, Stp.refl, h, MS.nil _ _⟩
  · have he : N.speak = ({ N with ticks := 0 }, N.others N.tell) := if_neg ht
    have d1 := decide_eq_false ht
    have hP := h.p13 0
    have HO := others_tell F nb M lb _ _ hP (hb.of_k rfl rfl rfl hb.commit rfl rfl rfl) (hg.of_k rfl) hn
    have ho : ({ N with ticks := 0 } : RN).others ({ N with ticks := 0 } : RN).tell = N.others N.tell := rfl
    rw [ho] at HO
    rw [he]
    clear he ht ho
    generalize N.others N.tell = ms at *
    go_enter Tryz.func69, Tryz.ntmps69
    go_wp2_with (go_at_call 93; refine HO.mono ?_; rintro e w5 ⟨v, rfl, hms, hw5⟩; clear HO)
    go_ret
    exact ⟨v, Fb F _ w5, lb, rfl, (Stp.refl.set 13 _).trans (Stp.fresh hw5), hP.fresh hw5, hms.kept (fun _ _ => rfl) (fun k hk => .inr hk)⟩
set_option maxRecDepth 100000 in
set_option maxHeartbeats 1000000 in
theorem stand_any (h : ND F nb M lb w N) (hb : Bnd N) (hg : Gm N) (hr : Room N) : Calls Tryz.prog 70 #[.pointer (some ⟨nb, 0, none⟩)] w (OuP F nb M lb w N.stand) := by
  have HM := mayStand_any F nb M lb w N h hb hg
  have hme := hb.me
  cases hm : N.mayStand with
  | false =>
    rw [hm] at HM
    have he : N.stand = (N.begin, []) := by unfold RN.stand; rw [hm]; rfl
    rw [he]
    have HB := fun W (hW : ND F nb M lb W N) => begin_any F nb M lb W N hW hb
    clear he hm
    go_enter Tryz.func70, Tryz.ntmps70
    go_wp2_with (first
      | (go_at_call 95; refine HM.mono ?_; rintro e w1 ⟨rfl, hw1⟩; clear HM)
      | (go_at_call 62; refine (HB _ (h.below hw1)).mono ?_; rintro e w2 ⟨rfl, hS2, hN2⟩; clear HB))
    go_ret
    exact ⟨_, F, lb, rfl, (Stp.below hw1).trans hS2, hN2, MS.nil _ _⟩
  | true =>
    rw [hm] at HM
    have he : N.stand = N.cand.count N.me := by unfold RN.stand; rw [hm]; rfl
    rw [he]
    have ht := hb.term
    have hrt := hr.term
    have hw1 : IntKind.i64.wrap (N.k.term + 1) = N.k.term + 1 := by rw [IntKind.wrap_i64]; omega
    obtain ⟨N1, hN1⟩ : ∃ N1 : RN, Hid (N1 = { N with k := { N.k with term := N.k.term + 1, vote := N.me }, role := 2, leader := -1 }) := ⟨_, rfl⟩
    have hb1 : Bnd N1 := by
      rw [hN1.out]
      exact hb.upd rfl ⟨by show 0 ≤ N.k.term + 1; omega, hrt⟩ rfl rfl rfl rfl rfl rfl hb.commit rfl rfl rfl
    have hcd : N.cand = { N1.begin with votes := fun _ => false } := by rw [hN1.out]; rfl
    have hg1 : Gm N1 := by rw [hN1.out]; exact ⟨hg.base, hg.log⟩
    have hbc : Bnd N.cand := by rw [hcd]; exact hb1.begin.of_k rfl rfl rfl hb1.commit rfl rfl rfl
    have hgc : Gm N.cand := by rw [hcd]; exact hg1.of_k rfl
    have HB := fun W (hW : ND F nb M lb W N1) => begin_any F nb M lb W N1 hW hb1
    have hl1 : N.cand.last + 1 ≤ 1152921504606846976 := hr.last
    have hl2 : N.cand.k.log.length + 1 ≤ 68719476736 := hr.log
    have HC := fun W (hW : ND F nb M lb W N.cand) => count_any F nb M lb W N.cand hW hbc hgc N.me hme hl1 hl2
    have hP := fun W (hW : ND F nb M lb W N) => (((hW.p1 (N.k.term + 1)).p2 N.me).p8 2).p9 (-1)
    have hC0 := fun W (hW : ND F nb M lb W N.cand) => (show W.cell? ⟨nb, 0, none⟩ = some (Value.int .i64 N.me) from hW.c0)
    replace hcd : Hid (N.cand = { N1.begin with votes := fun _ => false }) := hcd
    clear he hm hb1 hg1 hbc hgc hl1 hl2
    generalize N.cand.count N.me = r at *
    generalize N.cand = Nc at *
    go_enter Tryz.func70, Tryz.ntmps70
    go_wp2_with (first
      | (go_at_call 95; refine HM.mono ?_; rintro e w1 ⟨rfl, hw1⟩; clear HM; have h1 := h.below hw1; have c0 := h1.c0; have c1 := h1.c1; have c2 := h1.c2; have c8 := h1.c8; have c9 := h1.c9; have f1 := h1.frz 1; have f2 := h1.frz 2; have f8 := h1.frz 8; have f9 := h1.frz 9; have hP1 := hP _ h1; rw [← hN1.out] at hP1)
      | (go_at_call 62; refine (HB _ hP1).mono ?_; rintro e w2 ⟨rfl, hS2, hN2⟩; clear HB; have c15 := hN2.c15)
      | (with_reducible refine at_list ?_; refine wpList_clearM (op := ⟨none, .call { callee := .builtin .clear, args := #[.tmp 36], argTypes := #[105] }, _, _, _, _⟩) rfl 105 _ rfl hN2.votes Tryz.underlying105 rfl S16 ?_; intro w3 hm3 hg3; have hN3 := hN2.toVotes hm3 hg3; rw [← hcd.out] at hN3; have c0b := hC0 _ hN3)
      | (go_at_call 96; refine (HC _ hN3).mono ?_; rintro e w5 ⟨v, F', lb', rfl, hS5, hN5, hms⟩; clear HC))
    go_ret
    exact ⟨v, F', lb', rfl, ((((((((Stp.below hw1).set 1 _).set 2 _).set 8 _).set 9 _).trans hS2).trans (Stp.grown hg3 own_bv))).trans hS5, hN5, hms⟩
set_option maxRecDepth 100000 in
set_option maxHeartbeats 1000000 in
theorem tick_any (h : ND F nb M lb w N) (hb : Bnd N) (hg : Gm N) (hn : N.role = 3 → Nxt N) (hr : Room N.ticked) (h0 : Room N) : Calls Tryz.prog 26 #[.pointer (some ⟨nb, 0, none⟩)] w (OuP F nb M lb w N.tick) := by
  have HNo := none_any F nb M lb w N h
  have c13 := h.c13
  have c14 := h.c14
  have f13 := h.frz 13
  have f14 := h.frz 14
  have ht := h0.ticks
  have hq := h0.quiet
  have hw1 : IntKind.i64.wrap (N.ticks + 1) = N.ticks + 1 := by rw [IntKind.wrap_i64]; omega
  have hw2 : IntKind.i64.wrap (N.quiet + 1) = N.quiet + 1 := by rw [IntKind.wrap_i64]; omega
  have hP : ND F nb M lb _ N.ticked := (h.p13 (N.ticks + 1)).p14 (N.quiet + 1)
  have hbt : Bnd N.ticked := hb.of_k rfl rfl rfl hb.commit rfl rfl rfl
  have hgt : Gm N.ticked := hg.of_k rfl
  have hde : N.tick = if N.role = 3 then N.ticked.speak else if N.ticked.ticks < N.wait then (N.ticked, []) else N.ticked.stand := rfl
  rw [hde]
  by_cases h3 : N.role = 3
  · rw [if_pos h3]
    have HS := speak_any F nb M lb _ N.ticked hP hbt hgt (hn h3)
    have d1 : (N.ticked.role == 3) = true := beq_iff_eq.2 h3
    have c8 := hP.c8
    clear hde h3 hn
    generalize N.ticked.speak = r at *
    go_enter Tryz.func26, Tryz.ntmps26
    go_wp2_with (first
      | (go_at_call 63; refine HNo.mono ?_; rintro e w1 ⟨rfl, hw1⟩; replace hw1 := hw1.symm; subst hw1; clear HNo)
      | (go_at_call 69; refine HS.mono ?_; rintro e w5 ⟨v, F', lb', rfl, hS5, hN5, hms⟩; clear HS))
    go_ret
    exact ⟨v, F', lb', rfl, ((Stp.refl.set 13 _).set 14 _).trans hS5, hN5, hms⟩
  · rw [if_neg h3]
    have d1 : (N.ticked.role == 3) = false := beq_eq_false_iff_ne.2 h3
    have c8 := hP.c8
    have c12 := hP.c12
    have c13' := hP.c13
    by_cases hlt : N.ticked.ticks < N.wait
    · rw [if_pos hlt]
      have d2 : decide (N.ticked.ticks < N.ticked.wait) = true := decide_eq_true hlt
      clear hde h3 hn hlt
      go_enter Tryz.func26, Tryz.ntmps26
      go_wp2_with (go_at_call 63; refine HNo.mono ?_; rintro e w1 ⟨rfl, hw1⟩; replace hw1 := hw1.symm; subst hw1; clear HNo)
      go_region
      go_wp2_with fail
      go_ret
      exact ⟨_, F, lb, rfl, ((Stp.refl.set 13 _).set 14 _).drew, hP.drew, MS.nil _ _⟩
    · rw [if_neg hlt]
      have HS := fun W (hW : ND F nb M lb W N.ticked) => stand_any F nb M lb W N.ticked hW hbt hgt hr
      have d2 : decide (N.ticked.ticks < N.ticked.wait) = false := decide_eq_false hlt
      clear hde h3 hn hlt
      generalize N.ticked.stand = r at *
      go_enter Tryz.func26, Tryz.ntmps26
      go_wp2_with (go_at_call 63; refine HNo.mono ?_; rintro e w1 ⟨rfl, hw1⟩; replace hw1 := hw1.symm; subst hw1; clear HNo)
      go_region
      go_wp2_with (go_at_call 70; refine (HS _ hP.drew).mono ?_; rintro e w5 ⟨v, F', lb', rfl, hS5, hN5, hms⟩; clear HS)
      go_ret
      exact ⟨v, F', lb', rfl, (((Stp.refl.set 13 _).set 14 _).drew).trans hS5, hN5, hms⟩
end
end Go.Proofs.YtnhlejdilldfaaaGreat
namespace Go.Proofs.YtnhlejdilldfaaaGreat
open Go Go.RowKit Go.Maps
/-- A leader's maps tell of nothing behind its log. -/
structure LdP (N : RN) : Prop where
  next : ∀ x, x ≠ N.me → 0 ≤ N.next x ∧ N.next x ≤ N.last + 1
  had : ∀ x, x ≠ N.me → 0 ≤ N.had x ∧ N.had x ≤ N.last
/-- And where it goes on to tell is there. -/
structure LdI (N : RN) : Prop extends LdP N where
  ne : N.mems ≠ []
  one : ∀ x ∈ N.mems, x ≠ N.me → 1 ≤ N.next x
theorem LdI.ldr {N : RN} (h : LdI N) : Ldr N := ⟨h.ne, fun x hx hne => ⟨h.one x hx hne, (h.next x hne).2⟩, fun x _ hne => (h.had x hne).2⟩
theorem meet_nx (N : RN) (x : Int) : ∃ y, (y = 0 ∨ y = N.next x) ∧ N.meet.next x = if x ∈ N.mems ∧ y = 0 ∧ x ≠ N.me then N.last + 1 else y := by
  by_cases h : (decide (0 ≤ x ∧ x < 16) && decide (x ∉ N.mems)) = true
  · refine ⟨0, .inl rfl, ?_⟩
    unfold RN.meet
    dsimp only
    rw [if_pos h]
  · refine ⟨N.next x, .inr rfl, ?_⟩
    unfold RN.meet
    dsimp only
    rw [if_neg h]
theorem meet_hd (N : RN) (x : Int) : N.meet.had x = 0 ∨ N.meet.had x = N.had x := by
  by_cases h : (decide (0 ≤ x ∧ x < 16) && decide (x ∉ N.mems)) = true
  · left
    unfold RN.meet
    dsimp only
    rw [if_pos h]
  · right
    unfold RN.meet
    dsimp only
    rw [if_neg h]
theorem LdP.push_meet {N : RN} (h : LdP N) (h0 : 0 ≤ N.last) (e : LE) (he : (N.push e).mems ≠ []) : LdI (N.push e).meet := by
  have hl : (N.push e).meet.last = N.last + 1 := last_push N e
  have hl2 : (N.push e).last = N.last + 1 := last_push N e
  refine ⟨⟨fun x hx => ?_, fun x hx => ?_⟩, he, fun x hx hne => ?_⟩
  · have h1 : 0 ≤ (N.push e).next x ∧ (N.push e).next x ≤ N.last + 1 := h.next x hx
    obtain ⟨y, hy, e1⟩ := meet_nx (N.push e) x
    rw [hl, e1, hl2]
    split <;> omega
  · have h1 : 0 ≤ (N.push e).had x ∧ (N.push e).had x ≤ N.last := h.had x hx
    have := meet_hd (N.push e) x
    rw [hl]
    omega
  · have h1 : 0 ≤ (N.push e).next x ∧ (N.push e).next x ≤ N.last + 1 := h.next x hne
    obtain ⟨y, hy, e1⟩ := meet_nx (N.push e) x
    have hx : x ∈ (N.push e).mems := hx
    have hne : x ≠ (N.push e).me := hne
    rw [e1, hl2]
    by_cases h2 : y = 0
    · rw [if_pos ⟨hx, h2, hne⟩]; omega
    · rw [if_neg (fun k => h2 k.2.1)]; omega
theorem Bnd.last0 {N : RN} (h : Bnd N) : 0 ≤ N.last := by
  have := h.bi
  unfold RN.last
  omega
end Go.Proofs.YtnhlejdilldfaaaGreat
namespace Go.Proofs.YtnhlejdilldfaaaGreat
open Go Go.RowKit Go.Maps
/-- An entry that bears a text. -/
def RN.text (N : RN) (s : List UInt8) : LE := ⟨N.k.term, s, false, []⟩
/-- What a call leaves that tells an index, messages, and whether it was done. -/
def OuQ (F : Nat → Prop) (nb : Nat) (M : NM) (lb : Option Nat) (w : World) (r : RN × Int × List MSG × Bool) (e : Ending) (w' : World) : Prop := ∃ v F' lb', e = .returned (.tuple #[.int .i64 r.2.1, v, .bool r.2.2.2]) ∧ Stp nb M F F' lb lb' w w' ∧ ND F' nb M lb' w' r.1 ∧ MS F' w' v r.2.2.1
section
variable (F : Nat → Prop) (nb : Nat) (M : NM) (lb : Option Nat) (w : World) (N : RN)
set_option maxRecDepth 100000 in
set_option maxHeartbeats 1000000 in
theorem propose_yes (h : ND F nb M lb w N) (hb : Bnd N) (hg : Gm N) (hl : LdI N) (h3 : N.role = 3) (s : List UInt8) (h1 : N.last + 1 ≤ 1152921504606846976) (h2 : N.k.log.length + 1 ≤ 68719476736) : Calls Tryz.prog 31 #[.pointer (some ⟨nb, 0, none⟩), .string ⟨s.toArray⟩] w (OuQ F nb M lb w (N.add (N.text s), (N.add (N.text s)).last, N.addMsgs (N.text s), true)) := by
  have HR := role_any F nb M lb w N h
  have d1 : (N.role != 3) = false := by rw [h3]; rfl
  have c1 := h.c1
  have hbp := hb.push (N.text s) h1 h2
  have hgp := hg.push (N.text s) ⟨by show 0 ≤ 16; omega, fun x hx => (by cases hx)⟩
  have hlp := (hl.toLdP.push_meet hb.last0 (N.text s) (by rw [mems_plain N rfl]; exact hl.ne)).ldr
  have HA : Calls Tryz.prog 71 #[.pointer (some ⟨nb, 0, none⟩), .agg #[.int .i64 N.k.term, .string ⟨s.toArray⟩, .bool false, .slice none 0 0]] w _ := add_any F nb M lb w N h (N.text s) none 0 (IF.nil _ _ _) (by show 0 ≤ _; omega) hbp hgp hlp
  clear h3 hbp hgp hlp h1 h2 hl hg hb
  generalize N.addMsgs (N.text s) = ms at *
  generalize N.add (N.text s) = N3 at *
  go_enter Tryz.func31, Tryz.ntmps31
  go_wp2_with (first
    | (go_at_call 28; refine HR.mono ?_; rintro e w1 ⟨rfl, hw1⟩; replace hw1 := hw1.symm; subst hw1; clear HR)
    | (go_at_call 71; refine HA.mono ?_; rintro e w5 ⟨v, F', lb', rfl, hS5, hN5, hms⟩; clear HA))
  go_ret3
  exact ⟨v, F', lb', rfl, hS5, hN5, hms⟩
end
end Go.Proofs.YtnhlejdilldfaaaGreat
