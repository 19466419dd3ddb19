/- The verifier's awake: a replica alone leads, and has what it is proposed. -/
import Derived.Test.YtnhlejdilldfaaaGreatRnk
import Derived.Test.YtnhlejdilldfaaaGreatRal
import Derived.Test.YtnhlejdilldfaaaGreatRhd
namespace Go.Proofs.YtnhlejdilldfaaaGreat
open Go Go.RowKit Go.Maps
/-- New of one that takes part alone, with nothing yet. -/
theorem new_alone (w : World) : Calls Tryz.prog 20 #[.int .i64 0, .agg #[.int .i64 0, .int .i64 (-1), .int .i64 0, .int .i64 0, .string ⟨#[]⟩, .slice (some ⟨w.heap.size, 0, none⟩) 1 1, .slice none 0 0], .slice none 0 0] (w.alloc (.cells #[.int .i64 0] 3)) (NewP (w.alloc (.cells #[.int .i64 0] 3)) 0 ⟨0, -1, 0, 0, [], [0], []⟩ []) := by
  refine new_any (w.alloc (.cells #[.int .i64 0] 3)) 0 ⟨0, -1, 0, 0, [], [0], []⟩ [] (some ⟨w.heap.size, 0, none⟩) none none 1 0 0 rfl ?_ ?_ (fun i hi => absurd hi (Nat.not_lt_zero _)) rfl
  · have h : Al (RN.raw 0 ⟨0, -1, 0, 0, [], [0], []⟩ []) 0 (-1) [] 0 1 (-1) 0 0 0 := ⟨rfl, rfl, rfl, rfl, rfl, rfl, rfl, rfl, rfl, fun _ => rfl, fun _ => rfl, fun _ => rfl, Nat.zero_le _, fun _ he => by cases he⟩
    exact h.bnd (by omega) (Nat.zero_le _) (by simp)
  · intro i x hx
    cases i with
    | zero =>
      simp only [List.getElem?_cons_zero, Option.some.injEq] at hx
      subst hx
      exact ⟨w.heap.size, 0, rfl, (Blk.new w #[.int .i64 0] 3).cell 0⟩
    | succ n => simp at hx
/-- A node that is new in a world. -/
def NewN (w w' : World) (nb : Nat) (N : RN) : Prop := ∃ F M lb, Below w.heap.size w w' ∧ (∀ q, F q → w.heap.size ≤ q) ∧ (∀ q, own nb M lb q → w.heap.size ≤ q) ∧ ND F nb M lb w' N
theorem NewN.stp {w w1 w2 : World} {nb : Nat} {F F' : Nat → Prop} {M : NM} {lb lb' : Option Nat} {N' : RN} (hb : Below w.heap.size w w1) (hF : ∀ q, F q → w.heap.size ≤ q) (ho : ∀ q, own nb M lb q → w.heap.size ≤ q) (hs : Stp nb M F F' lb lb' w1 w2) (hN : ND F' nb M lb' w2 N') : NewN w w2 nb N' := by
  refine ⟨F', M, lb', ⟨hs.os.trans hb.os, hs.tape.trans hb.tape, hs.output.trans hb.output, Nat.le_trans hb.size hs.size, fun i hi => (hs.keep i (Nat.lt_of_lt_of_le hi hb.size) (fun h => by have := ho i h; omega)).trans (hb.block i hi)⟩, fun q hq => ?_, fun q hq => ?_, hN⟩
  · rcases hs.fnew q hq with h | h
    · exact hF q h
    · exact Nat.le_trans hb.size h
  · rcases hq with h | h | h | h | h | h
    · exact ho q (.inl h)
    · exact ho q (.inr (.inl h))
    · exact ho q (.inr (.inr (.inl h)))
    · exact ho q (.inr (.inr (.inr (.inl h))))
    · exact ho q (.inr (.inr (.inr (.inr (.inl h)))))
    · rcases hs.newb q h with h | h
      · exact ho q (.inr (.inr (.inr (.inr (.inr h)))))
      · exact Nat.le_trans hb.size h
theorem NewN.below {w w1 w2 : World} {nb : Nat} {N : RN} (h : NewN w w1 nb N) (hb : Below w1.heap.size w1 w2) : NewN w w2 nb N := by
  obtain ⟨F, M, lb, h1, h2, h3, h4⟩ := h
  exact NewN.stp h1 h2 h3 (Stp.below hb) (h4.below hb)
/-- A tick of one alone. -/
theorem NewN.tick {w w1 : World} {nb : Nat} {N : RN} (h : NewN w w1 nb N) {t v : Int} {L : List LE} {c : Int} {i : Nat} (hr : Run N t v L c i) (hi : i ≤ 100) (ht : 0 ≤ t ∧ t ≤ 900) (hL : L.length ≤ 900) (hc : 0 ≤ c ∧ c ≤ (L.length : Nat)) : Calls Tryz.prog 26 #[.pointer (some ⟨nb, 0, none⟩)] w1 fun e w2 => ∃ r N2, e = .returned r ∧ NewN w w2 nb N2 ∧ Run N2 t v L c (i + 1) := by
  obtain ⟨F, M, lb, h1, h2, h3, h4⟩ := h
  obtain ⟨g1, g2, g3, g4, g5⟩ := hr.good hi ht hL hc
  refine (tick_any F nb M lb w1 N h4 g1 g2 (fun _ => g3) g5 g4).mono ?_
  rintro e w2 ⟨vv, F', lb', rfl, hS, hN, _⟩
  exact ⟨vv, N.tick.1, rfl, NewN.stp h1 h2 h3 hS hN, (hr.tick hc).1⟩
theorem NewP.newN {w w1 w' : World} {me : Int} {k : HD} {draws : List Int} {e : Ending} (h : NewP w1 me k draws e w') (hb : Below w.heap.size w w1) : ∃ nb, e = .returned (.tuple #[.pointer (some ⟨nb, 0, none⟩), .int .i64 0]) ∧ NewN w w' nb (RN.made me k draws) := by
  obtain ⟨F, nb, M, lb, rfl, h1, h2, h3, h4⟩ := h
  have hsz := hb.size
  refine ⟨nb, rfl, F, M, lb, hb.trans (h1.mono hsz), fun q hq => Nat.le_trans hsz (h2 q hq), fun q hq => Nat.le_trans hsz (h3 q hq), h4⟩
/-- What one alone that leads is proposed it has, committed. -/
theorem NewN.propose {w w1 : World} {nb : Nat} {N : RN} (h : NewN w w1 nb N) {t v : Int} {L : List LE} {wt tk q : Int} (ha : Al N t v L (L.length : Nat) 3 0 wt tk q) (s : List UInt8) (ht : 0 ≤ t ∧ t ≤ 900) (hL : L.length ≤ 900) : Calls Tryz.prog 31 #[.pointer (some ⟨nb, 0, none⟩), .string ⟨s.toArray⟩] w1 fun e w2 => ∃ a c N2, e = .returned (.tuple #[.int .i64 ((L.length : Nat) + 1), .slice a 0 c, .bool true]) ∧ NewN w w2 nb N2 ∧ Al N2 t v (L ++ [⟨t, s, false, []⟩]) (((L ++ [(⟨t, s, false, []⟩ : LE)]).length : Nat) : Int) 3 0 wt tk q := by
  obtain ⟨F, M, lb, h1, h2, h3, h4⟩ := h
  have hx := ha.add ⟨t, s, false, []⟩ ⟨rfl, rfl⟩ rfl ⟨by omega, Int.le_refl _⟩
  have hl : (L ++ [(⟨t, s, false, []⟩ : LE)]).length = L.length + 1 := by simp
  refine (propose_yes F nb M lb w1 N h4 (ha.bnd (by omega) (by omega) (by omega)) ha.gm ha.ldi ha.role s (by rw [ha.last]; omega) (by rw [ha.k]; show L.length + 1 ≤ _; omega)).mono ?_
  rintro e w2 ⟨vv, F', lb', rfl, hS, hN, hm⟩
  rw [ha.text] at hm hN
  simp only [ha.text] at *
  rw [hx.2] at hm
  obtain ⟨a, c, rfl, _⟩ := hm
  refine ⟨a, c, N.add ⟨t, s, false, []⟩, ?_, NewN.stp h1 h2 h3 hS hN, hx.1⟩
  rw [hx.1.last, hl]
  rfl
/-- One alone has what it committed. -/
theorem NewN.entry {w w1 : World} {nb : Nat} {N : RN} (h : NewN w w1 nb N) {t v : Int} {L : List LE} {role ld wt tk q : Int} (ha : Al N t v L (L.length : Nat) role ld wt tk q) (ht : 0 ≤ t ∧ t ≤ 900) (hL : L.length ≤ 900) (j : Nat) (hj : j < L.length) : Calls Tryz.prog 23 #[.pointer (some ⟨nb, 0, none⟩), .int .i64 (1 + (j : Int))] w1 fun e w2 => ∃ a c, e = .returned (.tuple #[.agg #[.int .i64 L[j].term, .string ⟨L[j].s.toArray⟩, .bool false, .slice a 0 c], .bool true]) ∧ NewN w w2 nb N := by
  have hn := h
  obtain ⟨F, M, lb, h1, h2, h3, h4⟩ := h
  obtain ⟨me, k, r2, l2, cm, dr, wt2, tk2, q2, vo, nx, hd, en, p1, p2, p3, ks⟩ := N
  have hk := ha.k
  simp only at hk
  subst hk
  have HE := entryYes_any F nb M lb w1 _ h4 (ha.bnd (by omega) (by omega) (by omega)) j hj (by
    have := ha.commit
    simp only at this ⊢
    omega)
  have hp := ha.plain _ (List.getElem_mem hj)
  simp only [hp.1, hp.2, List.length_nil, Int.zero_add] at HE
  refine HE.mono ?_
  rintro e w2 ⟨a, c, rfl, _, hb⟩
  exact ⟨a, c, rfl, hn.below hb⟩
/-- One alone, behind so many ticks. -/
def AwI (w : World) (nb : Nat) (t v : Int) (L : List LE) (c : Int) (i : Nat) (wl : World) : Prop := ∃ N, NewN w wl nb N ∧ Run N t v L c i
theorem AwI.tick {w w1 : World} {nb : Nat} {t v : Int} {L : List LE} {c : Int} {i : Nat} (h : AwI w nb t v L c i w1) (hi : i ≤ 100) (ht : 0 ≤ t ∧ t ≤ 900) (hL : L.length ≤ 900) (hc : 0 ≤ c ∧ c ≤ (L.length : Nat)) : Calls Tryz.prog 26 #[.pointer (some ⟨nb, 0, none⟩)] w1 fun e w2 => ∃ r, e = .returned r ∧ AwI w nb t v L c (i + 1) w2 := by
  obtain ⟨N, hN, hr⟩ := h
  refine (hN.tick hr hi ht hL hc).mono ?_
  rintro e w2 ⟨r, N2, rfl, h1, h2⟩
  exact ⟨r, rfl, N2, h1, h2⟩
/-- One alone leads, has all committed, and has these entries. -/
def LdA (w : World) (nb : Nat) (t v : Int) (L : List LE) (wl : World) : Prop := ∃ N wt tk q, NewN w wl nb N ∧ Al N t v L (L.length : Nat) 3 0 wt tk q
theorem AwI.leads {w w1 : World} {nb : Nat} {t v : Int} {L : List LE} {c : Int} {i : Nat} (h : AwI w nb t v L c i w1) (hi : 29 ≤ i) : LdA w nb (t + 1) 0 (L ++ [⟨t + 1, [], false, []⟩]) w1 := by
  obtain ⟨N, hN, hr⟩ := h
  obtain ⟨tk, _, _, ha⟩ := hr.leads hi
  rw [← show (((L ++ [(⟨t + 1, [], false, []⟩ : LE)]).length : Nat) : Int) = (L.length : Nat) + 1 by simp] at ha
  exact ⟨N, _, tk, _, hN, ha⟩
theorem LdA.below {w w1 w2 : World} {nb : Nat} {t v : Int} {L : List LE} (h : LdA w nb t v L w1) (hb : Below w1.heap.size w1 w2) : LdA w nb t v L w2 := by
  obtain ⟨N, wt, tk, q, hN, ha⟩ := h
  exact ⟨N, wt, tk, q, hN.below hb, ha⟩
theorem LdA.propose {w w1 : World} {nb : Nat} {t v : Int} {L : List LE} (h : LdA w nb t v L w1) (s : List UInt8) (ht : 0 ≤ t ∧ t ≤ 900) (hL : L.length ≤ 900) : Calls Tryz.prog 31 #[.pointer (some ⟨nb, 0, none⟩), .string ⟨s.toArray⟩] w1 fun e w2 => ∃ a c, e = .returned (.tuple #[.int .i64 ((L.length : Nat) + 1), .slice a 0 c, .bool true]) ∧ LdA w nb t v (L ++ [⟨t, s, false, []⟩]) w2 := by
  obtain ⟨N, wt, tk, q, hN, ha⟩ := h
  refine (hN.propose ha s ht hL).mono ?_
  rintro e w2 ⟨a, c, N2, rfl, h1, h2⟩
  exact ⟨a, c, rfl, N2, wt, tk, q, h1, h2⟩
theorem LdA.entry {w w1 : World} {nb : Nat} {t v : Int} {L : List LE} (h : LdA w nb t v L w1) (ht : 0 ≤ t ∧ t ≤ 900) (hL : L.length ≤ 900) (j : Nat) (hj : j < L.length) : Calls Tryz.prog 23 #[.pointer (some ⟨nb, 0, none⟩), .int .i64 (1 + (j : Int))] w1 fun e w2 => ∃ a c, e = .returned (.tuple #[.agg #[.int .i64 L[j].term, .string ⟨L[j].s.toArray⟩, .bool false, .slice a 0 c], .bool true]) ∧ LdA w nb t v L w2 := by
  obtain ⟨N, wt, tk, q, hN, ha⟩ := h
  refine (hN.entry ha ht hL j hj).mono ?_
  rintro e w2 ⟨a, c, rfl, h1⟩
  exact ⟨a, c, rfl, N, wt, tk, q, h1, ha⟩
theorem LdA.role {w w1 : World} {nb : Nat} {t v : Int} {L : List LE} (h : LdA w nb t v L w1) : Calls Tryz.prog 28 #[.pointer (some ⟨nb, 0, none⟩)] w1 fun e w2 => e = .returned (.int .i64 3) ∧ w2 = w1 := by
  obtain ⟨N, wt, tk, q, ⟨F, M, lb, _, _, _, hN⟩, ha⟩ := h
  have := role_any F nb M lb w1 N hN
  rw [ha.role] at this
  exact this
theorem LdA.base {w w1 : World} {nb : Nat} {t v : Int} {L : List LE} (h : LdA w nb t v L w1) : Below w.heap.size w w1 := by
  obtain ⟨N, wt, tk, q, ⟨F, M, lb, hb, _, _, hN⟩, ha⟩ := h
  exact hb
set_option maxRecDepth 100000 in
set_option maxHeartbeats 1000000 in
theorem awake_any (w : World) : Calls Tryz.prog 9 #[] w fun e w' => e = .returned (.bool true) ∧ Below w.heap.size w w' := by
  have hb0 := bl_al (Below.refl w.heap.size w) (.cells #[.int .i64 0] 3)
  go_enter Tryz.func9, Tryz.ntmps9
  go_wp2_with (go_at_call 20; refine (new_alone _).mono ?_; rintro e w1 hP; obtain ⟨nb, rfl, hN⟩ := hP.newN hb0; clear hP)
  have hA : AwI w nb 0 (-1) [] 0 0 w1 := ⟨_, hN, Run.zero 0 (-1) [] (fun _ he => by cases he)⟩
  clear hN
  go_loopw [3] (fun v3 wl => ∃ i : Nat, i ≤ 40 ∧ v3 = .int .i64 i ∧ AwI w nb 0 (-1) [] 0 i wl) (fun v3 _ => 40 - (intOf v3).toNat)
  case atStart => exact ⟨0, by omega, rfl, hA⟩
  case round =>
    clear hA
    obtain ⟨i, hil, rfl, hA⟩ := hrel
    by_cases hlt : i < 40
    · have hz1 : (0 : Int) ≤ (i : Int) := by omega
      have hz2 : (i : Int) < 40 := by omega
      have hw3 : IntKind.i64.wrap ((i : Int) + 1) = ((i + 1 : Nat) : Int) := by rw [IntKind.wrap_i64]; omega
      have HT := hA.tick (by omega) (by omega) (Nat.zero_le _) ⟨by omega, by show (0 : Int) ≤ 0; omega⟩
      go_wp2_with (go_at_call 26; refine HT.mono ?_; rintro e w2 ⟨r, rfl, hA2⟩; clear HT)
      go_roundw
      case rel => exact ⟨i + 1, by omega, by go_num, hA2⟩
      case measure => simp [intOf]; omega
    · obtain rfl : i = 40 := by omega
      have hz2 : ¬ ((40 : Int) < 40) := by omega
      have hL := hA.leads (by omega)
      clear hA
      have HP : Calls Tryz.prog 31 #[.pointer (some ⟨nb, 0, none⟩), .string ⟨#[97]⟩] _ fun e w2 => ∃ a c, e = .returned (.tuple #[.int .i64 2, .slice a 0 c, .bool true]) ∧ LdA w nb 1 0 [⟨1, [], false, []⟩, ⟨1, [97], false, []⟩] w2 := hL.propose [97] (by omega) (by show 1 ≤ 900; omega)
      have HE : ∀ W, LdA w nb 1 0 [⟨1, [], false, []⟩, ⟨1, [97], false, []⟩] W → Calls Tryz.prog 23 #[.pointer (some ⟨nb, 0, none⟩), .int .i64 2] W fun e w2 => ∃ a c, e = .returned (.tuple #[.agg #[.int .i64 1, .string ⟨#[97]⟩, .bool false, .slice a 0 c], .bool true]) ∧ LdA w nb 1 0 [⟨1, [], false, []⟩, ⟨1, [97], false, []⟩] w2 := fun W hW => hW.entry (by omega) (by show 2 ≤ 900; omega) 1 (by show 1 < 2; omega)
      clear hL
      go_wp2_with (first
        | (go_at_call 31; refine HP.mono ?_; rintro e w2 ⟨a2, c2, rfl, hL2⟩; clear HP)
        | (go_at_call 23; refine (HE _ hL2).mono ?_; rintro e w3 ⟨a3, c3, rfl, hL3⟩; clear HE)
        | (go_at_call 28; refine (LdA.role (hL3.below (bl_al (Below.refl _ _) _))).mono ?_; rintro e w4 ⟨rfl, hw4⟩; replace hw4 := hw4.symm; subst hw4))
      go_ret
      exact ⟨rfl, bl_al hL3.base _⟩
end Go.Proofs.YtnhlejdilldfaaaGreat
