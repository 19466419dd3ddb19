/- Numbers and entries, out of what arguments read as. A replica leads. -/
import Derived.Test.YtnhlejdilldfaaaGreatRms
import Derived.Test.YtnhlejdilldfaaaGreatChecked
import Derived.ProofKit
import Derived.LaidMore
import Derived.OpenShut
import Derived.SizedLaws
import Derived.Stop.Joined
import Derived.Deep.Slices
import Derived.Test.YtnhlejdilldfaaaGreatRae
namespace Go.Proofs.YtnhlejdilldfaaaGreat
open Go Go.ChangeShapes Go.WideShapes Go.ChangeAt Go.WideMaps Go.WideElems Go.RowKit
theorem cl9 : Tryz.prog.cellsOf 9 = 1 := by kernel_rfl
end Go.Proofs.YtnhlejdilldfaaaGreat
namespace Go.Proofs.YtnhlejdilldfaaaGreat
open Go Go.RowKit Go.Maps
theorem ltM_app (base : List Int) (l r : List LE) : ∀ i, i ≤ l.length → ltM base (l ++ r) i = ltM base l i
  | 0, _ => rfl
  | i + 1, h => by
    have h1 : i < l.length := h
    have h2 : i < (l ++ r).length := by rw [List.length_append]; omega
    have he : (l ++ r)[i] = l[i] := List.getElem_append_left h1
    cases hc : l[i].conf with
    | true => rw [ltM_yes h1 hc, ltM_yes h2 (by rw [he]; exact hc), he]
    | false => rw [ltM_no h1 hc, ltM_no h2 (by rw [he]; exact hc), ltM_app base l r i (by omega)]
theorem ltM_plain (base : List Int) (l : List LE) (e : LE) (he : e.conf = false) : ltM base (l ++ [e]) (l ++ [e]).length = ltM base l l.length := by
  have h1 : l.length < (l ++ [e]).length := by simp
  have h2 : (l ++ [e])[l.length]'h1 = e := by rw [List.getElem_append_right (Nat.le_refl _)]; simp
  rw [show (l ++ [e]).length = l.length + 1 by simp, ltM_no h1 (by rw [h2]; exact he), ltM_app base l [e] l.length (Nat.le_refl _)]
theorem mems_plain (N : RN) {e : LE} (he : e.conf = false) : (N.push e).mems = N.mems := by
  show (ltM N.k.bconf (N.k.log ++ [e]) (N.k.log ++ [e]).length).1 = (ltM N.k.bconf N.k.log N.k.log.length).1
  rw [ltM_plain _ _ _ he]
theorem last_push (N : RN) (e : LE) : (N.push e).last = N.last + 1 := by
  show N.k.bi + ((N.k.log ++ [e]).length : Nat) = N.k.bi + (N.k.log.length : Nat) + 1
  rw [List.length_append, List.length_singleton]; omega
theorem Bnd.push {N : RN} (h : Bnd N) (e : LE) (h1 : N.last + 1 ≤ 1152921504606846976) (h2 : N.k.log.length + 1 ≤ 68719476736) : Bnd (N.push e) :=
  ⟨h.me, h.term, h.bi, by have := last_push N e; unfold RN.last at this h1; omega, h.bt, h.base, h.bconf, by show (N.k.log ++ [e]).length ≤ _; rw [List.length_append]; exact h2, h.keys, by have := h.commit; have h3 := last_push N e; exact ⟨this.1, by show N.commit ≤ (N.push e).last; omega⟩, h.next, h.had, h.ends⟩
theorem Gm.push {N : RN} (h : Gm N) (e : LE) (he : e.mem.length ≤ 16 ∧ ∀ x ∈ e.mem, 0 ≤ x ∧ x < 16) : Gm (N.push e) := ⟨h.base, fun x hx => by
  have hx : x ∈ N.k.log ++ [e] := hx
  rcases List.mem_append.1 hx with hx | hx
  · exact h.log x hx
  · rw [List.mem_singleton.1 hx]; exact he⟩
theorem Bnd.newLead {N : RN} (h : Bnd N) (hg : Gm N) : Bnd N.newLead :=
  ⟨h.me, h.term, h.bi, h.last, h.bt, h.base, h.bconf, h.log, hg.mems.1, h.commit, fun _ => ⟨Int.le_refl _, by show (0 : Int) ≤ _; omega⟩, fun _ => ⟨Int.le_refl _, by show (0 : Int) ≤ _; omega⟩, fun _ => ⟨Int.le_refl _, by show (0 : Int) ≤ _; omega⟩⟩
theorem newLead_ldr {N : RN} (h : Bnd N) (hn : N.mems ≠ []) : Ldr (N.newLead.push N.noop).meet := by
  have hm : (N.newLead.push N.noop).meet.mems = N.mems := mems_plain N.newLead rfl
  have hl : (N.newLead.push N.noop).meet.last = N.last + 1 := last_push N.newLead N.noop
  have hbi := h.bi
  have hl0 : 0 ≤ N.last := by unfold RN.last; omega
  refine ⟨by rw [hm]; exact hn, fun x hx hne => ?_, fun x hx hne => ?_⟩
  · have hx2 : x ∈ (N.newLead.push N.noop).mems := hx
    have hne2 : x ≠ N.me := hne
    have e : (N.newLead.push N.noop).meet.next x = (N.newLead.push N.noop).last + 1 := by
      unfold RN.meet
      dsimp only
      rw [if_pos ⟨hx2, by split <;> rfl, hne2⟩]
    rw [e, last_push]
    rw [hl]
    show 1 ≤ N.last + 1 + 1 ∧ N.last + 1 + 1 ≤ _
    omega
  · have e : (N.newLead.push N.noop).meet.had x = 0 := by
      unfold RN.meet
      dsimp only
      split <;> rfl
    rw [e, hl]; omega
/-- What a call leaves that tells messages. -/
def OuP (F : Nat → Prop) (nb : Nat) (M : NM) (lb : Option Nat) (w : World) (r : RN × List MSG) (e : Ending) (w' : World) : Prop := ∃ v F' lb', e = .returned v ∧ Stp nb M F F' lb lb' w w' ∧ ND F' nb M lb' w' r.1 ∧ MS F' w' v r.2
section
variable (F : Nat → Prop) (nb : Nat) (M : NM) (lb : Option Nat) (w : World) (N : RN)
set_option maxRecDepth 100000 in
set_option maxHeartbeats 1000000 in
theorem lead_any (h : ND F nb M lb w N) (hb : Bnd N) (hg : Gm N) (hn : N.mems ≠ []) (h1 : N.last + 1 ≤ 1152921504606846976) (h2 : N.k.log.length + 1 ≤ 68719476736) : Calls Tryz.prog 119 #[.pointer (some ⟨nb, 0, none⟩)] w (OuP F nb M lb w N.lead) := by
  have c0 := h.c0
  have c8 := h.c8
  have c9 := h.c9
  have c13 := h.c13
  have f8 := h.frz 8
  have f9 := h.frz 9
  have f13 := h.frz 13
  have hP := ((h.p8 3).p9 N.me).p13 0
  have hb1 := (hb.newLead hg).push N.noop h1 h2
  have hg1 : Gm (N.newLead.push N.noop) := (hg.of_k rfl : Gm N.newLead).push N.noop ⟨by show 0 ≤ 16; omega, fun x hx => (by cases hx)⟩
  have HA := fun W (hW : ND F nb M lb W N.newLead) => add_any F nb M lb W N.newLead hW N.noop none 0 (IF.nil _ _ _) (by show 0 ≤ _; omega) hb1 hg1 (newLead_ldr hb hn)
  have hld : N.lead = (N.newLead.add N.noop, N.newLead.addMsgs N.noop) := rfl
  rw [hld]
  have c16 := hP.c16
  clear hld hb1 hg1
  generalize N.newLead.addMsgs N.noop = ms at *
  generalize N.newLead.add N.noop = N3 at *
  go_enter Tryz.func119, Tryz.ntmps119
  go_wp2_with (first
    | (with_reducible refine at_list ?_; first
      | (refine wpList_clearM (op := ⟨none, .call { callee := .builtin .clear, args := #[.tmp 21], argTypes := #[61] }, _, _, _, _⟩) rfl 61 _ rfl hP.next Tryz.underlying61 rfl (S16 ++ N.mems) ?_; intro w3 hm3 hg3; have hN3 := hP.toNext hm3 hg3; have c17 := hN3.c17)
      | (refine wpList_clearM (op := ⟨none, .call { callee := .builtin .clear, args := #[.tmp 25], argTypes := #[61] }, _, _, _, _⟩) rfl 61 _ rfl hN3.had Tryz.underlying61 rfl S16 ?_; intro w4 hm4 hg4; have hN4 := hN3.toHad hm4 hg4; have c18 := hN4.c18)
      | (refine wpList_clearM (op := ⟨none, .call { callee := .builtin .clear, args := #[.tmp 29], argTypes := #[61] }, _, _, _, _⟩) rfl 61 _ rfl hN4.ends Tryz.underlying61 rfl S16 ?_; intro w5 hm5 hg5; have hN5 := hN4.toEnds hm5 hg5; have c1 := hN5.c1))
    | (go_at_call 71; refine (HA _ hN5).mono ?_; rintro e6 w6 ⟨v, F', lb', rfl, hS6, hN6, hms⟩; clear HA))
  go_ret
  exact ⟨v, F', lb', rfl, ((((((Stp.refl.set 8 _).set 9 _).set 13 _).trans (Stp.grown hg3 own_bn)).trans (Stp.grown hg4 own_bh)).trans (Stp.grown hg5 own_be)).trans hS6, hN6, hms⟩
end
end Go.Proofs.YtnhlejdilldfaaaGreat
