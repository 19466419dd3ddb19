/- Numbers and entries, out of what arguments read as. A replica leads. -/
import Derived.Test.YtnhlejdilldfaaaGreatRce
import Derived.Test.YtnhlejdilldfaaaGreatChecked
import Derived.ProofKit
import Derived.LaidMore
import Derived.OpenShut
import Derived.SizedLaws
import Derived.Stop.Joined
import Derived.Deep.Slices
import Derived.Test.YtnhlejdilldfaaaGreatRae
namespace Go.Proofs.YtnhlejdilldfaaaGreat
open Go Go.ChangeShapes Go.WideShapes Go.ChangeAt Go.WideMaps Go.WideElems Go.RowKit
theorem clSlI : Tryz.prog.cellsOf 23 = 1 := by kernel_rfl
theorem cl3 : Tryz.prog.cellsOf 3 = 1 := by kernel_rfl
theorem cl9 : Tryz.prog.cellsOf 9 = 1 := by kernel_rfl
theorem clBool : Tryz.prog.cellsOf 4 = 1 := by kernel_rfl
theorem clE : Tryz.prog.cellsOf 29 = 4 := by kernel_rfl
theorem byI : Tryz.prog.bytesOf 3 = 8 := by kernel_rfl
/-- What a datum of numbers weighs. -/
def Lgt {H : Type} (t : TypeId) (d : DataW H) : Prop := (d.weights Tryz.prog t).all (· ≤ reachBytes) = true
set_option maxRecDepth 100000 in
/-- The numbers of an argument's slice. -/
theorem ints_of {H : Type} {enc : TypeId × Value → H} {W : World} {n : Nat} {a0 : Option Addr} {len cap : Nat} {x : DataW H × List MemPlace} (hf : DataW.trod enc Tryz.prog W 0 (fun _ => true) true n 23 [.slice a0 len cap] = some x) :
    ∃ l : List Int, l.length = len ∧ IA W a0 l ∧ len ≤ cap ∧ (Lgt 23 x.1 → len ≤ 17592186044416) := by
  rcases DataW.trod_slice Tryz.underlying23 hf with ⟨hcs, _⟩ | ⟨a, l, c, elems, rest, n, _, hcs, hx, _, hl, hm, hel, hc, _, _⟩
  · simp at hcs
    obtain ⟨_, rfl, rfl⟩ := hcs
    exact ⟨[], rfl, fun i x hx => by simp at hx, by omega, fun _ => by omega⟩
  · simp at hcs
    obtain ⟨rfl, rfl, rfl⟩ := hcs
    have hw : Lgt 23 x.1 → len ≤ 17592186044416 := fun h => by
      unfold Lgt at h
      rw [hx] at h
      have h2 := List.all_eq_true.1 h ((elems.length + rest.length) * Tryz.prog.bytesOf 3) (by simp [DataW.weights, Tryz.underlying23])
      rw [byI] at h2
      have h3 := of_decide_eq_true h2
      unfold reachBytes at h3
      omega
    by_cases hl0 : len = 0
    · exact ⟨[], by rw [hl0]; rfl, fun i x hx => by simp at hx, by omega, hw⟩
    have each : ∀ i, i < len → ∃ q : Int, W.cells? 0 (a.add (i * 1)) 1 = some [.int .i64 q] := by
      intro i hi
      have h1 := hc i hi
      rw [cl3, List.getElem?_eq_getElem (by omega)] at h1
      obtain ⟨cs', h2, h3⟩ := Option.bind_eq_some_iff.1 h1
      obtain ⟨k, e0, _, _⟩ := DataW.trod_int Tryz.underlying3 h3
      subst e0
      exact ⟨k, h2⟩
    obtain ⟨g, o, spot⟩ := a
    obtain ⟨q0, hq0⟩ := each 0 (by omega)
    obtain ⟨_, _, hcell0⟩ := World.cells?_some hq0
    have c0 := hcell0 0 (by omega)
    have hspot : spot = none := by
      have e : W.cell? (((⟨g, o, spot⟩ : Addr).add (0 * 1)).add 0) = some (.int .i64 q0) := c0
      simpa [Addr.add] using World.cell?_spot e
    subst hspot
    have each2 : ∀ i, ∃ q : Int, i < len → W.cell? ⟨g, o + i, none⟩ = some (.int .i64 q) := by
      intro i
      by_cases hi : i < len
      · obtain ⟨q, hq⟩ := each i hi
        refine ⟨q, fun _ => ?_⟩
        obtain ⟨_, hlen, hcell⟩ := World.cells?_some hq
        have := hcell 0 (by omega)
        rw [Addr.add_mid, Addr.add_mid, Nat.mul_one, Nat.add_zero] at this
        rw [this]
        rfl
      · exact ⟨0, fun h => absurd h hi⟩
    obtain ⟨f, hf⟩ := Classical.skolem.1 each2
    refine ⟨(List.range len).map f, by simp, fun i x hx => ⟨g, o, rfl, ?_⟩, by omega, hw⟩
    have hi' : i < len := by have := (List.getElem?_eq_some_iff.1 hx).1; simpa using this
    have h1 := hf i hi'
    rw [List.getElem?_map, List.getElem?_range hi'] at hx
    simp at hx
    rw [h1, hx]
set_option maxRecDepth 100000 in
/-- The cells of an entry. -/
theorem lec_of {H : Type} {enc : TypeId × Value → H} {W : World} {n : Nat} {cs : List Value} {x : DataW H × List MemPlace} (hf : DataW.trod enc Tryz.prog W 0 (fun _ => true) true n 29 cs = some x) :
    ∃ (t : LE) (a : Option Addr) (cap : Nat), cs = (lec t (.slice a t.mem.length cap)).toList ∧ IA W a t.mem ∧ (Lgt 29 x.1 → t.mem.length ≤ 17592186044416) := by
  obtain ⟨xs, f, _, hx, hl, hxl, hfd⟩ := DataW.trod_struct Tryz.underlying29 hf
  rw [clE] at hl
  match xs, hxl, cs, hl with
  | [y0, y1, y2, y3], _, [v0, v1, v2, v3], _ =>
    have g0 := hfd 0 _ rfl
    have g1 := hfd 1 _ rfl
    have g2 := hfd 2 _ rfl
    have g3 := hfd 3 _ rfl
    simp [cl3, cl9, clBool, clSlI] at g0 g1 g2 g3
    obtain ⟨c, e0, _, w0⟩ := DataW.trod_int Tryz.underlying3 g0
    obtain ⟨p, e1, _, _⟩ := DataW.trod_string Tryz.underlying9 g1
    obtain ⟨q, e2, _⟩ := DataW.trod_bool Tryz.underlying4 g2
    simp at e0 e1 e2
    subst e0 e1 e2
    have hs3 : ∃ a len cap, v3 = .slice a len cap := by
      rcases DataW.trod_slice Tryz.underlying23 g3 with ⟨hcs, _⟩ | ⟨a, l, c, elems, rest, n, _, hcs, _⟩
      · simp at hcs; exact ⟨_, _, _, hcs⟩
      · simp at hcs; exact ⟨_, _, _, hcs⟩
    obtain ⟨a, len, cap, rfl⟩ := hs3
    obtain ⟨l, hll, hIA, _, hw⟩ := ints_of g3
    refine ⟨⟨c, p.data.toList, q, l⟩, a, cap, ?_, hIA, fun h => ?_⟩
    · dsimp only
      rw [hll]
      rfl
    · dsimp only
      rw [hll]
      refine hw ?_
      unfold Lgt at h ⊢
      rw [List.all_eq_true] at h ⊢
      intro z hz
      refine h z ?_
      rw [hx]
      show z ∈ DataW.weights Tryz.prog 29 (DataW.agg [y0.1, y1.1, y2.1, y3.1])
      unfold DataW.weights
      rw [Tryz.underlying29]
      exact DataW.weights_mem_each (j := 3) (t := 23) (d := y3.1) rfl rfl z hz
theorem weights_all {H : Type} {e : TypeId} : ∀ {l : List (DataW H)} {d : DataW H}, d ∈ l → ∀ z ∈ d.weights Tryz.prog e, z ∈ DataW.weightsAll Tryz.prog e l
  | y :: r, d, h, z, hz => by
    unfold DataW.weightsAll
    rw [List.mem_append]
    rcases List.mem_cons.1 h with rfl | h
    · exact .inl hz
    · exact .inr (weights_all h z hz)
set_option maxRecDepth 100000 in
/-- The entries of an argument's slice. -/
theorem ents_of {H : Type} {enc : TypeId × Value → H} {W : World} {n : Nat} {a0 : Option Addr} {len cap : Nat} {x : DataW H × List MemPlace} (hf : DataW.trod enc Tryz.prog W 0 (fun _ => true) true n 22 [.slice a0 len cap] = some x) (hlg : Lgt 22 x.1) :
    ∃ l : List LE, l.length = len ∧ EA W a0 l ∧ len ≤ cap := by
  rcases DataW.trod_slice Tryz.underlying22 hf with ⟨hcs, _⟩ | ⟨a, l, c, elems, rest, n, _, hcs, hx, _, hl, hm, hel, hc, _, _⟩
  · simp at hcs
    obtain ⟨_, rfl, _⟩ := hcs
    exact ⟨[], rfl, fun i hi => by simp at hi, Nat.zero_le _⟩
  · simp at hcs
    obtain ⟨rfl, rfl, rfl⟩ := hcs
    by_cases hl0 : len = 0
    · exact ⟨[], by rw [hl0]; rfl, fun i hi => by simp at hi, by omega⟩
    have each : ∀ i, i < len → ∃ (t : LE) (sa : Option Addr) (sc : Nat), W.cells? 0 (a.add (i * 4)) 4 = some (lec t (.slice sa t.mem.length sc)).toList ∧ IA W sa t.mem ∧ t.mem.length ≤ 17592186044416 := by
      intro i hi
      have h1 := hc i hi
      rw [clE, List.getElem?_eq_getElem (by omega)] at h1
      obtain ⟨cs', h2, h3⟩ := Option.bind_eq_some_iff.1 h1
      obtain ⟨t, sa, sc, rfl, h4, h5⟩ := lec_of h3
      refine ⟨t, sa, sc, h2, h4, h5 ?_⟩
      unfold Lgt at hlg ⊢
      rw [List.all_eq_true] at hlg ⊢
      intro z hz
      refine hlg z ?_
      rw [hx]
      unfold DataW.weights
      rw [Tryz.underlying22]
      have := weights_all (l := elems.map (·.1)) (List.mem_map.2 ⟨_, List.getElem_mem (show i < elems.length by omega), rfl⟩) z hz
      simp [this]
    obtain ⟨g, o, spot⟩ := a
    obtain ⟨q0, _, _, hq0, _⟩ := each 0 (by omega)
    obtain ⟨_, _, hcell0⟩ := World.cells?_some hq0
    have c0 := hcell0 0 (by omega)
    have hspot : spot = none := by
      have e : W.cell? (((⟨g, o, spot⟩ : Addr).add (0 * 4)).add 0) = some (.int .i64 q0.term) := c0
      simpa [Addr.add] using World.cell?_spot e
    subst hspot
    have each2 : ∀ i, ∃ t : LE, i < len → ∃ sa sc, W.rangeAt g (o + i * 4) (lec t (.slice sa t.mem.length sc)).toList ∧ IA W sa t.mem ∧ t.mem.length ≤ 17592186044416 := by
      intro i
      by_cases hi : i < len
      · obtain ⟨t, sa, sc, hq, h4⟩ := each i hi
        refine ⟨t, fun _ => ⟨sa, sc, fun j v hv => ?_, h4⟩⟩
        obtain ⟨_, hlen, hcell⟩ := World.cells?_some hq
        have hj : j < 4 := (List.getElem?_eq_some_iff.1 hv).1
        have := hcell j hj
        rw [Addr.add_mid, Addr.add_mid] at this
        rw [this, hv]
      · exact ⟨⟨0, [], false, []⟩, fun h => absurd h hi⟩
    obtain ⟨f, hf⟩ := Classical.skolem.1 each2
    refine ⟨(List.range len).map f, by simp, fun i hi => ?_, by omega⟩
    have hi' : i < len := by simpa using hi
    obtain ⟨sa, sc, h5⟩ := hf i hi'
    refine ⟨g, o, sa, sc, rfl, ?_⟩
    simpa using h5
end Go.Proofs.YtnhlejdilldfaaaGreat
namespace Go.Proofs.YtnhlejdilldfaaaGreat
open Go Go.RowKit Go.Maps
theorem ltM_app (base : List Int) (l r : List LE) : ∀ i, i ≤ l.length → ltM base (l ++ r) i = ltM base l i
  | 0, _ => rfl
  | i + 1, h => by
    have h1 : i < l.length := h
    have h2 : i < (l ++ r).length := by rw [List.length_append]; omega
    have he : (l ++ r)[i] = l[i] := List.getElem_append_left h1
    cases hc : l[i].conf with
    | true => rw [ltM_yes h1 hc, ltM_yes h2 (by rw [he]; exact hc), he]
    | false => rw [ltM_no h1 hc, ltM_no h2 (by rw [he]; exact hc), ltM_app base l r i (by omega)]
theorem ltM_plain (base : List Int) (l : List LE) (e : LE) (he : e.conf = false) : ltM base (l ++ [e]) (l ++ [e]).length = ltM base l l.length := by
  have h1 : l.length < (l ++ [e]).length := by simp
  have h2 : (l ++ [e])[l.length]'h1 = e := by rw [List.getElem_append_right (Nat.le_refl _)]; simp
  rw [show (l ++ [e]).length = l.length + 1 by simp, ltM_no h1 (by rw [h2]; exact he), ltM_app base l [e] l.length (Nat.le_refl _)]
theorem mems_plain (N : RN) {e : LE} (he : e.conf = false) : (N.push e).mems = N.mems := by
  show (ltM N.k.bconf (N.k.log ++ [e]) (N.k.log ++ [e]).length).1 = (ltM N.k.bconf N.k.log N.k.log.length).1
  rw [ltM_plain _ _ _ he]
theorem last_push (N : RN) (e : LE) : (N.push e).last = N.last + 1 := by
  show N.k.bi + ((N.k.log ++ [e]).length : Nat) = N.k.bi + (N.k.log.length : Nat) + 1
  rw [List.length_append, List.length_singleton]; omega
theorem Bnd.push {N : RN} (h : Bnd N) (e : LE) (h1 : N.last + 1 ≤ 1152921504606846976) (h2 : N.k.log.length + 1 ≤ 68719476736) : Bnd (N.push e) :=
  ⟨h.me, h.term, h.bi, by have := last_push N e; unfold RN.last at this h1; omega, h.bt, h.base, h.bconf, by show (N.k.log ++ [e]).length ≤ _; rw [List.length_append]; exact h2, h.keys, by have := h.commit; have h3 := last_push N e; exact ⟨this.1, by show N.commit ≤ (N.push e).last; omega⟩, h.next, h.had, h.ends⟩
theorem Gm.push {N : RN} (h : Gm N) (e : LE) (he : e.mem.length ≤ 16 ∧ ∀ x ∈ e.mem, 0 ≤ x ∧ x < 16) : Gm (N.push e) := ⟨h.base, fun x hx => by
  have hx : x ∈ N.k.log ++ [e] := hx
  rcases List.mem_append.1 hx with hx | hx
  · exact h.log x hx
  · rw [List.mem_singleton.1 hx]; exact he⟩
theorem Bnd.newLead {N : RN} (h : Bnd N) (hg : Gm N) : Bnd N.newLead :=
  ⟨h.me, h.term, h.bi, h.last, h.bt, h.base, h.bconf, h.log, hg.mems.1, h.commit, fun _ => ⟨Int.le_refl _, by show (0 : Int) ≤ _; omega⟩, fun _ => ⟨Int.le_refl _, by show (0 : Int) ≤ _; omega⟩, fun _ => ⟨Int.le_refl _, by show (0 : Int) ≤ _; omega⟩⟩
theorem newLead_ldr {N : RN} (h : Bnd N) (hn : N.mems ≠ []) : Ldr (N.newLead.push N.noop).meet := by
  have hm : (N.newLead.push N.noop).meet.mems = N.mems := mems_plain N.newLead rfl
  have hl : (N.newLead.push N.noop).meet.last = N.last + 1 := last_push N.newLead N.noop
  have hbi := h.bi
  have hl0 : 0 ≤ N.last := by unfold RN.last; omega
  refine ⟨by rw [hm]; exact hn, fun x hx hne => ?_, fun x hx hne => ?_⟩
  · have hx2 : x ∈ (N.newLead.push N.noop).mems := hx
    have hne2 : x ≠ N.me := hne
    have e : (N.newLead.push N.noop).meet.next x = (N.newLead.push N.noop).last + 1 := by
      unfold RN.meet
      dsimp only
      rw [if_pos ⟨hx2, by split <;> rfl, hne2⟩]
    rw [e, last_push]
    rw [hl]
    show 1 ≤ N.last + 1 + 1 ∧ N.last + 1 + 1 ≤ _
    omega
  · have e : (N.newLead.push N.noop).meet.had x = 0 := by
      unfold RN.meet
      dsimp only
      split <;> rfl
    rw [e, hl]; omega
/-- What a call leaves that tells messages. -/
def OuP (F : Nat → Prop) (nb : Nat) (M : NM) (lb : Option Nat) (w : World) (r : RN × List MSG) (e : Ending) (w' : World) : Prop := ∃ v F' lb', e = .returned v ∧ Stp nb M F F' lb lb' w w' ∧ ND F' nb M lb' w' r.1 ∧ MS F' w' v r.2
section
variable (F : Nat → Prop) (nb : Nat) (M : NM) (lb : Option Nat) (w : World) (N : RN)
set_option maxRecDepth 100000 in
set_option maxHeartbeats 1000000 in
theorem lead_any (h : ND F nb M lb w N) (hb : Bnd N) (hg : Gm N) (hn : N.mems ≠ []) (h1 : N.last + 1 ≤ 1152921504606846976) (h2 : N.k.log.length + 1 ≤ 68719476736) : Calls Tryz.prog 119 #[.pointer (some ⟨nb, 0, none⟩)] w (OuP F nb M lb w N.lead) := by
  have c0 := h.c0
  have c8 := h.c8
  have c9 := h.c9
  have c13 := h.c13
  have f8 := h.frz 8
  have f9 := h.frz 9
  have f13 := h.frz 13
  have hP := ((h.p8 3).p9 N.me).p13 0
  have hb1 := (hb.newLead hg).push N.noop h1 h2
  have hg1 : Gm (N.newLead.push N.noop) := (hg.of_k rfl : Gm N.newLead).push N.noop ⟨by show 0 ≤ 16; omega, fun x hx => (by cases hx)⟩
  have HA := fun W (hW : ND F nb M lb W N.newLead) => add_any F nb M lb W N.newLead hW N.noop none 0 (IF.nil _ _ _) (by show 0 ≤ _; omega) hb1 hg1 (newLead_ldr hb hn)
  have hld : N.lead = (N.newLead.add N.noop, N.newLead.addMsgs N.noop) := rfl
  rw [hld]
  have c16 := hP.c16
  clear hld hb1 hg1
  generalize N.newLead.addMsgs N.noop = ms at *
  generalize N.newLead.add N.noop = N3 at *
  go_enter Tryz.func119, Tryz.ntmps119
  go_wp2_with (first
    | (with_reducible refine at_list ?_; first
      | (refine wpList_clearM (op := ⟨none, .call { callee := .builtin .clear, args := #[.tmp 21], argTypes := #[61] }, _, _, _, _⟩) rfl 61 _ rfl hP.next Tryz.underlying61 rfl (S16 ++ N.mems) ?_; intro w3 hm3 hg3; have hN3 := hP.toNext hm3 hg3; have c17 := hN3.c17)
      | (refine wpList_clearM (op := ⟨none, .call { callee := .builtin .clear, args := #[.tmp 25], argTypes := #[61] }, _, _, _, _⟩) rfl 61 _ rfl hN3.had Tryz.underlying61 rfl S16 ?_; intro w4 hm4 hg4; have hN4 := hN3.toHad hm4 hg4; have c18 := hN4.c18)
      | (refine wpList_clearM (op := ⟨none, .call { callee := .builtin .clear, args := #[.tmp 29], argTypes := #[61] }, _, _, _, _⟩) rfl 61 _ rfl hN4.ends Tryz.underlying61 rfl S16 ?_; intro w5 hm5 hg5; have hN5 := hN4.toEnds hm5 hg5; have c1 := hN5.c1))
    | (go_at_call 71; refine (HA _ hN5).mono ?_; rintro e6 w6 ⟨v, F', lb', rfl, hS6, hN6, hms⟩; clear HA))
  go_ret
  exact ⟨v, F', lb', rfl, ((((((Stp.refl.set 8 _).set 9 _).set 13 _).trans (Stp.grown hg3 own_bn)).trans (Stp.grown hg4 own_bh)).trans (Stp.grown hg5 own_be)).trans hS6, hN6, hms⟩
end
end Go.Proofs.YtnhlejdilldfaaaGreat
