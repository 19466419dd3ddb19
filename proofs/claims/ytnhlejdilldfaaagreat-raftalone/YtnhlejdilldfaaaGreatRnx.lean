/- A replica alone beside other blocks: what it leaves of them. -/
import Derived.Test.YtnhlejdilldfaaaGreatRaw
import Derived.Test.YtnhlejdilldfaaaGreatRhr
namespace Go.Proofs.YtnhlejdilldfaaaGreat
open Go Go.RowKit Go.Maps
/-- The blocks of X are as they were. -/
def Kx (X : Nat → Prop) (w1 w2 : World) : Prop := ∀ k, X k → w2.heap[k]? = w1.heap[k]?
/-- A node whose blocks are new in a world, and are none of X. -/
def NX (X : Nat → Prop) (w w' : World) (nb : Nat) (N : RN) : Prop := ∃ F M lb, Below w.heap.size w w' ∧ (∀ q, F q → w.heap.size ≤ q) ∧ (∀ q, own nb M lb q → w.heap.size ≤ q) ∧ ND F nb M lb w' N ∧ ∀ k, X k → k < w'.heap.size ∧ ¬ own nb M lb k ∧ ¬ F k
section
variable {X : Nat → Prop} {w w1 w2 : World} {nb : Nat} {N N' : RN}
theorem own_step {M : NM} {F F' : Nat → Prop} {lb lb' : Option Nat} (hs : Stp nb M F F' lb lb' w1 w2) {q : Nat} (hq : own nb M lb' q) : own nb M lb q ∨ w1.heap.size ≤ q := by
  rcases hq with h | h | h | h | h | h
  · exact .inl (.inl h)
  · exact .inl (.inr (.inl h))
  · exact .inl (.inr (.inr (.inl h)))
  · exact .inl (.inr (.inr (.inr (.inl h))))
  · exact .inl (.inr (.inr (.inr (.inr (.inl h)))))
  · rcases hs.newb q h with h | h
    · exact .inl (.inr (.inr (.inr (.inr (.inr h)))))
    · exact .inr h
theorem NX.stp {F F' : Nat → Prop} {M : NM} {lb lb' : Option Nat} (hb : Below w.heap.size w w1) (hF : ∀ q, F q → w.heap.size ≤ q) (ho : ∀ q, own nb M lb q → w.heap.size ≤ q) (hx : ∀ k, X k → k < w1.heap.size ∧ ¬ own nb M lb k ∧ ¬ F k) (hs : Stp nb M F F' lb lb' w1 w2) (hN : ND F' nb M lb' w2 N') : NX X w w2 nb N' ∧ Kx X w1 w2 := by
  refine ⟨⟨F', M, lb', ⟨hs.os.trans hb.os, hs.tape.trans hb.tape, hs.output.trans hb.output, Nat.le_trans hb.size hs.size, fun i hi => (hs.keep i (Nat.lt_of_lt_of_le hi hb.size) (fun h => by have := ho i h; omega)).trans (hb.block i hi)⟩, fun q hq => ?_, fun q hq => ?_, hN, fun k hk => ?_⟩, fun k hk => hs.keep k (hx k hk).1 (hx k hk).2.1⟩
  · rcases hs.fnew q hq with h | h
    · exact hF q h
    · exact Nat.le_trans hb.size h
  · rcases own_step hs hq with h | h
    · exact ho q h
    · exact Nat.le_trans hb.size h
  · obtain ⟨h1, h2, h3⟩ := hx k hk
    refine ⟨Nat.lt_of_lt_of_le h1 hs.size, fun h => ?_, fun h => ?_⟩
    · rcases own_step hs h with h | h
      · exact h2 h
      · omega
    · rcases hs.fnew k h with h | h
      · exact h3 h
      · omega
theorem NX.below (h : NX X w w1 nb N) (hb : Below w1.heap.size w1 w2) : NX X w w2 nb N ∧ Kx X w1 w2 := by
  obtain ⟨F, M, lb, h1, h2, h3, h4, h5⟩ := h
  exact NX.stp h1 h2 h3 h5 (Stp.below hb) (h4.below hb)
theorem NX.base (h : NX X w w1 nb N) : Below w.heap.size w w1 := by
  obtain ⟨F, M, lb, h1, _⟩ := h
  exact h1
/-- A block that is none of its own changes. -/
theorem ND.other {F : Nat → Prop} {M : NM} {lb : Option Nat} (h : ND F nb M lb w1 N) {b : Nat} (hg : w1.grownBy w2 (some b)) (h1 : ¬ own nb M lb b) (h2 : ¬ F b) : ND F nb M lb w2 N := by
  have hk : ∀ k, k < w1.heap.size → k ≠ b → w2.heap[k]? = w1.heap[k]? := fun k hk hn => hg.block k hk (fun e => hn (Option.some.inj e))
  obtain ⟨ba, ca, lv, da, dc, k1, k2, k3, k4, k5, k6⟩ := h.out
  have hF : ∀ k, F k → w2.heap[k]? = w1.heap[k]? := fun k hF => hk k (h.flt k hF) (fun e => h2 (e ▸ hF))
  have hO : ∀ k, own nb M lb k → w2.heap[k]? = w1.heap[k]? := fun k ho => hk k (h.ownLt k ho) (fun e => h1 (e ▸ ho))
  refine ⟨⟨ba, ca, lv, da, dc, ⟨(hO nb (.inl rfl)).trans k1.out⟩, k2, k3.kept hF (fun _ h => h), k4.kept (fun k e => hO k (.inr (.inr (.inr (.inr (.inr (k2.symm.trans e))))))) hF (fun _ h => h), k5.kept hF (fun _ h => h), k6⟩, ?_, ?_, ?_, ?_, h.apart, h.off, fun k hk => Nat.lt_of_lt_of_le (h.flt k hk) hg.size⟩
  · exact h.votes.block (hO _ (.inr (.inl rfl)))
  · exact h.next.block (hO _ (.inr (.inr (.inl rfl))))
  · exact h.had.block (hO _ (.inr (.inr (.inr (.inl rfl)))))
  · exact h.ends.block (hO _ (.inr (.inr (.inr (.inr (.inl rfl))))))
theorem NX.store (h : NX X w w1 nb N) {b : Nat} (hX : X b) (hb : w.heap.size ≤ b) (o : Nat) (v : Value) : NX X w (w1.setCell ⟨b, o, none⟩ v) nb N := by
  obtain ⟨F, M, lb, h1, h2, h3, h4, h5⟩ := h
  have hg := grown_setCell b v o w1
  exact ⟨F, M, lb, bl_st h1 hb o v, h2, h3, h4.other hg (h5 b hX).2.1 (h5 b hX).2.2, fun k hk => ⟨Nat.lt_of_lt_of_le (h5 k hk).1 hg.size, (h5 k hk).2⟩⟩
/-- A node that New made, where X is older. -/
theorem NewP.nx {me : Int} {k : HD} {draws : List Int} {e : Ending} (h : NewP w1 me k draws e w2) (hb : Below w.heap.size w w1) (hX : ∀ q, X q → q < w1.heap.size) : ∃ nb, e = .returned (.tuple #[.pointer (some ⟨nb, 0, none⟩), .int .i64 0]) ∧ NX X w w2 nb (RN.made me k draws) ∧ Kx X w1 w2 := by
  obtain ⟨F, nb, M, lb, rfl, h1, h2, h3, h4⟩ := h
  have hsz := hb.size
  refine ⟨nb, rfl, ⟨F, M, lb, hb.trans (h1.mono hsz), fun q hq => Nat.le_trans hsz (h2 q hq), fun q hq => Nat.le_trans hsz (h3 q hq), h4, fun k hk => ⟨Nat.lt_of_lt_of_le (hX k hk) h1.size, fun ho => ?_, fun hF => ?_⟩⟩, fun k hk => h1.block k (hX k hk)⟩
  · have := hX k hk; have := h3 k ho; omega
  · have := hX k hk; have := h2 k hF; omega
/-- A new block comes to X. -/
theorem NX.newX (h : NX X w w1 nb N) (hb : Below w1.heap.size w1 w2) : NX (fun k => X k ∨ (w1.heap.size ≤ k ∧ k < w2.heap.size)) w w2 nb N := by
  obtain ⟨F, M, lb, h1, h2, h3, h4, h5⟩ := h
  refine ⟨F, M, lb, h1.trans (hb.mono h1.size), h2, h3, h4.below hb, fun k hk => ?_⟩
  rcases hk with hk | ⟨k1, k2⟩
  · exact ⟨Nat.lt_of_lt_of_le (h5 k hk).1 hb.size, (h5 k hk).2⟩
  · exact ⟨k2, fun ho => by have := h4.ownLt k ho; omega, fun hF => by have := h4.flt k hF; omega⟩
theorem NX.sub {X' : Nat → Prop} (h : NX X w w1 nb N) (hX : ∀ k, X' k → X k) : NX X' w w1 nb N := by
  obtain ⟨F, M, lb, h1, h2, h3, h4, h5⟩ := h
  exact ⟨F, M, lb, h1, h2, h3, h4, fun k hk => h5 k (hX k hk)⟩
/-- One alone, behind so many ticks; one alone that leads. -/
def AX (X : Nat → Prop) (w : World) (nb : Nat) (t v : Int) (L : List LE) (c : Int) (i : Nat) (wl : World) : Prop := ∃ N, NX X w wl nb N ∧ Run N t v L c i
def LX (X : Nat → Prop) (w : World) (nb : Nat) (t v : Int) (L : List LE) (wl : World) : Prop := ∃ N wt tk q, NX X w wl nb N ∧ Al N t v L (L.length : Nat) 3 0 wt tk q
variable {t v c : Int} {L : List LE} {i : Nat}
theorem AX.tick (h : AX X w nb t v L c i w1) (hi : i ≤ 100) (ht : 0 ≤ t ∧ t ≤ 900) (hL : L.length ≤ 900) (hc : 0 ≤ c ∧ c ≤ (L.length : Nat)) : Calls Tryz.prog 26 #[.pointer (some ⟨nb, 0, none⟩)] w1 fun e w2 => ∃ r, e = .returned r ∧ AX X w nb t v L c (i + 1) w2 ∧ Kx X w1 w2 := by
  obtain ⟨N, ⟨F, M, lb, h1, h2, h3, h4, h5⟩, hr⟩ := h
  obtain ⟨g1, g2, g3, g4, g5⟩ := hr.good hi ht hL hc
  refine (tick_any F nb M lb w1 N h4 g1 g2 (fun _ => g3) g5 g4).mono ?_
  rintro e w2 ⟨vv, F', lb', rfl, hS, hN, _⟩
  obtain ⟨k1, k2⟩ := NX.stp h1 h2 h3 h5 hS hN
  exact ⟨vv, rfl, ⟨N.tick.1, k1, (hr.tick hc).1⟩, k2⟩
theorem AX.below (h : AX X w nb t v L c i w1) (hb : Below w1.heap.size w1 w2) : AX X w nb t v L c i w2 := by
  obtain ⟨N, h1, h2⟩ := h
  exact ⟨N, (h1.below hb).1, h2⟩
theorem AX.leads (h : AX X w nb t v L c i w1) (hi : 29 ≤ i) : LX X w nb (t + 1) 0 (L ++ [⟨t + 1, [], false, []⟩]) w1 := by
  obtain ⟨N, hN, hr⟩ := h
  obtain ⟨tk, _, _, ha⟩ := hr.leads hi
  rw [← show (((L ++ [(⟨t + 1, [], false, []⟩ : LE)]).length : Nat) : Int) = (L.length : Nat) + 1 by simp] at ha
  exact ⟨N, _, tk, _, hN, ha⟩
theorem LX.below (h : LX X w nb t v L w1) (hb : Below w1.heap.size w1 w2) : LX X w nb t v L w2 := by
  obtain ⟨N, wt, tk, q, hN, ha⟩ := h
  exact ⟨N, wt, tk, q, (hN.below hb).1, ha⟩
theorem LX.base (h : LX X w nb t v L w1) : Below w.heap.size w w1 := by
  obtain ⟨N, wt, tk, q, hN, ha⟩ := h
  exact hN.base
theorem Kx.below (hb : Below w1.heap.size w1 w2) (hX : ∀ k, X k → k < w1.heap.size) : Kx X w1 w2 := fun k hk => hb.block k (hX k hk)
theorem LX.lt (h : LX X w nb t v L w1) : ∀ k, X k → k < w1.heap.size := by
  obtain ⟨N, wt, tk, q, ⟨F, M, lb, _, _, _, _, h5⟩, ha⟩ := h
  exact fun k hk => (h5 k hk).1
theorem LX.propose (h : LX X w nb t v L w1) (s : List UInt8) (ht : 0 ≤ t ∧ t ≤ 900) (hL : L.length ≤ 900) : Calls Tryz.prog 31 #[.pointer (some ⟨nb, 0, none⟩), .string ⟨s.toArray⟩] w1 fun e w2 => ∃ a k, e = .returned (.tuple #[.int .i64 ((L.length : Nat) + 1), .slice a 0 k, .bool true]) ∧ LX X w nb t v (L ++ [⟨t, s, false, []⟩]) w2 ∧ Kx X w1 w2 := by
  obtain ⟨N, wt, tk, q, ⟨F, M, lb, h1, h2, h3, h4, h5⟩, ha⟩ := h
  have hx := ha.add ⟨t, s, false, []⟩ ⟨rfl, rfl⟩ rfl ⟨by omega, Int.le_refl _⟩
  have hl : (L ++ [(⟨t, s, false, []⟩ : LE)]).length = L.length + 1 := by simp
  refine (propose_yes F nb M lb w1 N h4 (ha.bnd (by omega) (by omega) (by omega)) ha.gm ha.ldi ha.role s (by rw [ha.last]; omega) (by rw [ha.k]; show L.length + 1 ≤ _; omega)).mono ?_
  rintro e w2 ⟨vv, F', lb', rfl, hS, hN, hm⟩
  simp only [ha.text] at *
  rw [hx.2] at hm
  obtain ⟨a, k, rfl, _⟩ := hm
  obtain ⟨k1, k2⟩ := NX.stp h1 h2 h3 h5 hS hN
  refine ⟨a, k, ?_, ⟨N.add ⟨t, s, false, []⟩, wt, tk, q, k1, hx.1⟩, k2⟩
  rw [hx.1.last, hl]
  rfl
theorem LX.entry (h : LX X w nb t v L w1) (ht : 0 ≤ t ∧ t ≤ 900) (hL : L.length ≤ 900) (j : Nat) (hj : j < L.length) : Calls Tryz.prog 23 #[.pointer (some ⟨nb, 0, none⟩), .int .i64 (1 + (j : Int))] w1 fun e w2 => ∃ a k, e = .returned (.tuple #[.agg #[.int .i64 L[j].term, .string ⟨L[j].s.toArray⟩, .bool false, .slice a 0 k], .bool true]) ∧ LX X w nb t v L w2 ∧ Kx X w1 w2 := by
  obtain ⟨N, wt, tk, q, hn, ha⟩ := h
  have hn2 := hn
  obtain ⟨F, M, lb, h1, h2, h3, h4, h5⟩ := hn
  obtain ⟨me, k, r2, l2, cm, dr, wt2, tk2, q2, vo, nx, hd, en, p1, p2, p3, ks⟩ := N
  have hk := ha.k
  simp only at hk
  subst hk
  have HE := entryYes_any F nb M lb w1 _ h4 (ha.bnd (by omega) (by omega) (by omega)) j hj (by
    have := ha.commit
    simp only at this ⊢
    omega)
  have hp := ha.plain _ (List.getElem_mem hj)
  simp only [hp.1, hp.2, List.length_nil, Int.zero_add] at HE
  refine HE.mono ?_
  rintro e w2 ⟨a, k, rfl, _, hb⟩
  obtain ⟨k1, k2⟩ := hn2.below hb
  exact ⟨a, k, rfl, ⟨_, wt, tk, q, k1, ha⟩, k2⟩
theorem LX.role (h : LX X w nb t v L w1) : Calls Tryz.prog 28 #[.pointer (some ⟨nb, 0, none⟩)] w1 fun e w2 => e = .returned (.int .i64 3) ∧ w2 = w1 := by
  obtain ⟨N, wt, tk, q, ⟨F, M, lb, _, _, _, hN, _⟩, ha⟩ := h
  have := role_any F nb M lb w1 N hN
  rw [ha.role] at this
  exact this
theorem LX.leader (h : LX X w nb t v L w1) : Calls Tryz.prog 29 #[.pointer (some ⟨nb, 0, none⟩)] w1 fun e w2 => e = .returned (.int .i64 0) ∧ w2 = w1 := by
  obtain ⟨N, wt, tk, q, ⟨F, M, lb, _, _, _, hN, _⟩, ha⟩ := h
  have := leader_any F nb M lb w1 N hN
  rw [ha.ld] at this
  exact this
theorem LX.term (h : LX X w nb t v L w1) : Calls Tryz.prog 30 #[.pointer (some ⟨nb, 0, none⟩)] w1 fun e w2 => e = .returned (.int .i64 t) ∧ w2 = w1 := by
  obtain ⟨N, wt, tk, q, ⟨F, M, lb, _, _, _, hN, _⟩, ha⟩ := h
  have := term_any F nb M lb w1 N hN
  rw [ha.k] at this
  exact this
theorem LX.commit (h : LX X w nb t v L w1) : Calls Tryz.prog 21 #[.pointer (some ⟨nb, 0, none⟩)] w1 fun e w2 => e = .returned (.int .i64 (L.length : Nat)) ∧ w2 = w1 := by
  obtain ⟨N, wt, tk, q, ⟨F, M, lb, _, _, _, hN, _⟩, ha⟩ := h
  have := commit_any F nb M lb w1 N hN
  rw [ha.commit] at this
  exact this
end
end Go.Proofs.YtnhlejdilldfaaaGreat
