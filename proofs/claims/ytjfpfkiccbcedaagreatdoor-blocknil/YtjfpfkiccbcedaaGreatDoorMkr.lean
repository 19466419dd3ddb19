/- What is kept in a region that makes a block and forgets it. What is kept in a region that makes a block, and keeps it. -/
import Derived.Test.YtjfpfkiccbcedaaGreatDoorRgn
import Derived.Test.YtjfpfkiccbcedaaGreatDoorBarg
namespace Go.Proofs.YtjfpfkiccbcedaaGreatDoor
open Go Go.RowKit
/-- Blocks of the type Block stay, whatever they have. -/
def Keep46 (w w' : World) : Prop := ∀ b c, Blk w b c 46 → c.size = 6 → ∃ c', Blk w' b c' 46 ∧ c'.size = 6
theorem Keep46.below {w w' : World} (h : Below w.heap.size w w') : Keep46 w w' := fun _ c hb hc => ⟨c, hb.belowSize h, hc⟩
theorem Keep46.two {bs bt : Nat} {w w' : World} {m : List KV} {t : Tr} (hE : EX w bs bt m t) (h : Two bs bt w w') : Keep46 w w' := fun b c hb hc => by
  obtain ⟨mb, h6, _⟩ := hE.st.out
  obtain ⟨q, h4, _⟩ := hE.tr
  exact ⟨c, hb.two h (hb.neT h6 (by decide)) (hb.neT (Blk.of_sh h4) (by decide)), hc⟩
theorem Keep46.store {w w' : World} {g : Nat} {c' : Array Value} (hg : w.grownBy w' (some g)) (hb : Blk w' g c' 46) (hc : c'.size = 6) : Keep46 w w' := fun b c h hs => by
  by_cases e : b = g
  · subst e; exact ⟨c', hb, hc⟩
  · exact ⟨c, h.grown hg (fun e2 => e (Option.some.inj e2)), hs⟩
def SpB (w : World) (v : Value) : Prop := ∃ g, v = .slice (some ⟨g, 0, none⟩) 1 1 ∧ Blk w g #[.int .i64 0] 3
def SpS (N : Nat) (w : World) (v : Value) : Prop := ∃ b, v = .pointer (some ⟨b, 0, none⟩) ∧ N ≤ b ∧ ST w b []
def SpT (N : Nat) (w : World) (v : Value) : Prop := ∃ b, v = .pointer (some ⟨b, 0, none⟩) ∧ N ≤ b ∧ Sh.Blk w b #[.pointer none] 99
theorem SpB.below {w w' : World} {v : Value} (h : SpB w v) (hb : Below w.heap.size w w') : SpB w' v := by
  obtain ⟨g, h1, h2⟩ := h
  exact ⟨g, h1, h2.belowSize hb⟩
theorem SpS.below {N : Nat} {w w' : World} {v : Value} (h : SpS N w v) (hb : Below w.heap.size w w') : SpS N w' v := by
  obtain ⟨g, h1, h2, h3⟩ := h
  exact ⟨g, h1, h2, h3.below hb⟩
theorem SpT.below {N : Nat} {w w' : World} {v : Value} (h : SpT N w v) (hb : Below w.heap.size w w') : SpT N w' v := by
  obtain ⟨g, h1, h2, h3⟩ := h
  exact ⟨g, h1, h2, h3.belowSize hb⟩
def RE (N ib is it im ist : Nat) (i : Nat) (_ : Nat → Value) (w w' : World) (v : Value) : Prop :=
  (if i = im ∨ i = ist then Below N w w' else Below w.heap.size w w') ∧ Keep46 w w' ∧ (i = ib → SpB w' v) ∧ (i = is → SpS N w' v) ∧ (i = it → SpT N w' v)
def RG (N : Nat) (w0 : World) (ib is it im : Nat) (L : Nat → Bool) (vs : Nat → Value) (w : World) : Prop :=
  Below N w0 w ∧ N ≤ w.heap.size ∧ (L im = false → (L ib = true → SpB w (vs ib)) ∧ (L is = true → SpS N w (vs is)) ∧ (L it = true → SpT N w (vs it)))
theorem RG.step {N : Nat} {w0 : World} {ib is it im ist : Nat} {L : Nat → Bool} {vs : Nat → Value} {w w' : World} {i : Nat} {v : Value} (h : RG N w0 ib is it im L vs w) (hs : i = ist → L im = true) (hE : RE N ib is it im ist i vs w w' v) : RG N w0 ib is it im (fun k => k == i || L k) (updV vs i v) w' := by
  obtain ⟨h1, h2, h3⟩ := h
  obtain ⟨e1, _, e3, e4, e5⟩ := hE
  by_cases hi : i = im ∨ i = ist
  · rw [if_pos hi] at e1
    refine ⟨h1.trans e1, Nat.le_trans h2 e1.size, fun hf => ?_⟩
    rcases hi with hi | hi
    · simp [hi] at hf
    · simp [hs hi] at hf
  · rw [if_neg hi] at e1
    refine ⟨h1.trans (e1.mono h2), Nat.le_trans h2 e1.size, fun hf => ?_⟩
    have hf2 : L im = false := by
      simp only [Bool.or_eq_false_iff] at hf
      exact hf.2
    obtain ⟨k1, k2, k3⟩ := h3 hf2
    refine ⟨fun hb => ?_, fun hb => ?_, fun hb => ?_⟩
    · by_cases e : ib = i
      · subst e; rw [updV_same]; exact e3 rfl
      · rw [updV_other e]
        simp [e] at hb
        exact (k1 hb).below e1
    · by_cases e : is = i
      · subst e; rw [updV_same]; exact e4 rfl
      · rw [updV_other e]
        simp [e] at hb
        exact (k2 hb).below e1
    · by_cases e : it = i
      · subst e; rw [updV_same]; exact e5 rfl
      · rw [updV_other e]
        simp [e] at hb
        exact (k3 hb).below e1
def AlcP (N : Nat) (w : World) (v : Value) : Prop := ∃ g c, v = .pointer (some ⟨g, 0, none⟩) ∧ N ≤ g ∧ Blk w g c 46 ∧ c.size = 6
def RP (N ia : Nat) (B : Nat → Value → Prop) (i : Nat) (_ : Nat → Value) (w : World) (v : Value) : Prop := (i = ia → AlcP N w v) ∧ B i v
theorem RP.stay {N ib is it im ist ia : Nat} {B : Nat → Value → Prop} {i j : Nat} {vs vs' : Nat → Value} {w w' : World} {u v : Value} (hE : RE N ib is it im ist i vs w w' u) (h : RP N ia B j vs' w v) : RP N ia B j vs' w' v := ⟨fun e => by
  obtain ⟨g, c, h1, h2, h3, h4⟩ := h.1 e
  obtain ⟨c', h5, h6⟩ := hE.2.1 g c h3 h4
  exact ⟨g, c', h1, h2, h5, h6⟩, h.2⟩
/-- A tuple of a block, what was told, and the error. -/
def TupP (er : Int) (v : Value) : Prop := ∃ c st, v = .tuple #[.agg c, st, .int .i64 er] ∧ c.size = 6 ∧ c.all (·.oneCell') = true
def AggP (v : Value) : Prop := ∃ c, v = .agg c ∧ c.size = 6 ∧ c.all (·.oneCell') = true
def MkR (N : Nat) (er : Int) (w : World) (e : Ending) (w' : World) : Prop := ∃ v, e = .returned v ∧ TupP er v ∧ Below N w w' ∧ Keep46 w w'
theorem MkE.mkR {N : Nat} {er : Int} {w w' : World} {e : Ending} (hN : N ≤ w.heap.size) (h : MkE w er e w') : MkR N er w e w' := ⟨_, h.1, ⟨_, _, rfl, rfl, bk_one _ _ _ _ _ _ _ _ _ _⟩, h.2.mono hN, Keep46.below h.2⟩
theorem MkP.mkR {N bs bt : Nat} {w w' : World} {m : List KV} {t : Tr} {ht : Nat} {p : List UInt8} {l : List TX} {mem : List Int} {e : Ending} (hE : EX w bs bt m t) (h1 : N ≤ bs) (h2 : N ≤ bt) (hN : N ≤ w.heap.size) (h : MkP w bs bt m t ht p l mem e w') : MkR N 0 w e w' := by
  obtain ⟨lo, a, cap, st, dls, gm, cm, rfl, hD, _, _⟩ := h
  exact ⟨_, rfl, ⟨_, _, rfl, rfl, bk_one _ _ _ _ _ _ _ _ _ _⟩, hD.two.to_below h1 h2 hN, Keep46.two hE hD.two⟩
end Go.Proofs.YtjfpfkiccbcedaaGreatDoor
namespace Go.Proofs.YtjfpfkiccbcedaaGreatDoor
open Go Go.RowKit
/-- What Make has left, in a world that has gone on. -/
def MkQ (w : World) (bs bt : Nat) (m : List KV) (t : Tr) (ht : Nat) (p : List UInt8) (l : List TX) (mem : List Int) (v : Value) (w' : World) : Prop :=
  ∃ lo a cap st dls gm cm, v = .tuple #[.agg (bk ht p (rootD Sh.digest (bys (exD m l))) ((exR m t l).hash Sh.TgD) (.slice (some ⟨gm, 0, none⟩) mem.length cm) (.slice a (exD m l).length cap)), st, .int .i64 0] ∧
    DN w w' bs bt lo (exS m l) (exR m t l) (.slice a (exD m l).length cap) st dls (exD m l) (exE m l) ∧ CB w' gm mem ∧ w.heap.size ≤ gm
theorem MkQ.below {w w1 w2 : World} {bs bt : Nat} {m : List KV} {t : Tr} {ht : Nat} {p : List UInt8} {l : List TX} {mem : List Int} {v : Value} (h : MkQ w bs bt m t ht p l mem v w1) (hb : Below w1.heap.size w1 w2) : MkQ w bs bt m t ht p l mem v w2 := by
  obtain ⟨lo, a, cap, st, dls, gm, cm, e, h1, h2, h3⟩ := h
  exact ⟨lo, a, cap, st, dls, gm, cm, e, h1.below hb, h2.below hb, h3⟩
theorem MkQ.store {w w1 w2 : World} {bs bt : Nat} {m : List KV} {t : Tr} {ht : Nat} {p : List UInt8} {l : List TX} {mem : List Int} {v : Value} {g : Nat} {c : Array Value} (h : MkQ w bs bt m t ht p l mem v w1) (hg : w1.grownBy w2 (some g)) (hb : Blk w1 g c 46) (hN : w.heap.size ≤ g) : MkQ w bs bt m t ht p l mem v w2 := by
  obtain ⟨lo, a, cap, st, dls, gm, cm, e, h1, h2, h3⟩ := h
  exact ⟨lo, a, cap, st, dls, gm, cm, e, h1.other hg hb hN (by decide) (hne7 h1 hb), h2.other hg hb (by decide), h3⟩
theorem MkP.mkQ {w w0 w1 : World} {bs bt : Nat} {m : List KV} {t : Tr} {ht : Nat} {p : List UInt8} {l : List TX} {mem : List Int} {e : Ending} (h : MkP w0 bs bt m t ht p l mem e w1) (hb : Below w.heap.size w w0) (h2 : 2 ≤ w.heap.size) : ∃ v, e = .returned v ∧ MkQ w bs bt m t ht p l mem v w1 := by
  obtain ⟨lo, a, cap, st, dls, gm, cm, e, h1, h3, h4⟩ := h
  exact ⟨_, e, lo, a, cap, st, dls, gm, cm, rfl, h1.start hb h2, h3, Nat.le_trans hb.size h4⟩
theorem MkP.keep {w w' : World} {bs bt : Nat} {m : List KV} {t : Tr} {ht : Nat} {p : List UInt8} {l : List TX} {mem : List Int} {e : Ending} (hE : EX w bs bt m t) (h : MkP w bs bt m t ht p l mem e w') : Keep46 w w' ∧ w.heap.size ≤ w'.heap.size := by
  obtain ⟨lo, a, cap, st, dls, gm, cm, e, h1, _⟩ := h
  exact ⟨Keep46.two hE h1.two, h1.two.size⟩
def KE (N ib im ist : Nat) (QM : Value → World → Prop) (i : Nat) (_ : Nat → Value) (w w' : World) (v : Value) : Prop :=
  (i ≠ im → i ≠ ist → Below w.heap.size w w') ∧ (i = ist → ∃ g c, N ≤ g ∧ Blk w g c 46 ∧ w.grownBy w' (some g)) ∧ Keep46 w w' ∧ (i = ib → SpB w' v) ∧ (i = im → QM v w') ∧ w.heap.size ≤ w'.heap.size
def KG (N : Nat) (w0 : World) (ib im : Nat) (QM : Value → World → Prop) (L : Nat → Bool) (vs : Nat → Value) (w : World) : Prop :=
  N ≤ w.heap.size ∧ (L im = false → Below N w0 w ∧ (L ib = true → SpB w (vs ib))) ∧ (L im = true → QM (vs im) w)
theorem KG.step {N : Nat} {w0 : World} {ib im ist : Nat} {QM : Value → World → Prop} {L : Nat → Bool} {vs : Nat → Value} {w w' : World} {i : Nat} {v : Value}
    (hq1 : ∀ v w w', QM v w → Below w.heap.size w w' → QM v w') (hq2 : ∀ v w w' g c, QM v w → w.grownBy w' (some g) → Blk w g c 46 → N ≤ g → QM v w')
    (h : KG N w0 ib im QM L vs w) (hs : i = ist → L im = true) (hE : KE N ib im ist QM i vs w w' v) : KG N w0 ib im QM (fun k => k == i || L k) (updV vs i v) w' := by
  obtain ⟨h1, h2, h3⟩ := h
  obtain ⟨e1, e2, _, e4, e5, e6⟩ := hE
  refine ⟨Nat.le_trans h1 e6, fun hf => ?_, fun hf => ?_⟩
  · simp only [Bool.or_eq_false_iff, beq_eq_false_iff_ne] at hf
    obtain ⟨hi, hL⟩ := hf
    have hi2 : i ≠ ist := fun e => by rw [hs e] at hL; cases hL
    have b := e1 (Ne.symm hi) hi2
    obtain ⟨k1, k2⟩ := h2 hL
    refine ⟨k1.trans (b.mono h1), fun hb => ?_⟩
    by_cases e : ib = i
    · subst e; rw [updV_same]; exact e4 rfl
    · rw [updV_other e]
      simp [e] at hb
      exact (k2 hb).below b
  · by_cases e : im = i
    · subst e; rw [updV_same]; exact e5 rfl
    · rw [updV_other e]
      simp [e] at hf
      by_cases e3 : i = ist
      · obtain ⟨g, c, g1, g2, g3⟩ := e2 e3
        exact hq2 _ _ _ _ _ (h3 hf) g3 g2 g1
      · exact hq1 _ _ _ (h3 hf) (e1 (Ne.symm e) e3)
def KP (N ia ist ie : Nat) (B : Nat → (Nat → Value) → Value → Prop) (i : Nat) (vs : Nat → Value) (w : World) (v : Value) : Prop :=
  (i = ia → AlcP N w v) ∧ (i = ist → ∃ g c, vs ia = .pointer (some ⟨g, 0, none⟩) ∧ vs ie = .agg c ∧ N ≤ g ∧ Blk w g c 46) ∧ B i vs v
theorem KP.stay {N ib im ist ia ie : Nat} {QM : Value → World → Prop} {B : Nat → (Nat → Value) → Value → Prop} {i j : Nat} {vs vs' : Nat → Value} {w w' : World} {u v : Value} (hE : KE N ib im ist QM i vs w w' u) (hij : i ≠ j) (him : j = ist → i ≠ im) (h : KP N ia ist ie B j vs' w v) : KP N ia ist ie B j vs' w' v := ⟨fun e => by
  obtain ⟨g, c, h1, h2, h3, h4⟩ := h.1 e
  obtain ⟨c', h5, h6⟩ := hE.2.2.1 g c h3 h4
  exact ⟨g, c', h1, h2, h5, h6⟩, fun e => by
  obtain ⟨g, c, h1, h2, h3, h4⟩ := h.2.1 e
  exact ⟨g, c, h1, h2, h3, h4.belowSize (hE.1 (him e) (fun e2 => hij (e2.trans e.symm)))⟩, h.2.2⟩
/-- Another state and another tree stay. -/
theorem EX.apart {bs bt bu bv : Nat} {w w' : World} {m m2 : List KV} {t t2 : Tr} (h : EX w bu bv m2 t2) (hE : EX w bs bt m t) (k : Two bs bt w w') (h1 : bu ≠ bs) (h2 : bv ≠ bt) : EX w' bu bv m2 t2 := by
  obtain ⟨mb, h6, _⟩ := hE.st.out
  obtain ⟨q, h4, _⟩ := hE.tr
  let w1 : World := { w with heap := w.heap.setIfInBounds bs ((w'.heap[bs]?).getD (.cells #[] 0 (0, 0))) }
  have hbs := h6.lt
  have g1 : w.grownBy w1 (some bs) := ⟨rfl, rfl, rfl, by simp [w1], fun i hi hn => by
    simp only [w1]
    rw [Array.getElem?_setIfInBounds, if_neg (fun e => hn (by rw [e]))]⟩
  have hbs' : bs < w'.heap.size := Nat.lt_of_lt_of_le hbs k.size
  have g2 : w1.grownBy w' (some bt) := ⟨k.os, k.tape, k.output, by simpa [w1] using k.size, fun i hi hn => by
    have hi' : i < w.heap.size := by simpa [w1] using hi
    simp only [w1]
    rw [Array.getElem?_setIfInBounds]
    by_cases e : bs = i
    · subst e
      rw [if_pos rfl, if_pos hbs, Array.getElem?_eq_getElem hbs']
      rfl
    · rw [if_neg e]
      exact k.block i hi' (Ne.symm e) (fun e2 => hn (by rw [e2]))⟩
  obtain ⟨mb2, k6, _⟩ := h.st.out
  obtain ⟨q2, k4, k5⟩ := h.tr
  have n1 : bv ≠ bs := (Blk.of_sh k4).neT h6 (by decide)
  have n2 : bu ≠ bt := k6.neT (Blk.of_sh h4) (by decide)
  have b1 := (Blk.of_sh h4).grown g1 (fun e => (hE.ne (Option.some.inj e).symm))
  have s1 := h.st.kept g1 h6 h1
  have t1 := (Blk.of_sh k4).grown g1 (fun e => n1 (Option.some.inj e))
  have f1 := k5.grown g1 (Blk.sh h6) (by decide)
  exact ⟨s1.kept g2 b1 n2, ⟨q2, Blk.sh (t1.grown g2 (fun e => h2 (Option.some.inj e))), f1.grown g2 (Blk.sh b1) (by decide)⟩, (h.glob.grown g1 hE.two.1).grown g2 hE.two.2, h.two⟩
end Go.Proofs.YtjfpfkiccbcedaaGreatDoor
