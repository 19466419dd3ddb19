/- The plain disk and the disk, plainly: they stay alike. -/
import Derived.Test.YtgkkpmliociieaaRlo
import Derived.Test.YtgkkpmliociieaaMov
import Derived.Test.YtgkkpmliociieaaSet
namespace Go.Proofs.Ytgkkpmliociieaa
open Go Go.RowKit
def pr (f : RF) : B × B := (f.name, f.s)
theorem pr_ins (f : RF) : ∀ l : List RF, (insR f l).map pr = insP (pr f) (l.map pr)
  | [] => rfl
  | y :: r => by
    rw [insR, List.map_cons, insP]
    show List.map pr (if f.name < y.name then f :: y :: r else y :: insR f r) = if f.name < y.name then _ else _
    split
    · rfl
    · rw [List.map_cons, pr_ins f r]
theorem pr_wo (n : B) (l : List RF) : (woR n l).map pr = woP n (l.map pr) := by
  unfold woR woP
  rw [List.filter_map]
  rfl
theorem pr_wi (f : RF) (l : List RF) : (wiR f l).map pr = wiP (pr f) (l.map pr) := by
  unfold wiR wiP
  rw [pr_ins, pr_wo]
  rfl
theorem pr_find (l : List RF) (n : B) : (findR l n).map (·.s) = getP n (l.map pr) := by
  unfold findR getP
  rw [List.find?_map, Option.map_map]
  rfl
theorem pr_some (l : List RF) (n : B) : (findR l n).isSome = (getP n (l.map pr)).isSome := by
  rw [← pr_find, Option.isSome_map]
theorem pr_s (l : List RF) (n : B) : ((findR l n).getD rf0).s = byt (getP n (l.map pr)) := by
  rw [← pr_find]
  cases findR l n <;> rfl
theorem pr_used (l : List RF) : usedR l = usedP (l.map pr) := by
  unfold usedR usedP
  rw [List.map_map]
  rfl
/-- The plain disk is as the disk is. -/
structure Sam (d : DM) (m : RD) : Prop where
  now : m.now.map pr = nowL d.l
  sure : m.sure.map pr = sureL d.l
  ch : m.ch = d.ch
  off : m.off = d.dead
  lim : d.lim = decide (0 ≤ m.room)
  room : d.lim = true → d.room = m.room
def chD (d : DM) (c : RC) : DM × Nat := if c.kind = 1 then wriD d c.name c.s else if c.kind = 2 then movD d c.name c.to else if c.kind = 3 then remD d c.name else if c.kind = 4 then truD d c.name c.n else appD d c.name c.s
theorem Sam.is {d : DM} {m : RD} (h : Sam d m) (hr : Ris d.l) (n : B) : (findR m.now n).isSome = (atL n d.l).isSome := by rw [pr_some, h.now, at_now n d.l hr]
theorem Sam.s {d : DM} {m : RD} (h : Sam d m) (hr : Ris d.l) (n : B) : ((findR m.now n).getD rf0).s = byt (atL n d.l) := by rw [pr_s, h.now, at_now n d.l hr]
theorem Sam.used {d : DM} {m : RD} (h : Sam d m) : usedR m.now = usedL d.l := by rw [pr_used, h.now, used_now]
theorem Sam.full {d : DM} {m : RD} (h : Sam d m) (z : Int) : fullE d z = decide (0 < z ∧ 0 ≤ m.room ∧ m.room - (usedR m.now : Int) < z) := by
  unfold fullE
  rw [h.used]
  by_cases q : 0 ≤ m.room
  · have hl : d.lim = true := by rw [h.lim]; exact decide_eq_true q
    rw [hl, h.room hl, Bool.true_and]
    by_cases a : 0 < z <;> by_cases b : m.room - (usedL d.l : Int) < z <;> simp [a, b, q]
  · have hl : d.lim = false := by rw [h.lim]; exact decide_eq_false q
    rw [hl]
    simp [q]
/-- What is laid in both. -/
theorem Sam.lay {d : DM} {m : RD} (h : Sam d m) (hr : Ris d.l) (n : B) (c : Option B) (k : Nat) (m' : RD) (h1 : m'.now.map pr = putP n c (nowL d.l)) (h2 : m'.sure = m.sure) (h3 : m'.ch = m.ch + 1) (h4 : m'.off = d.dead) (h5 : m'.room = m.room) : Sam { d with ch := d.ch + 1, l := lay n c k d.l } m' :=
  ⟨by rw [h1, lay_now n c k d.l hr], by rw [h2, h.sure]; exact (lay_sure n c k d.l hr).symm, by rw [h3, h.ch], h4, by rw [h5]; exact h.lim, by rw [h5]; exact h.room⟩
theorem sam_change {d : DM} {m : RD} (h : Sam d m) (hd : Okl okN d.l) (c : RC) (hk : c.kind = 0 ∨ c.kind = 1 ∨ c.kind = 2 ∨ c.kind = 3 ∨ c.kind = 4) : Sam (chD d c).1 (chgR m c) ∧ whyR m c = ((chD d c).2 : Int) := by
  have hr := hd.ris
  have his := h.is hr c.name
  have hs := h.s hr c.name
  have hfu := h.full
  obtain ⟨k, n, t, s, z⟩ := c
  dsimp only at hk his hs ⊢
  unfold chgR whyR
  dsimp only
  rw [h.off, his, hs]
  unfold chgL
  dsimp only
  rw [hs]
  by_cases hde : d.dead = true
  · have e1 : whyB d.dead (okN n) (atL n d.l).isSome k (okN t) (n == t) z (byt (atL n d.l)).length s.length m.room (usedR m.now) = 7 := by rw [hde]; rfl
    rw [e1, if_neg (by decide)]
    have en : namE d n = 7 := by simp [namE, hde]
    have et : theE d n = 7 := by simp [theE, en]
    have e2 : chD d ⟨k, n, t, s, z⟩ = (d, 7) := by
      unfold chD appD wriD remD movD truD
      simp [en, et]
    rw [e2]
    exact ⟨h, rfl⟩
  · have hde : d.dead = false := by simpa using hde
    rw [hde]
    by_cases hok : okN n = true
    · have en : namE d n = 0 := by simp [namE, hde, hok]
      rw [hok]
      rcases hk with rfl | rfl | rfl | rfl | rfl
      · have hf := hfu (s.length : Int)
        have e2 : chD d ⟨0, n, t, s, z⟩ = putD d n (byt (atL n d.l)) s 1 := by simp [chD, appD, en]
        have e3 : ((byt (atL n d.l)).length : Int) + (s.length : Int) - ((byt (atL n d.l)).length : Int) = (s.length : Int) := by omega
        have e1 : whyB false true (atL n d.l).isSome 0 (okN t) (n == t) z (byt (atL n d.l)).length s.length m.room (usedR m.now) = if fullE d (s.length : Int) = true then 111 else 0 := by
          rw [hf]
          simp [whyB, moreB]
        rw [e2, e1]
        unfold putD
        rw [e3]
        cases hq : fullE d (s.length : Int)
        · simp only [Bool.false_eq_true, if_false, if_true]
          exact ⟨h.lay hr n (some (byt (atL n d.l) ++ s)) 1 _ (by show List.map pr (wiR ⟨n, byt (atL n d.l) ++ s, true⟩ m.now) = _; rw [pr_wi, h.now]; rfl) rfl rfl hde.symm rfl, rfl⟩
        · simp only [if_true]
          rw [if_neg (by decide)]
          exact ⟨h, rfl⟩
      · have hf := hfu ((s.length : Int) - ((byt (atL n d.l)).length : Int))
        have e2 : chD d ⟨1, n, t, s, z⟩ = putD d n [] s 2 := by simp [chD, wriD, en]
        have e3 : ((([] : B)).length : Int) + (s.length : Int) - ((byt (atL n d.l)).length : Int) = (s.length : Int) - ((byt (atL n d.l)).length : Int) := by simp
        have e1 : whyB false true (atL n d.l).isSome 1 (okN t) (n == t) z (byt (atL n d.l)).length s.length m.room (usedR m.now) = if fullE d ((s.length : Int) - ((byt (atL n d.l)).length : Int)) = true then 111 else 0 := by
          rw [hf]
          simp [whyB, moreB]
        rw [e2, e1]
        unfold putD
        rw [e3]
        cases hq : fullE d ((s.length : Int) - ((byt (atL n d.l)).length : Int))
        · simp only [Bool.false_eq_true, if_false, if_true]
          exact ⟨h.lay hr n (some ([] ++ s)) 2 _ (by show List.map pr (wiR ⟨n, s, true⟩ m.now) = _; rw [pr_wi, h.now]; rfl) rfl rfl hde.symm rfl, rfl⟩
        · simp only [if_true]
          rw [if_neg (by decide)]
          exact ⟨h, rfl⟩
      · cases hat : atL n d.l with
        | none =>
          have et : theE d n = 2 := by simp [theE, en, hat]
          have e2 : chD d ⟨2, n, t, s, z⟩ = (d, 2) := by simp [chD, movD, et]
          rw [e2, show whyB false true (none : Option B).isSome 2 (okN t) (n == t) z (byt none).length s.length m.room (usedR m.now) = 2 by simp [whyB], if_neg (by decide)]
          exact ⟨h, rfl⟩
        | some x =>
          have et : theE d n = 0 := by simp [theE, en, hat]
          have hc : theC d n = some x := by simp [theC, en, hat]
          by_cases hot : okN t = true
          · rw [hot]
            by_cases hnt : n = t
            · have e2 : chD d ⟨2, n, t, s, z⟩ = (d, 1) := by simp only [chD, movD, et, hot, if_true]; simp [hnt]
              rw [e2, show whyB false true (some x).isSome 2 true (n == t) z (byt (some x)).length s.length m.room (usedR m.now) = 1 by simp [whyB, hnt], if_neg (by decide)]
              exact ⟨h, rfl⟩
            · have e2 : chD d ⟨2, n, t, s, z⟩ = ({ d with ch := d.ch + 1, l := lay t (some x) 3 (lay n none 3 d.l) }, 0) := by simp only [chD, movD, et, hot, hc, if_true]; simp [hnt]
              rw [e2, show whyB false true (some x).isSome 2 true (n == t) z (byt (some x)).length s.length m.room (usedR m.now) = 0 by simp [whyB, hnt], if_pos rfl]
              have hr2 := (lay_ok (c := none) (h := 3) hd hok).ris
              refine ⟨⟨?_, ?_, ?_, hde.symm, h.lim, h.room⟩, rfl⟩
              · show (wiR ⟨t, x, false⟩ (woR n m.now)).map pr = nowL (lay t (some x) 3 (lay n none 3 d.l))
                rw [lay_now _ _ _ _ hr2, lay_now _ _ _ _ hr, pr_wi, pr_wo, h.now]
                rfl
              · show m.sure.map pr = sureL (lay t (some x) 3 (lay n none 3 d.l))
                rw [lay_sure _ _ _ _ hr2, lay_sure _ _ _ _ hr, h.sure]
              · show m.ch + 1 = d.ch + 1
                rw [h.ch]
          · have hot : okN t = false := by simpa using hot
            rw [hot]
            have e2 : chD d ⟨2, n, t, s, z⟩ = (d, 110) := by simp only [chD, movD, et, hot]; simp
            rw [e2, show whyB false true (some x).isSome 2 false (n == t) z (byt (some x)).length s.length m.room (usedR m.now) = 110 by simp [whyB], if_neg (by decide)]
            exact ⟨h, rfl⟩
      · cases hat : atL n d.l with
        | none =>
          have et : theE d n = 2 := by simp [theE, en, hat]
          have e2 : chD d ⟨3, n, t, s, z⟩ = (d, 2) := by simp [chD, remD, et]
          rw [e2, show whyB false true (none : Option B).isSome 3 (okN t) (n == t) z (byt none).length s.length m.room (usedR m.now) = 2 by simp [whyB], if_neg (by decide)]
          exact ⟨h, rfl⟩
        | some x =>
          have et : theE d n = 0 := by simp [theE, en, hat]
          have e2 : chD d ⟨3, n, t, s, z⟩ = ({ d with ch := d.ch + 1, l := lay n none 4 d.l }, 0) := by simp [chD, remD, et]
          rw [e2, show whyB false true (some x).isSome 3 (okN t) (n == t) z (byt (some x)).length s.length m.room (usedR m.now) = 0 by simp [whyB], if_pos rfl]
          exact ⟨h.lay hr n none 4 _ (by show List.map pr (woR n m.now) = _; rw [pr_wo, h.now]; rfl) rfl rfl hde.symm rfl, rfl⟩
      · cases hat : atL n d.l with
        | none =>
          have et : theE d n = 2 := by simp [theE, en, hat]
          have e2 : chD d ⟨4, n, t, s, z⟩ = (d, 2) := by simp [chD, truD, et]
          rw [e2, show whyB false true (none : Option B).isSome 4 (okN t) (n == t) z (byt none).length s.length m.room (usedR m.now) = 2 by simp [whyB], if_neg (by decide)]
          exact ⟨h, rfl⟩
        | some x =>
          have et : theE d n = 0 := by simp [theE, en, hat]
          have hc : theC d n = some x := by simp [theC, en, hat]
          by_cases hz : 0 ≤ z ∧ z ≤ ((byt (some x)).length : Int)
          · have e2 : chD d ⟨4, n, t, s, z⟩ = ({ d with ch := d.ch + 1, l := lay n (some ((byt (some x)).take z.toNat)) 5 d.l }, 0) := by
              simp only [chD, truD, et, hc, if_true]
              rw [if_pos hz]
              rfl
            have hz2 : ¬ (z < 0 ∨ ((byt (some x)).length : Int) < z) := by omega
            rw [e2, show whyB false true (some x).isSome 4 (okN t) (n == t) z (byt (some x)).length s.length m.room (usedR m.now) = 0 by unfold whyB; simp [hz2], if_pos rfl]
            exact ⟨h.lay hr n (some (x.take z.toNat)) 5 _ (by show List.map pr (wiR ⟨n, x.take z.toNat, false⟩ m.now) = _; rw [pr_wi, h.now]; rfl) rfl rfl hde.symm rfl, rfl⟩
          · have e2 : chD d ⟨4, n, t, s, z⟩ = (d, 1) := by
              simp only [chD, truD, et, hc, if_true]
              rw [if_neg hz]
              rfl
            have hz2 : z < 0 ∨ ((byt (some x)).length : Int) < z := by omega
            rw [e2, show whyB false true (some x).isSome 4 (okN t) (n == t) z (byt (some x)).length s.length m.room (usedR m.now) = 1 by unfold whyB; simp [hz2], if_neg (by decide)]
            exact ⟨h, rfl⟩
    · have hok : okN n = false := by simpa using hok
      rw [hok]
      have e1 : whyB false false (atL n d.l).isSome k (okN t) (n == t) z (byt (atL n d.l)).length s.length m.room (usedR m.now) = 110 := rfl
      rw [e1, if_neg (by decide)]
      have en : namE d n = 110 := by simp [namE, hde, hok]
      have et : theE d n = 110 := by simp [theE, en]
      have e2 : chD d ⟨k, n, t, s, z⟩ = (d, 110) := by
        unfold chD appD wriD remD movD truD
        simp [en, et]
      rw [e2]
      exact ⟨h, rfl⟩
end Go.Proofs.Ytgkkpmliociieaa
