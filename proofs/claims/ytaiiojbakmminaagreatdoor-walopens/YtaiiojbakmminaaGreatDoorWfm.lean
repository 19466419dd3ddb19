/- A disk with what is planned: its changes in one word. A log in memory; what baseName, segmentsPrefix, segmentName and isOther of a log do. What frames and unframe of the log do. -/
import Derived.Test.YtaiiojbakmminaaGreatDoorWlk
import Derived.Test.YtaiiojbakmminaaGreatDoorWsh
import Derived.Test.YtaiiojbakmminaaGreatDoorKStk
import Derived.Test.YtaiiojbakmminaaGreatDoorKRgr
namespace Go.Proofs.YtaiiojbakmminaaGreatDoor
open Go Go.RowKit
/-- A disk, with the fall that is planned, if one is. -/
structure DN where
  l : List F
  dead : Bool
  lim : Bool
  room : Int
  ch : Nat
  pl : Option FA
def DN.lo (m : DN) (v : Value) : DM := ⟨m.l, m.dead, m.lim, m.room, m.ch, v⟩
def PLs (w : World) (v : Value) : Option FA → Prop
  | none => ∃ a c, v = .slice a 0 c
  | some f => PlA w v f
structure DD (w : World) (p : Nat) (b : Option Nat) (m : DN) : Prop where
  out : ∃ v, DK w p b (m.lo v) ∧ PLs w v m.pl
structure Okn (m : DN) : Prop where
  l : Okl okN m.l
  len : m.l.length ≤ 999000
  used : usedL m.l ≤ 100000000000
  ch : m.ch ≤ 999000
  room : m.lim = true → 0 ≤ m.room ∧ m.room ≤ 9223372036854775807
  by_ : ∀ f ∈ m.l, (kbyt f.is).length ≤ 1000000000000 ∧ (kbyt f.sure).length ≤ 1000000000000
  pl : ∀ f, m.pl = some f → (m.ch : Int) ≤ f.at_ ∧ m.dead = false ∧ m.lim = false
theorem Okn.okd {m : DN} (h : Okn m) (v : Value) : Okd (m.lo v) := ⟨h.l, h.len, h.used, h.ch, h.room⟩
def hitN (m : DN) : Option FA := match m.pl with
  | some f => if f.at_ = (m.ch : Int) then some f else none
  | none => none
def fallN (m : DN) (f : FA) : DN := { m with dead := true, l := settleL (failL f.keep f.torn m.l), pl := none }
def chgN (m : DN) (l' : List F) : DN × Nat := match hitN m with
  | some f => (fallN m f, 7)
  | none => ({ m with ch := m.ch + 1, l := l' }, 0)
def ChN (w : World) (p : Nat) (b : Option Nat) (r : DN × Nat) (e : Ending) (w' : World) : Prop := e = .returned (.int .i64 (r.2 : Nat)) ∧ ∃ b', Chg w w' p b b' ∧ DD w' p b' r.1
theorem Chg.raw {w w' : World} {p g : Nat} {b b' : Option Nat} {m : DM} {cur : Array Value} {t : TypeId} {fr : Nat × Nat} (h : Chg w w' p b b') (hD : DK w p b m) (hg : w.heap[g]? = some (.cells cur t fr)) (h1 : t ≠ 61) (h2 : t ≠ 93) : w'.heap[g]? = some (.cells cur t fr) := by
  obtain ⟨sl, k1, k2, rfl⟩ := hD.out
  refine (h.block g (Array.getElem?_eq_some_iff.1 hg).1 (fun e => ?_) (fun e => ?_)).trans hg
  · subst e
    have := k1.out
    rw [hg] at this
    simp only [Option.some.injEq, Obj.cells.injEq] at this
    exact h1 this.2.1
  · rcases k2.2 with ⟨_, rfl⟩ | ⟨g', cap, h3, rfl, h4⟩
    · cases e
    · cases e
      obtain ⟨cur', h5, _⟩ := h4.out
      rw [hg] at h5
      simp only [Option.some.injEq, Obj.cells.injEq] at h5
      exact h2 h5.2.1
theorem PlA.chg {w w' : World} {p : Nat} {b b' : Option Nat} {m : DM} {v : Value} {f : FA} (h : PlA w v f) (hc : Chg w w' p b b') (hD : DK w p b m) : PlA w' v f := by
  obtain ⟨g, o, cap, cur, fr, h1, h2, h3, h4⟩ := h.out
  exact ⟨g, o, cap, cur, fr, h1, h2, hc.raw hD h3 (by decide) (by decide), h4⟩
theorem PLs.chg {w w' : World} {p : Nat} {b b' : Option Nat} {m : DM} {v : Value} {o : Option FA} (h : PLs w v o) (hc : Chg w w' p b b') (hD : DK w p b m) : PLs w' v o := by
  cases o with
  | none => exact h
  | some f => exact PlA.chg h hc hD
theorem PLs.below {w w' : World} {v : Value} {o : Option FA} (h : PLs w v o) (hb : Below w.heap.size w w') : PLs w' v o := by
  cases o with
  | none => exact h
  | some f => exact PlA.below h hb
theorem DD.below {w w' : World} {p : Nat} {b : Option Nat} {m : DN} (h : DD w p b m) (hb : Below w.heap.size w w') : DD w' p b m := by
  obtain ⟨v, h1, h2⟩ := h.out
  exact ⟨v, h1.below hb, h2.below hb⟩
theorem calm_of {w : World} {m : DN} {v : Value} (hm : Okn m) (hh : hitN m = none) (h : PLs w v m.pl) : Calm w (m.lo v) := by
  unfold hitN at hh
  cases hp : m.pl with
  | none =>
    rw [hp] at h
    exact .inl h
  | some f =>
    rw [hp] at h hh
    dsimp only at hh
    split at hh
    · cases hh
    · rename_i hne
      refine .inr ⟨f, h, ?_⟩
      have := (hm.pl f hp).1
      show (m.ch : Int) < f.at_
      omega
theorem hit_of {m : DN} {f : FA} (hh : hitN m = some f) : m.pl = some f ∧ f.at_ = (m.ch : Int) := by
  unfold hitN at hh
  cases hp : m.pl with
  | none => rw [hp] at hh; cases hh
  | some f' =>
    rw [hp] at hh
    dsimp only at hh
    split at hh
    · rename_i he
      have := Option.some.inj hh
      subst this
      exact ⟨rfl, he⟩
    · cases hh
/-- A change, where none strikes: what the disk's law says. -/
theorem chn_calm {w w' : World} {p : Nat} {b : Option Nat} {m : DN} {v : Value} {e : Ending} {l' : List F} (hK : DK w p b (m.lo v)) (hp : PLs w v m.pl) (hh : hitN m = none) (h : ChP w p b ({ m.lo v with ch := m.ch + 1, l := l' }, 0) e w') : ChN w p b (chgN m l') e w' := by
  obtain ⟨h1, b', h2, h3⟩ := h
  unfold chgN
  rw [hh]
  exact ⟨h1, b', h2, ⟨v, h3, hp.chg h2 hK⟩⟩
theorem chn_same {w w' : World} {p : Nat} {b : Option Nat} {m : DN} {v : Value} {e : Ending} {k : Nat} (hK : DK w p b (m.lo v)) (hp : PLs w v m.pl) (h : ChP w p b (m.lo v, k) e w') : ChN w p b (m, k) e w' := by
  obtain ⟨h1, b', h2, h3⟩ := h
  exact ⟨h1, b', h2, ⟨v, h3, hp.chg h2 hK⟩⟩
theorem chn_hit {w w' : World} {p : Nat} {b : Option Nat} {m : DN} {v : Value} {e : Ending} {f : FA} {l' : List F} (hh : hitN m = some f) (h : HitP w p b (m.lo v) f e w') : ChN w p b (chgN m l') e w' := by
  obtain ⟨h1, b', a, c, h2, h3⟩ := h
  unfold chgN
  rw [hh]
  exact ⟨h1, b', h2, ⟨.slice a 0 c, h3, a, c, rfl⟩⟩
/-- Is there no room for so many bytes more? -/
def fullN (m : DN) (d : Int) : Bool := m.lim && decide (0 < d) && decide (m.room - (usedL m.l : Nat) < d)
theorem full_lo (m : DN) (v : Value) (d : Int) : fullE (m.lo v) d = fullN m d := rfl
theorem nam_ok {m : DN} {v : Value} {n : B} (hn : okN n = true) : namE (m.lo v) n = if m.dead = true then 7 else 0 := by
  unfold namE
  rw [if_pos hn]
  rfl
/-- What Write leaves. -/
def wriN (m : DN) (n s : B) : DN × Nat := if m.dead = true then (m, 7) else if fullN m ((s.length : Int) - ((kbyt (atL n m.l)).length : Int)) = true then (m, 111) else chgN m (lay n (some s) 2 m.l)
def appN (m : DN) (n s : B) : DN × Nat := if m.dead = true then (m, 7) else if fullN m (s.length : Int) = true then (m, 111) else chgN m (lay n (some (kbyt (atL n m.l) ++ s)) 1 m.l)
def remN (m : DN) (n : B) : DN × Nat := if m.dead = true then (m, 7) else chgN m (lay n none 4 m.l)
def movN (m : DN) (n t : B) : DN × Nat := if m.dead = true then (m, 7) else chgN m (lay t (atL n m.l) 3 (lay n none 3 m.l))
def truN (m : DN) (n : B) (q : Nat) : DN × Nat := if m.dead = true then (m, 7) else chgN m (lay n (some ((kbyt (atL n m.l)).take q)) 5 m.l)
def synN (m : DN) : DN × Nat := if m.dead = true then (m, 7) else ({ m with l := settleL m.l }, 0)
theorem nofull {m : DN} (hm : Okn m) {f : FA} (hh : hitN m = some f) (d : Int) : fullN m d = false := by
  unfold fullN
  rw [(hm.pl f (hit_of hh).1).2.2]
  rfl
theorem dead_hit {m : DN} (hm : Okn m) {f : FA} (hh : hitN m = some f) : m.dead = false := (hm.pl f (hit_of hh).1).2.1
theorem writeN (p : Nat) (b : Option Nat) (m : DN) (n s : B) (w : World) (hK : DD w p b m) (hm : Okn m) (hn : okN n = true) (hnl : n.length ≤ 9223372036854775807) (h2 : s.length ≤ 1000000000000) :
    Calls Tryz.prog 25 #[.pointer (some ⟨p, 0, none⟩), .string ⟨n.toArray⟩, .string ⟨s.toArray⟩] w (ChN w p b (wriN m n s)) := by
  obtain ⟨v, hD, hp⟩ := hK.out
  have hfe : ((([] : B).length : Int) + (s.length : Int) - ((kbyt (atL n m.l)).length : Int)) = (s.length : Int) - ((kbyt (atL n m.l)).length : Int) := by simp
  unfold wriN
  cases hh : hitN m with
  | none =>
    have h := write_any p b (m.lo v) n s w hD (hm.okd v) (calm_of hm hh hp) hnl h2
    refine h.mono (fun e w' hc => ?_)
    unfold wriD at hc
    rw [nam_ok hn] at hc
    by_cases hd : m.dead = true
    · rw [if_pos hd] at hc ⊢
      rw [if_neg (by decide)] at hc
      exact chn_same hD hp hc
    · rw [if_neg hd] at hc ⊢
      rw [if_pos rfl] at hc
      unfold putD at hc
      have hfe2 : ((([] : B).length : Int) + (s.length : Int) - ((kbyt (atL n (m.lo v).l)).length : Int)) = (s.length : Int) - ((kbyt (atL n m.l)).length : Int) := hfe
      rw [hfe2, full_lo] at hc
      by_cases hf : fullN m ((s.length : Int) - ((kbyt (atL n m.l)).length : Int)) = true
      · rw [if_pos hf] at hc ⊢
        exact chn_same hD hp hc
      · rw [if_neg hf] at hc ⊢
        exact chn_calm hD hp hh hc
  | some f =>
    have h := write_hit p b (m.lo v) w hD (hm.okd v) f (by have := hp; rw [(hit_of hh).1] at this; exact this) (hit_of hh).2 hm.by_ n s hnl h2 (by rw [nam_ok hn, if_neg (by rw [dead_hit hm hh]; decide)]) (by rw [full_lo]; exact nofull hm hh _)
    rw [if_neg (by rw [dead_hit hm hh]; decide), if_neg (by rw [nofull hm hh]; decide)]
    exact h.mono (fun e w' hc => chn_hit hh hc)
theorem appendN (p : Nat) (b : Option Nat) (m : DN) (n s : B) (w : World) (hK : DD w p b m) (hm : Okn m) (hn : okN n = true) (hnl : n.length ≤ 9223372036854775807) (h2 : s.length ≤ 1000000000000) :
    Calls Tryz.prog 46 #[.pointer (some ⟨p, 0, none⟩), .string ⟨n.toArray⟩, .string ⟨s.toArray⟩] w (ChN w p b (appN m n s)) := by
  obtain ⟨v, hD, hp⟩ := hK.out
  unfold appN
  cases hh : hitN m with
  | none =>
    have h := append_any p b (m.lo v) n s w hD (hm.okd v) (calm_of hm hh hp) hnl h2
    refine h.mono (fun e w' hc => ?_)
    unfold appD at hc
    rw [nam_ok hn] at hc
    by_cases hd : m.dead = true
    · rw [if_pos hd] at hc ⊢
      rw [if_neg (by decide)] at hc
      exact chn_same hD hp hc
    · rw [if_neg hd] at hc ⊢
      rw [if_pos rfl] at hc
      unfold putD at hc
      have hfe : (((kbyt (atL n (m.lo v).l)).length : Int) + (s.length : Int) - ((kbyt (atL n (m.lo v).l)).length : Int)) = (s.length : Int) := by omega
      rw [hfe, full_lo] at hc
      by_cases hf : fullN m (s.length : Int) = true
      · rw [if_pos hf] at hc ⊢
        exact chn_same hD hp hc
      · rw [if_neg hf] at hc ⊢
        exact chn_calm hD hp hh hc
  | some f =>
    have h := append_hit p b (m.lo v) w hD (hm.okd v) f (by have := hp; rw [(hit_of hh).1] at this; exact this) (hit_of hh).2 hm.by_ n s hnl h2 (by rw [nam_ok hn, if_neg (by rw [dead_hit hm hh]; decide)]) (by rw [full_lo]; exact nofull hm hh _)
    rw [if_neg (by rw [dead_hit hm hh]; decide), if_neg (by rw [nofull hm hh]; decide)]
    exact h.mono (fun e w' hc => chn_hit hh hc)
theorem the_ok {m : DN} {v : Value} {n : B} (hn : okN n = true) (ha : (atL n m.l).isSome = true) : theE (m.lo v) n = if m.dead = true then 7 else 0 := by
  unfold theE
  rw [nam_ok hn]
  by_cases hd : m.dead = true
  · rw [if_pos hd]
    rfl
  · rw [if_neg hd, if_pos rfl]
    show (if (atL n m.l).isSome = true then _ else _) = _
    rw [if_pos ha]
theorem theC_ok {m : DN} {v : Value} {n : B} (hn : okN n = true) (hd : ¬ m.dead = true) : theC (m.lo v) n = atL n m.l := by
  unfold theC
  rw [nam_ok hn, if_neg hd, if_pos rfl]
  rfl
theorem removeN (p : Nat) (b : Option Nat) (m : DN) (n : B) (w : World) (hK : DD w p b m) (hm : Okn m) (hn : okN n = true) (hnl : n.length ≤ 9223372036854775807) (ha : (atL n m.l).isSome = true) :
    Calls Tryz.prog 78 #[.pointer (some ⟨p, 0, none⟩), .string ⟨n.toArray⟩] w (ChN w p b (remN m n)) := by
  obtain ⟨v, hD, hp⟩ := hK.out
  unfold remN
  cases hh : hitN m with
  | none =>
    have h := remove_any p b (m.lo v) n w hD (hm.okd v) (calm_of hm hh hp) hnl
    refine h.mono (fun e w' hc => ?_)
    unfold remD at hc
    rw [the_ok hn ha] at hc
    by_cases hd : m.dead = true
    · rw [if_pos hd] at hc ⊢
      rw [if_neg (by decide)] at hc
      exact chn_same hD hp hc
    · rw [if_neg hd] at hc ⊢
      rw [if_pos rfl] at hc
      exact chn_calm hD hp hh hc
  | some f =>
    have h := remove_hit p b (m.lo v) w hD (hm.okd v) f (by have := hp; rw [(hit_of hh).1] at this; exact this) (hit_of hh).2 hm.by_ n hnl (by rw [the_ok hn ha, if_neg (by rw [dead_hit hm hh]; decide)])
    rw [if_neg (by rw [dead_hit hm hh]; decide)]
    exact h.mono (fun e w' hc => chn_hit hh hc)
theorem moveN (p : Nat) (b : Option Nat) (m : DN) (n t : B) (w : World) (hK : DD w p b m) (hm : Okn m) (hn : okN n = true) (ht : okN t = true) (hnt : n ≠ t) (hnl : n.length ≤ 9223372036854775807) (htl : t.length ≤ 9223372036854775807) (ha : (atL n m.l).isSome = true) :
    Calls Tryz.prog 41 #[.pointer (some ⟨p, 0, none⟩), .string ⟨n.toArray⟩, .string ⟨t.toArray⟩] w (ChN w p b (movN m n t)) := by
  obtain ⟨v, hD, hp⟩ := hK.out
  unfold movN
  cases hh : hitN m with
  | none =>
    have h := move_any p b (m.lo v) n t w hD (hm.okd v) (calm_of hm hh hp) hnl htl (fun _ => hn)
    refine h.mono (fun e w' hc => ?_)
    unfold movD at hc
    rw [the_ok hn ha] at hc
    by_cases hd : m.dead = true
    · rw [if_pos hd] at hc ⊢
      rw [if_neg (by decide)] at hc
      exact chn_same hD hp hc
    · rw [if_neg hd] at hc ⊢
      rw [if_pos rfl, if_pos ht, if_neg hnt, theC_ok hn hd] at hc
      exact chn_calm hD hp hh hc
  | some f =>
    have h := move_hit p b (m.lo v) w hD (hm.okd v) f (by have := hp; rw [(hit_of hh).1] at this; exact this) (hit_of hh).2 hm.by_ n t hnl htl (by rw [the_ok hn ha, if_neg (by rw [dead_hit hm hh]; decide)]) ht hnt
    rw [if_neg (by rw [dead_hit hm hh]; decide)]
    exact h.mono (fun e w' hc => chn_hit hh hc)
theorem truncN (p : Nat) (b : Option Nat) (m : DN) (n : B) (q : Nat) (w : World) (hK : DD w p b m) (hm : Okn m) (hn : okN n = true) (hnl : n.length ≤ 9223372036854775807) (ha : (atL n m.l).isSome = true) (hq : q ≤ (kbyt (atL n m.l)).length) :
    Calls Tryz.prog 117 #[.pointer (some ⟨p, 0, none⟩), .string ⟨n.toArray⟩, .int .i64 (q : Nat)] w (ChN w p b (truN m n q)) := by
  obtain ⟨v, hD, hp⟩ := hK.out
  unfold truN
  cases hh : hitN m with
  | none =>
    have h := truncate_any p b (m.lo v) n (q : Nat) w hD (hm.okd v) (calm_of hm hh hp) hnl
    refine h.mono (fun e w' hc => ?_)
    unfold truD at hc
    rw [the_ok hn ha] at hc
    by_cases hd : m.dead = true
    · rw [if_pos hd] at hc ⊢
      rw [if_neg (by decide)] at hc
      exact chn_same hD hp hc
    · rw [if_neg hd] at hc ⊢
      rw [if_pos rfl, theC_ok hn hd, if_pos ⟨by omega, by omega⟩, Int.toNat_natCast] at hc
      exact chn_calm hD hp hh hc
  | some f =>
    have h := truncate_hit p b (m.lo v) w hD (hm.okd v) f (by have := hp; rw [(hit_of hh).1] at this; exact this) (hit_of hh).2 hm.by_ n q hnl (by rw [the_ok hn ha, if_neg (by rw [dead_hit hm hh]; decide)]) (by rw [theC_ok hn (by rw [dead_hit hm hh]; decide)]; exact hq)
    rw [if_neg (by rw [dead_hit hm hh]; decide)]
    exact h.mono (fun e w' hc => chn_hit hh hc)
theorem syncN (p : Nat) (b : Option Nat) (m : DN) (w : World) (hK : DD w p b m) (hm : Okn m) :
    Calls Tryz.prog 27 #[.pointer (some ⟨p, 0, none⟩)] w (ChN w p b (synN m)) := by
  obtain ⟨v, hD, hp⟩ := hK.out
  have hl := hm.len
  have h := sync_any p b (m.lo v) w hD (by show m.l.length ≤ _; omega)
  refine h.mono (fun e w' hc => ?_)
  unfold synN
  by_cases hd : m.dead = true
  · rw [if_pos (show (m.lo v).dead = true from hd)] at hc
    rw [if_pos hd]
    exact chn_same hD hp hc
  · rw [if_neg (show ¬ (m.lo v).dead = true from hd)] at hc
    rw [if_neg hd]
    obtain ⟨h1, b', h2, h3⟩ := hc
    exact ⟨h1, b', h2, ⟨v, h3, hp.chg h2 hD⟩⟩
end Go.Proofs.YtaiiojbakmminaaGreatDoor
namespace Go.Proofs.YtaiiojbakmminaaGreatDoor
open Go Go.RowKit
/-- A log: how long segments may be, its generation, its snapshot, its records, how many segments, how long the last one is. -/
structure LG where
  most : Int
  g : Nat
  snap : B
  recs : List B
  segs : Nat
  last : Nat
def lC (p : Nat) (L : LG) (rv : Value) : Array Value := #[.pointer (some ⟨p, 0, none⟩), .int .i64 L.most, .int .i64 (L.g : Nat), .string ⟨L.snap.toArray⟩, rv, .int .i64 (L.segs : Nat), .int .i64 (L.last : Nat)]
theorem lC_size (p : Nat) (L : LG) (rv : Value) : (lC p L rv).size = 7 := rfl
theorem lC_g0 (p : Nat) (L : LG) (rv : Value) : (lC p L rv)[0]? = some (.pointer (some ⟨p, 0, none⟩)) := rfl
theorem lC_g1 (p : Nat) (L : LG) (rv : Value) : (lC p L rv)[1]? = some (.int .i64 L.most) := rfl
theorem lC_g2 (p : Nat) (L : LG) (rv : Value) : (lC p L rv)[2]? = some (.int .i64 (L.g : Nat)) := rfl
theorem lC_g3 (p : Nat) (L : LG) (rv : Value) : (lC p L rv)[3]? = some (.string ⟨L.snap.toArray⟩) := rfl
theorem lC_g4 (p : Nat) (L : LG) (rv : Value) : (lC p L rv)[4]? = some rv := rfl
theorem lC_g5 (p : Nat) (L : LG) (rv : Value) : (lC p L rv)[5]? = some (.int .i64 (L.segs : Nat)) := rfl
theorem lC_g6 (p : Nat) (L : LG) (rv : Value) : (lC p L rv)[6]? = some (.int .i64 (L.last : Nat)) := rfl
theorem lC_s2 (p : Nat) (L : LG) (rv : Value) (n : Nat) : (lC p L rv).setIfInBounds 2 (.int .i64 (n : Nat)) = lC p { L with g := n } rv := rfl
theorem lC_s3 (p : Nat) (L : LG) (rv : Value) (s : B) : (lC p L rv).setIfInBounds 3 (.string ⟨s.toArray⟩) = lC p { L with snap := s } rv := rfl
theorem lC_s4 (p : Nat) (L : LG) (rv v : Value) (l : List B) : (lC p L rv).setIfInBounds 4 v = lC p { L with recs := l } v := rfl
theorem lC_s5 (p : Nat) (L : LG) (rv : Value) (n : Nat) : (lC p L rv).setIfInBounds 5 (.int .i64 (n : Nat)) = lC p { L with segs := n } rv := rfl
theorem lC_s6 (p : Nat) (L : LG) (rv : Value) (n : Nat) : (lC p L rv).setIfInBounds 6 (.int .i64 (n : Nat)) = lC p { L with last := n } rv := rfl
theorem mkA2 (x y : List UInt8) : (ByteArray.mk x.toArray ++ ByteArray.mk y.toArray) = ByteArray.mk (x ++ y).toArray := ByteArray.mk_append_mk x y
section
attribute [local go_sem] mkA2
set_option maxRecDepth 100000 in
theorem baseName_any (g : Nat) (hg : g < 100) (w : World) : Calls Tryz.prog 36 #[.int .i64 (g : Nat)] w fun e w' => e = .returned (.string ⟨(baseN g).toArray⟩) ∧ w' = w := by
  have HI := strconv_Itoa_small g hg w
  rw [dec_dg g hg] at HI
  have hl := dg_len hg
  have e1 : Hid (baseN g = preB ++ dg g) := rfl
  rw [e1.out]
  have hlen : ¬ 9223372036854775807 < preB.length + (dg g).length := by unfold preB; simp; omega
  unfold preB at *
  generalize dg g = d at *
  go_enter Tryz.func36, Tryz.ntmps36
  go_wp2_with (go_at_call 68; refine HI.mono ?_; rintro e w' ⟨rfl, hw'⟩; have hw2 := hw'.symm; subst hw2; clear hw')
  go_ret
  exact ⟨rfl, rfl⟩
set_option maxRecDepth 100000 in
theorem segPre_any (q p : Nat) (L : LG) (rv : Value) (hg : L.g < 100) (w : World) (hL : Blk w q (lC p L rv) 64) : Calls Tryz.prog 83 #[.pointer (some ⟨q, 0, none⟩)] w fun e w' => e = .returned (.string ⟨(segP L.g).toArray⟩) ∧ w' = w := by
  have HI := strconv_Itoa_small L.g hg w
  rw [dec_dg L.g hg] at HI
  have hl := dg_len hg
  have c2 : w.cell? ⟨q, 2, none⟩ = some (.int .i64 (L.g : Nat)) := (hL.cell 2).trans (lC_g2 _ _ _)
  have e1 : Hid (segP L.g = preS ++ dg L.g ++ [45]) := rfl
  rw [e1.out]
  unfold preS at *
  generalize dg L.g = d at *
  go_enter Tryz.func83, Tryz.ntmps83
  go_wp2_with (go_at_call 68; refine HI.mono ?_; rintro e w' ⟨rfl, hw'⟩; have hw2 := hw'.symm; subst hw2; clear hw')
  go_ret
  exact ⟨by simp, rfl⟩
set_option maxRecDepth 100000 in
theorem segName_any (q p : Nat) (L : LG) (rv : Value) (n : Nat) (hg : L.g < 100) (hn : n < 100) (w : World) (hL : Blk w q (lC p L rv) 64) : Calls Tryz.prog 48 #[.pointer (some ⟨q, 0, none⟩), .int .i64 (n : Nat)] w fun e w' => e = .returned (.string ⟨(segN L.g n).toArray⟩) ∧ w' = w := by
  have HI := strconv_Itoa_small n hn w
  rw [dec_dg n hn] at HI
  have HS := segPre_any q p L rv hg w hL
  have hl := dg_len hn
  have hl2 : (segP L.g).length ≤ 15 := by have := (WN.seg L.g n hg hn).len; unfold segN at this; rw [List.length_append] at this; omega
  have e1 : Hid (segN L.g n = segP L.g ++ dg n) := rfl
  rw [e1.out]
  generalize dg n = d at *
  generalize segP L.g = s at *
  go_enter Tryz.func48, Tryz.ntmps48
  go_wp2_with (first
    | (go_at_call 68; refine HI.mono ?_; rintro e w' ⟨rfl, hw'⟩; have hw2 := hw'.symm; subst hw2; clear hw')
    | (go_at_call 83; refine HS.mono ?_; rintro e w' ⟨rfl, hw'⟩; have hw2 := hw'.symm; subst hw2; clear hw'))
  go_ret
  exact ⟨rfl, rfl⟩
end
set_option maxRecDepth 100000 in
theorem isOther_any (q p : Nat) (L : LG) (rv : Value) (x : B) (hg : L.g < 100) (w : World) (hL : Blk w q (lC p L rv) 64) : Calls Tryz.prog 76 #[.pointer (some ⟨q, 0, none⟩), .string ⟨x.toArray⟩] w fun e w' => e = .returned (.bool (othK L.g x)) ∧ w' = w := by
  have HB : Calls Tryz.prog 104 #[.string ⟨x.toArray⟩, .string ⟨#[98, 97, 115, 101, 45]⟩] w fun e w' => e = .returned (.bool (Lib.hasPrefix x preB)) ∧ w' = w := strings_HasPrefix _ _ w
  have HS : Calls Tryz.prog 104 #[.string ⟨x.toArray⟩, .string ⟨#[115, 101, 103, 45]⟩] w fun e w' => e = .returned (.bool (Lib.hasPrefix x preS)) ∧ w' = w := strings_HasPrefix _ _ w
  have HP : Calls Tryz.prog 104 #[.string ⟨x.toArray⟩, .string ⟨(segP L.g).toArray⟩] w fun e w' => e = .returned (.bool (Lib.hasPrefix x (segP L.g))) ∧ w' = w := strings_HasPrefix _ _ w
  have HN := baseName_any L.g hg w
  have HG := segPre_any q p L rv hg w hL
  have c2 : w.cell? ⟨q, 2, none⟩ = some (.int .i64 (L.g : Nat)) := (hL.cell 2).trans (lC_g2 _ _ _)
  have e0 : othK L.g x = (if Lib.hasPrefix x preB = true then !decide (x = baseN L.g) else Lib.hasPrefix x preS && !Lib.hasPrefix x (segP L.g)) := rfl
  rw [e0]
  clear e0 hL
  generalize baseN L.g = bn at *
  generalize Lib.hasPrefix x preB = b1 at *
  generalize Lib.hasPrefix x preS = b2 at *
  generalize Lib.hasPrefix x (segP L.g) = b3 at *
  generalize segP L.g = sp at *
  cases b1 with
  | true =>
    clear HS HP HG
    rw [if_pos rfl]
    go_enter Tryz.func76, Tryz.ntmps76
    go_wp2_with (first
      | (go_at_call 104; refine HB.mono ?_; rintro e w' ⟨rfl, hw'⟩; have hw2 := hw'.symm; subst hw2; clear hw')
      | (go_at_call 36; refine HN.mono ?_; rintro e w' ⟨rfl, hw'⟩; have hw2 := hw'.symm; subst hw2; clear hw'))
    go_ret
    refine ⟨?_, rfl⟩
    rw [show decide (x = bn) = (x == bn) from by by_cases h : x = bn <;> simp [h]]
    rfl
  | false =>
    clear HN c2
    rw [if_neg (by simp)]
    have f0 : Hid (1 = 1) := rfl
    cases b2 with
    | false =>
      clear HP HG
      go_enter Tryz.func76, Tryz.ntmps76
      go_wp2_with (first
        | (go_at_call 104; clear f0; refine HB.mono ?_; rintro e w' ⟨rfl, hw'⟩; have hw2 := hw'.symm; subst hw2; clear hw')
        | (go_at_call 104; refine HS.mono ?_; rintro e w' ⟨rfl, hw'⟩; have hw2 := hw'.symm; subst hw2; clear hw'))
      go_ret
      exact ⟨rfl, rfl⟩
    | true =>
      have f1 : Hid (1 = 1) := rfl
      go_enter Tryz.func76, Tryz.ntmps76
      go_wp2_with (first
        | (go_at_call 104; clear f0; refine HB.mono ?_; rintro e w' ⟨rfl, hw'⟩; have hw2 := hw'.symm; subst hw2; clear hw')
        | (go_at_call 104; clear f1; refine HS.mono ?_; rintro e w' ⟨rfl, hw'⟩; have hw2 := hw'.symm; subst hw2; clear hw')
        | (go_at_call 104; refine HP.mono ?_; rintro e w' ⟨rfl, hw'⟩; have hw2 := hw'.symm; subst hw2; clear hw')
        | (go_at_call 83; refine HG.mono ?_; rintro e w' ⟨rfl, hw'⟩; have hw2 := hw'.symm; subst hw2; clear hw'))
      go_ret
      exact ⟨rfl, rfl⟩
end Go.Proofs.YtaiiojbakmminaaGreatDoor
namespace Go.Proofs.YtaiiojbakmminaaGreatDoor
open Go Go.RowKit Go.Shelf
/-- The frames of texts, one behind the other. -/
def frs (l : List B) : B := (l.map frame).flatten
theorem frs_app (l m : List B) : frs (l ++ m) = frs l ++ frs m := by unfold frs; simp
theorem frs_one (x : B) : frs [x] = frame x := by unfold frs; simp
theorem frs_take {l : List B} {i : Nat} {x : B} (h : l[i]? = some x) : frs (l.take (i + 1)) = frs (l.take i) ++ frame x := by
  obtain ⟨hi, rfl⟩ := List.getElem?_eq_some_iff.1 h
  rw [List.take_succ_eq_append_getElem hi, frs_app, frs_one]
theorem frs_take_len (l : List B) (i : Nat) : (frs (l.take i)).length ≤ (frs l).length := by
  conv => rhs; rw [← List.take_append_drop i l, frs_app]
  simp
theorem frame_len (x : B) : (frame x).length = x.length + 8 := by
  unfold frame
  rw [List.length_append, List.length_append, num_length, num_length]
  omega
theorem frs_mem {l : List B} {x : B} (h : x ∈ l) : x.length ≤ (frs l).length := by
  obtain ⟨A, R, rfl⟩ := List.append_of_mem h
  rw [show A ++ x :: R = A ++ ([x] ++ R) by simp, frs_app, frs_app, frs_one]
  have := frame_len x
  simp
  omega
theorem zBld : (∀ w, (zeroValue 100).run Tryz.prog w = .ok (.agg #[.pointer none, .slice none 0 0]) w) ∧ (Tryz.prog.info? 100).map (·.size) = some 2 := zero_of_info (by kernel_rfl)
theorem byteCells_app (a b : B) : Lib.byteCells (a ++ b) = Lib.byteCells a ++ Lib.byteCells b := by unfold Lib.byteCells; simp
theorem bAt_below {T e : TypeId} {B b : Nat} {p : Value} {bs : List Value} {w w' : World} (h : Lib.BuilderAt T e B b p bs w) (hb : Below w.heap.size w w') : Lib.BuilderAt T e B b p bs w' := by
  have hlt := h.lt
  obtain ⟨hB, v, h1, ⟨h2, h3⟩, h4⟩ := h
  refine ⟨hB, v, (hb.block b hlt).trans h1, ⟨h2, ?_⟩, h4⟩
  rcases h3 with h3 | ⟨g, cap, cur, k1, k2, k3, k4⟩
  · exact .inl h3
  · exact .inr ⟨g, cap, cur, k1, k2, (hb.block g (Array.getElem?_eq_some_iff.1 k3).1).trans k3, k4⟩
theorem isB_below {T e : TypeId} {B b : Nat} {bs : List Value} {w w' : World} (h : Lib.IsBuilder T e B b bs w) (hb : Below w.heap.size w w') : Lib.IsBuilder T e B b bs w' := by
  rcases h with h | h
  · exact .inl (bAt_below h hb)
  · exact .inr (bAt_below h hb)
theorem mk_len2 (x : B) : (ByteArray.mk x.toArray).size = x.length := by simp [ByteArray.size]
set_option maxRecDepth 100000 in
set_option maxHeartbeats 1000000 in
theorem frames_any (l : List B) (ad : Option Addr) (cap : Nat) (w : World) (hT : TA w ad l) (hG : Glob w) (hl : l.length ≤ 1000000) (hf : (frs l).length ≤ 100000000000) :
    Calls Tryz.prog 39 #[.slice ad l.length cap] w fun e w' => e = .returned (.string ⟨(frs l).toArray⟩) ∧ Below w.heap.size w w' := by
  have HS := fun w1 (h : Lib.IsBuilder 100 5 w.heap.size w.heap.size (Lib.byteCells (frs l)) w1) (hw : w.heap.size ≤ w1.heap.size) => Builder_String_any w.heap.size w.heap.size (frs l) w1 h hw
  go_enter Tryz.func39, Tryz.ntmps39
  go_wp2_with (with_reducible refine at_list ?_; refine wpList_allocRow (op := ⟨some 3, _, _, _, _, _⟩) rfl _ rfl _ zBld.1 ?_; intro w1 hw1 hs1 hQ1; clear hs1)
  have hI1 : Lib.IsBuilder 100 5 w.heap.size w.heap.size (Lib.byteCells (frs (l.take 0))) w1 := .inl ⟨Nat.le_refl _, .slice none 0 0, hQ1.out, ⟨rfl, .inl ⟨rfl, rfl⟩⟩, by simp [Value.ownBlock]⟩
  go_loopw [5, 8] (fun _ v8 wl => ∃ i : Nat, i ≤ l.length ∧ v8 = .int .i64 i ∧ Below w.heap.size w wl ∧ Lib.IsBuilder 100 5 w.heap.size w.heap.size (Lib.byteCells (frs (l.take i))) wl) (fun _ v8 _ => l.length - (intOf v8).toNat)
  case atStart => exact ⟨0, by omega, rfl, hw1, hI1⟩
  case round =>
    obtain ⟨i, hil, rfl, hB, hI⟩ := hrel
    have hsz := hB.size
    by_cases hlt : i < l.length
    · have hz2 : (i : Int) < (l.length : Int) := by omega
      obtain ⟨x, hx⟩ : ∃ x, l[i]? = some x := ⟨_, List.getElem?_eq_getElem hlt⟩
      obtain ⟨g, o, rfl, hgl, hc⟩ := hT.at i x hx
      have hc2 : wr.cell? ⟨g, o + i, none⟩ = some (.string ⟨x.toArray⟩) := (hB.cell (p := ⟨g, o + i, none⟩) hgl).trans hc
      have hxl : x.length ≤ (frs l).length := frs_mem (List.mem_of_getElem? hx)
      have hfl := frame_len x
      have htl := frs_take_len l i
      have e3 : Hid (frs (l.take (i + 1)) = frs (l.take i) ++ frame x) := frs_take hx
      have HF := frame_any x wr (hG.belowSize hB) (by omega)
      have HW := fun w2 (h : Lib.IsBuilder 100 5 w.heap.size w.heap.size (Lib.byteCells (frs (l.take i))) w2) (hw : w.heap.size ≤ w2.heap.size) => bWrite w.heap.size w.heap.size (Lib.byteCells (frs (l.take i))) ⟨(frame x).toArray⟩ w2 h (by rw [mk_len2, hfl]; simp [Lib.byteCells]; omega) hw
      clear hx
      generalize hfr : frame x = fx at *
      go_wp2_with (first
        | (go_at_call 70; refine HF.mono ?_; rintro e w2 ⟨rfl, hw2⟩; have hI2 : Lib.IsBuilder 100 5 w.heap.size w.heap.size (Lib.byteCells (frs (l.take i))) w2 := isB_below hI hw2)
        | (go_at_call 69; refine (HW _ hI2 (Nat.le_trans hsz hw2.size)).mono ?_; rintro e w3 ⟨rfl, hA3, hw3⟩))
      go_roundw
      case rel => exact ⟨i + 1, by omega, by go_num, (hB.trans (hw2.mono hsz)).trans hw3, .inr (by rw [e3.out, byteCells_app]; exact hA3)⟩
      case measure => simp [intOf]; omega
    · have hin2 : l.take i = l := List.take_of_length_le (by omega)
      rw [hin2] at hI
      have HS2 := HS wr hI hsz
      clear HS
      go_wp2_with (go_at_call 71; refine HS2.mono ?_; rintro e w3 ⟨rfl, hw3⟩)
      go_ret
      exact ⟨rfl, hB.trans hw3⟩
end Go.Proofs.YtaiiojbakmminaaGreatDoor
