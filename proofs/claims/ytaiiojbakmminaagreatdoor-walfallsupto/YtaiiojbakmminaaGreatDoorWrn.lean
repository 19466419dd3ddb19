/- Laying a generation, plainly. -/
import Derived.Test.YtaiiojbakmminaaGreatDoorWsw
namespace Go.Proofs.YtaiiojbakmminaaGreatDoor
open Go Go.RowKit
def resetN (L : LG) (m : DN) (s : B) (l : List B) : LG × (DN × Nat) :=
  if (wriN m (newN (L.g + 1)) (frs [s] ++ frs l)).2 ≠ 0 then (L, wriN m (newN (L.g + 1)) (frs [s] ++ frs l)) else
  if (synN (wriN m (newN (L.g + 1)) (frs [s] ++ frs l)).1).2 ≠ 0 then (L, synN (wriN m (newN (L.g + 1)) (frs [s] ++ frs l)).1) else
  if (movN (synN (wriN m (newN (L.g + 1)) (frs [s] ++ frs l)).1).1 (newN (L.g + 1)) (baseN (L.g + 1))).2 ≠ 0 then (L, movN (synN (wriN m (newN (L.g + 1)) (frs [s] ++ frs l)).1).1 (newN (L.g + 1)) (baseN (L.g + 1))) else
  if (synN (movN (synN (wriN m (newN (L.g + 1)) (frs [s] ++ frs l)).1).1 (newN (L.g + 1)) (baseN (L.g + 1))).1).2 ≠ 0 then (L, synN (movN (synN (wriN m (newN (L.g + 1)) (frs [s] ++ frs l)).1).1 (newN (L.g + 1)) (baseN (L.g + 1))).1) else
  (becL L (L.g + 1) s l, sweepN (L.g + 1) (synN (movN (synN (wriN m (newN (L.g + 1)) (frs [s] ++ frs l)).1).1 (newN (L.g + 1)) (baseN (L.g + 1))).1).1)
theorem wri_ok {m : DN} {n s : B} (h : (wriN m n s).2 = 0) : m.dead = false ∧ hitN m = none ∧ wriN m n s = ({ m with ch := m.ch + 1, l := lay n (some s) 2 m.l }, 0) := by
  unfold wriN at *
  by_cases hd : m.dead = true
  · rw [if_pos hd] at h; cases h
  · rw [if_neg hd] at h ⊢
    by_cases hf : fullN m ((s.length : Int) - ((kbyt (atL n m.l)).length : Int)) = true
    · rw [if_pos hf] at h; cases h
    · rw [if_neg hf] at h ⊢
      exact ⟨by simpa using hd, chg_ok h⟩
theorem app_ok {m : DN} {n s : B} (h : (appN m n s).2 = 0) : m.dead = false ∧ hitN m = none ∧ appN m n s = ({ m with ch := m.ch + 1, l := lay n (some (kbyt (atL n m.l) ++ s)) 1 m.l }, 0) := by
  unfold appN at *
  by_cases hd : m.dead = true
  · rw [if_pos hd] at h; cases h
  · rw [if_neg hd] at h ⊢
    by_cases hf : fullN m (s.length : Int) = true
    · rw [if_pos hf] at h; cases h
    · rw [if_neg hf] at h ⊢
      exact ⟨by simpa using hd, chg_ok h⟩
theorem mov_ok {m : DN} {n t : B} (h : (movN m n t).2 = 0) : m.dead = false ∧ hitN m = none ∧ movN m n t = ({ m with ch := m.ch + 1, l := lay t (atL n m.l) 3 (lay n none 3 m.l) }, 0) := by
  unfold movN at *
  by_cases hd : m.dead = true
  · rw [if_pos hd] at h; cases h
  · rw [if_neg hd] at h ⊢
    exact ⟨by simpa using hd, chg_ok h⟩
theorem syn_ok {m : DN} (h : (synN m).2 = 0) : m.dead = false ∧ synN m = ({ m with l := settleL m.l }, 0) := by
  unfold synN at *
  by_cases hd : m.dead = true
  · rw [if_pos hd] at h; cases h
  · rw [if_neg hd]
    exact ⟨by simpa using hd, rfl⟩
theorem okn_mov {m : DN} {n t : B} (hm : Okn m) (hh : hitN m = none) (hn : okN n = true) (ht : okN t = true) (hlen : m.l.length + 2 ≤ 999000) (hch : m.ch + 1 ≤ 999000) (hu : 2 * usedL m.l ≤ 100000000000) : Okn { m with ch := m.ch + 1, l := lay t (atL n m.l) 3 (lay n none 3 m.l) } := by
  have h1 := lay_used n none 3 m.l hm.l.ris
  have h2 := lay_len n none 3 m.l hm.l.ris
  have hl2 : Okl okN (lay n none 3 m.l) := lay_ok hm.l hn
  have h3 := lay_used t (atL n m.l) 3 _ hl2.ris
  have h4 := lay_len t (atL n m.l) 3 _ hl2.ris
  have h5 : (kbyt (atL n m.l)).length ≤ usedL m.l := by rw [at_now n m.l hm.l.ris, used_now]; exact used_get
  have h6 : (kbyt (none : Option B)).length = 0 := rfl
  refine ⟨lay_ok hl2 ht, ?_, ?_, hch, hm.room, fun f hf => ?_, fun f hf => ?_⟩
  · show (lay t (atL n m.l) 3 (lay n none 3 m.l)).length ≤ _
    omega
  · show usedL (lay t (atL n m.l) 3 (lay n none 3 m.l)) ≤ _
    omega
  · have hb1 : ∀ f ∈ lay n none 3 m.l, (kbyt f.is).length ≤ 1000000000000 ∧ (kbyt f.sure).length ≤ 1000000000000 := fun f hf => by
      rcases lay_mem hm.l.ris hf with h7 | ⟨h7, _, h8⟩
      · exact hm.by_ f h7
      · refine ⟨by rw [h7]; omega, ?_⟩
        rcases h8 with h8 | ⟨f0, h9, h10⟩
        · rw [h8]; omega
        · rw [h10]; exact (hm.by_ f0 h9).2
    rcases lay_mem hl2.ris hf with h7 | ⟨h7, _, h8⟩
    · exact hb1 f h7
    · refine ⟨by rw [h7]; omega, ?_⟩
      rcases h8 with h8 | ⟨f0, h9, h10⟩
      · rw [h8]; omega
      · rw [h10]; exact (hb1 f0 h9).2
  · have h7 := hm.pl f hf
    refine ⟨?_, h7.2⟩
    have h8 := h7.1
    unfold hitN at hh
    rw [show m.pl = some f from hf] at hh
    dsimp only at hh
    split at hh
    · cases hh
    · show ((m.ch + 1 : Nat) : Int) ≤ _
      omega
/-- What is asked of a log that is laid anew. -/
structure Okr (L : LG) (m : DN) (k : Nat) : Prop where
  g : L.g < 99
  n : m.l.length ≤ 500
  c : m.ch ≤ 800000
  u : usedL m.l + k ≤ 10000000000
  m : Okn m
theorem at_settle {l : List F} {x : B} {ok : B → Bool} (h : Okl ok l) : atL x (settleL l) = atL x l := by
  rw [at_now x _ (settle_ok h).ris, settle_now, at_now x l h.ris]
/-- What stands behind each step of laying a generation. -/
theorem reset_steps {L : LG} {m : DN} {s : B} {l : List B} (h : Okr L m ((frs [s]).length + (frs l).length)) :
    ((wriN m (newN (L.g + 1)) (frs [s] ++ frs l)).2 = 0 → Okn (wriN m (newN (L.g + 1)) (frs [s] ++ frs l)).1 ∧
      ((synN (wriN m (newN (L.g + 1)) (frs [s] ++ frs l)).1).2 = 0 → Okn (synN (wriN m (newN (L.g + 1)) (frs [s] ++ frs l)).1).1 ∧ (atL (newN (L.g + 1)) (synN (wriN m (newN (L.g + 1)) (frs [s] ++ frs l)).1).1.l).isSome = true ∧
        ((movN (synN (wriN m (newN (L.g + 1)) (frs [s] ++ frs l)).1).1 (newN (L.g + 1)) (baseN (L.g + 1))).2 = 0 → Okn (movN (synN (wriN m (newN (L.g + 1)) (frs [s] ++ frs l)).1).1 (newN (L.g + 1)) (baseN (L.g + 1))).1 ∧
          ∀ L' : LG, L'.g = L.g + 1 → (synN (movN (synN (wriN m (newN (L.g + 1)) (frs [s] ++ frs l)).1).1 (newN (L.g + 1)) (baseN (L.g + 1))).1).2 = 0 → Okw L' (synN (movN (synN (wriN m (newN (L.g + 1)) (frs [s] ++ frs l)).1).1 (newN (L.g + 1)) (baseN (L.g + 1))).1).1))) := by
  have hg := h.g
  have hn := h.n
  have hc := h.c
  have hu := h.u
  have hN := (WN.new (L.g + 1) (by omega)).ok
  have hBs := (WN.base (L.g + 1) (by omega)).ok
  have hll : (frs [s] ++ frs l).length = (frs [s]).length + (frs l).length := List.length_append
  intro h1
  obtain ⟨d1, d2, d3⟩ := wri_ok h1
  have hm := h.m
  generalize newN (L.g + 1) = nn at *
  generalize baseN (L.g + 1) = bb at *
  generalize frs [s] ++ frs l = tx at *
  have k1 : Okn { m with ch := m.ch + 1, l := lay nn (some tx) 2 m.l } := okn_chg hm d2 hN (by omega) (by omega) (by show usedL m.l + tx.length ≤ _; omega)
  have k2 := lay_len nn (some tx) 2 m.l hm.l.ris
  have k3 := lay_used nn (some tx) 2 m.l hm.l.ris
  have k4 : (kbyt (some tx)).length = tx.length := rfl
  have k5 : atL nn (lay nn (some tx) 2 m.l) = some tx := by rw [at_lay hm.l hN, if_pos rfl]
  rw [d3]
  dsimp only
  refine ⟨k1, fun h2 => ?_⟩
  obtain ⟨e1, e2⟩ := syn_ok h2
  have s1 := okn_syn k1
  rw [e2] at s1 ⊢
  dsimp only at s1 ⊢
  have s2 := settle_len (lay nn (some tx) 2 m.l)
  have s3 : usedL (settleL (lay nn (some tx) 2 m.l)) = usedL (lay nn (some tx) 2 m.l) := by rw [settle_mk, used_mk, ← used_now]
  refine ⟨s1, by rw [at_settle k1.l]; exact (congrArg Option.isSome k5), fun h3 => ?_⟩
  obtain ⟨f1, f2, f3⟩ := mov_ok h3
  have t1 := okn_mov s1 f2 hN hBs (by show (settleL (lay nn (some tx) 2 m.l)).length + 2 ≤ _; omega) (by show m.ch + 1 + 1 ≤ _; omega) (by show 2 * usedL (settleL (lay nn (some tx) 2 m.l)) ≤ _; omega)
  rw [f3]
  refine ⟨t1, fun L' hL' h4 => ?_⟩
  obtain ⟨g1, g2⟩ := syn_ok h4
  have u1 := okn_syn t1
  rw [g2] at u1 ⊢
  refine ⟨by rw [hL']; omega, ?_, ?_, u1⟩
  · have w1 : (settleL (lay bb (atL nn (settleL (lay nn (some tx) 2 m.l))) 3 (lay nn none 3 (settleL (lay nn (some tx) 2 m.l))))).length ≤ (lay bb (atL nn (settleL (lay nn (some tx) 2 m.l))) 3 (lay nn none 3 (settleL (lay nn (some tx) 2 m.l)))).length := settle_len _
    have w2 : (lay bb (atL nn (settleL (lay nn (some tx) 2 m.l))) 3 (lay nn none 3 (settleL (lay nn (some tx) 2 m.l)))).length ≤ (lay nn none 3 (settleL (lay nn (some tx) 2 m.l))).length + 1 := lay_len bb _ 3 _ (lay_ok (c := none) (h := 3) s1.l hN).ris
    have w3 : (lay nn none 3 (settleL (lay nn (some tx) 2 m.l))).length ≤ (settleL (lay nn (some tx) 2 m.l)).length + 1 := lay_len nn none 3 _ s1.l.ris
    show (settleL (lay bb (atL nn (settleL (lay nn (some tx) 2 m.l))) 3 (lay nn none 3 (settleL (lay nn (some tx) 2 m.l))))).length ≤ 1000
    omega
  · show m.ch + 1 + 1 ≤ 900000
    omega
end Go.Proofs.YtaiiojbakmminaaGreatDoor
