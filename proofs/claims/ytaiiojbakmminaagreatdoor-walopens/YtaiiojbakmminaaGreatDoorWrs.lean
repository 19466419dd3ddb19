/- Laying a generation, plainly. What Reset of a log does. -/
import Derived.Test.YtaiiojbakmminaaGreatDoorWsw
namespace Go.Proofs.YtaiiojbakmminaaGreatDoor
open Go Go.RowKit
def resetN (L : LG) (m : DN) (s : B) (l : List B) : LG × (DN × Nat) :=
  if (wriN m (newN (L.g + 1)) (frs [s] ++ frs l)).2 ≠ 0 then (L, wriN m (newN (L.g + 1)) (frs [s] ++ frs l)) else
  if (synN (wriN m (newN (L.g + 1)) (frs [s] ++ frs l)).1).2 ≠ 0 then (L, synN (wriN m (newN (L.g + 1)) (frs [s] ++ frs l)).1) else
  if (movN (synN (wriN m (newN (L.g + 1)) (frs [s] ++ frs l)).1).1 (newN (L.g + 1)) (baseN (L.g + 1))).2 ≠ 0 then (L, movN (synN (wriN m (newN (L.g + 1)) (frs [s] ++ frs l)).1).1 (newN (L.g + 1)) (baseN (L.g + 1))) else
  if (synN (movN (synN (wriN m (newN (L.g + 1)) (frs [s] ++ frs l)).1).1 (newN (L.g + 1)) (baseN (L.g + 1))).1).2 ≠ 0 then (L, synN (movN (synN (wriN m (newN (L.g + 1)) (frs [s] ++ frs l)).1).1 (newN (L.g + 1)) (baseN (L.g + 1))).1) else
  (becL L (L.g + 1) s l, sweepN (L.g + 1) (synN (movN (synN (wriN m (newN (L.g + 1)) (frs [s] ++ frs l)).1).1 (newN (L.g + 1)) (baseN (L.g + 1))).1).1)
theorem wri_ok {m : DN} {n s : B} (h : (wriN m n s).2 = 0) : m.dead = false ∧ hitN m = none ∧ wriN m n s = ({ m with ch := m.ch + 1, l := lay n (some s) 2 m.l }, 0) := by
  unfold wriN at *
  by_cases hd : m.dead = true
  · rw [if_pos hd] at h; cases h
  · rw [if_neg hd] at h ⊢
    by_cases hf : fullN m ((s.length : Int) - ((kbyt (atL n m.l)).length : Int)) = true
    · rw [if_pos hf] at h; cases h
    · rw [if_neg hf] at h ⊢
      exact ⟨by simpa using hd, chg_ok h⟩
theorem app_ok {m : DN} {n s : B} (h : (appN m n s).2 = 0) : m.dead = false ∧ hitN m = none ∧ appN m n s = ({ m with ch := m.ch + 1, l := lay n (some (kbyt (atL n m.l) ++ s)) 1 m.l }, 0) := by
  unfold appN at *
  by_cases hd : m.dead = true
  · rw [if_pos hd] at h; cases h
  · rw [if_neg hd] at h ⊢
    by_cases hf : fullN m (s.length : Int) = true
    · rw [if_pos hf] at h; cases h
    · rw [if_neg hf] at h ⊢
      exact ⟨by simpa using hd, chg_ok h⟩
theorem mov_ok {m : DN} {n t : B} (h : (movN m n t).2 = 0) : m.dead = false ∧ hitN m = none ∧ movN m n t = ({ m with ch := m.ch + 1, l := lay t (atL n m.l) 3 (lay n none 3 m.l) }, 0) := by
  unfold movN at *
  by_cases hd : m.dead = true
  · rw [if_pos hd] at h; cases h
  · rw [if_neg hd] at h ⊢
    exact ⟨by simpa using hd, chg_ok h⟩
theorem syn_ok {m : DN} (h : (synN m).2 = 0) : m.dead = false ∧ synN m = ({ m with l := settleL m.l }, 0) := by
  unfold synN at *
  by_cases hd : m.dead = true
  · rw [if_pos hd] at h; cases h
  · rw [if_neg hd]
    exact ⟨by simpa using hd, rfl⟩
theorem okn_mov {m : DN} {n t : B} (hm : Okn m) (hh : hitN m = none) (hn : okN n = true) (ht : okN t = true) (hlen : m.l.length + 2 ≤ 999000) (hch : m.ch + 1 ≤ 999000) (hu : 2 * usedL m.l ≤ 100000000000) : Okn { m with ch := m.ch + 1, l := lay t (atL n m.l) 3 (lay n none 3 m.l) } := by
  have h1 := lay_used n none 3 m.l hm.l.ris
  have h2 := lay_len n none 3 m.l hm.l.ris
  have hl2 : Okl okN (lay n none 3 m.l) := lay_ok hm.l hn
  have h3 := lay_used t (atL n m.l) 3 _ hl2.ris
  have h4 := lay_len t (atL n m.l) 3 _ hl2.ris
  have h5 : (kbyt (atL n m.l)).length ≤ usedL m.l := by rw [at_now n m.l hm.l.ris, used_now]; exact used_get
  have h6 : (kbyt (none : Option B)).length = 0 := rfl
  refine ⟨lay_ok hl2 ht, ?_, ?_, hch, hm.room, fun f hf => ?_, fun f hf => ?_⟩
  · show (lay t (atL n m.l) 3 (lay n none 3 m.l)).length ≤ _
    omega
  · show usedL (lay t (atL n m.l) 3 (lay n none 3 m.l)) ≤ _
    omega
  · have hb1 : ∀ f ∈ lay n none 3 m.l, (kbyt f.is).length ≤ 1000000000000 ∧ (kbyt f.sure).length ≤ 1000000000000 := fun f hf => by
      rcases lay_mem hm.l.ris hf with h7 | ⟨h7, _, h8⟩
      · exact hm.by_ f h7
      · refine ⟨by rw [h7]; omega, ?_⟩
        rcases h8 with h8 | ⟨f0, h9, h10⟩
        · rw [h8]; omega
        · rw [h10]; exact (hm.by_ f0 h9).2
    rcases lay_mem hl2.ris hf with h7 | ⟨h7, _, h8⟩
    · exact hb1 f h7
    · refine ⟨by rw [h7]; omega, ?_⟩
      rcases h8 with h8 | ⟨f0, h9, h10⟩
      · rw [h8]; omega
      · rw [h10]; exact (hb1 f0 h9).2
  · have h7 := hm.pl f hf
    refine ⟨?_, h7.2⟩
    have h8 := h7.1
    unfold hitN at hh
    rw [show m.pl = some f from hf] at hh
    dsimp only at hh
    split at hh
    · cases hh
    · show ((m.ch + 1 : Nat) : Int) ≤ _
      omega
/-- What is asked of a log that is laid anew. -/
structure Okr (L : LG) (m : DN) (k : Nat) : Prop where
  g : L.g < 99
  n : m.l.length ≤ 500
  c : m.ch ≤ 800000
  u : usedL m.l + k ≤ 10000000000
  m : Okn m
theorem at_settle {l : List F} {x : B} {ok : B → Bool} (h : Okl ok l) : atL x (settleL l) = atL x l := by
  rw [at_now x _ (settle_ok h).ris, settle_now, at_now x l h.ris]
/-- What stands behind each step of laying a generation. -/
theorem reset_steps {L : LG} {m : DN} {s : B} {l : List B} (h : Okr L m ((frs [s]).length + (frs l).length)) :
    ((wriN m (newN (L.g + 1)) (frs [s] ++ frs l)).2 = 0 → Okn (wriN m (newN (L.g + 1)) (frs [s] ++ frs l)).1 ∧
      ((synN (wriN m (newN (L.g + 1)) (frs [s] ++ frs l)).1).2 = 0 → Okn (synN (wriN m (newN (L.g + 1)) (frs [s] ++ frs l)).1).1 ∧ (atL (newN (L.g + 1)) (synN (wriN m (newN (L.g + 1)) (frs [s] ++ frs l)).1).1.l).isSome = true ∧
        ((movN (synN (wriN m (newN (L.g + 1)) (frs [s] ++ frs l)).1).1 (newN (L.g + 1)) (baseN (L.g + 1))).2 = 0 → Okn (movN (synN (wriN m (newN (L.g + 1)) (frs [s] ++ frs l)).1).1 (newN (L.g + 1)) (baseN (L.g + 1))).1 ∧
          ∀ L' : LG, L'.g = L.g + 1 → (synN (movN (synN (wriN m (newN (L.g + 1)) (frs [s] ++ frs l)).1).1 (newN (L.g + 1)) (baseN (L.g + 1))).1).2 = 0 → Okw L' (synN (movN (synN (wriN m (newN (L.g + 1)) (frs [s] ++ frs l)).1).1 (newN (L.g + 1)) (baseN (L.g + 1))).1).1))) := by
  have hg := h.g
  have hn := h.n
  have hc := h.c
  have hu := h.u
  have hN := (WN.new (L.g + 1) (by omega)).ok
  have hBs := (WN.base (L.g + 1) (by omega)).ok
  have hll : (frs [s] ++ frs l).length = (frs [s]).length + (frs l).length := List.length_append
  intro h1
  obtain ⟨d1, d2, d3⟩ := wri_ok h1
  have hm := h.m
  generalize newN (L.g + 1) = nn at *
  generalize baseN (L.g + 1) = bb at *
  generalize frs [s] ++ frs l = tx at *
  have k1 : Okn { m with ch := m.ch + 1, l := lay nn (some tx) 2 m.l } := okn_chg hm d2 hN (by omega) (by omega) (by show usedL m.l + tx.length ≤ _; omega)
  have k2 := lay_len nn (some tx) 2 m.l hm.l.ris
  have k3 := lay_used nn (some tx) 2 m.l hm.l.ris
  have k4 : (kbyt (some tx)).length = tx.length := rfl
  have k5 : atL nn (lay nn (some tx) 2 m.l) = some tx := by rw [at_lay hm.l hN, if_pos rfl]
  rw [d3]
  dsimp only
  refine ⟨k1, fun h2 => ?_⟩
  obtain ⟨e1, e2⟩ := syn_ok h2
  have s1 := okn_syn k1
  rw [e2] at s1 ⊢
  dsimp only at s1 ⊢
  have s2 := settle_len (lay nn (some tx) 2 m.l)
  have s3 : usedL (settleL (lay nn (some tx) 2 m.l)) = usedL (lay nn (some tx) 2 m.l) := by rw [settle_mk, used_mk, ← used_now]
  refine ⟨s1, by rw [at_settle k1.l]; exact (congrArg Option.isSome k5), fun h3 => ?_⟩
  obtain ⟨f1, f2, f3⟩ := mov_ok h3
  have t1 := okn_mov s1 f2 hN hBs (by show (settleL (lay nn (some tx) 2 m.l)).length + 2 ≤ _; omega) (by show m.ch + 1 + 1 ≤ _; omega) (by show 2 * usedL (settleL (lay nn (some tx) 2 m.l)) ≤ _; omega)
  rw [f3]
  refine ⟨t1, fun L' hL' h4 => ?_⟩
  obtain ⟨g1, g2⟩ := syn_ok h4
  have u1 := okn_syn t1
  rw [g2] at u1 ⊢
  refine ⟨by rw [hL']; omega, ?_, ?_, u1⟩
  · have w1 : (settleL (lay bb (atL nn (settleL (lay nn (some tx) 2 m.l))) 3 (lay nn none 3 (settleL (lay nn (some tx) 2 m.l))))).length ≤ (lay bb (atL nn (settleL (lay nn (some tx) 2 m.l))) 3 (lay nn none 3 (settleL (lay nn (some tx) 2 m.l)))).length := settle_len _
    have w2 : (lay bb (atL nn (settleL (lay nn (some tx) 2 m.l))) 3 (lay nn none 3 (settleL (lay nn (some tx) 2 m.l)))).length ≤ (lay nn none 3 (settleL (lay nn (some tx) 2 m.l))).length + 1 := lay_len bb _ 3 _ (lay_ok (c := none) (h := 3) s1.l hN).ris
    have w3 : (lay nn none 3 (settleL (lay nn (some tx) 2 m.l))).length ≤ (settleL (lay nn (some tx) 2 m.l)).length + 1 := lay_len nn none 3 _ s1.l.ris
    show (settleL (lay bb (atL nn (settleL (lay nn (some tx) 2 m.l))) 3 (lay nn none 3 (settleL (lay nn (some tx) 2 m.l))))).length ≤ 1000
    omega
  · show m.ch + 1 + 1 ≤ 900000
    omega
end Go.Proofs.YtaiiojbakmminaaGreatDoor
namespace Go.Proofs.YtaiiojbakmminaaGreatDoor
open Go Go.RowKit
/-- What Reset leaves. -/
def RsP (w : World) (q p : Nat) (b rb : Option Nat) (r : LG × (DN × Nat)) (e : Ending) (w' : World) : Prop := e = .returned (.int .i64 (r.2.2 : Nat)) ∧ ∃ b' rb', Wch w w' q p b rb b' rb' ∧ WK w' q p b' rb' r.1 r.2.1
def r1F (bl bf bs br : Nat) : Value := .func (.func 38) #[] #[.pointer (some ⟨bl, 0, none⟩), .pointer (some ⟨bf, 0, none⟩), .pointer (some ⟨bs, 0, none⟩), .pointer (some ⟨br, 0, none⟩)]
def r2F (bl bf bb : Nat) : Value := .func (.func 40) #[] #[.pointer (some ⟨bl, 0, none⟩), .pointer (some ⟨bf, 0, none⟩), .pointer (some ⟨bb, 0, none⟩)]
def r3F (bl bs br : Nat) : Value := .func (.func 42) #[] #[.pointer (some ⟨bl, 0, none⟩), .pointer (some ⟨bs, 0, none⟩), .pointer (some ⟨br, 0, none⟩)]
def swq (q : Nat) : Value := .func (.func 44) #[.pointer (some ⟨q, 0, none⟩)] #[]
theorem r1_stp (bl bf bs br : Nat) : Stp Tryz.prog (r1F bl bf bs br) 38 #[.pointer (some ⟨bl, 0, none⟩), .pointer (some ⟨bf, 0, none⟩), .pointer (some ⟨bs, 0, none⟩), .pointer (some ⟨br, 0, none⟩)] := ⟨fn1_of Tryz.func38 (by kernel_rfl) (by kernel_rfl), #[], _, rfl, by simp⟩
theorem r2_stp (bl bf bb : Nat) : Stp Tryz.prog (r2F bl bf bb) 40 #[.pointer (some ⟨bl, 0, none⟩), .pointer (some ⟨bf, 0, none⟩), .pointer (some ⟨bb, 0, none⟩)] := ⟨fn1_of Tryz.func40 (by kernel_rfl) (by kernel_rfl), #[], _, rfl, by simp⟩
theorem r3_stp (bl bs br : Nat) : Stp Tryz.prog (r3F bl bs br) 42 #[.pointer (some ⟨bl, 0, none⟩), .pointer (some ⟨bs, 0, none⟩), .pointer (some ⟨br, 0, none⟩)] := ⟨fn1_of Tryz.func42 (by kernel_rfl) (by kernel_rfl), #[], _, rfl, by simp⟩
theorem swq_stp (q : Nat) : Stp Tryz.prog (swq q) 44 #[.pointer (some ⟨q, 0, none⟩)] := ⟨fn1_of Tryz.func44 (by kernel_rfl) (by kernel_rfl), _, #[], rfl, by simp⟩
/-- The log and its disk stand so behind w. -/
def St (w : World) (q p : Nat) (b rb : Option Nat) (L : LG) (m : DN) (w' : World) : Prop := ∃ b' rb', Wch w w' q p b rb b' rb' ∧ WK w' q p b' rb' L m
theorem reset_turn (q p bl bf bb bs br g : Nat) (b rb : Option Nat) (L L' : LG) (m : DN) (nn bn s : B) (l : List B) (ad : Option Addr) (cap cp : Nat) (R1 R2 R3 R4 : DN × Nat) (w : World) (hK : WK w q p b rb L m) (hG : Gw w) (hm : Okn m)
    (e1 : R1 = wriN m nn (frs [s] ++ frs l)) (e2 : R2 = synN R1.1) (e3 : R3 = movN R2.1 nn bn) (e4 : R4 = synN R3.1) (eL : L' = becL L (L.g + 1) s l) (hg : L.g < 1000)
    (o1 : R1.2 = 0 → Okn R1.1) (o2 : R1.2 = 0 → R2.2 = 0 → Okn R2.1 ∧ (atL nn R2.1.l).isSome = true) (o3 : R1.2 = 0 → R2.2 = 0 → R3.2 = 0 → Okn R3.1) (o4 : R1.2 = 0 → R2.2 = 0 → R3.2 = 0 → R4.2 = 0 → Okw L' R4.1)
    (hn1 : okN nn = true) (hn2 : okN bn = true) (hn3 : nn ≠ bn) (hn4 : nn.length ≤ 9223372036854775807) (hn5 : bn.length ≤ 9223372036854775807)
    (hT : TA w ad l) (hsep : ∀ a, ad = some a → some a.block ≠ rb) (hll : l.length ≤ 1000000) (hlen : (frs [s]).length + (frs l).length ≤ 10000000000)
    (kl : Blk w bl #[.pointer (some ⟨q, 0, none⟩)] 25) (kf : Blk w bf #[.string ⟨nn.toArray⟩] 9) (kb : Blk w bb #[.string ⟨bn.toArray⟩] 9) (ks : Blk w bs #[.string ⟨s.toArray⟩] 9) (kr : Blk w br #[.slice ad l.length cap] 30)
    (nf : some bf ≠ rb) (nb : some bb ≠ rb) (ns : some bs ≠ rb)
    (kg : Blk w g #[r1F bl bf bs br, syF p, r2F bl bf bb, syF p, r3F bl bs br, swq q] TF) :
    Calls Tryz.prog 37 #[.slice (some ⟨g, 0, none⟩) 6 cp] w (RsP w q p b rb (if R1.2 ≠ 0 then (L, R1) else if R2.2 ≠ 0 then (L, R2) else if R3.2 ≠ 0 then (L, R3) else if R4.2 ≠ 0 then (L, R4) else (L', sweepN L'.g R4.1))) := by
  have keep : ∀ {w' b' rb'}, Wch w w' q p b rb b' rb' → Gw w' ∧ TA w' ad l ∧ Blk w' bl #[.pointer (some ⟨q, 0, none⟩)] 25 ∧ Blk w' bf #[.string ⟨nn.toArray⟩] 9 ∧ Blk w' bb #[.string ⟨bn.toArray⟩] 9 ∧ Blk w' bs #[.string ⟨s.toArray⟩] 9 ∧ Blk w' br #[.slice ad l.length cap] 30 ∧ Blk w' g #[r1F bl bf bs br, syF p, r2F bl bf bb, syF p, r3F bl bs br, swq q] TF ∧ some bf ≠ rb' ∧ some bb ≠ rb' ∧ some bs ≠ rb' := fun hW =>
    ⟨hW.gw hK hG, hW.ta hK hT hsep, hW.blk hK kl (by decide) (by decide) (by decide) (.inl (by decide)), hW.blk hK kf (by decide) (by decide) (by decide) (.inr nf), hW.blk hK kb (by decide) (by decide) (by decide) (.inr nb), hW.blk hK ks (by decide) (by decide) (by decide) (.inr ns), hW.blk hK kr (by decide) (by decide) (by decide) (.inl (by decide)), hW.blk hK kg (by decide) (by decide) (by decide) (.inl (by decide)), hW.sep kf.lt nf, hW.sep kb.lt nb, hW.sep ks.lt ns⟩
  refine (inTurn_rule (some ⟨g, 0, none⟩) 6 cp (fun i => (#[r1F bl bf bs br, syF p, r2F bl bf bb, syF p, r3F bl bs br, swq q][i]?).getD .nilFunc)
    (fun i w' => (∃ b' rb', Wch w w' q p b rb b' rb') ∧ match i with
      | 0 => St w q p b rb L m w'
      | 1 => R1.2 = 0 ∧ St w q p b rb L R1.1 w'
      | 2 => R1.2 = 0 ∧ R2.2 = 0 ∧ St w q p b rb L R2.1 w'
      | 3 => R1.2 = 0 ∧ R2.2 = 0 ∧ R3.2 = 0 ∧ St w q p b rb L R3.1 w'
      | 4 => R1.2 = 0 ∧ R2.2 = 0 ∧ R3.2 = 0 ∧ R4.2 = 0 ∧ St w q p b rb L R4.1 w'
      | 5 => R1.2 = 0 ∧ R2.2 = 0 ∧ R3.2 = 0 ∧ R4.2 = 0 ∧ St w q p b rb L' R4.1 w'
      | _ => R1.2 = 0 ∧ R2.2 = 0 ∧ R3.2 = 0 ∧ R4.2 = 0 ∧ (sweepN L'.g R4.1).2 = 0 ∧ St w q p b rb L' (sweepN L'.g R4.1).1 w')
    (fun c w' => RsP w q p b rb (if R1.2 ≠ 0 then (L, R1) else if R2.2 ≠ 0 then (L, R2) else if R3.2 ≠ 0 then (L, R3) else if R4.2 ≠ 0 then (L, R4) else (L', sweepN L'.g R4.1)) (.returned (.int .i64 (c : Nat))) w') w (by omega) ?_ ?_ ?_ ?_).mono ?_
  · rintro i w' ⟨⟨b', rb', hW⟩, _⟩ hi
    have k := (keep hW).2.2.2.2.2.2.2.1
    obtain ⟨v, hv⟩ : ∃ v, #[r1F bl bf bs br, syF p, r2F bl bf bb, syF p, r3F bl bs br, swq q][i]? = some v := ⟨_, Array.getElem?_eq_getElem (by simpa using hi)⟩
    refine ⟨g, 0, rfl, ?_⟩
    rw [Nat.zero_add, hv, k.cell i, hv]
    rfl
  · intro i w' hR hi
    match i, hR, hi with
    | 0, ⟨_, b', rb', hW, hK'⟩, _ =>
      obtain ⟨G, Ta, Kl, Kf, Kb, Ks, Kr, _, Nf, Nb, Ns⟩ := keep hW
      refine ⟨_, _, r1_stp bl bf bs br, (reset1_any q p bl bf bs br b' rb' L m nn s l ad cap w' hK' G hm hn1 hn4 Ta hll hlen Kl Kf Ks Kr Nf Ns).mono ?_⟩
      rintro e w2 ⟨rfl, b2, hW2, hK2⟩
      rw [← e1] at hK2 ⊢
      refine ⟨_, rfl, fun hc => ⟨⟨_, _, hW.trans hW2⟩, hc, _, _, hW.trans hW2, hK2⟩, fun hc => ?_⟩
      rw [if_pos hc]
      exact ⟨rfl, _, _, hW.trans hW2, hK2⟩
    | 1, ⟨_, z1, b', rb', hW, hK'⟩, _ =>
      obtain ⟨G, Ta, Kl, Kf, Kb, Ks, Kr, _, Nf, Nb, Ns⟩ := keep hW
      refine ⟨_, _, sy_stp p, (syncS q p b' rb' L R1.1 w' hK' G (o1 z1)).mono ?_⟩
      rintro e w2 ⟨rfl, b2, hW2, hK2⟩
      rw [← e2] at hK2 ⊢
      refine ⟨_, rfl, fun hc => ⟨⟨_, _, hW.trans hW2⟩, z1, hc, _, _, hW.trans hW2, hK2⟩, fun hc => ?_⟩
      rw [if_neg (by simp [z1]), if_pos hc]
      exact ⟨rfl, _, _, hW.trans hW2, hK2⟩
    | 2, ⟨_, z1, z2, b', rb', hW, hK'⟩, _ =>
      obtain ⟨G, Ta, Kl, Kf, Kb, Ks, Kr, _, Nf, Nb, Ns⟩ := keep hW
      refine ⟨_, _, r2_stp bl bf bb, (reset2_any q p bl bf bb b' rb' L R2.1 nn bn w' hK' G (o2 z1 z2).1 hn1 hn2 hn3 hn4 hn5 (o2 z1 z2).2 Kl Kf Kb Nf Nb).mono ?_⟩
      rintro e w2 ⟨rfl, b2, hW2, hK2⟩
      rw [← e3] at hK2 ⊢
      refine ⟨_, rfl, fun hc => ⟨⟨_, _, hW.trans hW2⟩, z1, z2, hc, _, _, hW.trans hW2, hK2⟩, fun hc => ?_⟩
      rw [if_neg (by simp [z1]), if_neg (by simp [z2]), if_pos hc]
      exact ⟨rfl, _, _, hW.trans hW2, hK2⟩
    | 3, ⟨_, z1, z2, z3, b', rb', hW, hK'⟩, _ =>
      obtain ⟨G, Ta, Kl, Kf, Kb, Ks, Kr, _, Nf, Nb, Ns⟩ := keep hW
      refine ⟨_, _, sy_stp p, (syncS q p b' rb' L R3.1 w' hK' G (o3 z1 z2 z3)).mono ?_⟩
      rintro e w2 ⟨rfl, b2, hW2, hK2⟩
      rw [← e4] at hK2 ⊢
      refine ⟨_, rfl, fun hc => ⟨⟨_, _, hW.trans hW2⟩, z1, z2, z3, hc, _, _, hW.trans hW2, hK2⟩, fun hc => ?_⟩
      rw [if_neg (by simp [z1]), if_neg (by simp [z2]), if_neg (by simp [z3]), if_pos hc]
      exact ⟨rfl, _, _, hW.trans hW2, hK2⟩
    | 4, ⟨_, z1, z2, z3, z4, b', rb', hW, hK'⟩, _ =>
      obtain ⟨G, Ta, Kl, Kf, Kb, Ks, Kr, _, Nf, Nb, Ns⟩ := keep hW
      refine ⟨_, _, r3_stp bl bs br, (reset3_any q p bl bs br b' rb' L R4.1 s l ad cap w' hK' G hg Ta hll Kl Ks Kr Ns).mono ?_⟩
      rintro e w2 ⟨rfl, rb2, hW2, hK2⟩
      rw [← eL] at hK2
      exact ⟨0, rfl, fun _ => ⟨⟨_, _, hW.trans hW2⟩, z1, z2, z3, z4, _, _, hW.trans hW2, hK2⟩, fun hc => absurd rfl hc⟩
    | 5, ⟨_, z1, z2, z3, z4, b', rb', hW, hK'⟩, _ =>
      obtain ⟨G, Ta, Kl, Kf, Kb, Ks, Kr, _, Nf, Nb, Ns⟩ := keep hW
      refine ⟨_, _, swq_stp q, (sweep_any q p b' rb' L' R4.1 w' hK' G (o4 z1 z2 z3 z4)).mono ?_⟩
      rintro e w2 ⟨rfl, b2, hW2, hK2⟩
      refine ⟨_, rfl, fun hc => ⟨⟨_, _, hW.trans hW2⟩, z1, z2, z3, z4, hc, _, _, hW.trans hW2, hK2⟩, fun hc => ?_⟩
      rw [if_neg (by simp [z1]), if_neg (by simp [z2]), if_neg (by simp [z3]), if_neg (by simp [z4])]
      exact ⟨rfl, _, _, hW.trans hW2, hK2⟩
    | i + 6, _, hi => exact absurd hi (by omega)
  · rintro w' ⟨_, z1, z2, z3, z4, z5, b', rb', hW, hK'⟩
    rw [if_neg (by simp [z1]), if_neg (by simp [z2]), if_neg (by simp [z3]), if_neg (by simp [z4])]
    exact ⟨by rw [z5], b', rb', hW, hK'⟩
  · exact ⟨⟨b, rb, Wch.refl _ _ _ _ _⟩, b, rb, Wch.refl _ _ _ _ _, hK⟩
  · rintro e w' ⟨c, rfl, h⟩
    exact h
theorem box_cell {w : World} {i : Nat} {v : Value} {t : TypeId} (h : Blk w i #[v] t) : w.cell? ⟨i, 0, none⟩ = some v := h.cell 0
theorem log_c2 {w : World} {q p : Nat} {L : LG} {rv : Value} (h : Blk w q (lC p L rv) 64) : w.cell? ⟨q, 2, none⟩ = some (.int .i64 (L.g : Nat)) := (h.cell 2).trans (lC_g2 _ _ _)
theorem slog {w w' : World} {q p : Nat} (h : ∃ L1 rv1, Blk w q (lC p L1 rv1) 64) (hb : Below w.heap.size w w') : ∃ L1 rv1, Blk w' q (lC p L1 rv1) 64 := by
  obtain ⟨L1, rv1, h⟩ := h
  exact ⟨L1, rv1, h.belowSize hb⟩
theorem wlog9 {w : World} {q p : Nat} {b rb : Option Nat} {L : LG} {m : DN} (h : WK w q p b rb L m) : ∃ L1 rv1, Blk w q (lC p L1 rv1) 64 := by
  obtain ⟨rv, h1, _⟩ := h.out
  exact ⟨L, rv, h1⟩
theorem run_mkF {P : Program} {op : Oper} {a : Act} {w : World} (f : FuncId) (xs ys : Array Operand) (ho : op.op = .makeFunc (.func f) xs ys) (fs lb : Array Value) (h1 : xs.map a.eval = fs) (h2 : ys.map a.eval = lb) : (execOp a.eval op).run P w = .ok (.value (.func (.func f) fs lb)) w := by
  unfold execOp
  simp only [ho, h1, h2]
  rfl
section
variable {op : Oper} {a : Act} {w : World}
theorem mk_r1 (x1 x2 x3 x4 : Operand) {b1 b2 b3 b4 : Nat} (ho : op.op = .makeFunc (.func 38) #[] #[x1, x2, x3, x4]) (h1 : a.eval x1 = .pointer (some ⟨b1, 0, none⟩)) (h2 : a.eval x2 = .pointer (some ⟨b2, 0, none⟩)) (h3 : a.eval x3 = .pointer (some ⟨b3, 0, none⟩)) (h4 : a.eval x4 = .pointer (some ⟨b4, 0, none⟩)) : (execOp a.eval op).run Tryz.prog w = .ok (.value (r1F b1 b2 b3 b4)) w := run_mkF _ _ _ ho _ _ args0 (args4 h1 h2 h3 h4)
theorem mk_r2 (x1 x2 x3 : Operand) {b1 b2 b3 : Nat} (ho : op.op = .makeFunc (.func 40) #[] #[x1, x2, x3]) (h1 : a.eval x1 = .pointer (some ⟨b1, 0, none⟩)) (h2 : a.eval x2 = .pointer (some ⟨b2, 0, none⟩)) (h3 : a.eval x3 = .pointer (some ⟨b3, 0, none⟩)) : (execOp a.eval op).run Tryz.prog w = .ok (.value (r2F b1 b2 b3)) w := run_mkF _ _ _ ho _ _ args0 (args3 h1 h2 h3)
theorem mk_r3 (x1 x2 x3 : Operand) {b1 b2 b3 : Nat} (ho : op.op = .makeFunc (.func 42) #[] #[x1, x2, x3]) (h1 : a.eval x1 = .pointer (some ⟨b1, 0, none⟩)) (h2 : a.eval x2 = .pointer (some ⟨b2, 0, none⟩)) (h3 : a.eval x3 = .pointer (some ⟨b3, 0, none⟩)) : (execOp a.eval op).run Tryz.prog w = .ok (.value (r3F b1 b2 b3)) w := run_mkF _ _ _ ho _ _ args0 (args3 h1 h2 h3)
theorem mk_sy (x1 : Operand) {b1 : Nat} (ho : op.op = .makeFunc (.func 27) #[x1] #[]) (h1 : a.eval x1 = .pointer (some ⟨b1, 0, none⟩)) : (execOp a.eval op).run Tryz.prog w = .ok (.value (syF b1)) w := run_mkF _ _ _ ho _ _ (args1 h1) args0
theorem mk_sw (x1 : Operand) {b1 : Nat} (ho : op.op = .makeFunc (.func 44) #[x1] #[]) (h1 : a.eval x1 = .pointer (some ⟨b1, 0, none⟩)) : (execOp a.eval op).run Tryz.prog w = .ok (.value (swq b1)) w := run_mkF _ _ _ ho _ _ (args1 h1) args0
end
/-- A value that is a function. -/
def IsF (v : Value) : Prop := ∃ f x y, v = .func f x y
theorem fcl_r1 (b1 b2 b3 b4 : Nat) : IsF (r1F b1 b2 b3 b4) := ⟨_, _, _, rfl⟩
theorem fcl_r2 (b1 b2 b3 : Nat) : IsF (r2F b1 b2 b3) := ⟨_, _, _, rfl⟩
theorem fcl_r3 (b1 b2 b3 : Nat) : IsF (r3F b1 b2 b3) := ⟨_, _, _, rfl⟩
theorem fcl_sy (b1 : Nat) : IsF (syF b1) := ⟨_, _, _, rfl⟩
theorem fcl_sw (b1 : Nat) : IsF (swq b1) := ⟨_, _, _, rfl⟩
theorem range6 : Array.range 6 = #[0, 1, 2, 3, 4, 5] := by decide
theorem fsl6 (v1 v2 v3 v4 v5 v6 : Value) (h1 : IsF v1) (h2 : IsF v2) (h3 : IsF v3) (h4 : IsF v4) (h5 : IsF v5) (h6 : IsF v6) (w : World) : (Instr.buildSlice TFS 6 #[(0, v1), (1, v2), (2, v3), (3, v4), (4, v5), (5, v6)]).run Tryz.prog w = .ok (.slice (some ⟨w.heap.size, 0, none⟩) 6 6) (w.alloc (.cells #[v1, v2, v3, v4, v5, v6] TF)) := by
  obtain ⟨_, _, _, rfl⟩ := h1
  obtain ⟨_, _, _, rfl⟩ := h2
  obtain ⟨_, _, _, rfl⟩ := h3
  obtain ⟨_, _, _, rfl⟩ := h4
  obtain ⟨_, _, _, rfl⟩ := h5
  obtain ⟨_, _, _, rfl⟩ := h6
  simp [Instr.buildSlice, run_underlying Tryz.underlying97, sizeOf_run iFn, Sem.run_bind, Instr.fill, newRow, Value.cells, range6]
theorem wpList_fsl6 {ops : Array Oper} {rest : List Oper} {op : Oper} {a : Act} {w : World} {Q : Exit → Act → World → Prop} (hgd : op.guard = none) (x1 x2 x3 x4 x5 x6 : Operand) (ho : op.op = .buildSlice TFS 6 #[(0, x1), (1, x2), (2, x3), (3, x4), (4, x5), (5, x6)]) (v1 v2 v3 v4 v5 v6 : Value) (e1 : a.eval x1 = v1) (e2 : a.eval x2 = v2) (e3 : a.eval x3 = v3) (e4 : a.eval x4 = v4) (e5 : a.eval x5 = v5) (e6 : a.eval x6 = v6)
    (h1 : IsF v1) (h2 : IsF v2) (h3 : IsF v3) (h4 : IsF v4) (h5 : IsF v5) (h6 : IsF v6)
    (h : ∀ w1 : World, Below w.heap.size w w1 → Blk w1 w.heap.size #[v1, v2, v3, v4, v5, v6] TF → wpList Tryz.prog ops Q rest (a.put op.dst (.slice (some ⟨w.heap.size, 0, none⟩) 6 6)) w1) : wpList Tryz.prog ops Q (op :: rest) a w := by
  have e : (#[(0, x1), (1, x2), (2, x3), (3, x4), (4, x5), (5, x6)] : Array (Nat × Operand)).map (fun (i, x) => (i, a.eval x)) = #[(0, v1), (1, v2), (2, v3), (3, v4), (4, v5), (5, v6)] := by simp [e1, e2, e3, e4, e5, e6]
  refine wpList_run hgd _ _ ?_ (h _ ((Below.refl _ _).alloc (Nat.le_refl _) _) (Blk.new _ _ _))
  unfold execOp
  simp only [ho, Sem.run_bind, e, fsl6 v1 v2 v3 v4 v5 v6 h1 h2 h3 h4 h5 h6, Result.andThen_ok]
  rfl
section
attribute [local go_sem] mkA2
set_option maxRecDepth 100000 in
set_option maxHeartbeats 4000000 in
theorem reset_any (q p : Nat) (b rb : Option Nat) (L : LG) (m : DN) (s : B) (l : List B) (ad : Option Addr) (cap : Nat) (w : World) (hK : WK w q p b rb L m) (hG : Gw w) (ho : Okr L m ((frs [s]).length + (frs l).length))
    (hT : TA w ad l) (hsep : ∀ a, ad = some a → some a.block ≠ rb) (hll : l.length ≤ 1000000) :
    Calls Tryz.prog 12 #[.pointer (some ⟨q, 0, none⟩), .string ⟨s.toArray⟩, .slice ad l.length cap] w (RsP w q p b rb (resetN L m s l)) := by
  obtain ⟨rv, hL, hTR, hD⟩ := hK.out
  have hg := ho.g
  have hu := ho.u
  have hW0 := ho.m
  have hrl := hK.rlt
  have hql := hK.qlt
  have HB := fun w1 => baseName_any (L.g + 1) (by omega) w1
  have hbl0 := (WN.base (L.g + 1) (by omega)).len
  have est : Hid (newN (L.g + 1) = baseN (L.g + 1) ++ [46, 110, 101, 119]) := rfl
  have HT : ∀ w8 g, Below w.heap.size w w8 → Blk w8 w.heap.size #[.pointer (some ⟨q, 0, none⟩)] 25 → ∀ {bf bb bs br : Nat}, Blk w8 bf #[.string ⟨(baseN (L.g + 1) ++ [46, 110, 101, 119]).toArray⟩] 9 → Blk w8 bb #[.string ⟨(baseN (L.g + 1)).toArray⟩] 9 → Blk w8 bs #[.string ⟨s.toArray⟩] 9 → Blk w8 br #[.slice ad l.length cap] 30 → w.heap.size ≤ bf → w.heap.size ≤ bb → w.heap.size ≤ bs →
      Blk w8 g #[r1F w.heap.size bf bs br, syF p, r2F w.heap.size bf bb, syF p, r3F w.heap.size bs br, swq q] TF → Calls Tryz.prog 37 #[.slice (some ⟨g, 0, none⟩) 6 6] w8 (RsP w8 q p b rb (resetN L m s l)) := fun w8 g hB kl bf bb bs br kf kb ks kr lf lb ls kg => by
    obtain hst := reset_steps ho
    rw [← est.out] at kf
    have hne : ∀ k, w.heap.size ≤ k → some k ≠ rb := fun k hk e => by have := hrl k e.symm; omega
    refine (reset_turn q p w.heap.size bf bb bs br g b rb L (becL L (L.g + 1) s l) m (newN (L.g + 1)) (baseN (L.g + 1)) s l ad cap 6 _ _ _ _ w8 (hK.below hB) (hG.below hB) ho.m rfl rfl rfl rfl rfl (by omega) (fun z1 => (hst z1).1) (fun z1 z2 => ⟨((hst z1).2 z2).1, ((hst z1).2 z2).2.1⟩) (fun z1 z2 z3 => (((hst z1).2 z2).2.2 z3).1) (fun z1 z2 z3 z4 => (((hst z1).2 z2).2.2 z3).2 _ rfl z4) (WN.new _ (by omega)).ok (WN.base _ (by omega)).ok (fun e => base_new (by omega) e.symm) (by have := (WN.new (L.g + 1) (by omega)).len; omega) (by omega) (hT.below hB) hsep hll (by omega) kl kf kb ks kr (hne _ lf) (hne _ lb) (hne _ ls) kg).mono ?_
    exact fun e w' h => h
  have hs9 : ∀ {w8 : World} (w9 : World) b9 rb9, Wch w8 w9 q p b rb b9 rb9 → WK w9 q p b9 rb9 (resetN L m s l).1 (resetN L m s l).2.1 → Below w.heap.size w w8 → Blk w8 w.heap.size #[.pointer (some ⟨q, 0, none⟩)] 25 → Blk w9 w.heap.size #[.pointer (some ⟨q, 0, none⟩)] 25 := fun w9 b9 rb9 hW _ hB h => hW.blk (hK.below hB) h (by decide) (by decide) (by decide) (.inl (by decide))
  clear hW0
  have hgm : ¬ (L.g : Int) = 9223372036854775807 := by omega
  have hw1 : IntKind.i64.wrap ((L.g : Int) + 1) = ((L.g + 1 : Nat) : Int) := by rw [IntKind.wrap_i64]; omega
  generalize resetN L m s l = r at *
  generalize baseN (L.g + 1) = bN at *
  go_enter Tryz.func12, Tryz.ntmps12
  go_wp2_with (first
    | (go_at_call 36; refine (HB _).mono ?_; rintro e w' ⟨rfl, hw'⟩; have hw2' := hw'.symm; subst hw2'; clear hw')
    | (with_reducible refine at_list ?_; first
      | (refine wpList_box1 (op := ⟨some 3, _, _, _, _, _⟩) rfl _ _ rfl (.pointer (some ⟨q, 0, none⟩)) rfl rfl ?_; intro w1 hw1b hbl1)
      | (refine wpList_box1 (op := ⟨some 4, _, _, _, _, _⟩) rfl _ _ rfl (.string ⟨s.toArray⟩) rfl rfl ?_; intro w2 hw2 hbs2; have hbl2 := hbl1.belowSize hw2; have hB2 := hw1b.trans (hw2.mono hw1b.size))
      | (refine wpList_box1 (op := ⟨some 5, _, _, _, _, _⟩) rfl _ _ rfl (.slice ad l.length cap) rfl rfl ?_; intro w3 hw3 hbr3; have hbl3 := hbl2.belowSize hw3; have hbs3 := hbs2.belowSize hw3; have hB3 := hB2.trans (hw3.mono hB2.size); have hL3 := hL.belowSize hB3; have c0 := box_cell hbl3; have c2 := log_c2 hL3)
      | (refine wpList_alloc1 (op := ⟨some 7, _, _, _, _, _⟩) rfl _ rfl _ zStr1 rfl ?_; intro w4 hw4 hb4; clear c0 c2)
      | (refine wpList_storeCell (op := ⟨none, .store 9 (.tmp 7) (.tmp 23), _, _, _, _⟩) rfl _ _ _ rfl w3.heap.size 0 rfl (.string ⟨bN.toArray⟩) rfl _ _ hb4 iStrS rfl rfl (by decide) ?_; intro w5 hg5 hs5 hb5; clear hs5; have hD5 := hw4.trans (below_of_grown hg5 (Nat.le_refl _) hw4.size))
      | (refine wpList_loadCell (op := ⟨some 24, _, _, _, _, _⟩) rfl _ _ rfl w3.heap.size 0 rfl _ _ hb5 _ Tryz.underlying9 rfl _ rfl ?_)
      | (refine wpList_alloc1 (op := ⟨some 8, _, _, _, _, _⟩) rfl _ rfl _ zStr1 rfl ?_; intro w6 hw6 hb6)
      | (refine wpList_storeCell (op := ⟨none, .store 9 (.tmp 8) (.tmp 25), _, _, _, _⟩) rfl _ _ _ rfl w5.heap.size 0 rfl (.string ⟨(bN ++ [46, 110, 101, 119]).toArray⟩) rfl _ _ hb6 iStrS rfl rfl (by decide) ?_; intro w7 hg7 hs7 hb7; clear hs7; have hD7 := hw6.trans (below_of_grown hg7 (Nat.le_refl _) hw6.size))))
  have hB5 := hB3.trans (hD5.mono hB3.size)
  have hB7 := hB5.trans (hD7.mono hB5.size)
  have hbl7 := (hbl3.belowSize hD5).belowSize hD7
  have hL7 := hL.belowSize hB7
  have hbf7 : Blk w7 w5.heap.size #[.string ⟨(bN ++ [46, 110, 101, 119]).toArray⟩] 9 := hb7
  have hbb7 : Blk w7 w3.heap.size #[.string ⟨bN.toArray⟩] 9 := (show Blk w5 w3.heap.size #[.string ⟨bN.toArray⟩] 9 from hb5).belowSize hD7
  have hbs7 := (hbs3.belowSize hD5).belowSize hD7
  have hbr7 := (hbr3.belowSize hD5).belowSize hD7
  have l1 : w.heap.size ≤ w5.heap.size := hB5.size
  have l2 : w.heap.size ≤ w3.heap.size := hB3.size
  have l3 : w.heap.size ≤ w1.heap.size := hw1b.size
  clear hb4 hb6 hg5 hg7 hb7 hb5 hbl1 hbl2 hbl3 hbs2 hbs3 hbr3 hL3
  refine wp_region_held_drew (S := fun w' : World => Blk w' w.heap.size #[.pointer (some ⟨q, 0, none⟩)] 25 ∧ ∃ L1 rv1, Blk w' q (lC p L1 rv1) 64) (by kernel_rfl) (⟨hbl7.drew, L, rv, hL7.drew⟩) (fun hH => ?_)
  try go_frame
  refine wpAnyH_take (i := 0) (oi := ⟨some 26, _, _, _, _, _⟩) (v := r1F w.heap.size w5.heap.size w1.heap.size w2.heap.size) rfl (by kernel_rfl) (by kernel_rfl) (by kernel_rfl) (fun _ _ _ h => h) (Or.inl ⟨by rfl, fun w hSw => mk_r1 _ _ _ _ rfl rfl rfl rfl rfl⟩) hH ?_
  try simp only [Act.put, List.setIfInBounds_toArray, List.set_cons_zero, List.set_cons_succ]
  refine wpAnyH_take (i := 1) (oi := ⟨some 27, _, _, _, _, _⟩) (v := .pointer (some ⟨q, 0, none⟩)) rfl (by kernel_rfl) (by kernel_rfl) (by kernel_rfl) (fun _ _ _ h => h) (Or.inl ⟨by rfl, fun w hSw => run_loadCellB _ _ rfl _ 0 rfl _ _ hSw.1 _ Tryz.underlying25 rfl _ (rfl)⟩) hH ?_
  try simp only [Act.put, List.setIfInBounds_toArray, List.set_cons_zero, List.set_cons_succ]
  refine wpAnyH_take (i := 2) (oi := ⟨some 28, _, _, _, _, _⟩) (v := .pointer (some ⟨q, 0, none⟩)) rfl (by kernel_rfl) (by kernel_rfl) (by kernel_rfl) (fun _ _ _ h => h) (Or.inl ⟨by rfl, fun w hSw => by go_simp⟩) hH ?_
  try simp only [Act.put, List.setIfInBounds_toArray, List.set_cons_zero, List.set_cons_succ]
  refine wpAnyH_take (i := 3) (oi := ⟨some 29, _, _, _, _, _⟩) (v := .pointer (some ⟨q, 0, none⟩)) rfl (by kernel_rfl) (by kernel_rfl) (by kernel_rfl) (fun _ _ _ h => h) (Or.inl ⟨by rfl, fun w hSw => by go_simp⟩) hH ?_
  try simp only [Act.put, List.setIfInBounds_toArray, List.set_cons_zero, List.set_cons_succ]
  refine wpAnyH_take (i := 4) (oi := ⟨some 30, _, _, _, _, _⟩) (v := .pointer (some ⟨p, 0, none⟩)) rfl (by kernel_rfl) (by kernel_rfl) (by kernel_rfl) (fun _ _ _ h => h) (Or.inl ⟨by rfl, fun w hSw => run_loadCellB _ _ rfl _ 0 rfl _ _ hSw.2.choose_spec.choose_spec _ Tryz.underlying23 rfl _ (lC_g0 _ _ _)⟩) hH ?_
  try simp only [Act.put, List.setIfInBounds_toArray, List.set_cons_zero, List.set_cons_succ]
  refine wpAnyH_take (i := 5) (oi := ⟨some 31, _, _, _, _, _⟩) (v := syF p) rfl (by kernel_rfl) (by kernel_rfl) (by kernel_rfl) (fun _ _ _ h => h) (Or.inl ⟨by rfl, fun w hSw => mk_sy _ rfl rfl⟩) hH ?_
  try simp only [Act.put, List.setIfInBounds_toArray, List.set_cons_zero, List.set_cons_succ]
  refine wpAnyH_take (i := 6) (oi := ⟨some 32, _, _, _, _, _⟩) (v := r2F w.heap.size w5.heap.size w3.heap.size) rfl (by kernel_rfl) (by kernel_rfl) (by kernel_rfl) (fun _ _ _ h => h) (Or.inl ⟨by rfl, fun w hSw => mk_r2 _ _ _ rfl rfl rfl rfl⟩) hH ?_
  try simp only [Act.put, List.setIfInBounds_toArray, List.set_cons_zero, List.set_cons_succ]
  refine wpAnyH_take (i := 7) (oi := ⟨some 33, _, _, _, _, _⟩) (v := .pointer (some ⟨q, 0, none⟩)) rfl (by kernel_rfl) (by kernel_rfl) (by kernel_rfl) (fun _ _ _ h => h) (Or.inl ⟨by rfl, fun w hSw => run_loadCellB _ _ rfl _ 0 rfl _ _ hSw.1 _ Tryz.underlying25 rfl _ (rfl)⟩) hH ?_
  try simp only [Act.put, List.setIfInBounds_toArray, List.set_cons_zero, List.set_cons_succ]
  refine wpAnyH_take (i := 8) (oi := ⟨some 34, _, _, _, _, _⟩) (v := .pointer (some ⟨q, 0, none⟩)) rfl (by kernel_rfl) (by kernel_rfl) (by kernel_rfl) (fun _ _ _ h => h) (Or.inl ⟨by rfl, fun w hSw => by go_simp⟩) hH ?_
  try simp only [Act.put, List.setIfInBounds_toArray, List.set_cons_zero, List.set_cons_succ]
  refine wpAnyH_take (i := 9) (oi := ⟨some 35, _, _, _, _, _⟩) (v := .pointer (some ⟨q, 0, none⟩)) rfl (by kernel_rfl) (by kernel_rfl) (by kernel_rfl) (fun _ _ _ h => h) (Or.inl ⟨by rfl, fun w hSw => by go_simp⟩) hH ?_
  try simp only [Act.put, List.setIfInBounds_toArray, List.set_cons_zero, List.set_cons_succ]
  refine wpAnyH_take (i := 10) (oi := ⟨some 36, _, _, _, _, _⟩) (v := .pointer (some ⟨p, 0, none⟩)) rfl (by kernel_rfl) (by kernel_rfl) (by kernel_rfl) (fun _ _ _ h => h) (Or.inl ⟨by rfl, fun w hSw => run_loadCellB _ _ rfl _ 0 rfl _ _ hSw.2.choose_spec.choose_spec _ Tryz.underlying23 rfl _ (lC_g0 _ _ _)⟩) hH ?_
  try simp only [Act.put, List.setIfInBounds_toArray, List.set_cons_zero, List.set_cons_succ]
  refine wpAnyH_take (i := 11) (oi := ⟨some 37, _, _, _, _, _⟩) (v := syF p) rfl (by kernel_rfl) (by kernel_rfl) (by kernel_rfl) (fun _ _ _ h => h) (Or.inl ⟨by rfl, fun w hSw => mk_sy _ rfl rfl⟩) hH ?_
  try simp only [Act.put, List.setIfInBounds_toArray, List.set_cons_zero, List.set_cons_succ]
  refine wpAnyH_take (i := 12) (oi := ⟨some 38, _, _, _, _, _⟩) (v := r3F w.heap.size w1.heap.size w2.heap.size) rfl (by kernel_rfl) (by kernel_rfl) (by kernel_rfl) (fun _ _ _ h => h) (Or.inl ⟨by rfl, fun w hSw => mk_r3 _ _ _ rfl rfl rfl rfl⟩) hH ?_
  try simp only [Act.put, List.setIfInBounds_toArray, List.set_cons_zero, List.set_cons_succ]
  refine wpAnyH_take (i := 13) (oi := ⟨some 39, _, _, _, _, _⟩) (v := .pointer (some ⟨q, 0, none⟩)) rfl (by kernel_rfl) (by kernel_rfl) (by kernel_rfl) (fun _ _ _ h => h) (Or.inl ⟨by rfl, fun w hSw => run_loadCellB _ _ rfl _ 0 rfl _ _ hSw.1 _ Tryz.underlying25 rfl _ (rfl)⟩) hH ?_
  try simp only [Act.put, List.setIfInBounds_toArray, List.set_cons_zero, List.set_cons_succ]
  refine wpAnyH_take (i := 14) (oi := ⟨some 40, _, _, _, _, _⟩) (v := swq q) rfl (by kernel_rfl) (by kernel_rfl) (by kernel_rfl) (fun _ _ _ h => h) (Or.inl ⟨by rfl, fun w hSw => mk_sw _ rfl rfl⟩) hH ?_
  try simp only [Act.put, List.setIfInBounds_toArray, List.set_cons_zero, List.set_cons_succ]
  refine wpAnyH_solo (i := 15) (o := ⟨some 41, _, _, _, _, _⟩) rfl (by kernel_rfl) (fun K hK9 => ?_)
  refine wpList_fsl6 rfl _ _ _ _ _ _ rfl _ _ _ _ _ _ rfl rfl rfl rfl rfl rfl (fcl_r1 _ _ _ _) (fcl_sy _) (fcl_r2 _ _ _) (fcl_sy _) (fcl_r3 _ _ _) (fcl_sw _) ?_
  intro w8 hw8 hb8
  have hH8 := And.intro (hH.1.belowSize hw8) (slog hH.2 hw8)
  have hBk := hB7.drew.trans (hw8.mono hB7.drew.size)
  refine hK9 _ _ hH8 ?_
  clear hK9 K
  try simp only [Act.put, List.setIfInBounds_toArray, List.set_cons_zero, List.set_cons_succ]
  refine wpAnyH_solo (i := 16) (o := ⟨some 42, _, _, _, _, _⟩) rfl (by kernel_rfl) (fun K hK9 => ?_)
  refine wpList_callR Tryz.func37 (by kernel_rfl) (by kernel_rfl) rfl _ _ rfl #[.slice (some ⟨w7.drew.heap.size, 0, none⟩) 6 6] (args1 rfl) _ (HT w8 w7.drew.heap.size hBk hH8.1 (hbf7.drew.belowSize hw8) (hbb7.drew.belowSize hw8) (hbs7.drew.belowSize hw8) (hbr7.drew.belowSize hw8) l1 l2 l3 hb8) ?_
  rintro e w9 ⟨rfl, b9, rb9, hW9, hK9b⟩
  refine ⟨_, rfl, ?_⟩
  refine hK9 _ _ (And.intro (hs9 w9 b9 rb9 hW9 hK9b hBk hH8.1) (wlog9 hK9b)) ?_
  clear hK9 K
  try simp only [Act.put, List.setIfInBounds_toArray, List.set_cons_zero, List.set_cons_succ]
  refine wpAnyH_solo (i := 17) (o := ⟨some 6, _, _, _, _, _⟩) rfl (by kernel_rfl) (fun K hK9 => ?_)
  refine wpList_pure rfl (.int .i64 (r.2.2 : Nat)) (by go_simp) ?_
  refine hK9 _ _ (And.intro (hs9 w9 b9 rb9 hW9 hK9b hBk hH8.1) (wlog9 hK9b)) ?_
  clear hK9 K
  try simp only [Act.put, List.setIfInBounds_toArray, List.set_cons_zero, List.set_cons_succ]
  refine wpAnyH_done (by kernel_rfl) ?_ _
  try simp only [Act.put]
  try go_simp
  go_wp2_with fail
  go_ret
  exact ⟨rfl, b9, rb9, (Wch.below hBk).trans hW9, hK9b⟩
end
end Go.Proofs.YtaiiojbakmminaaGreatDoor
