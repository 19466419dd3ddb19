/- A disk with a limit: Room, Used, and Add of a log there. A log that a law plays on its disk: what is kept from call to call. A slice of texts beside a log grows; a limit is laid on the disk and taken away. -/
import Derived.Test.YtaiiojbakmminaaGreatDoorWpr
namespace Go.Proofs.YtaiiojbakmminaaGreatDoor
open Go Go.RowKit
theorem roomD (p : Nat) (b : Option Nat) (m : DN) (r : Int) (w : World) (hD : DD w p b m) (hpl : m.pl = none) :
    Calls Tryz.prog 32 #[.pointer (some ⟨p, 0, none⟩), .int .i64 r] w fun e w' => e = .returned (.tuple #[]) ∧ Chg w w' p b b ∧ DD w' p b { m with lim := decide (0 ≤ r), room := r } := by
  obtain ⟨v, hK, hP⟩ := hD.out
  rw [hpl] at hP
  refine (room_any p b (m.lo v) r w hK).mono ?_
  rintro e w' ⟨h2, h3, h4⟩
  refine ⟨h2, h3, ⟨v, h4, ?_⟩⟩
  show PLs w' v m.pl
  rw [hpl]
  exact hP
theorem usedD (p : Nat) (b : Option Nat) (m : DN) (w : World) (hD : DD w p b m) (hm : Okn m) :
    Calls Tryz.prog 33 #[.pointer (some ⟨p, 0, none⟩)] w fun e w' => e = .returned (.int .i64 (usedL m.l : Nat)) ∧ Below w.heap.size w w' := by
  obtain ⟨v, hK, hP⟩ := hD.out
  have h1 := hm.len
  have h2 := hm.used
  exact used_any p b (m.lo v) w hK (by show m.l.length ≤ _; omega) (by show usedL m.l ≤ _; omega)
/-- A synced disk with a limit. -/
def fm (P : PP) (room : Int) (ch : Nat) : DN := ⟨mk P, false, true, room, ch, none⟩
theorem wri_fm (P : PP) (room : Int) (ch : Nat) (n s : B) : wriN (fm P room ch) n s = (⟨lay n (some s) 2 (mk P), false, true, room, ch + 1, none⟩, 0) ∨ wriN (fm P room ch) n s = (fm P room ch, 111) := by
  unfold wriN
  rw [if_neg (by simp [fm])]
  split
  · exact .inr rfl
  · exact .inl (by simp [chgN, hitN, fm])
theorem app_fm {P : PP} (h : RisP P) (room : Int) (ch : Nat) (n s : B) : appN (fm P room ch) n s = (⟨lay n (some (kbyt (getP n P) ++ s)) 1 (mk P), false, true, room, ch + 1, none⟩, 0) ∨ appN (fm P room ch) n s = (fm P room ch, 111) := by
  unfold appN
  rw [if_neg (by simp [fm])]
  split
  · exact .inr rfl
  · exact .inl (by simp [chgN, hitN, fm, at_mk h])
theorem syn_fm (l : List F) (room : Int) (ch : Nat) : synN ⟨l, false, true, room, ch, none⟩ = (fm (nowL l) room ch, 0) := by
  simp [synN, fm, settle_mk]
theorem add_fm (L : LG) {P : PP} (h : RisP P) (room : Int) (ch : Nat) (l : List B) : addN L (fm P room ch) l = (addL L l, (fm (addP L P l) room (ch + 1), 0)) ∨ addN L (fm P room ch) l = (L, (fm P room ch, 111)) := by
  unfold addN addR addP addK
  cases hc : addC L with
  | true =>
    simp only [if_true]
    rcases wri_fm P room ch (segN L.g (L.segs + 1)) (frs l) with e | e
    · left
      rw [e]
      simp [syn_fm, lay_now _ _ _ _ (ris_mk.2 h), now_mk]
    · right
      rw [e]
      simp
  | false =>
    simp only [Bool.false_eq_true, if_false]
    rcases app_fm h room ch (segN L.g L.segs) (frs l) with e | e
    · left
      rw [e]
      simp [syn_fm, lay_now _ _ _ _ (ris_mk.2 h), now_mk]
    · right
      rw [e]
      simp
theorem fm_okn {L : LG} {P : PP} {lb : List B} {ls : List (List B)} (h : Py L P lb ls) (room : Int) (ch : Nat) (hu : usedP P ≤ 1000000000) (hc : ch ≤ 900000) (hr : 0 ≤ room ∧ room ≤ 9223372036854775807) : Okn (fm P room ch) := by
  have h1 := py_okn h 0 ch hu hc
  exact ⟨h1.l, h1.len, h1.used, h1.ch, fun _ => hr, h1.by_, fun f e => by cases e⟩
/-- Add of a log that was played, on a disk with a limit: it adds, or there is no room. -/
theorem add_pf {L : LG} {P : PP} {lb : List B} {ls : List (List B)} (h : Py L P lb ls) (q p : Nat) (b rb : Option Nat) (room : Int) (ch : Nat) (l : List B) (ad : Option Addr) (cap : Nat) (w : World) (hK : WK w q p b rb L (fm P room ch)) (hG : Gw w) (hT : TA w ad l) (hsep : ∀ a, ad = some a → some a.block ≠ rb)
    (hu : usedP P ≤ 1000000000) (hc : ch ≤ 900000) (hf : (frs l).length ≤ 1000000000) (hr : L.recs.length + l.length ≤ 1000000) (hro : 0 ≤ room ∧ room ≤ 9223372036854775807) :
    Calls Tryz.prog 16 #[.pointer (some ⟨q, 0, none⟩), .slice ad l.length cap] w fun e w' => RsP w q p b rb (addL L l, (fm (addP L P l) room (ch + 1), 0)) e w' ∨ RsP w q p b rb (L, (fm P room ch, 111)) e w' := by
  have h1 := h.ld.len
  have h2 := h.ld.n
  have h3 := h.segs
  have h4 := py_last h
  rw [List.length_map] at h1 h2
  refine (add_any q p b rb L (fm P room ch) l ad cap w hK hG ⟨h.ld.g2, by omega, by show (mk P).length ≤ _; rw [mk_len]; omega, by show ch ≤ _; omega, by show usedL (mk P) + _ ≤ _; rw [used_mk]; omega, by omega, hr, fm_okn h room ch hu hc hro⟩ hT hsep).mono fun e w' hh => ?_
  rcases add_fm L h.ld.ris room ch l with e2 | e2
  · rw [e2] at hh; exact .inl hh
  · rw [e2] at hh; exact .inr hh
end Go.Proofs.YtaiiojbakmminaaGreatDoor
namespace Go.Proofs.YtaiiojbakmminaaGreatDoor
open Go Go.RowKit
/-- A block of texts. -/
def SB (w : World) (i : Nat) : Prop := ∃ c fr, w.heap[i]? = some (.cells c 9 fr)
theorem SB.lt {w : World} {i : Nat} (h : SB w i) : i < w.heap.size := by
  obtain ⟨c, fr, h1⟩ := h
  exact (Array.getElem?_eq_some_iff.1 h1).1
theorem SB.below {w w' : World} {i : Nat} (h : SB w i) (hb : Below w.heap.size w w') : SB w' i := by
  obtain ⟨c, fr, h1⟩ := h
  exact ⟨c, fr, (hb.block i (Array.getElem?_eq_some_iff.1 h1).1).trans h1⟩
theorem TS.sb {w : World} {v : Value} {b : Option Nat} {l : List B} (h : TS w v b l) : ∀ i, b = some i → SB w i := fun i e => by
  rcases h.out with ⟨_, hb, _⟩ | ⟨g, o, cap, cur, _, hb, hg, _⟩
  · rw [hb] at e; cases e
  · rw [hb] at e
    cases e
    exact ⟨_, _, hg⟩
/-- Since the world w a law has made a disk at p and a log at q; block fb is none of theirs. -/
structure Gs (w wl : World) (q p : Nat) (L : LG) (m : DN) (fb : Option Nat) : Prop where
  out : ∃ b rb, WK wl q p b rb L m ∧ (∀ k, b = some k → w.heap.size ≤ k) ∧ (∀ k, rb = some k → w.heap.size ≤ k) ∧ (∀ i, fb = some i → some i ≠ rb)
  bel : Below w.heap.size w wl
  q : w.heap.size ≤ q
  p : w.heap.size ≤ p
  fb : ∀ i, fb = some i → SB wl i
/-- What a call on the log or its disk keeps. -/
structure Kp (wl w' : World) (fb : Option Nat) : Prop where
  size : wl.heap.size ≤ w'.heap.size
  fb : ∀ i, fb = some i → w'.heap[i]? = wl.heap[i]?
  blk : ∀ i c t, Blk wl i c t → t ≠ 64 → t ≠ 61 → t ≠ 93 → t ≠ 9 → Blk w' i c t
theorem Kp.ts {wl w' : World} {fb : Option Nat} {v : Value} {l : List B} (h : Kp wl w' fb) (hT : TS wl v fb l) : TS w' v fb l := hT.keep h.fb
theorem Gs.below {w wl wa : World} {q p : Nat} {L : LG} {m : DN} {fb : Option Nat} (h : Gs w wl q p L m fb) (hb : Below wl.heap.size wl wa) : Gs w wa q p L m fb := by
  obtain ⟨b, rb, h1, h2, h3, h4⟩ := h.out
  exact ⟨⟨b, rb, h1.below hb, h2, h3, h4⟩, h.bel.trans (hb.mono h.bel.size), h.q, h.p, fun i e => (h.fb i e).below hb⟩
/-- Another block is the one that stands apart. -/
theorem Gs.other {w wl wa : World} {q p : Nat} {L : LG} {m : DN} {fb fc : Option Nat} (h : Gs w wl q p L m fb) (hb : Below wl.heap.size wl wa) (hn : ∀ i, fc = some i → (fb = some i ∨ wl.heap.size ≤ i) ∧ SB wa i) : Gs w wa q p L m fc := by
  obtain ⟨b, rb, h1, h2, h3, h4⟩ := h.out
  refine ⟨⟨b, rb, h1.below hb, h2, h3, fun i e e2 => ?_⟩, h.bel.trans (hb.mono h.bel.size), h.q, h.p, fun i e => (hn i e).2⟩
  rcases (hn i e).1 with h5 | h5
  · exact h4 i h5 e2
  · have := h1.rlt i e2.symm; omega
theorem Gs.step {w wl wa w' : World} {q p : Nat} {L L' : LG} {m m' : DN} {fb b rb b' rb' : Option Nat} (h : Gs w wl q p L m fb) (h1 : WK wl q p b rb L m) (h2 : ∀ k, b = some k → w.heap.size ≤ k) (h3 : ∀ k, rb = some k → w.heap.size ≤ k) (h4 : ∀ i, fb = some i → some i ≠ rb)
    (hB : Below wl.heap.size wl wa) (hW : Wch wa w' q p b rb b' rb') (hK : WK w' q p b' rb' L' m') : Gs w w' q p L' m' fb ∧ Kp wl w' fb := by
  have hKa := h1.below hB
  have hba := h.bel.trans (hB.mono h.bel.size)
  obtain ⟨hlo, hbl, hrl⟩ := wch_low hW hba.size h.q h.p h2 h3
  have keep : ∀ i, fb = some i → w'.heap[i]? = wl.heap[i]? := fun i e => by
    have hs := h.fb i e
    obtain ⟨c, fr, h5⟩ := hs.below hB
    rw [hW.raw hKa h5 (by decide) (by decide) (by decide) (.inr (fun e2 => h4 i e e2)), ← h5]
    exact hB.block i hs.lt
  refine ⟨⟨⟨b', rb', hK, hbl, hrl, fun i e e2 => ?_⟩, hba.trans hlo, h.q, h.p, fun i e => ?_⟩, ⟨Nat.le_trans hB.size hW.size, keep, fun i c t hb n1 n2 n3 n4 => hW.blk hKa (hb.belowSize hB) n1 n2 n3 (.inl n4)⟩⟩
  · rcases hW.newr i e2.symm with h5 | h5
    · exact h4 i e h5.symm
    · have := (h.fb i e).lt; have := hB.size; omega
  · obtain ⟨c, fr, h5⟩ := h.fb i e
    exact ⟨c, fr, (keep i e).trans h5⟩
theorem ta_blk {w : World} {g : Nat} {x : B} (h : Blk w g #[.string ⟨x.toArray⟩] 9) : TA w (some ⟨g, 0, none⟩) [x] := ⟨.inr ⟨g, 0, #[.string ⟨x.toArray⟩], (0, 0), rfl, h.out, fun j y hy => by
  match j, hy with
  | 0, hy => simp at hy; subst hy; rfl
  | j + 1, hy => simp at hy⟩⟩
theorem gs_add {w wl wa : World} {q p : Nat} {L : LG} {P : PP} {lb : List B} {ls : List (List B)} {room : Int} {ch : Nat} {fb : Option Nat} (h : Gs w wl q p L (cm P room ch) fb) (hG : Gw w) (hpy : Py L P lb ls) (hB : Below wl.heap.size wl wa) (l : List B) (ad : Option Addr) (cap : Nat) (hT : TA wa ad l)
    (hs : ∀ a, ad = some a → fb = some a.block ∨ wl.heap.size ≤ a.block) (hu : usedP P ≤ 1000000000) (hc : ch ≤ 900000) (hf : (frs l).length ≤ 1000000000) (hr : L.recs.length + l.length ≤ 1000000) :
    Calls Tryz.prog 16 #[.pointer (some ⟨q, 0, none⟩), .slice ad l.length cap] wa fun e w' => e = .returned (.int .i64 0) ∧ Gs w w' q p (addL L l) (cm (addP L P l) room (ch + 1)) fb ∧ Kp wl w' fb := by
  obtain ⟨b, rb, h1, h2, h3, h4⟩ := h.out
  have hba := h.bel.trans (hB.mono h.bel.size)
  refine (add_py hpy q p b rb room ch l ad cap wa (h1.below hB) (hG.below hba) hT (fun a e e2 => ?_) hu hc hf hr).mono ?_
  · rcases hs a e with h5 | h5
    · exact h4 _ h5 e2
    · have := h1.rlt _ e2.symm; omega
  · rintro e w' ⟨rfl, b', rb', hW, hK⟩
    exact ⟨rfl, h.step h1 h2 h3 h4 hB hW hK⟩
theorem gs_addf {w wl wa : World} {q p : Nat} {L : LG} {P : PP} {lb : List B} {ls : List (List B)} {room : Int} {ch : Nat} {fb : Option Nat} (h : Gs w wl q p L (fm P room ch) fb) (hG : Gw w) (hpy : Py L P lb ls) (hB : Below wl.heap.size wl wa) (l : List B) (ad : Option Addr) (cap : Nat) (hT : TA wa ad l)
    (hs : ∀ a, ad = some a → fb = some a.block ∨ wl.heap.size ≤ a.block) (hu : usedP P ≤ 1000000000) (hc : ch ≤ 900000) (hf : (frs l).length ≤ 1000000000) (hr : L.recs.length + l.length ≤ 1000000) (hro : 0 ≤ room ∧ room ≤ 9223372036854775807) :
    Calls Tryz.prog 16 #[.pointer (some ⟨q, 0, none⟩), .slice ad l.length cap] wa fun e w' => ∃ ok : Bool, e = .returned (.int .i64 (if ok = true then 0 else 111)) ∧ Gs w w' q p (if ok = true then addL L l else L) (if ok = true then fm (addP L P l) room (ch + 1) else fm P room ch) fb ∧ Kp wl w' fb := by
  obtain ⟨b, rb, h1, h2, h3, h4⟩ := h.out
  have hba := h.bel.trans (hB.mono h.bel.size)
  refine (add_pf hpy q p b rb room ch l ad cap wa (h1.below hB) (hG.below hba) hT (fun a e e2 => ?_) hu hc hf hr hro).mono ?_
  · rcases hs a e with h5 | h5
    · exact h4 _ h5 e2
    · have := h1.rlt _ e2.symm; omega
  · rintro e w' (⟨rfl, b', rb', hW, hK⟩ | ⟨rfl, b', rb', hW, hK⟩)
    · exact ⟨true, rfl, h.step h1 h2 h3 h4 hB hW hK⟩
    · exact ⟨false, rfl, h.step h1 h2 h3 h4 hB hW hK⟩
theorem gs_reset {w wl wa : World} {q p : Nat} {L : LG} {P : PP} {lb : List B} {ls : List (List B)} {room : Int} {ch : Nat} {fb : Option Nat} (h : Gs w wl q p L (cm P room ch) fb) (hG : Gw w) (hpy : Py L P lb ls) (hB : Below wl.heap.size wl wa) (s : B) (l : List B) (ad : Option Addr) (cap : Nat) (hT : TA wa ad l)
    (hs : ∀ a, ad = some a → fb = some a.block ∨ wl.heap.size ≤ a.block) (hg : L.g < 98) (hu : usedP P ≤ 1000000000) (hc : ch ≤ 700000) (hf : (frs [s]).length + (frs l).length ≤ 1000000000) (hl : l.length ≤ 1000000) :
    ∃ ch', ch' ≤ ch + 110 ∧ Calls Tryz.prog 12 #[.pointer (some ⟨q, 0, none⟩), .string ⟨s.toArray⟩, .slice ad l.length cap] wa fun e w' => e = .returned (.int .i64 0) ∧ Gs w w' q p (becL L (L.g + 1) s l) (cm [(baseN (L.g + 1), frs [s] ++ frs l)] room ch') fb ∧ Kp wl w' fb := by
  obtain ⟨b, rb, h1, h2, h3, h4⟩ := h.out
  have hba := h.bel.trans (hB.mono h.bel.size)
  obtain ⟨ch', k1, k2⟩ := reset_py hpy q p b rb room ch s l ad cap wa (h1.below hB) (hG.below hba) hT (fun a e e2 => by
    rcases hs a e with h5 | h5
    · exact h4 _ h5 e2
    · have := h1.rlt _ e2.symm; omega) hg hu hc hf hl
  refine ⟨ch', k1, k2.mono ?_⟩
  rintro e w' ⟨rfl, b', rb', hW, hK⟩
  exact ⟨rfl, h.step h1 h2 h3 h4 hB hW hK⟩
theorem gs_wk {w wl : World} {q p : Nat} {L : LG} {m : DN} {fb : Option Nat} (h : Gs w wl q p L m fb) : ∃ b rb, WK wl q p b rb L m := by
  obtain ⟨b, rb, h1, _⟩ := h.out
  exact ⟨b, rb, h1⟩
/-- The first log of a law: a new disk, and Open. -/
theorem gs_first {w w1 w2 : World} {q p : Nat} {b2 rb2 : Option Nat} {L : LG} {m : DN} (h1 : Below w.heap.size w w1) (hp : w.heap.size ≤ p) (hq : w1.heap.size ≤ q) (hW : Wch w1 w2 q p none none b2 rb2) (hK : WK w2 q p b2 rb2 L m) : Gs w w2 q p L m none := by
  obtain ⟨hlo, hbl, hrl⟩ := wch_low hW h1.size (Nat.le_trans h1.size hq) hp (fun k e => by cases e) (fun k e => by cases e)
  exact ⟨⟨b2, rb2, hK, hbl, hrl, fun i e => by cases e⟩, h1.trans hlo, Nat.le_trans h1.size hq, hp, fun i e => by cases e⟩
/-- The disk changes by itself. -/
theorem gs_disk {w wl w' : World} {q p : Nat} {L : LG} {m m' : DN} {fb b rb b' : Option Nat} (h : Gs w wl q p L m fb) (hG : Gw w) (h1 : WK wl q p b rb L m) (h2 : ∀ k, b = some k → w.heap.size ≤ k) (h3 : ∀ k, rb = some k → w.heap.size ≤ k) (h4 : ∀ i, fb = some i → some i ≠ rb) (hc : Chg wl w' p b b') (hD : DD w' p b' m') : Gs w w' q p L m' fb ∧ Kp wl w' fb :=
  h.step h1 h2 h3 h4 (Below.refl _ _) (Wch.chg hc) (h1.disk (hG.below h.bel).two hc hD)
theorem gs_room {w wl : World} {q p : Nat} {L : LG} {m : DN} {fb : Option Nat} (h : Gs w wl q p L m fb) (hG : Gw w) (r : Int) (hpl : m.pl = none) :
    Calls Tryz.prog 32 #[.pointer (some ⟨p, 0, none⟩), .int .i64 r] wl fun e w' => e = .returned (.tuple #[]) ∧ Gs w w' q p L { m with lim := decide (0 ≤ r), room := r } fb ∧ Kp wl w' fb := by
  obtain ⟨b, rb, h1, h2, h3, h4⟩ := h.out
  obtain ⟨rv, _, _, hD⟩ := h1.out
  refine (roomD p b m r wl hD hpl).mono ?_
  rintro e w' ⟨rfl, hC, hD'⟩
  exact ⟨rfl, gs_disk h hG h1 h2 h3 h4 hC hD'⟩
theorem gs_used {w wl : World} {q p : Nat} {L : LG} {m : DN} {fb : Option Nat} (h : Gs w wl q p L m fb) (hm : Okn m) :
    Calls Tryz.prog 33 #[.pointer (some ⟨p, 0, none⟩)] wl fun e w' => e = .returned (.int .i64 (usedL m.l : Nat)) ∧ Below wl.heap.size wl w' := by
  obtain ⟨b, rb, h1, h2, h3, h4⟩ := h.out
  obtain ⟨rv, _, _, hD⟩ := h1.out
  exact usedD p b m wl hD hm
/-- Crash and Up of a synced disk on which nothing is planned. -/
theorem gs_crash {w wl : World} {q p : Nat} {L : LG} {P : PP} {lb : List B} {ls : List (List B)} {room : Int} {ch : Nat} {fb : Option Nat} (h : Gs w wl q p L (cm P room ch) fb) (hG : Gw w) (hpy : Py L P lb ls) (z k : Int) (hu : usedP P ≤ 1000000000) (hc : ch ≤ 900000) :
    Calls Tryz.prog 14 #[.pointer (some ⟨p, 0, none⟩), .int .i64 z, .int .i64 k] wl fun e w' => e = .returned (.tuple #[]) ∧ Gs w w' q p L { cm P room ch with dead := true } fb ∧ Kp wl w' fb := by
  obtain ⟨b, rb, h1, h2, h3, h4⟩ := h.out
  obtain ⟨rv, _, _, hD⟩ := h1.out
  refine (crashD p b (cm P room ch) z k wl hD (py_okn hpy room ch hu hc) rfl rfl).mono ?_
  rintro e w' ⟨rfl, b', hC, hD'⟩
  have e2 : ({ cm P room ch with dead := true, l := settleL (failL z k (cm P room ch).l) } : DN) = { cm P room ch with dead := true } := by
    show (⟨settleL (failL z k (mk P)), true, false, room, ch, none⟩ : DN) = _
    rw [fail_mk]
    rfl
  rw [e2] at hD'
  exact ⟨rfl, gs_disk h hG h1 h2 h3 h4 hC hD'⟩
theorem gs_up {w wl : World} {q p : Nat} {L : LG} {m : DN} {fb : Option Nat} (h : Gs w wl q p L m fb) (hG : Gw w) (hpl : m.pl = none) :
    Calls Tryz.prog 15 #[.pointer (some ⟨p, 0, none⟩)] wl fun e w' => e = .returned (.bool m.dead) ∧ Gs w w' q p L { m with dead := false } fb ∧ Kp wl w' fb := by
  obtain ⟨b, rb, h1, h2, h3, h4⟩ := h.out
  obtain ⟨rv, _, _, hD⟩ := h1.out
  refine (upD p b m wl hD hpl).mono ?_
  rintro e w' ⟨rfl, hC, hD'⟩
  exact ⟨rfl, gs_disk h hG h1 h2 h3 h4 hC hD'⟩
/-- Open of what was played: another log, which stands where the first one did. -/
theorem gs_open {w wl : World} {q p : Nat} {L : LG} {P : PP} {lb : List B} {ls : List (List B)} {room : Int} {ch : Nat} {fb : Option Nat} (h : Gs w wl q p L (cm P room ch) fb) (hG : Gw w) (hpy : Py L P lb ls) (hz : 1 ≤ L.most) (hu : usedP P ≤ 4000000) (hc : ch ≤ 900000) (hr : L.recs.length ≤ 400000) :
    Calls Tryz.prog 10 #[.pointer (some ⟨p, 0, none⟩), .int .i64 L.most] wl fun e w' => ∃ q', e = .returned (.tuple #[.pointer (some ⟨q', 0, none⟩), .int .i64 0, .int .i64 0]) ∧ Gs w w' q' p L (cm P room ch) fb ∧ Kp wl w' fb := by
  obtain ⟨b, rb, h1, h2, h3, h4⟩ := h.out
  obtain ⟨rv, _, _, hD⟩ := h1.out
  refine (open_py hpy p b room ch hz wl hD h1.p2 h1.b2 (hG.below h.bel) hu hc hr).mono ?_
  intro e w' hop
  obtain ⟨q', b', rb', rfl, hq, hW, hK⟩ := op_ok hop
  refine ⟨q', rfl, ?_⟩
  obtain ⟨hlo, hbl, hrl⟩ := wch_low hW h.bel.size (Nat.le_trans h.bel.size hq) h.p h2 (fun k e => by cases e)
  obtain ⟨_, k2, k3, _⟩ := h1.kinds
  have keep : ∀ i c t fr, wl.heap[i]? = some (Obj.cells c t fr) → t ≠ 61 → t ≠ 93 → w'.heap[i]? = wl.heap[i]? := fun i c t fr hb n2 n3 => by
    have hi := (Array.getElem?_eq_some_iff.1 hb).1
    obtain ⟨c2, f2, k2⟩ := k2
    exact hW.block i hi (by omega) (kind_ne hb k2 n2) (fun e => by obtain ⟨c3, f3, k5⟩ := k3 i e.symm; exact kind_ne hb k5 n3 rfl) (fun e => by cases e)
  refine ⟨⟨⟨b', rb', hK, hbl, hrl, fun i e e2 => ?_⟩, h.bel.trans hlo, Nat.le_trans h.bel.size hq, h.p, fun i e => ?_⟩, ⟨hW.size, fun i e => ?_, fun i c t hb n1 n2 n3 n4 => ⟨(keep i _ _ _ hb.out n2 n3).trans hb.out⟩⟩⟩
  · rcases hW.newr i e2.symm with h5 | h5
    · cases h5
    · have := (h.fb i e).lt; omega
  · obtain ⟨c, fr, h5⟩ := h.fb i e
    exact ⟨c, fr, (keep i _ _ _ h5 (by decide) (by decide)).trans h5⟩
  · obtain ⟨c, fr, h5⟩ := h.fb i e
    exact keep i _ _ _ h5 (by decide) (by decide)
end Go.Proofs.YtaiiojbakmminaaGreatDoor
namespace Go.Proofs.YtaiiojbakmminaaGreatDoor
open Go Go.RowKit
theorem Gs.row {w wl w1 : World} {q p : Nat} {L : LG} {m : DN} {fb fc : Option Nat} (h : Gs w wl q p L m fb) (hlo : ∀ i, fb = some i → w.heap.size ≤ i) (hg : wl.grownBy w1 fb) (hn : ∀ i, fc = some i → (fb = some i ∨ wl.heap.size ≤ i) ∧ SB w1 i) : Gs w w1 q p L m fc := by
  obtain ⟨b, rb, h1, h2, h3, h4⟩ := h.out
  obtain ⟨rv, k1, k2, k3⟩ := h1.out
  have hq : some q ≠ fb := fun e => by
    obtain ⟨c, fr, h5⟩ := h.fb q e.symm
    exact kind_ne k1.out h5 (by decide) rfl
  have hrb : ∀ k, rb = some k → some k ≠ fb := fun k e e2 => h4 k e2.symm e.symm
  refine ⟨⟨b, rb, ⟨⟨rv, k1.grown hg hq, k2.grown hg hrb, k3.row hg (fun k e => h.fb k e)⟩, h1.q2, h1.p2, h1.b2, h1.r2⟩, h2, h3, fun i e e2 => ?_⟩, ⟨hg.os.trans h.bel.os, hg.tape.trans h.bel.tape, hg.output.trans h.bel.output, Nat.le_trans h.bel.size hg.size, fun k hk => ?_⟩, h.q, h.p, fun i e => (hn i e).2⟩
  · rcases (hn i e).1 with h5 | h5
    · exact h4 i h5 e2
    · have := h1.rlt i e2.symm; omega
  · exact (hg.block k (Nat.lt_of_lt_of_le hk h.bel.size) (fun e => by have := hlo k e.symm; omega)).trans (h.bel.block k hk)
theorem gs_limit {w wl : World} {q p : Nat} {L : LG} {P : PP} {room : Int} {ch : Nat} {fb : Option Nat} (h : Gs w wl q p L (cm P room ch) fb) (hG : Gw w) (r : Int) (hr : 0 ≤ r) :
    Calls Tryz.prog 32 #[.pointer (some ⟨p, 0, none⟩), .int .i64 r] wl fun e w' => e = .returned (.tuple #[]) ∧ Gs w w' q p L (fm P r ch) fb ∧ Kp wl w' fb := by
  have := gs_room h hG r rfl
  rw [decide_eq_true hr] at this
  exact this
theorem gs_free {w wl : World} {q p : Nat} {L : LG} {P : PP} {room : Int} {ch : Nat} {fb : Option Nat} (h : Gs w wl q p L (fm P room ch) fb) (hG : Gw w) :
    Calls Tryz.prog 32 #[.pointer (some ⟨p, 0, none⟩), .int .i64 (-1)] wl fun e w' => e = .returned (.tuple #[]) ∧ Gs w w' q p L (cm P (-1) ch) fb ∧ Kp wl w' fb := gs_room h hG (-1) rfl
end Go.Proofs.YtaiiojbakmminaaGreatDoor
