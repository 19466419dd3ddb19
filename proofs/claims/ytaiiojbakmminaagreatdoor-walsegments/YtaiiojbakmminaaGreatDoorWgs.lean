/- A log that a law plays on its disk: what is kept from call to call. -/
import Derived.Test.YtaiiojbakmminaaGreatDoorWpr
namespace Go.Proofs.YtaiiojbakmminaaGreatDoor
open Go Go.RowKit
/-- A block of texts. -/
def SB (w : World) (i : Nat) : Prop := ∃ c fr, w.heap[i]? = some (.cells c 9 fr)
theorem SB.lt {w : World} {i : Nat} (h : SB w i) : i < w.heap.size := by
  obtain ⟨c, fr, h1⟩ := h
  exact (Array.getElem?_eq_some_iff.1 h1).1
theorem SB.below {w w' : World} {i : Nat} (h : SB w i) (hb : Below w.heap.size w w') : SB w' i := by
  obtain ⟨c, fr, h1⟩ := h
  exact ⟨c, fr, (hb.block i (Array.getElem?_eq_some_iff.1 h1).1).trans h1⟩
theorem TS.sb {w : World} {v : Value} {b : Option Nat} {l : List B} (h : TS w v b l) : ∀ i, b = some i → SB w i := fun i e => by
  rcases h.out with ⟨_, hb, _⟩ | ⟨g, o, cap, cur, _, hb, hg, _⟩
  · rw [hb] at e; cases e
  · rw [hb] at e
    cases e
    exact ⟨_, _, hg⟩
/-- Since the world w a law has made a disk at p and a log at q; block fb is none of theirs. -/
structure Gs (w wl : World) (q p : Nat) (L : LG) (m : DN) (fb : Option Nat) : Prop where
  out : ∃ b rb, WK wl q p b rb L m ∧ (∀ k, b = some k → w.heap.size ≤ k) ∧ (∀ k, rb = some k → w.heap.size ≤ k) ∧ (∀ i, fb = some i → some i ≠ rb)
  bel : Below w.heap.size w wl
  q : w.heap.size ≤ q
  p : w.heap.size ≤ p
  fb : ∀ i, fb = some i → SB wl i
/-- What a call on the log or its disk keeps. -/
structure Kp (wl w' : World) (fb : Option Nat) : Prop where
  size : wl.heap.size ≤ w'.heap.size
  fb : ∀ i, fb = some i → w'.heap[i]? = wl.heap[i]?
  blk : ∀ i c t, Blk wl i c t → t ≠ 64 → t ≠ 61 → t ≠ 93 → t ≠ 9 → Blk w' i c t
theorem Kp.ts {wl w' : World} {fb : Option Nat} {v : Value} {l : List B} (h : Kp wl w' fb) (hT : TS wl v fb l) : TS w' v fb l := hT.keep h.fb
theorem Gs.below {w wl wa : World} {q p : Nat} {L : LG} {m : DN} {fb : Option Nat} (h : Gs w wl q p L m fb) (hb : Below wl.heap.size wl wa) : Gs w wa q p L m fb := by
  obtain ⟨b, rb, h1, h2, h3, h4⟩ := h.out
  exact ⟨⟨b, rb, h1.below hb, h2, h3, h4⟩, h.bel.trans (hb.mono h.bel.size), h.q, h.p, fun i e => (h.fb i e).below hb⟩
/-- Another block is the one that stands apart. -/
theorem Gs.other {w wl wa : World} {q p : Nat} {L : LG} {m : DN} {fb fc : Option Nat} (h : Gs w wl q p L m fb) (hb : Below wl.heap.size wl wa) (hn : ∀ i, fc = some i → (fb = some i ∨ wl.heap.size ≤ i) ∧ SB wa i) : Gs w wa q p L m fc := by
  obtain ⟨b, rb, h1, h2, h3, h4⟩ := h.out
  refine ⟨⟨b, rb, h1.below hb, h2, h3, fun i e e2 => ?_⟩, h.bel.trans (hb.mono h.bel.size), h.q, h.p, fun i e => (hn i e).2⟩
  rcases (hn i e).1 with h5 | h5
  · exact h4 i h5 e2
  · have := h1.rlt i e2.symm; omega
theorem Gs.step {w wl wa w' : World} {q p : Nat} {L L' : LG} {m m' : DN} {fb b rb b' rb' : Option Nat} (h : Gs w wl q p L m fb) (h1 : WK wl q p b rb L m) (h2 : ∀ k, b = some k → w.heap.size ≤ k) (h3 : ∀ k, rb = some k → w.heap.size ≤ k) (h4 : ∀ i, fb = some i → some i ≠ rb)
    (hB : Below wl.heap.size wl wa) (hW : Wch wa w' q p b rb b' rb') (hK : WK w' q p b' rb' L' m') : Gs w w' q p L' m' fb ∧ Kp wl w' fb := by
  have hKa := h1.below hB
  have hba := h.bel.trans (hB.mono h.bel.size)
  obtain ⟨hlo, hbl, hrl⟩ := wch_low hW hba.size h.q h.p h2 h3
  have keep : ∀ i, fb = some i → w'.heap[i]? = wl.heap[i]? := fun i e => by
    have hs := h.fb i e
    obtain ⟨c, fr, h5⟩ := hs.below hB
    rw [hW.raw hKa h5 (by decide) (by decide) (by decide) (.inr (fun e2 => h4 i e e2)), ← h5]
    exact hB.block i hs.lt
  refine ⟨⟨⟨b', rb', hK, hbl, hrl, fun i e e2 => ?_⟩, hba.trans hlo, h.q, h.p, fun i e => ?_⟩, ⟨Nat.le_trans hB.size hW.size, keep, fun i c t hb n1 n2 n3 n4 => hW.blk hKa (hb.belowSize hB) n1 n2 n3 (.inl n4)⟩⟩
  · rcases hW.newr i e2.symm with h5 | h5
    · exact h4 i e h5.symm
    · have := (h.fb i e).lt; have := hB.size; omega
  · obtain ⟨c, fr, h5⟩ := h.fb i e
    exact ⟨c, fr, (keep i e).trans h5⟩
theorem ta_blk {w : World} {g : Nat} {x : B} (h : Blk w g #[.string ⟨x.toArray⟩] 9) : TA w (some ⟨g, 0, none⟩) [x] := ⟨.inr ⟨g, 0, #[.string ⟨x.toArray⟩], (0, 0), rfl, h.out, fun j y hy => by
  match j, hy with
  | 0, hy => simp at hy; subst hy; rfl
  | j + 1, hy => simp at hy⟩⟩
theorem gs_add {w wl wa : World} {q p : Nat} {L : LG} {P : PP} {lb : List B} {ls : List (List B)} {room : Int} {ch : Nat} {fb : Option Nat} (h : Gs w wl q p L (cm P room ch) fb) (hG : Gw w) (hpy : Py L P lb ls) (hB : Below wl.heap.size wl wa) (l : List B) (ad : Option Addr) (cap : Nat) (hT : TA wa ad l)
    (hs : ∀ a, ad = some a → fb = some a.block ∨ wl.heap.size ≤ a.block) (hu : usedP P ≤ 1000000000) (hc : ch ≤ 900000) (hf : (frs l).length ≤ 1000000000) (hr : L.recs.length + l.length ≤ 1000000) :
    Calls Tryz.prog 16 #[.pointer (some ⟨q, 0, none⟩), .slice ad l.length cap] wa fun e w' => e = .returned (.int .i64 0) ∧ Gs w w' q p (addL L l) (cm (addP L P l) room (ch + 1)) fb ∧ Kp wl w' fb := by
  obtain ⟨b, rb, h1, h2, h3, h4⟩ := h.out
  have hba := h.bel.trans (hB.mono h.bel.size)
  refine (add_py hpy q p b rb room ch l ad cap wa (h1.below hB) (hG.below hba) hT (fun a e e2 => ?_) hu hc hf hr).mono ?_
  · rcases hs a e with h5 | h5
    · exact h4 _ h5 e2
    · have := h1.rlt _ e2.symm; omega
  · rintro e w' ⟨rfl, b', rb', hW, hK⟩
    exact ⟨rfl, h.step h1 h2 h3 h4 hB hW hK⟩
theorem gs_reset {w wl wa : World} {q p : Nat} {L : LG} {P : PP} {lb : List B} {ls : List (List B)} {room : Int} {ch : Nat} {fb : Option Nat} (h : Gs w wl q p L (cm P room ch) fb) (hG : Gw w) (hpy : Py L P lb ls) (hB : Below wl.heap.size wl wa) (s : B) (l : List B) (ad : Option Addr) (cap : Nat) (hT : TA wa ad l)
    (hs : ∀ a, ad = some a → fb = some a.block ∨ wl.heap.size ≤ a.block) (hg : L.g < 98) (hu : usedP P ≤ 1000000000) (hc : ch ≤ 700000) (hf : (frs [s]).length + (frs l).length ≤ 1000000000) (hl : l.length ≤ 1000000) :
    ∃ ch', ch' ≤ ch + 110 ∧ Calls Tryz.prog 12 #[.pointer (some ⟨q, 0, none⟩), .string ⟨s.toArray⟩, .slice ad l.length cap] wa fun e w' => e = .returned (.int .i64 0) ∧ Gs w w' q p (becL L (L.g + 1) s l) (cm [(baseN (L.g + 1), frs [s] ++ frs l)] room ch') fb ∧ Kp wl w' fb := by
  obtain ⟨b, rb, h1, h2, h3, h4⟩ := h.out
  have hba := h.bel.trans (hB.mono h.bel.size)
  obtain ⟨ch', k1, k2⟩ := reset_py hpy q p b rb room ch s l ad cap wa (h1.below hB) (hG.below hba) hT (fun a e e2 => by
    rcases hs a e with h5 | h5
    · exact h4 _ h5 e2
    · have := h1.rlt _ e2.symm; omega) hg hu hc hf hl
  refine ⟨ch', k1, k2.mono ?_⟩
  rintro e w' ⟨rfl, b', rb', hW, hK⟩
  exact ⟨rfl, h.step h1 h2 h3 h4 hB hW hK⟩
theorem gs_wk {w wl : World} {q p : Nat} {L : LG} {m : DN} {fb : Option Nat} (h : Gs w wl q p L m fb) : ∃ b rb, WK wl q p b rb L m := by
  obtain ⟨b, rb, h1, _⟩ := h.out
  exact ⟨b, rb, h1⟩
/-- The first log of a law: a new disk, and Open. -/
theorem gs_first {w w1 w2 : World} {q p : Nat} {b2 rb2 : Option Nat} {L : LG} {m : DN} (h1 : Below w.heap.size w w1) (hp : w.heap.size ≤ p) (hq : w1.heap.size ≤ q) (hW : Wch w1 w2 q p none none b2 rb2) (hK : WK w2 q p b2 rb2 L m) : Gs w w2 q p L m none := by
  obtain ⟨hlo, hbl, hrl⟩ := wch_low hW h1.size (Nat.le_trans h1.size hq) hp (fun k e => by cases e) (fun k e => by cases e)
  exact ⟨⟨b2, rb2, hK, hbl, hrl, fun i e => by cases e⟩, h1.trans hlo, Nat.le_trans h1.size hq, hp, fun i e => by cases e⟩
theorem gs_names {w wl : World} {q p : Nat} {L : LG} {m : DN} {fb : Option Nat} (h : Gs w wl q p L m fb) (hl : m.l.length ≤ 1000000) :
    Calls Tryz.prog 29 #[.pointer (some ⟨p, 0, none⟩)] wl fun e w' => ∃ sl, e = .returned sl ∧ Below wl.heap.size wl w' ∧ XL w' wl.heap.size sl (namesL m.l) := by
  obtain ⟨b, rb, h1, h2, h3, h4⟩ := h.out
  obtain ⟨rv, _, _, hD⟩ := h1.out
  obtain ⟨v, hK, hP⟩ := hD.out
  exact names_any p b (m.lo v) wl hK hl
end Go.Proofs.YtaiiojbakmminaaGreatDoor
