/- A log on a disk with a planned fall: Add, Reset, and what there is behind. A log that a law plays while a fall is planned: what the calls leave, and what is kept. -/
import Derived.Test.YtaiiojbakmminaaGreatDoorWpk
import Derived.Test.YtaiiojbakmminaaGreatDoorWac
namespace Go.Proofs.YtaiiojbakmminaaGreatDoor
open Go Go.RowKit
/-- Only one generation's files, taken for any that are there. -/
theorem dx_part {P P' : PP} {g : Nat} {bt : B} {txs : List B} (h : Dx P g bt txs) (h' : RisP P') (hn : ∀ n, getP n P' = getP n P ∨ (getP n P' = none ∧ othK g n = true)) : Dx P' g bt txs := by
  have h2 := h.g2
  have h3 := h.n
  have keep : ∀ n s, getP n P = some s → othK g n = false → getP n P' = some s := fun n s e e2 => by
    rcases hn n with h4 | ⟨_, h4⟩
    · rw [h4, e]
    · rw [e2] at h4; cases h4
  have e := part_filter h.ris h' fun n => (hn n).imp_right And.left
  refine ⟨h', h.g1, h.g2, h.n, keep _ _ h.base ?_, fun i t ht => keep _ _ (h.seg i t ht) ?_, fun x hx => ?_, ?_⟩
  · rw [oth_base h2 h2]; simp
  · rw [oth_seg h2 h2]; simp
  · rw [e] at hx
    exact h.only x (List.mem_filter.1 hx).1
  · rw [e]
    exact Nat.le_trans (List.length_filter_le ..) h.len
theorem used_part {P P' : PP} (h : RisP P) (h' : RisP P') (hn : ∀ n, getP n P' = getP n P ∨ getP n P' = none) : usedP P' ≤ usedP P := by
  rw [part_filter h h' hn]
  exact used_filter _ _
/-- Reset on a disk with a fall that is planned: it is done, or the power fails, and one of both generations is there. -/
theorem reset_pm (L : LG) {P : PP} {bt : B} {txs : List B} (hL : Ld P L.g bt txs) (room : Int) (ch : Nat) (f : FA) (s : B) (l : List B) (hg : L.g < 98) (hf : (ch : Int) ≤ f.at_) :
    (∃ ch', ch' ≤ ch + 110 ∧ (ch' : Int) ≤ f.at_ ∧ resetN L (pm P room ch f) s l = (becL L (L.g + 1) s l, (pm [(baseN (L.g + 1), frs [s] ++ frs l)] room ch' f, 0))) ∨
    (∃ L' P' ch', ch' ≤ ch + 110 ∧ resetN L (pm P room ch f) s l = (L', (dm P' room ch', 7)) ∧ usedP P' ≤ usedP P + (frs [s] ++ frs l).length ∧ (Dx P' L.g bt txs ∨ Dx P' (L.g + 1) (frs [s] ++ frs l) [])) := by
  have h := hL.ris
  have hP := ld_ok hL
  have hlen := hL.len
  have htx := hL.n
  have hg1 := hL.g1
  have hwu : usedP P ≤ usedP P + (frs [s] ++ frs l).length := Nat.le_add_right _ _
  by_cases f1 : f.at_ = (ch : Int)
  · refine .inr ⟨L, P, ch, by omega, ?_, hwu, .inl (ld_dx hL)⟩
    unfold resetN
    rw [wri_pm, if_pos f1, if_pos (by simp)]
  have w0 : wriN (pm P room ch f) (newN (L.g + 1)) (frs [s] ++ frs l) = (⟨lay (newN (L.g + 1)) (some (frs [s] ++ frs l)) 2 (mk P), false, false, room, ch + 1, some f⟩, 0) := by rw [wri_pm, if_neg f1]
  have s1 : synN (wriN (pm P room ch f) (newN (L.g + 1)) (frs [s] ++ frs l)).1 = (pm (putP (newN (L.g + 1)) (some (frs [s] ++ frs l)) P) room (ch + 1) f, 0) := by
    rw [w0]
    show synN ⟨lay (newN (L.g + 1)) (some (frs [s] ++ frs l)) 2 (mk P), false, false, room, ch + 1, some f⟩ = _
    rw [syn_pm, lay_now _ _ 2 _ (ris_mk.2 h), now_mk]
  have w1 : (wriN (pm P room ch f) (newN (L.g + 1)) (frs [s] ++ frs l)).2 = 0 := by rw [w0]
  have r1 : RisP (putP (newN (L.g + 1)) (some (frs [s] ++ frs l)) P) := putP_ris h
  have okn : okN (newN (L.g + 1)) = true := (WN.new _ (by omega)).ok
  have okb : okN (baseN (L.g + 1)) = true := (WN.base _ (by omega)).ok
  have p1 : ∀ x ∈ putP (newN (L.g + 1)) (some (frs [s] ++ frs l)) P, okN x.1 = true := putP_names (q := fun n => okN n = true) hP (fun _ => okn)
  have u1 := usedP_put (n := newN (L.g + 1)) (c := some (frs [s] ++ frs l)) h
  have l1 := putP_len (n := newN (L.g + 1)) (c := some (frs [s] ++ frs l)) (P := P)
  have ek : (kbyt (some (frs [s] ++ frs l))).length = (frs [s] ++ frs l).length := rfl
  rw [ek] at u1
  have hD1 : Dx (putP (newN (L.g + 1)) (some (frs [s] ++ frs l)) P) L.g bt txs := by
    refine ⟨r1, hL.g1, hL.g2, hL.n, ?_, fun i t ht => ?_, fun x hx => ?_, by omega⟩
    · rw [getP_put, if_neg (base_new (by omega))]; exact hL.base
    · rw [getP_put, if_neg (fun e => new_seg _ _ _ e.symm)]; exact hL.seg i t ht
    · refine putP_names (q := fun n => n = baseN L.g ∨ (∃ i, i < txs.length ∧ n = segN L.g (i + 1)) ∨ Oth L.g n) (fun y hy => ?_) (fun _ => .inr (.inr (.new _ (by omega)))) x hx
      exact (hL.only y hy).imp_right .inl
  generalize hP1 : putP (newN (L.g + 1)) (some (frs [s] ++ frs l)) P = P1 at *
  have hget : getP (newN (L.g + 1)) P1 = some (frs [s] ++ frs l) := by rw [← hP1, getP_put, if_pos rfl]
  by_cases f2 : f.at_ = ((ch + 1 : Nat) : Int)
  · refine .inr ⟨L, P1, ch + 1, by omega, ?_, by omega, .inl hD1⟩
    unfold resetN
    rw [if_neg (by simp [w1]), s1, if_neg (by simp)]
    show (if (movN (pm P1 room (ch + 1) f) (newN (L.g + 1)) (baseN (L.g + 1))).2 ≠ 0 then _ else _) = _
    rw [mov_pm r1, if_pos f2, if_pos (by simp)]
  have m0 : movN (pm P1 room (ch + 1) f) (newN (L.g + 1)) (baseN (L.g + 1)) = (⟨lay (baseN (L.g + 1)) (some (frs [s] ++ frs l)) 3 (lay (newN (L.g + 1)) none 3 (mk P1)), false, false, room, ch + 1 + 1, some f⟩, 0) := by rw [mov_pm r1, if_neg f2, hget]
  have s2 : synN (movN (pm P1 room (ch + 1) f) (newN (L.g + 1)) (baseN (L.g + 1))).1 = (pm (putP (baseN (L.g + 1)) (some (frs [s] ++ frs l)) (putP (newN (L.g + 1)) none P1)) room (ch + 1 + 1) f, 0) := by
    rw [m0]
    show synN ⟨lay (baseN (L.g + 1)) (some (frs [s] ++ frs l)) 3 (lay (newN (L.g + 1)) none 3 (mk P1)), false, false, room, ch + 1 + 1, some f⟩ = _
    rw [syn_pm, lay_now _ _ 3 _ (lay_ris r1 p1 okn), lay_now _ _ 3 _ (ris_mk.2 r1), now_mk]
  have w2 : (movN (pm P1 room (ch + 1) f) (newN (L.g + 1)) (baseN (L.g + 1))).2 = 0 := by rw [m0]
  have r2 : RisP (putP (newN (L.g + 1)) none P1) := putP_ris r1
  have u2 := usedP_put (n := newN (L.g + 1)) (c := none) r1
  have u3 := usedP_put (n := baseN (L.g + 1)) (c := some (frs [s] ++ frs l)) r2
  rw [hget] at u2
  rw [ek] at u2 u3
  have ek0 : (kbyt none).length = 0 := rfl
  rw [ek0] at u2
  have l2 : (putP (newN (L.g + 1)) none P1).length ≤ P1.length := List.length_filter_le ..
  have l3 := putP_len (n := baseN (L.g + 1)) (c := some (frs [s] ++ frs l)) (P := putP (newN (L.g + 1)) none P1)
  have p2 : ∀ x ∈ putP (baseN (L.g + 1)) (some (frs [s] ++ frs l)) (putP (newN (L.g + 1)) none P1), okN x.1 = true := putP_names (q := fun n => okN n = true) (putP_names (q := fun n => okN n = true) p1 (fun e => by cases e)) (fun _ => okb)
  have hgetQ : ∀ n, getP n (putP (baseN (L.g + 1)) (some (frs [s] ++ frs l)) (putP (newN (L.g + 1)) none P1)) = if n = baseN (L.g + 1) then some (frs [s] ++ frs l) else if n = newN (L.g + 1) then none else getP n P := fun n => by
    rw [getP_put, getP_put, ← hP1, getP_put]
    split
    · rfl
    · split <;> rfl
  have rQ := putP_ris (n := baseN (L.g + 1)) (c := some (frs [s] ++ frs l)) r2
  have hD2 : Dx (putP (baseN (L.g + 1)) (some (frs [s] ++ frs l)) (putP (newN (L.g + 1)) none P1)) (L.g + 1) (frs [s] ++ frs l) [] := by
    refine ⟨rQ, by omega, by omega, by simp, ?_, fun i t ht => by simp at ht, fun x hx => ?_, by omega⟩
    · rw [hgetQ, if_pos rfl]
    · have h5 := (getP_mem rQ).2 hx
      rw [hgetQ] at h5
      by_cases e1 : x.1 = baseN (L.g + 1)
      · exact .inl e1
      · rw [if_neg e1] at h5
        by_cases e2 : x.1 = newN (L.g + 1)
        · rw [if_pos e2] at h5; cases h5
        · rw [if_neg e2] at h5
          rcases hL.only _ ((getP_mem h).1 h5) with e3 | ⟨i, hi, e3⟩
          · rw [e3]; exact .inr (.inr (.base _ hg1 (by omega)))
          · rw [e3]; exact .inr (.inr (.seg _ _ (by omega) (by omega) (by omega)))
  generalize putP (baseN (L.g + 1)) (some (frs [s] ++ frs l)) (putP (newN (L.g + 1)) none P1) = Q at *
  have hf2 : ((ch + 1 + 1 : Nat) : Int) ≤ f.at_ := by push_cast at f2 ⊢; omega
  rcases sweep_pm (L.g + 1) rQ p2 room (ch + 1 + 1) f hf2 with ⟨ch', k1, k2, k3⟩ | ⟨P', ch', k1, k2, k3, k4⟩
  · have eQ : (Q.filter fun x => !othK (L.g + 1) x.1) = [(baseN (L.g + 1), frs [s] ++ frs l)] := by
      have h6 := dx_filter hD2
      exact ext_P (rQ.filter _) (by simp [RisP]) fun n => by
        rw [getP_cons, getP_nil]
        by_cases e1 : baseN (L.g + 1) = n
        · rw [if_pos e1, ← e1, h6.base]
        · rw [if_neg e1]
          cases hq : getP n (Q.filter fun x => !othK (L.g + 1) x.1) with
          | none => rfl
          | some t =>
            rcases h6.only _ ((getP_mem h6.ris).1 hq) with e3 | ⟨i, hi, _⟩
            · exact absurd e3.symm e1
            · simp at hi
    rw [eQ] at k3
    refine .inl ⟨ch', by omega, k2, ?_⟩
    unfold resetN
    rw [if_neg (by simp [w1]), s1, if_neg (by simp), if_neg (by simp [w2]), s2, if_neg (by simp), k3]
  · refine .inr ⟨becL L (L.g + 1) s l, P', ch', by omega, ?_, ?_, .inr (dx_part hD2 k3 k4)⟩
    · unfold resetN
      rw [if_neg (by simp [w1]), s1, if_neg (by simp), if_neg (by simp [w2]), s2, if_neg (by simp), k2]
    · have := used_part rQ k3 fun n => (k4 n).imp_right And.left
      omega
end Go.Proofs.YtaiiojbakmminaaGreatDoor
namespace Go.Proofs.YtaiiojbakmminaaGreatDoor
open Go Go.RowKit
/-- Since the world w a law has made a disk at p, with its files in b, and a log at q, with its records in rb. -/
structure Ge (w wl : World) (q p : Nat) (b rb : Option Nat) (L : LG) (m : DN) : Prop where
  k : WK wl q p b rb L m
  bel : Below w.heap.size w wl
  q : w.heap.size ≤ q
  p : w.heap.size ≤ p
  b : ∀ k, b = some k → w.heap.size ≤ k
  rb : ∀ k, rb = some k → w.heap.size ≤ k
theorem Ge.below {w wl wa : World} {q p : Nat} {b rb : Option Nat} {L : LG} {m : DN} (h : Ge w wl q p b rb L m) (hb : Below wl.heap.size wl wa) : Ge w wa q p b rb L m := ⟨h.k.below hb, h.bel.trans (hb.mono h.bel.size), h.q, h.p, h.b, h.rb⟩
theorem Ge.step {w wa w' : World} {q p : Nat} {b rb b' rb' : Option Nat} {L L' : LG} {m m' : DN} (h : Ge w wa q p b rb L m) (hW : Wch wa w' q p b rb b' rb') (hK : WK w' q p b' rb' L' m') : Ge w w' q p b' rb' L' m' := by
  obtain ⟨hlo, hbl, hrl⟩ := wch_low hW h.bel.size h.q h.p h.b h.rb
  exact ⟨hK, h.bel.trans hlo, h.q, h.p, hbl, hrl⟩
/-- A block that is not the other. -/
def Apart (fb rb : Option Nat) : Prop := ∀ i, fb = some i → some i ≠ rb
theorem ts_wch {wa w' : World} {q p : Nat} {b rb b' rb' fb : Option Nat} {L : LG} {m : DN} {v : Value} {l : List B} (hK : WK wa q p b rb L m) (hW : Wch wa w' q p b rb b' rb') (hT : TS wa v fb l) (hs : Apart fb rb) : TS w' v fb l ∧ Apart fb rb' := by
  refine ⟨hT.keep fun i e => ?_, fun i e => hW.sep (hT.lt i e) (hs i e)⟩
  rcases hT.out with ⟨_, hb, _⟩ | ⟨g, o, cap, cur, _, hb, hg, _⟩
  · rw [hb] at e; cases e
  · rw [hb] at e
    cases e
    rw [hW.raw hK hg (by decide) (by decide) (by decide) (.inr (hs _ hb)), ← hg]
theorem pm_okn {L : LG} {P : PP} {lb : List B} {ls : List (List B)} (h : Py L P lb ls) (room : Int) (ch : Nat) (f : FA) (hu : usedP P ≤ 1000000000) (hc : ch ≤ 900000) (hf : (ch : Int) ≤ f.at_) : Okn (pm P room ch f) := by
  have h1 := py_okn h 0 ch hu hc
  exact ⟨h1.l, h1.len, h1.used, h1.ch, (fun e => by cases e), h1.by_, (fun g e => by cases e; exact ⟨hf, rfl, rfl⟩)⟩
theorem ge_add {w wa : World} {q p : Nat} {b rb : Option Nat} {L : LG} {P : PP} {lb : List B} {ls : List (List B)} {room : Int} {ch : Nat} {f : FA} (h : Ge w wa q p b rb L (pm P room ch f)) (hG : Gw w) (hpy : Py L P lb ls) (l : List B) (ad : Option Addr) (cap : Nat) (hT : TA wa ad l) (hs : ∀ a, ad = some a → some a.block ≠ rb)
    (hu : usedP P ≤ 1000000000) (hc : ch ≤ 900000) (hf : (frs l).length ≤ 1000000000) (hr : L.recs.length + l.length ≤ 1000000) (hat : (ch : Int) ≤ f.at_) :
    Calls Tryz.prog 16 #[.pointer (some ⟨q, 0, none⟩), .slice ad l.length cap] wa fun e w' => ∃ (ok : Bool) (b' rb' : Option Nat), e = .returned (.int .i64 (if ok = true then 0 else 7)) ∧ Wch wa w' q p b rb b' rb' ∧ (ok = true → ((ch + 1 : Nat) : Int) ≤ f.at_ ∧ Ge w w' q p b' rb' (addL L l) (pm (addP L P l) room (ch + 1) f)) ∧ (ok = false → Ge w w' q p b' rb' L (dm P room ch)) := by
  have h1 := hpy.ld.len
  have h2 := hpy.ld.n
  have h3 := hpy.segs
  have h4 := py_last hpy
  rw [List.length_map] at h1 h2
  refine (add_any q p b rb L (pm P room ch f) l ad cap wa h.k (hG.below h.bel) ⟨hpy.ld.g2, by omega, by show (mk P).length ≤ _; rw [mk_len]; omega, by show ch ≤ _; omega, by show usedL (mk P) + _ ≤ _; rw [used_mk]; omega, by omega, hr, pm_okn hpy room ch f hu hc hat⟩ hT hs).mono fun e w' hh => ?_
  rw [add_pm L hpy.ld.ris] at hh
  by_cases hq : f.at_ = (ch : Int)
  · rw [if_pos hq] at hh
    obtain ⟨rfl, b', rb', hW, hK⟩ := hh
    exact ⟨false, b', rb', rfl, hW, fun e => (by cases e), fun _ => h.step hW hK⟩
  · rw [if_neg hq] at hh
    obtain ⟨rfl, b', rb', hW, hK⟩ := hh
    exact ⟨true, b', rb', rfl, hW, fun _ => ⟨by push_cast; omega, h.step hW hK⟩, fun e => (by cases e)⟩
theorem ge_reset {w wa : World} {q p : Nat} {b rb : Option Nat} {L : LG} {P : PP} {lb : List B} {ls : List (List B)} {room : Int} {ch : Nat} {f : FA} (h : Ge w wa q p b rb L (pm P room ch f)) (hG : Gw w) (hpy : Py L P lb ls) (s : B) (l : List B) (ad : Option Addr) (cap : Nat) (hT : TA wa ad l) (hs : ∀ a, ad = some a → some a.block ≠ rb)
    (hg : L.g < 98) (hu : usedP P ≤ 1000000000) (hc : ch ≤ 700000) (hf : (frs [s]).length + (frs l).length ≤ 1000000000) (hl : l.length ≤ 1000000) (hat : (ch : Int) ≤ f.at_) :
    Calls Tryz.prog 12 #[.pointer (some ⟨q, 0, none⟩), .string ⟨s.toArray⟩, .slice ad l.length cap] wa fun e w' => ∃ (ok : Bool) (b' rb' : Option Nat), e = .returned (.int .i64 (if ok = true then 0 else 7)) ∧ Wch wa w' q p b rb b' rb' ∧ (ok = true → ∃ ch', ch' ≤ ch + 110 ∧ (ch' : Int) ≤ f.at_ ∧ Ge w w' q p b' rb' (becL L (L.g + 1) s l) (pm [(baseN (L.g + 1), frs [s] ++ frs l)] room ch' f)) ∧
      (ok = false → ∃ L' P' ch', ch' ≤ ch + 110 ∧ usedP P' ≤ usedP P + (frs [s] ++ frs l).length ∧ (Dx P' L.g (frs (L.snap :: lb)) (ls.map frs) ∨ Dx P' (L.g + 1) (frs [s] ++ frs l) []) ∧ Ge w w' q p b' rb' L' (dm P' room ch')) := by
  have h1 := hpy.ld.len
  have h2 := hpy.ld.n
  refine (reset_any q p b rb L (pm P room ch f) s l ad cap wa h.k (hG.below h.bel) ⟨by omega, by show (mk P).length ≤ _; rw [mk_len]; omega, by show ch ≤ _; omega, by show usedL (mk P) + _ ≤ _; rw [used_mk]; omega, pm_okn hpy room ch f hu (by omega) hat⟩ hT hs hl).mono fun e w' hh => ?_
  rcases reset_pm L hpy.ld room ch f s l hg hat with ⟨ch', k1, k2, k3⟩ | ⟨L', P', ch', k1, k2, k3, k4⟩
  · rw [k3] at hh
    obtain ⟨rfl, b', rb', hW, hK⟩ := hh
    exact ⟨true, b', rb', rfl, hW, fun _ => ⟨ch', k1, k2, h.step hW hK⟩, fun e => (by cases e)⟩
  · rw [k2] at hh
    obtain ⟨rfl, b', rb', hW, hK⟩ := hh
    exact ⟨false, b', rb', rfl, hW, fun e => (by cases e), fun _ => ⟨L', P', ch', k1, k3, k4, h.step hW hK⟩⟩
/-- What a call on the disk, or an opening, keeps. -/
structure Ko (wl w' : World) : Prop where
  size : wl.heap.size ≤ w'.heap.size
  blk : ∀ (i : Nat) (c : Array Value) (t : TypeId) (fr : Nat × Nat), wl.heap[i]? = some (Obj.cells c t fr) → t ≠ 61 → t ≠ 93 → w'.heap[i]? = some (Obj.cells c t fr)
theorem Ko.ts {wl w' : World} {fb : Option Nat} {v : Value} {l : List B} (h : Ko wl w') (hT : TS wl v fb l) : TS w' v fb l := hT.keep fun i e => by
  rcases hT.out with ⟨_, hb, _⟩ | ⟨g, o, cap, cur, _, hb, hg, _⟩
  · rw [hb] at e; cases e
  · rw [hb] at e
    cases e
    rw [h.blk _ _ _ _ hg (by decide) (by decide), hg]
theorem Ko.of {wl w' : World} (h : Below wl.heap.size wl w') : Ko wl w' := ⟨h.size, fun i _ _ _ hb _ _ => (h.block i (Array.getElem?_eq_some_iff.1 hb).1).trans hb⟩
theorem Ko.trans {a b c : World} (h : Ko a b) (k : Ko b c) : Ko a c := ⟨Nat.le_trans h.size k.size, fun i cc t fr hb h1 h2 => k.blk i cc t fr (h.blk i cc t fr hb h1 h2) h1 h2⟩
theorem Ko.b {wl w' : World} {i : Nat} {c : Array Value} {t : TypeId} (h : Ko wl w') (hb : Blk wl i c t) (h1 : t ≠ 61) (h2 : t ≠ 93) : Blk w' i c t := ⟨h.blk i c t _ hb.out h1 h2⟩
/-- The disk of a log changes by itself. -/
theorem ge_disk {w wl w' : World} {q p : Nat} {b rb b' : Option Nat} {L : LG} {m m' : DN} (h : Ge w wl q p b rb L m) (hG : Gw w) (hc : Chg wl w' p b b') (hD : DD w' p b' m') : Ge w w' q p b' rb L m' ∧ Ko wl w' := by
  refine ⟨h.step (Wch.chg hc) (h.k.disk (hG.below h.bel).two hc hD), hc.size, fun i c t fr hb h1 h2 => ?_⟩
  obtain ⟨_, ⟨c2, f2, k2⟩, k3, _⟩ := h.k.kinds
  exact (hc.block i (Array.getElem?_eq_some_iff.1 hb).1 (kind_ne hb k2 h1) (fun e => by obtain ⟨c3, f3, k5⟩ := k3 i e.symm; exact kind_ne hb k5 h2 rfl)).trans hb
theorem ge_dd {w wl : World} {q p : Nat} {b rb : Option Nat} {L : LG} {m : DN} (h : Ge w wl q p b rb L m) : DD wl p b m := by
  obtain ⟨rv, _, _, hD⟩ := h.k.out
  exact hD
/-- Crash of a disk of which nothing is loose. -/
theorem ge_crash {w wl : World} {q p : Nat} {b rb : Option Nat} {L : LG} {m : DN} {P : PP} (h : Ge w wl q p b rb L m) (hG : Gw w) (hm : m.l = mk P) (hlen : P.length ≤ 900000) (hu : usedP P ≤ 1000000000) (z k : Int) :
    Calls Tryz.prog 14 #[.pointer (some ⟨p, 0, none⟩), .int .i64 z, .int .i64 k] wl fun e w' => e = .returned (.tuple #[]) ∧ ∃ b', Ge w w' q p b' rb L { m with dead := true } ∧ Ko wl w' := by
  obtain ⟨v, hK, hP⟩ := (ge_dd h).out
  have hby : ∀ f ∈ m.l, (kbyt f.is).length ≤ 1000000000000 ∧ (kbyt f.sure).length ≤ 1000000000000 := fun f hf => by
    rw [hm] at hf
    obtain ⟨x, hx, rfl⟩ := List.mem_map.1 hf
    have h1 : x.2.length ≤ usedP P := by
      clear hm hlen hu hf
      induction P with
      | nil => cases hx
      | cons y r ih =>
        have e : usedP (y :: r) = y.2.length + usedP r := by simp [usedP]
        rw [e]
        rcases List.mem_cons.1 hx with rfl | h2
        · omega
        · have := ih h2; omega
    have e : (kbyt (some x.2)).length = x.2.length := rfl
    show (kbyt (some x.2)).length ≤ _ ∧ (kbyt (some x.2)).length ≤ _
    omega
  refine (crash_any p b (m.lo v) z k wl hK (by show m.l.length ≤ _; rw [hm, mk_len]; omega) hby).mono ?_
  rintro e w' ⟨rfl, b', hC, hD'⟩
  have e2 : craD (m.lo v) z k = ({ m with dead := true } : DN).lo v := by
    unfold craD
    split
    · rename_i hd
      have hd : m.dead = true := hd
      show m.lo v = _
      obtain ⟨a1, a2, a3, a4, a5, a6⟩ := m
      simp only at hd
      subst hd
      rfl
    · show (⟨settleL (failL z k m.l), true, m.lim, m.room, m.ch, v⟩ : DM) = ⟨m.l, true, m.lim, m.room, m.ch, v⟩
      rw [hm, fail_mk]
  rw [e2] at hD'
  exact ⟨rfl, b', ge_disk h hG hC ⟨v, hD', hP.chg hC hK⟩⟩
theorem ge_up {w wl : World} {q p : Nat} {b rb : Option Nat} {L : LG} {m : DN} (h : Ge w wl q p b rb L m) (hG : Gw w) :
    Calls Tryz.prog 15 #[.pointer (some ⟨p, 0, none⟩)] wl fun e w' => e = .returned (.bool m.dead) ∧ Ge w w' q p b rb L { m with dead := false } ∧ Ko wl w' := by
  obtain ⟨v, hK, hP⟩ := (ge_dd h).out
  refine (up_any p b (m.lo v) wl hK).mono ?_
  rintro e w' ⟨rfl, hC, hD'⟩
  exact ⟨rfl, ge_disk h hG hC ⟨v, hD', hP.chg hC hK⟩⟩
theorem ge_plan0 {w wl : World} {q p : Nat} {b rb : Option Nat} {L : LG} {m : DN} (h : Ge w wl q p b rb L m) (hG : Gw w) :
    Calls Tryz.prog 22 #[.pointer (some ⟨p, 0, none⟩), .slice none 0 0] wl fun e w' => e = .returned (.tuple #[]) ∧ Ge w w' q p b rb L { m with pl := none } ∧ Ko wl w' := by
  refine (plan_nil p b m wl (ge_dd h)).mono ?_
  rintro e w' ⟨rfl, hC, hD'⟩
  exact ⟨rfl, ge_disk h hG hC hD'⟩
theorem ge_plan1 {w wl : World} {q p g : Nat} {b rb : Option Nat} {L : LG} {m : DN} (h : Ge w wl q p b rb L m) (hG : Gw w) (f : FA) (hg : Blk wl g (faA f) 32) :
    Calls Tryz.prog 22 #[.pointer (some ⟨p, 0, none⟩), .slice (some ⟨g, 0, none⟩) 1 1] wl fun e w' => e = .returned (.tuple #[]) ∧ Ge w w' q p b rb L { m with pl := some f } ∧ Ko wl w' := by
  refine (plan_one p g b m f wl (ge_dd h) hg).mono ?_
  rintro e w' ⟨rfl, hC, hD'⟩
  exact ⟨rfl, ge_disk h hG hC hD'⟩
theorem ge_dead {w wl : World} {q p : Nat} {b rb : Option Nat} {L : LG} {m : DN} (h : Ge w wl q p b rb L m) :
    Calls Tryz.prog 23 #[.pointer (some ⟨p, 0, none⟩)] wl fun e w' => e = .returned (.bool m.dead) ∧ w' = wl := by
  obtain ⟨v, hK, hP⟩ := (ge_dd h).out
  obtain ⟨sl, hB, _, _⟩ := hK.out
  exact dead_any p sl (m.lo v) wl hB
theorem ge_changes {w wl : World} {q p : Nat} {b rb : Option Nat} {L : LG} {m : DN} (h : Ge w wl q p b rb L m) :
    Calls Tryz.prog 21 #[.pointer (some ⟨p, 0, none⟩)] wl fun e w' => e = .returned (.int .i64 (m.ch : Nat)) ∧ w' = wl := by
  obtain ⟨v, hK, hP⟩ := (ge_dd h).out
  obtain ⟨sl, hB, _, _⟩ := hK.out
  exact changes_any p sl (m.lo v) wl hB
/-- A synced disk from which the snapshot s and the records k are read. -/
structure Fk (P : PP) (s : B) (k : List B) : Prop where
  out : ∃ g lb txs, Dx P g (frs (s :: lb)) txs ∧ (∀ t ∈ txs, (unfT t).2 = t.length) ∧ k = lb ++ (txs.map fun t => (unfT t).1).flatten
theorem fk_dx {L : LG} {P P' : PP} {lb : List B} {ls : List (List B)} (h : Py L P lb ls) (hX : Dx P' L.g (frs (L.snap :: lb)) (ls.map frs)) : Fk P' L.snap L.recs := by
  have hun := unf_all h.short
  exact ⟨L.g, lb, ls.map frs, hX, fun t ht => by
    obtain ⟨k, hk, rfl⟩ := List.mem_map.1 ht
    rw [hun k hk], by rw [map_unf hun]; exact h.recs⟩
theorem fk_py {L : LG} {P : PP} {lb : List B} {ls : List (List B)} (h : Py L P lb ls) : Fk P L.snap L.recs := fk_dx h (ld_dx h.ld)
theorem fk_reset {P : PP} {g : Nat} {s : B} {l : List B} (h : Dx P g (frs [s] ++ frs l) []) : Fk P s l := by
  have e : frs (s :: l) = frs [s] ++ frs l := frs_app [s] l
  rw [← e] at h
  exact ⟨g, l, [], h, fun t ht => (by cases ht), by simp⟩
/-- Open of such a disk: a log that stands so, on a disk that does. -/
theorem ge_open {w wl : World} {q p : Nat} {b rb : Option Nat} {L : LG} {P : PP} {room : Int} {ch : Nat} {s : B} {k : List B} (h : Ge w wl q p b rb L (cm P room ch)) (hG : Gw w) (hF : Fk P s k) (z : Int) (hz : 1 ≤ z) (hc : ch ≤ 800000) (hu : usedP P ≤ 4000000) (hk : k.length ≤ 400000) :
    Calls Tryz.prog 10 #[.pointer (some ⟨p, 0, none⟩), .int .i64 z] wl fun e w' => ∃ q' b' rb' L' P' ch', e = .returned (.tuple #[.pointer (some ⟨q', 0, none⟩), .int .i64 0, .int .i64 0]) ∧ L'.snap = s ∧ L'.recs = k ∧ Fk P' s k ∧ usedP P' ≤ usedP P ∧ ch' ≤ ch + 300 ∧ Ge w w' q' p b' rb' L' (cm P' room ch') ∧ Ko wl w' ∧ (∀ i, rb' = some i → wl.heap.size ≤ i) := by
  obtain ⟨g, lb, txs, hX, hun, hrec⟩ := hF.out
  have hkl : lb.length + ((txs.map fun t => (unfT t).1).flatten).length ≤ 400000 := by
    rw [hrec, List.length_append] at hk
    exact hk
  obtain ⟨ch', hc', HO⟩ := open_dx p g b room ch z P s lb txs hz wl hX (ge_dd h) h.k.p2 h.k.b2 (hG.below h.bel) hc hu hun (by omega) (by omega)
  refine HO.mono ?_
  intro e w' hop
  obtain ⟨q', b', rb', rfl, hq, hW, hK⟩ := op_ok hop
  obtain ⟨hlo, hbl, hrl⟩ := wch_low hW h.bel.size (Nat.le_trans h.bel.size hq) h.p h.b (fun k e => by cases e)
  obtain ⟨_, ⟨c2, f2, k2⟩, k3, _⟩ := h.k.kinds
  refine ⟨q', b', rb', _, _, ch', rfl, ?_, ?_, ?_, used_filter _ _, hc', ⟨hK, h.bel.trans hlo, Nat.le_trans h.bel.size hq, h.p, hbl, hrl⟩, ⟨hW.size, fun i c t fr hb n2 n3 => ?_⟩, fun i e => ?_⟩
  · unfold segL; rfl
  · rw [hrec]
    unfold segL
    show lb ++ ((txs.take txs.length).map fun t => (unfT t).1).flatten = _
    rw [List.take_length]
  · exact ⟨g, lb, txs, ld_dx (dx_filter hX), hun, hrec⟩
  · have hi := (Array.getElem?_eq_some_iff.1 hb).1
    exact (hW.block i hi (by omega) (kind_ne hb k2 n2) (fun e => by obtain ⟨c3, f3, k5⟩ := k3 i e.symm; exact kind_ne hb k5 n3 rfl) (fun e => by cases e)).trans hb
  · rcases hW.newr i e with h5 | h5
    · cases h5
    · exact h5
end Go.Proofs.YtaiiojbakmminaaGreatDoor
