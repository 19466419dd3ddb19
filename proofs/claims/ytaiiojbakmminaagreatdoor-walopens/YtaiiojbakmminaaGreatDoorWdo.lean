/- A disk without a log that a law plans falls on, and a log of its clone. -/
import Derived.Test.YtaiiojbakmminaaGreatDoorWpl
import Derived.Test.YtaiiojbakmminaaGreatDoorKCl2
namespace Go.Proofs.YtaiiojbakmminaaGreatDoor
open Go Go.RowKit
/-- Since the world w a law has made a disk at p. -/
structure De (w wl : World) (p : Nat) (m : DN) : Prop where
  out : ∃ b, DD wl p b m ∧ ∀ j, b = some j → w.heap.size ≤ j
  bel : Below w.heap.size w wl
  p : w.heap.size ≤ p
theorem De.below {w wl wa : World} {p : Nat} {m : DN} (h : De w wl p m) (hb : Below wl.heap.size wl wa) : De w wa p m := by
  obtain ⟨b, h1, h2⟩ := h.out
  exact ⟨⟨b, h1.below hb, h2⟩, h.bel.trans (hb.mono h.bel.size), h.p⟩
theorem De.chg {w wl w' : World} {p : Nat} {b b' : Option Nat} {m m0 : DN} (hbel : Below w.heap.size w wl) (hp : w.heap.size ≤ p) (h0 : DD wl p b m0) (h2 : ∀ j, b = some j → w.heap.size ≤ j) (hC : Chg wl w' p b b') (hD : DD w' p b' m) : De w w' p m ∧ Ko wl w' := by
  obtain ⟨k1, k2⟩ := bel_chg hbel hp h2 hC
  exact ⟨⟨⟨b', hD, k2⟩, k1, hp⟩, ko_chg hC h0⟩
theorem de_changes {w wl : World} {p : Nat} {m : DN} (h : De w wl p m) : Calls Tryz.prog 21 #[.pointer (some ⟨p, 0, none⟩)] wl fun e w' => e = .returned (.int .i64 (m.ch : Nat)) ∧ w' = wl := by
  obtain ⟨b, h1, _⟩ := h.out
  obtain ⟨v, hK, hP⟩ := h1.out
  obtain ⟨sl, hB, _, _⟩ := hK.out
  exact changes_any p sl (m.lo v) wl hB
theorem de_plan1 {w wl : World} {p g : Nat} {m : DN} (h : De w wl p m) (f : FA) (hg : Blk wl g (faA f) 32) :
    Calls Tryz.prog 22 #[.pointer (some ⟨p, 0, none⟩), .slice (some ⟨g, 0, none⟩) 1 1] wl fun e w' => e = .returned (.tuple #[]) ∧ De w w' p { m with pl := some f } ∧ Ko wl w' := by
  obtain ⟨b, h1, h2⟩ := h.out
  refine (plan_one p g b m f wl h1 hg).mono ?_
  rintro e w' ⟨rfl, hC, hD⟩
  exact ⟨rfl, De.chg h.bel h.p h1 h2 hC hD⟩
theorem de_plan0 {w wl : World} {p : Nat} {m : DN} (h : De w wl p m) :
    Calls Tryz.prog 22 #[.pointer (some ⟨p, 0, none⟩), .slice none 0 0] wl fun e w' => e = .returned (.tuple #[]) ∧ De w w' p { m with pl := none } ∧ Ko wl w' := by
  obtain ⟨b, h1, h2⟩ := h.out
  refine (plan_nil p b m wl h1).mono ?_
  rintro e w' ⟨rfl, hC, hD⟩
  exact ⟨rfl, De.chg h.bel h.p h1 h2 hC hD⟩
theorem de_crash {w wl : World} {p : Nat} {m : DN} {P : PP} (h : De w wl p m) (hm : m.l = mk P) (hlen : P.length ≤ 900000) (hu : usedP P ≤ 1000000000) (z k : Int) :
    Calls Tryz.prog 14 #[.pointer (some ⟨p, 0, none⟩), .int .i64 z, .int .i64 k] wl fun e w' => e = .returned (.tuple #[]) ∧ De w w' p { m with dead := true } ∧ Ko wl w' := by
  obtain ⟨b, h1, h2⟩ := h.out
  obtain ⟨v, hK, hP⟩ := h1.out
  have hby : ∀ f ∈ m.l, (kbyt f.is).length ≤ 1000000000000 ∧ (kbyt f.sure).length ≤ 1000000000000 := fun f hf => by
    rw [hm] at hf
    obtain ⟨x, hx, rfl⟩ := List.mem_map.1 hf
    have h1 : x.2.length ≤ usedP P := by
      clear hm hlen hu hf
      induction P with
      | nil => cases hx
      | cons y r ih =>
        have e : usedP (y :: r) = y.2.length + usedP r := by simp [usedP]
        rw [e]
        rcases List.mem_cons.1 hx with rfl | h2
        · omega
        · have := ih h2; omega
    have e : (kbyt (some x.2)).length = x.2.length := rfl
    show (kbyt (some x.2)).length ≤ _ ∧ (kbyt (some x.2)).length ≤ _
    omega
  refine (crash_any p b (m.lo v) z k wl hK (by show m.l.length ≤ _; rw [hm, mk_len]; omega) hby).mono ?_
  rintro e w' ⟨rfl, b', hC, hD'⟩
  have e2 : craD (m.lo v) z k = ({ m with dead := true } : DN).lo v := by
    unfold craD
    split
    · rename_i hd
      have hd : m.dead = true := hd
      show m.lo v = _
      obtain ⟨a1, a2, a3, a4, a5, a6⟩ := m
      simp only at hd
      subst hd
      rfl
    · show (⟨settleL (failL z k m.l), true, m.lim, m.room, m.ch, v⟩ : DM) = ⟨m.l, true, m.lim, m.room, m.ch, v⟩
      rw [hm, fail_mk]
  rw [e2] at hD'
  exact ⟨rfl, De.chg h.bel h.p h1 h2 hC ⟨v, hD', hP.chg hC hK⟩⟩
theorem de_up {w wl : World} {p : Nat} {m : DN} (h : De w wl p m) :
    Calls Tryz.prog 15 #[.pointer (some ⟨p, 0, none⟩)] wl fun e w' => e = .returned (.bool m.dead) ∧ De w w' p { m with dead := false } ∧ Ko wl w' := by
  obtain ⟨b, h1, h2⟩ := h.out
  obtain ⟨v, hK, hP⟩ := h1.out
  refine (up_any p b (m.lo v) wl hK).mono ?_
  rintro e w' ⟨rfl, hC, hD'⟩
  exact ⟨rfl, De.chg h.bel h.p h1 h2 hC ⟨v, hD', hP.chg hC hK⟩⟩
/-- A fall's own block is written beside a disk on which nothing is planned. -/
theorem De.fall {w wl w1 : World} {p i : Nat} {m : DN} {c : Array Value} (h : De w wl p m) (hpl : m.pl = none) (hg : wl.grownBy w1 (some i)) (hb : Blk wl i c 32) (hi : w.heap.size ≤ i) : De w w1 p m := by
  obtain ⟨b, h1, h2⟩ := h.out
  obtain ⟨v, kD, kP⟩ := h1.out
  obtain ⟨sl, d1, d2, d3⟩ := kD.out
  rw [hpl] at kP
  have np : some p ≠ some i := fun e => by
    have := Option.some.inj e
    subst this
    exact kind_ne d1.out hb.out (by decide) rfl
  refine ⟨⟨b, ⟨v, ⟨sl, d1.grown hg np, d2.grown hg (d2.ne hb (by decide)), d3⟩, ?_⟩, h2⟩, bel_row h.bel hg (fun j e => by cases e; exact hi), h.p⟩
  rw [hpl]; exact kP
/-- A log's own block and records. -/
structure Lw (wl : World) (q : Nat) (k : List B) : Prop where
  out : ∃ p L rv rb, Blk wl q (lC p L rv) 64 ∧ TS wl rv rb L.recs ∧ L.recs = k
  len : k.length ≤ 400000
theorem Lw.below {wl wa : World} {q : Nat} {k : List B} (h : Lw wl q k) (hb : Below wl.heap.size wl wa) : Lw wa q k := by
  obtain ⟨p, L, rv, rb, h1, h2, h3⟩ := h.out
  exact ⟨⟨p, L, rv, rb, h1.belowSize hb, h2.below hb, h3⟩, h.len⟩
theorem Lw.ko {wl wa : World} {q : Nat} {k : List B} (h : Lw wl q k) (hk : Ko wl wa) : Lw wa q k := by
  obtain ⟨p, L, rv, rb, h1, h2, h3⟩ := h.out
  exact ⟨⟨p, L, rv, rb, hk.b h1 (by decide) (by decide), hk.ts h2, h3⟩, h.len⟩
theorem Lw.fall {wl w1 : World} {q i : Nat} {k : List B} {c : Array Value} (h : Lw wl q k) (hg : wl.grownBy w1 (some i)) (hb : Blk wl i c 32) : Lw w1 q k := by
  obtain ⟨p, L, rv, rb, h1, h2, h3⟩ := h.out
  refine ⟨⟨p, L, rv, rb, h1.grown hg (fun e => kind_ne h1.out hb.out (by decide) (Option.some.inj e)), h2.grown hg (fun j e e2 => ?_), h3⟩, h.len⟩
  obtain ⟨c2, f2, h5⟩ := h2.sb j e
  exact kind_ne h5 hb.out (by decide) (Option.some.inj e2)
set_option maxRecDepth 100000 in
theorem lw_all {w : World} {q : Nat} {k : List B} (h : Lw w q k) : Calls Tryz.prog 20 #[.pointer (some ⟨q, 0, none⟩)] w fun e w' => ∃ a c, e = .returned (.slice a k.length c) ∧ Below w.heap.size w w' ∧ TA w' a k := by
  obtain ⟨p, L, rv, rb, hL, hT, rfl⟩ := h.out
  have hl := h.len
  obtain ⟨a, cap, rfl, _⟩ := hT.sl
  have HC := clone_ta a cap L.recs w hT.ta (by omega)
  go_enter Tryz.func20, Tryz.ntmps20
  go_wp2_with (first
    | (go_at_call 50; refine HC.mono ?_; rintro e w2 ⟨v2, rb2, rfl, hw2, hT2, hn2⟩)
    | (with_reducible refine at_list ?_; refine wpList_loadCell (op := ⟨some 8, _, _, _, _, _⟩) rfl _ _ rfl q 4 rfl _ _ hL _ Tryz.underlying30 rfl _ (lC_g4 _ _ _) ?_))
  go_ret
  obtain ⟨a2, c2, rfl, _⟩ := hT2.sl
  exact ⟨_, _, rfl, hw2, hT2.ta⟩
set_option maxRecDepth 100000 in
/-- Open of a synced disk that is read as k. -/
theorem rk_open {wl : World} {p : Nat} {b : Option Nat} {P : PP} {k : List B} {room : Int} {ch : Nat} (hD : DD wl p b (cm P room ch)) (hR : Rk P k) (hp : 2 ≤ p) (hb2 : ∀ j, b = some j → 2 ≤ j) (hG : Gw wl) (hc : ch ≤ 500000) :
    Calls Tryz.prog 10 #[.pointer (some ⟨p, 0, none⟩), .int .i64 50] wl fun e w' => ∃ q t b' rb' L m', e = .returned (.tuple #[.pointer (some ⟨q, 0, none⟩), .int .i64 t, .int .i64 0]) ∧ wl.heap.size ≤ q ∧ Wch wl w' q p b none b' rb' ∧ WK w' q p b' rb' L m' ∧ L.snap = [115] ∧ L.recs = k := by
  obtain ⟨txs, hX, hrd, htl, hfew⟩ := hR.out
  have hu := hR.used
  rcases tn_or txs with hok | ⟨A, C, t, hT⟩
  · obtain ⟨ch', hc', HO⟩ := open_dx p 2 b room ch 50 P [115] [] txs (by decide) wl hX hD hp hb2 hG (by omega) hu hok (by simp) (by omega)
    rw [rdS_ok hok] at hrd
    refine HO.mono ?_
    intro e w' hop
    obtain ⟨q, b', rb', rfl, hq, hW, hK⟩ := op_ok hop
    have hsn : (segL ⟨50, 2, [115], [], 0, 0⟩ txs txs.length).recs = [] ++ (txs.map fun x => (unfT x).1).flatten := by unfold segL; rw [List.take_length]
    exact ⟨q, _, b', rb', _, _, rfl, hq, hW, hK, rfl, by rw [hsn]; exact hrd⟩
  · obtain ⟨ch', P', hc', hX', hus, HO⟩ := open_torn p 2 b room ch 50 P [115] t [] txs A C (by decide) wl hX hD hp hb2 hG (by omega) hu hT (by simp) (by omega)
    rw [rdS_tn hT] at hrd
    refine HO.mono ?_
    intro e w' hop
    obtain ⟨q, b', rb', rfl, hq, hW, hK⟩ := op_ok hop
    exact ⟨q, _, b', rb', _, _, rfl, hq, hW, hK, rfl, hrd⟩
/-- The last opening. -/
theorem de_open {w wl : World} {p : Nat} {P : PP} {k : List B} {room : Int} {ch : Nat} (h : De w wl p (cm P room ch)) (hR : Rk P k) (hG : Gw w) (hc : ch ≤ 500000) (hk : k.length ≤ 400000) :
    Calls Tryz.prog 10 #[.pointer (some ⟨p, 0, none⟩), .int .i64 50] wl fun e w' => ∃ q t, e = .returned (.tuple #[.pointer (some ⟨q, 0, none⟩), .int .i64 t, .int .i64 0]) ∧ Tl w' q [115] k ∧ Below w.heap.size w w' ∧ Ko wl w' := by
  obtain ⟨b, h1, h2⟩ := h.out
  have h2g := hG.two
  refine (rk_open h1 hR (Nat.le_trans h2g h.p) (fun j e => Nat.le_trans h2g (h2 j e)) (hG.below h.bel) hc).mono ?_
  rintro e w' ⟨q, t, b', rb', L, m', rfl, hq, hW, hK, k1, k2⟩
  obtain ⟨hGe, hKo⟩ := ge_of_open h.bel h.p h2 h1 hq hW hK
  exact ⟨q, t, rfl, ⟨⟨p, b', rb', L, m', hK, k1, k2⟩, hk⟩, hGe.bel, hKo⟩
/-- An opening where a fall is planned. -/
theorem de_fall {w wl : World} {p : Nat} {P : PP} {k : List B} {room : Int} {ch : Nat} {f : FA} (h : De w wl p (pm P room ch f)) (hR : Rk P k) (hG : Gw w) (hc : ch ≤ 500000) (hf : (ch : Int) ≤ f.at_) :
    Calls Tryz.prog 10 #[.pointer (some ⟨p, 0, none⟩), .int .i64 50] wl fun e w' => (∃ v, e = .returned v) ∧ ∃ P' ch' m', Rk P' k ∧ ch' ≤ ch + 1000 ∧ De w w' p m' ∧ (m' = pm P' room ch' f ∨ m' = dm P' room ch') ∧ Ko wl w' := by
  obtain ⟨b, h1, h2⟩ := h.out
  have h2g := hG.two
  refine (open_fall p b room ch f wl hR h1 (Nat.le_trans h2g h.p) (fun j e => Nat.le_trans h2g (h2 j e)) (hG.below h.bel) hc hf).mono ?_
  rintro e w' ⟨hv, q, b', rb', P', ch', m', hq, hW, k1, k2, k3, k4⟩
  obtain ⟨hlo, hbl, hrl⟩ := wch_low hW h.bel.size (Nat.le_trans h.bel.size hq) h.p h2 (fun k e => by cases e)
  obtain ⟨v, hDK, _⟩ := h1.out
  obtain ⟨sl, d1, d2, d3⟩ := hDK.out
  refine ⟨hv, P', ch', m', k1, k2, ⟨⟨b', k3, hbl⟩, h.bel.trans hlo, h.p⟩, k4, hW.size, fun i c t fr hi n1 n2 => ?_⟩
  have hil := (Array.getElem?_eq_some_iff.1 hi).1
  refine (hW.block i hil (by omega) (kind_ne hi d1.out n1) (fun e => ?_) (fun e => by cases e)).trans hi
  rw [← d3] at e
  rcases d2.2 with ⟨_, rfl⟩ | ⟨g, cap, _, rfl, h4⟩
  · cases e
  · cases e
    obtain ⟨cur, h5, _⟩ := h4.out
    exact kind_ne hi h5 n2 rfl
/-- Two disks that stand apart. -/
structure Tw (w wl : World) (p p2 : Nat) (m : DN) : Prop where
  out : ∃ b b2, DD wl p b m ∧ DD wl p2 b2 m ∧ (∀ j, b = some j → w.heap.size ≤ j) ∧ (∀ j, b2 = some j → w.heap.size ≤ j) ∧ ∀ j, b = some j → b2 ≠ some j
  ne : p ≠ p2
  bel : Below w.heap.size w wl
  p : w.heap.size ≤ p
  p2 : w.heap.size ≤ p2
theorem de_clone {w wl : World} {p : Nat} {m : DN} (h : De w wl p m) (hl : m.l.length ≤ 1000000) (hpl : m.pl = none) :
    Calls Tryz.prog 30 #[.pointer (some ⟨p, 0, none⟩)] wl fun e w' => ∃ p2, e = .returned (.pointer (some ⟨p2, 0, none⟩)) ∧ Tw w w' p p2 m := by
  obtain ⟨b, h1, h2⟩ := h.out
  refine (cloneN p b m wl h1 hl hpl).mono ?_
  rintro e w' ⟨rfl, hB, b2, hD2, hb2⟩
  have hsz := h.bel.size
  obtain ⟨v, hK, _⟩ := h1.out
  obtain ⟨sl, d1, d2, d3⟩ := hK.out
  refine ⟨_, rfl, ⟨⟨b, b2, h1.below hB, hD2, h2, fun j e => Nat.le_trans hsz (hb2 j e), fun j e e2 => ?_⟩, by have := d1.lt; omega, h.bel.trans (hB.mono hsz), h.p, hsz⟩⟩
  have h5 := hb2 j e2
  rw [← d3] at e
  rcases d2.2 with ⟨_, rfl⟩ | ⟨g, cap, _, rfl, h4⟩
  · cases e
  · cases e
    exact absurd h4.lt (Nat.not_lt.2 h5)
/-- The clone is opened; the other disk stays. -/
theorem tw_open {w wl : World} {p p2 : Nat} {P : PP} {k : List B} {room : Int} {ch : Nat} (h : Tw w wl p p2 (cm P room ch)) (hR : Rk P k) (hG : Gw w) (hc : ch ≤ 500000) (hk : k.length ≤ 400000) :
    Calls Tryz.prog 10 #[.pointer (some ⟨p2, 0, none⟩), .int .i64 50] wl fun e w' => ∃ q t, e = .returned (.tuple #[.pointer (some ⟨q, 0, none⟩), .int .i64 t, .int .i64 0]) ∧ De w w' p (cm P room ch) ∧ Lw w' q k := by
  obtain ⟨b, b2, h1, h1', h2, h2', h3⟩ := h.out
  have h2g := hG.two
  refine (rk_open h1' hR (Nat.le_trans h2g h.p2) (fun j e => Nat.le_trans h2g (h2' j e)) (hG.below h.bel) hc).mono ?_
  rintro e w' ⟨q, t, b', rb', L, m', rfl, hq, hW, hK, k1, k2⟩
  obtain ⟨hGe, hKo⟩ := ge_of_open h.bel h.p2 h2' h1' hq hW hK
  obtain ⟨rv, c1, c2, _⟩ := hK.out
  obtain ⟨v, hDK, hP⟩ := h1.out
  obtain ⟨sl, d1, d2, d3⟩ := hDK.out
  have keep : ∀ {i : Nat} {c : Array Value} {ty : TypeId} {fr : Nat × Nat}, wl.heap[i]? = some (.cells c ty fr) → i ≠ p2 → some i ≠ b2 → w'.heap[i]? = some (.cells c ty fr) := fun hi n1 n2 => by
    have hil := (Array.getElem?_eq_some_iff.1 hi).1
    exact (hW.block _ hil (by omega) n1 n2 (fun e => by cases e)).trans hi
  have hD' : DD w' p b (cm P room ch) := by
    refine ⟨v, ⟨sl, ⟨keep d1.out h.ne (fun e => ?_)⟩, ⟨d2.1, ?_⟩, d3⟩, hP⟩
    · obtain ⟨v2, hDK2, _⟩ := h1'.out
      obtain ⟨sl2, f1, f2, f3⟩ := hDK2.out
      rw [← f3] at e
      rcases f2.2 with ⟨_, rfl⟩ | ⟨g, cap, _, rfl, h4⟩
      · cases e
      · cases e
        obtain ⟨cur, h5, _⟩ := h4.out
        exact kind_ne d1.out h5 (by decide) rfl
    · rcases d2.2 with h5 | ⟨g, cap, h5, rfl, h6⟩
      · exact .inl h5
      · refine .inr ⟨g, cap, h5, rfl, ?_⟩
        obtain ⟨cur, h7, h8⟩ := h6.out
        have hbg : b = some g := d3.symm
        refine ⟨cur, keep h7 (fun e => ?_) (fun e => h3 g hbg e.symm), h8⟩
        subst e
        obtain ⟨v2, hDK2, _⟩ := h1'.out
        obtain ⟨sl2, f1, f2, f3⟩ := hDK2.out
        exact kind_ne h7 f1.out (by decide) rfl
  exact ⟨q, t, rfl, ⟨⟨b, hD', h2⟩, hGe.bel, h.p⟩, ⟨⟨p2, L, rv, rb', c1, c2, k2⟩, hk⟩⟩
/-- What is synced, of a law's own files. -/
theorem dc_de {w wl : World} {p k : Nat} {P : PP} (h : Dc w wl p P k) : ∃ room ch, ch ≤ k ∧ De w wl p (cm P room ch) := by
  obtain ⟨b, room, ch, h1, h2, h3⟩ := h.out
  exact ⟨room, ch, h1, ⟨⟨b, h2, h3⟩, h.bel, h.p⟩⟩
theorem bslF (f : FA) (w : World) : (Instr.buildSlice 45 1 #[(0, .agg (faA f))]).run Tryz.prog w = .ok (.slice (some ⟨w.heap.size, 0, none⟩) 1 1) (w.alloc (.cells (faA f) 32)) := by
  simp [Instr.buildSlice, run_underlying Tryz.underlying45, sizeOf_run zFall.2, Sem.run_bind, Instr.fill, newRow, zFall.1, Value.cells, range3, faA]
theorem wpList_bslF {ops : Array Oper} {rest : List Oper} {op : Oper} {a : Act} {w : World} {Q : Exit → Act → World → Prop} (hgd : op.guard = none) (x : Operand) (ho : op.op = .buildSlice 45 1 #[(0, x)]) (f : FA) (hx : a.eval x = .agg (faA f))
    (h : ∀ w1 : World, Below w.heap.size w w1 → Blk w1 w.heap.size (faA f) 32 → wpList Tryz.prog ops Q rest (a.put op.dst (.slice (some ⟨w.heap.size, 0, none⟩) 1 1)) w1) : wpList Tryz.prog ops Q (op :: rest) a w := by
  have e : (#[(0, x)] : Array (Nat × Operand)).map (fun (i, x) => (i, a.eval x)) = #[(0, .agg (faA f))] := by simp [hx]
  refine wpList_run hgd _ _ ?_ (h _ ((Below.refl _ _).alloc (Nat.le_refl _) _) (Blk.new _ _ _))
  unfold execOp
  simp only [ho, Sem.run_bind, e, bslF, Result.andThen_ok]
  rfl
/-- Falls lie at an address. -/
structure FL3 (w : World) (ad : Option Addr) (l : List FA) : Prop where
  out : ∀ (i : Nat) (x : FA), l[i]? = some x → ∃ g o, ad = some ⟨g, o, none⟩ ∧ w.rangeAt g (o + i * 3) (faA x).toList
theorem FL3.below {w w' : World} {ad : Option Addr} {l : List FA} (h : FL3 w ad l) (hb : Below w.heap.size w w') : FL3 w' ad l := ⟨fun i x hx => by
  obtain ⟨g, o, h1, h2⟩ := h.out i x hx
  exact ⟨g, o, h1, fun j v hv => by
    have h6 := h2 j v hv
    exact (hb.cell (World.block_lt_of_cell? _ _ h6)).trans h6⟩⟩
end Go.Proofs.YtaiiojbakmminaaGreatDoor
