/- A disk that a law fills by itself, and what Open gives back of it. What WalPlays knows of its log. -/
import Derived.Test.YtaiiojbakmminaaGreatDoorWge
import Derived.Test.YtaiiojbakmminaaGreatDoorWmm
namespace Go.Proofs.YtaiiojbakmminaaGreatDoor
open Go Go.RowKit
/-- A disk of changes that are not synced. -/
structure Lz (m : DN) (P : PP) (k : Nat) : Prop where
  ok : Okn m
  d : m.dead = false
  lim : m.lim = false
  pl : m.pl = none
  now : nowL m.l = P
  ch : m.ch ≤ k
  len : m.l.length ≤ k
theorem lz_new (room : Int) : Lz (cm [] room 0) [] 0 :=
  ⟨cm_okn (by simp [RisP]) (fun x hx => by cases hx) room 0 (by simp) (by simp [usedP]) (by omega), rfl, rfl, rfl, now_mk [], Nat.le_refl _, Nat.le_refl _⟩
theorem lz_wri {m : DN} {P : PP} {k : Nat} (h : Lz m P k) (n s : B) (hn : okN n = true) (hk : k ≤ 1000) (hu : usedP P + s.length ≤ 1000000000) : ∃ m', wriN m n s = (m', 0) ∧ Lz m' (putP n (some s) P) (k + 1) := by
  have hh : hitN m = none := by unfold hitN; rw [h.pl]
  have hul : usedL m.l = usedP P := by rw [used_now, h.now]
  have h1 := h.ch
  have h2 := h.len
  have h3 := lay_len n (some s) 2 m.l h.ok.l.ris
  refine ⟨{ m with ch := m.ch + 1, l := lay n (some s) 2 m.l }, ?_, okn_chg h.ok hh hn (by omega) (by omega) (by rw [hul]; show usedP P + s.length ≤ _; omega), h.d, h.lim, h.pl, ?_, by show m.ch + 1 ≤ _; omega, by show (lay n (some s) 2 m.l).length ≤ _; omega⟩
  · unfold wriN fullN chgN
    rw [h.d, h.lim, hh]
    simp
  · show nowL (lay n (some s) 2 m.l) = _
    rw [lay_now n _ 2 _ h.ok.l.ris, h.now]
theorem lz_syn {m : DN} {P : PP} {k : Nat} (h : Lz m P k) : synN m = (cm P m.room m.ch, 0) := by
  obtain ⟨a1, a2, a3, a4, a5, a6⟩ := m
  obtain ⟨_, h1, h2, h3, h4, _, _⟩ := h
  simp only at h1 h2 h3 h4
  subst h1 h2 h3 h4
  exact syn_cm a1 a4 a5
/-- What a change of a disk alone keeps. -/
theorem ko_chg {w w' : World} {p : Nat} {b b' : Option Nat} {m : DN} (h : Chg w w' p b b') (hD : DD w p b m) : Ko w w' := by
  obtain ⟨v, hK, _⟩ := hD.out
  exact ⟨h.size, fun i c t fr hb n1 n2 => h.raw hK hb n1 n2⟩
/-- Since the world w a law has made a disk at p, and written files. -/
structure Ds (w wl : World) (p : Nat) (P : PP) (k : Nat) : Prop where
  out : ∃ b m, DD wl p b m ∧ Lz m P k ∧ ∀ j, b = some j → w.heap.size ≤ j
  bel : Below w.heap.size w wl
  p : w.heap.size ≤ p
theorem Ds.below {w wl wa : World} {p : Nat} {P : PP} {k : Nat} (h : Ds w wl p P k) (hb : Below wl.heap.size wl wa) : Ds w wa p P k := by
  obtain ⟨b, m, h1, h2, h3⟩ := h.out
  exact ⟨⟨b, m, h1.below hb, h2, h3⟩, h.bel.trans (hb.mono h.bel.size), h.p⟩
theorem bel_row {w wl w1 : World} {fb : Option Nat} (h : Below w.heap.size w wl) (hg : wl.grownBy w1 fb) (hlo : ∀ i, fb = some i → w.heap.size ≤ i) : Below w.heap.size w w1 :=
  ⟨hg.os.trans h.os, hg.tape.trans h.tape, hg.output.trans h.output, Nat.le_trans h.size hg.size, fun k hk => (hg.block k (Nat.lt_of_lt_of_le hk h.size) (fun e => by have := hlo k e.symm; omega)).trans (h.block k hk)⟩
theorem Ds.row {w wl w1 : World} {p : Nat} {P : PP} {k : Nat} {fb : Option Nat} (h : Ds w wl p P k) (hg : wl.grownBy w1 fb) (hs : ∀ i, fb = some i → SB wl i) (hlo : ∀ i, fb = some i → w.heap.size ≤ i) : Ds w w1 p P k := by
  obtain ⟨b, m, h1, h2, h3⟩ := h.out
  exact ⟨⟨b, m, h1.row hg hs, h2, h3⟩, bel_row h.bel hg hlo, h.p⟩
theorem bel_chg {w wl w' : World} {p : Nat} {b b' : Option Nat} (h : Below w.heap.size w wl) (hp : w.heap.size ≤ p) (hb : ∀ j, b = some j → w.heap.size ≤ j) (hC : Chg wl w' p b b') : Below w.heap.size w w' ∧ ∀ j, b' = some j → w.heap.size ≤ j :=
  ⟨⟨hC.os.trans h.os, hC.tape.trans h.tape, hC.output.trans h.output, Nat.le_trans h.size hC.size, fun k hk => (hC.block k (Nat.lt_of_lt_of_le hk h.size) (by omega) (fun e => by have := hb k e.symm; omega)).trans (h.block k hk)⟩, fun j e => by
    rcases hC.new j e with h1 | h1
    · exact hb j h1
    · have := h.size; omega⟩
theorem ds_write {w wl : World} {p : Nat} {P : PP} {k : Nat} (h : Ds w wl p P k) (n s : B) (hn : okN n = true) (hnl : n.length ≤ 100) (hk : k ≤ 1000) (hu : usedP P + s.length ≤ 1000000000) :
    Calls Tryz.prog 25 #[.pointer (some ⟨p, 0, none⟩), .string ⟨n.toArray⟩, .string ⟨s.toArray⟩] wl fun e w' => e = .returned (.int .i64 0) ∧ Ds w w' p (putP n (some s) P) (k + 1) ∧ Ko wl w' := by
  obtain ⟨b, m, h1, h2, h3⟩ := h.out
  obtain ⟨m', e1, h4⟩ := lz_wri h2 n s hn hk hu
  have := writeN p b m n s wl h1 h2.ok hn (by omega) (by omega)
  rw [e1] at this
  refine this.mono ?_
  rintro e w' ⟨rfl, b', hC, hD⟩
  obtain ⟨k1, k2⟩ := bel_chg h.bel h.p h3 hC
  exact ⟨rfl, ⟨⟨b', m', hD, h4, k2⟩, k1, h.p⟩, ko_chg hC h1⟩
/-- The disk is synced. -/
structure Dc (w wl : World) (p : Nat) (P : PP) (k : Nat) : Prop where
  out : ∃ b room ch, ch ≤ k ∧ DD wl p b (cm P room ch) ∧ ∀ j, b = some j → w.heap.size ≤ j
  bel : Below w.heap.size w wl
  p : w.heap.size ≤ p
theorem ds_sync {w wl : World} {p : Nat} {P : PP} {k : Nat} (h : Ds w wl p P k) :
    Calls Tryz.prog 27 #[.pointer (some ⟨p, 0, none⟩)] wl fun e w' => e = .returned (.int .i64 0) ∧ Dc w w' p P k ∧ Ko wl w' := by
  obtain ⟨b, m, h1, h2, h3⟩ := h.out
  have := syncN p b m wl h1 h2.ok
  rw [lz_syn h2] at this
  refine this.mono ?_
  rintro e w' ⟨rfl, b', hC, hD⟩
  obtain ⟨k1, k2⟩ := bel_chg h.bel h.p h3 hC
  exact ⟨rfl, ⟨⟨b', m.room, m.ch, h2.ch, hD, k2⟩, k1, h.p⟩, ko_chg hC h1⟩
/-- What a log tells. -/
structure Tl (wl : World) (q : Nat) (s : B) (k : List B) : Prop where
  out : ∃ p b rb L m, WK wl q p b rb L m ∧ L.snap = s ∧ L.recs = k
  len : k.length ≤ 400000
theorem Tl.below {wl wa : World} {q : Nat} {s : B} {k : List B} (h : Tl wl q s k) (hb : Below wl.heap.size wl wa) : Tl wa q s k := by
  obtain ⟨p, b, rb, L, m, h1, h2⟩ := h.out
  exact ⟨⟨p, b, rb, L, m, h1.below hb, h2⟩, h.len⟩
theorem tl_snap {wl : World} {q : Nat} {s : B} {k : List B} (h : Tl wl q s k) : Calls Tryz.prog 17 #[.pointer (some ⟨q, 0, none⟩)] wl fun e w' => e = .returned (.string ⟨s.toArray⟩) ∧ w' = wl := by
  obtain ⟨p, b, rb, L, m, h1, rfl, _⟩ := h.out
  exact snapL_log q p b rb L m wl h1
theorem tl_all {wl : World} {q : Nat} {s : B} {k : List B} (h : Tl wl q s k) : Calls Tryz.prog 20 #[.pointer (some ⟨q, 0, none⟩)] wl fun e w' => ∃ a c, e = .returned (.slice a k.length c) ∧ Below wl.heap.size wl w' ∧ TA w' a k := by
  obtain ⟨p, b, rb, L, m, h1, _, h3⟩ := h.out
  have hl := h.len
  have := allL_log q p b rb L m wl h1 (by rw [h3]; omega)
  rw [h3] at this
  refine this.mono ?_
  rintro e w' ⟨v, rb2, rfl, hb, hT, _⟩
  obtain ⟨a, c, rfl, _⟩ := hT.sl
  exact ⟨a, c, rfl, hb, hT.ta⟩
/-- A log was opened of generation 4, and nothing of others is left. -/
structure Oc (w wl : World) (q p : Nat) (s : B) (k : List B) : Prop where
  out : ∃ b rb L P room ch, Ge w wl q p b rb L (cm P room ch) ∧ L.snap = s ∧ L.recs = k ∧ L.g = 4 ∧ Fk P s k ∧ ch ≤ 2000 ∧ usedP P ≤ 4000000 ∧ (∀ x ∈ P, othK 4 x.1 = false) ∧ P.length ≤ 300
  len : k.length ≤ 400000
theorem Oc.bel {w wl : World} {q p : Nat} {s : B} {k : List B} (h : Oc w wl q p s k) : Below w.heap.size w wl := by
  obtain ⟨b, rb, L, P, room, ch, h1, _⟩ := h.out
  exact h1.bel
theorem Oc.below {w wl wa : World} {q p : Nat} {s : B} {k : List B} (h : Oc w wl q p s k) (hb : Below wl.heap.size wl wa) : Oc w wa q p s k := by
  obtain ⟨b, rb, L, P, room, ch, h1, h2⟩ := h.out
  exact ⟨⟨b, rb, L, P, room, ch, h1.below hb, h2⟩, h.len⟩
theorem Oc.tl {w wl : World} {q p : Nat} {s : B} {k : List B} (h : Oc w wl q p s k) : Tl wl q s k := by
  obtain ⟨b, rb, L, P, room, ch, h1, h2, h3, h4, _⟩ := h.out
  exact ⟨⟨p, b, rb, L, _, h1.k, h2, h3⟩, h.len⟩
theorem oc_gen {w wl : World} {q p : Nat} {s : B} {k : List B} (h : Oc w wl q p s k) : Calls Tryz.prog 28 #[.pointer (some ⟨q, 0, none⟩)] wl fun e w' => e = .returned (.int .i64 4) ∧ w' = wl := by
  obtain ⟨b, rb, L, P, room, ch, h1, _, _, h4, _⟩ := h.out
  have := genL_log q p b rb L _ wl h1.k
  rw [h4] at this
  exact this
theorem oc_names {w wl : World} {q p : Nat} {s : B} {k : List B} (h : Oc w wl q p s k) :
    Calls Tryz.prog 29 #[.pointer (some ⟨p, 0, none⟩)] wl fun e w' => ∃ (ns : List B) (a : Option Addr) (c : Nat), e = .returned (.slice a ns.length c) ∧ Below wl.heap.size wl w' ∧ TA w' a ns ∧ ns.length ≤ 300 ∧ ∀ x ∈ ns, othK 4 x = false := by
  obtain ⟨b, rb, L, P, room, ch, h1, h2, h3, h4, _, _, _, h5, h6⟩ := h.out
  obtain ⟨v, hK, hP⟩ := (ge_dd h1).out
  have := names_any p b ((cm P room ch).lo v) wl hK (by show (mk P).length ≤ _; rw [mk_len]; omega)
  refine this.mono ?_
  rintro e w' ⟨sl, rfl, hb, hX⟩
  obtain ⟨a, c, rfl, _⟩ := hX.ts.1.sl
  have e1 : namesL ((cm P room ch).lo v).l = P.map (·.1) := names_mk P
  refine ⟨namesL ((cm P room ch).lo v).l, a, c, rfl, hb, hX.ta, by rw [e1, List.length_map]; exact h6, fun x hx => ?_⟩
  rw [e1] at hx
  obtain ⟨y, hy, rfl⟩ := List.mem_map.1 hx
  exact h5 y hy
theorem ge_of_open {w wl w' : World} {q p : Nat} {b b' rb' : Option Nat} {L : LG} {m m0 : DN} (hbel : Below w.heap.size w wl) (hp : w.heap.size ≤ p) (hb : ∀ j, b = some j → w.heap.size ≤ j) (hD : DD wl p b m0) (hq : wl.heap.size ≤ q) (hW : Wch wl w' q p b none b' rb') (hK : WK w' q p b' rb' L m) : Ge w w' q p b' rb' L m ∧ Ko wl w' := by
  obtain ⟨hlo, hbl, hrl⟩ := wch_low hW hbel.size (Nat.le_trans hbel.size hq) hp hb (fun k e => by cases e)
  refine ⟨⟨hK, hbel.trans hlo, Nat.le_trans hbel.size hq, hp, hbl, hrl⟩, hW.size, fun i c t fr hi n1 n2 => ?_⟩
  obtain ⟨v, hDK, _⟩ := hD.out
  obtain ⟨sl, k1, k2, k3⟩ := hDK.out
  have hil := (Array.getElem?_eq_some_iff.1 hi).1
  refine (hW.block i hil (by omega) (kind_ne hi k1.out n1) (fun e => ?_) (fun e => by cases e)).trans hi
  rw [← k3] at e
  rcases k2.2 with ⟨_, rfl⟩ | ⟨g, cap, _, rfl, h4⟩
  · cases e
  · cases e
    obtain ⟨cur, h5, _⟩ := h4.out
    exact kind_ne hi h5 n2 rfl
/-- What is read of segments: the texts, and how many bytes are torn. -/
def rdS (txs : List B) : List B × Nat × Bool := txs.foldl (fun a t => if a.2.2 = true then (a.1, a.2.1 + t.length, true) else (a.1 ++ (unfT t).1, a.2.1 + (t.length - (unfT t).2), decide ((unfT t).2 < t.length))) ([], 0, false)
theorem rdS_snoc (txs : List B) (t : B) : rdS (txs ++ [t]) = if (rdS txs).2.2 = true then ((rdS txs).1, (rdS txs).2.1 + t.length, true) else ((rdS txs).1 ++ (unfT t).1, (rdS txs).2.1 + (t.length - (unfT t).2), decide ((unfT t).2 < t.length)) := by
  unfold rdS
  rw [List.foldl_append]
  rfl
theorem rd_ok : ∀ (txs : List B) (A : List B) (n : Nat), (∀ x ∈ txs, (unfT x).2 = x.length) → txs.foldl (fun a t => if a.2.2 = true then (a.1, a.2.1 + t.length, true) else (a.1 ++ (unfT t).1, a.2.1 + (t.length - (unfT t).2), decide ((unfT t).2 < t.length))) (A, n, false) = (A ++ (txs.map fun x => (unfT x).1).flatten, n, false)
  | [], A, n, _ => by simp
  | x :: r, A, n, h => by
    have hx := h x (by simp)
    rw [List.foldl_cons]
    have e : (if (A, n, false).2.2 = true then ((A, n, false).1, (A, n, false).2.1 + x.length, true) else ((A, n, false).1 ++ (unfT x).1, (A, n, false).2.1 + (x.length - (unfT x).2), decide ((unfT x).2 < x.length))) = (A ++ (unfT x).1, n, false) := by
      simp [hx]
    rw [e, rd_ok r _ _ (fun y hy => h y (List.mem_cons_of_mem _ hy))]
    simp
theorem rd_broken : ∀ (txs : List B) (A : List B) (n : Nat), txs.foldl (fun a t => if a.2.2 = true then (a.1, a.2.1 + t.length, true) else (a.1 ++ (unfT t).1, a.2.1 + (t.length - (unfT t).2), decide ((unfT t).2 < t.length))) (A, n, true) = (A, n + (txs.map List.length).sum, true)
  | [], A, n => by simp
  | x :: r, A, n => by
    rw [List.foldl_cons]
    show r.foldl _ (A, n + x.length, true) = _
    rw [rd_broken r]
    simp
    omega
theorem rdS_ok {txs : List B} (h : ∀ x ∈ txs, (unfT x).2 = x.length) : rdS txs = ((txs.map fun x => (unfT x).1).flatten, 0, false) := by
  unfold rdS
  rw [rd_ok txs [] 0 h]
  simp
theorem rdS_tn {txs A C : List B} {t : B} (h : Tn txs A C t) : rdS txs = ((A.map fun x => (unfT x).1).flatten ++ (unfT t).1, (t.drop (unfT t).2).length + (C.map List.length).sum, true) := by
  unfold rdS
  have hb := h.bad
  rw [h.eq, List.append_assoc, List.foldl_append, rd_ok A [] 0 h.ok, List.singleton_append, List.foldl_cons]
  have e : ∀ n : Nat, n = 0 → (if (([] ++ (A.map fun x => (unfT x).1).flatten, n, false) : List B × Nat × Bool).2.2 = true then (([] ++ (A.map fun x => (unfT x).1).flatten, n, false) : List B × Nat × Bool) else ([] ++ (A.map fun x => (unfT x).1).flatten ++ (unfT t).1, n + (t.length - (unfT t).2), decide ((unfT t).2 < t.length))) = ([] ++ (A.map fun x => (unfT x).1).flatten ++ (unfT t).1, t.length - (unfT t).2, true) := fun n hn => by
    subst hn
    simp [hb]
  show C.foldl _ ([] ++ (A.map fun x => (unfT x).1).flatten ++ (unfT t).1, 0 + (t.length - (unfT t).2), decide ((unfT t).2 < t.length)) = _
  rw [decide_eq_true hb, rd_broken, Nat.zero_add, List.length_drop]
  simp
set_option maxRecDepth 100000 in
/-- Open of what a law has laid: it tells what is read, and how many bytes were torn. -/
theorem dc_open {w wl : World} {p k : Nat} {P : PP} (h : Dc w wl p P k) (hG : Gw w) (hk : k ≤ 1000) (s : B) (l txs : List B) (hX : Dx P 4 (frs (s :: l)) txs) (hu : usedP P ≤ 4000000) (hll : l.length ≤ 1000) (hfew : ((txs.map fun t => (unfT t).1).flatten).length ≤ 100000) (htl : ∀ t ∈ txs, t.length ≤ 2147483647) :
    Calls Tryz.prog 10 #[.pointer (some ⟨p, 0, none⟩), .int .i64 100] wl fun e w' => ∃ q, e = .returned (.tuple #[.pointer (some ⟨q, 0, none⟩), .int .i64 ((rdS txs).2.1 : Nat), .int .i64 0]) ∧ Oc w w' q p s (l ++ (rdS txs).1) ∧ Ko wl w' := by
  obtain ⟨b, room, ch, h1, h2, h3⟩ := h.out
  have h2g := hG.two
  have hp2 : 2 ≤ p := Nat.le_trans h2g h.p
  have hb2 : ∀ j, b = some j → 2 ≤ j := fun j e => Nat.le_trans h2g (h3 j e)
  have hGl := hG.below h.bel
  rcases tn_or txs with hok | ⟨A, C, t, hT⟩
  · obtain ⟨ch', hc', HO⟩ := open_dx p 4 b room ch 100 P s l txs (by decide) wl hX h2 hp2 hb2 hGl (by omega) hu hok (by omega) (by omega)
    rw [rdS_ok hok]
    refine HO.mono ?_
    intro e w' hop
    obtain ⟨q, b', rb', rfl, hq, hW, hK⟩ := op_ok hop
    obtain ⟨hGe, hKo⟩ := ge_of_open h.bel h.p h3 h2 hq hW hK
    have hL := dx_filter hX
    have hsn : (segL ⟨100, 4, s, l, 0, 0⟩ txs txs.length).recs = l ++ (txs.map fun x => (unfT x).1).flatten := by unfold segL; rw [List.take_length]
    refine ⟨q, rfl, ⟨⟨b', rb', _, _, room, ch', hGe, rfl, hsn, rfl, ⟨⟨4, l, txs, ld_dx hL, hok, rfl⟩⟩, by omega, Nat.le_trans (used_filter _ P) hu, fun x hx => ld_calm hL x hx, Nat.le_trans hL.len (by have := hX.n; omega)⟩, by show (l ++ (txs.map fun x => (unfT x).1).flatten).length ≤ 400000; rw [List.length_append]; omega⟩, hKo⟩
  · obtain ⟨ch', P', hc', hX', hus, HO⟩ := open_torn p 4 b room ch 100 P s t l txs A C (by decide) wl hX h2 hp2 hb2 hGl (by omega) hu hT (by omega) (by omega)
    rw [rdS_tn hT]
    refine HO.mono ?_
    intro e w' hop
    obtain ⟨q, b', rb', rfl, hq, hW, hK⟩ := op_ok hop
    obtain ⟨hGe, hKo⟩ := ge_of_open h.bel h.p h3 h2 hq hW hK
    have hL := dx_filter hX'
    have hcut := unfT_cut t (htl t (by rw [hT.eq]; simp))
    have hun : ∀ x ∈ A ++ [t.take (unfT t).2], (unfT x).2 = x.length := fun x hx => by
      rcases List.mem_append.1 hx with h5 | h5
      · exact hT.ok x h5
      · rw [List.mem_singleton.1 h5, hcut.2, hcut.1]
    have hfl : ((A ++ [t.take (unfT t).2]).map fun x => (unfT x).1).flatten = (A.map fun x => (unfT x).1).flatten ++ (unfT t).1 := by
      rw [List.map_append, List.flatten_append, List.map_singleton, hcut.2]
      simp
    have hfe : ((A.map fun x => (unfT x).1).flatten ++ (unfT t).1).length ≤ 100000 := by
      rw [hT.eq, List.map_append, List.map_append, List.flatten_append, List.flatten_append] at hfew
      simp at hfew ⊢
      omega
    refine ⟨q, rfl, ⟨⟨b', rb', _, _, room, ch', hGe, rfl, by show l ++ _ ++ _ = _; rw [List.append_assoc], rfl, ⟨⟨4, l, _, ld_dx hL, hun, by rw [hfl]⟩⟩, by omega, Nat.le_trans (used_filter _ P') (by omega), fun x hx => ld_calm hL x hx, Nat.le_trans hL.len (by have h8 := hX'.n; rw [List.length_append] at h8 ⊢; simp at h8 ⊢; omega)⟩, by show (l ++ ((A.map fun x => (unfT x).1).flatten ++ (unfT t).1)).length ≤ 400000; rw [List.length_append]; omega⟩, hKo⟩
/-- Opened again it is the same. -/
theorem oc_open {w wl : World} {q p : Nat} {s : B} {k : List B} (h : Oc w wl q p s k) (hG : Gw w) :
    Calls Tryz.prog 10 #[.pointer (some ⟨p, 0, none⟩), .int .i64 100] wl fun e w' => ∃ q', e = .returned (.tuple #[.pointer (some ⟨q', 0, none⟩), .int .i64 0, .int .i64 0]) ∧ Tl w' q' s k ∧ Tl w' q s k ∧ Below w.heap.size w w' := by
  obtain ⟨b, rb, L, P, room, ch, h1, h2, h3, h4, h5, h6, h7, h8, h9⟩ := h.out
  have hkl := h.len
  refine (ge_open h1 hG h5 100 (by decide) (by omega) h7 hkl).mono ?_
  rintro e w' ⟨q', b', rb', L', P', ch', rfl, k1, k2, k3, k4, k5, k6, k7, k8⟩
  obtain ⟨rv, c1, c2, _⟩ := h1.k.out
  have hold : WK w' q p b' rb L (cm P' room ch') := WK.of (k7.b c1 (by decide) (by decide)) (k7.ts c2) (ge_dd k6) h1.k.q2 h1.k.p2 k6.k.b2 h1.k.r2
  exact ⟨q', rfl, ⟨⟨p, b', rb', L', _, k6.k, k1, k2⟩, hkl⟩, ⟨⟨p, b', rb, L, _, hold, h2, h3⟩, hkl⟩, k6.bel⟩
end Go.Proofs.YtaiiojbakmminaaGreatDoor
namespace Go.Proofs.YtaiiojbakmminaaGreatDoor
open Go Go.RowKit
theorem frs_cut {k : List B} (hk : k.length ≤ 6) (hx : ∀ x ∈ k, x.length ≤ 200) : (frs k).length ≤ 1248 := by
  have : ∀ m : List B, (∀ x ∈ m, x.length ≤ 200) → (frs m).length ≤ 208 * m.length := fun m => by
    induction m with
    | nil => intro _; exact Nat.le_refl 0
    | cons y r ih =>
      intro hm
      have e1 : frs (y :: r) = frs [y] ++ frs r := frs_app [y] r
      have := ih fun x hx => hm x (List.mem_cons_of_mem _ hx)
      have := hm y (List.mem_cons_self ..)
      rw [e1, frs_one, List.length_append, frame_len, List.length_cons]
      omega
  have := this k hx
  have := Nat.mul_le_mul_left 208 hk
  omega
end Go.Proofs.YtaiiojbakmminaaGreatDoor
