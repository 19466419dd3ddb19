/- A log that a law plays while a fall is planned: what the calls leave, and what is kept. A disk that a law fills by itself, and what Open gives back of it. What Clone of a disk does on which nothing is planned. -/
import Derived.Test.YtaiiojbakmminaaGreatDoorWfq
import Derived.Test.YtaiiojbakmminaaGreatDoorWfp
import Derived.Test.YtaiiojbakmminaaGreatDoorWpk
namespace Go.Proofs.YtaiiojbakmminaaGreatDoor
open Go Go.RowKit
/-- Since the world w a law has made a disk at p, with its files in b, and a log at q, with its records in rb. -/
structure Ge (w wl : World) (q p : Nat) (b rb : Option Nat) (L : LG) (m : DN) : Prop where
  k : WK wl q p b rb L m
  bel : Below w.heap.size w wl
  q : w.heap.size ≤ q
  p : w.heap.size ≤ p
  b : ∀ k, b = some k → w.heap.size ≤ k
  rb : ∀ k, rb = some k → w.heap.size ≤ k
/-- What a call on the disk, or an opening, keeps. -/
structure Ko (wl w' : World) : Prop where
  size : wl.heap.size ≤ w'.heap.size
  blk : ∀ (i : Nat) (c : Array Value) (t : TypeId) (fr : Nat × Nat), wl.heap[i]? = some (Obj.cells c t fr) → t ≠ 61 → t ≠ 93 → w'.heap[i]? = some (Obj.cells c t fr)
theorem Ko.ts {wl w' : World} {fb : Option Nat} {v : Value} {l : List B} (h : Ko wl w') (hT : TS wl v fb l) : TS w' v fb l := hT.keep fun i e => by
  rcases hT.out with ⟨_, hb, _⟩ | ⟨g, o, cap, cur, _, hb, hg, _⟩
  · rw [hb] at e; cases e
  · rw [hb] at e
    cases e
    rw [h.blk _ _ _ _ hg (by decide) (by decide), hg]
theorem Ko.b {wl w' : World} {i : Nat} {c : Array Value} {t : TypeId} (h : Ko wl w') (hb : Blk wl i c t) (h1 : t ≠ 61) (h2 : t ≠ 93) : Blk w' i c t := ⟨h.blk i c t _ hb.out h1 h2⟩
end Go.Proofs.YtaiiojbakmminaaGreatDoor
namespace Go.Proofs.YtaiiojbakmminaaGreatDoor
open Go Go.RowKit
/-- A disk of changes that are not synced. -/
structure Lz (m : DN) (P : PP) (k : Nat) : Prop where
  ok : Okn m
  d : m.dead = false
  lim : m.lim = false
  pl : m.pl = none
  now : nowL m.l = P
  ch : m.ch ≤ k
  len : m.l.length ≤ k
theorem lz_new (room : Int) : Lz (cm [] room 0) [] 0 :=
  ⟨cm_okn (by simp [RisP]) (fun x hx => by cases hx) room 0 (by simp) (by simp [usedP]) (by omega), rfl, rfl, rfl, now_mk [], Nat.le_refl _, Nat.le_refl _⟩
theorem lz_wri {m : DN} {P : PP} {k : Nat} (h : Lz m P k) (n s : B) (hn : okN n = true) (hk : k ≤ 1000) (hu : usedP P + s.length ≤ 1000000000) : ∃ m', wriN m n s = (m', 0) ∧ Lz m' (putP n (some s) P) (k + 1) := by
  have hh : hitN m = none := by unfold hitN; rw [h.pl]
  have hul : usedL m.l = usedP P := by rw [used_now, h.now]
  have h1 := h.ch
  have h2 := h.len
  have h3 := lay_len n (some s) 2 m.l h.ok.l.ris
  refine ⟨{ m with ch := m.ch + 1, l := lay n (some s) 2 m.l }, ?_, okn_chg h.ok hh hn (by omega) (by omega) (by rw [hul]; show usedP P + s.length ≤ _; omega), h.d, h.lim, h.pl, ?_, by show m.ch + 1 ≤ _; omega, by show (lay n (some s) 2 m.l).length ≤ _; omega⟩
  · unfold wriN fullN chgN
    rw [h.d, h.lim, hh]
    simp
  · show nowL (lay n (some s) 2 m.l) = _
    rw [lay_now n _ 2 _ h.ok.l.ris, h.now]
theorem lz_syn {m : DN} {P : PP} {k : Nat} (h : Lz m P k) : synN m = (cm P m.room m.ch, 0) := by
  obtain ⟨a1, a2, a3, a4, a5, a6⟩ := m
  obtain ⟨_, h1, h2, h3, h4, _, _⟩ := h
  simp only at h1 h2 h3 h4
  subst h1 h2 h3 h4
  exact syn_cm a1 a4 a5
/-- What a change of a disk alone keeps. -/
theorem ko_chg {w w' : World} {p : Nat} {b b' : Option Nat} {m : DN} (h : Chg w w' p b b') (hD : DD w p b m) : Ko w w' := by
  obtain ⟨v, hK, _⟩ := hD.out
  exact ⟨h.size, fun i c t fr hb n1 n2 => h.raw hK hb n1 n2⟩
/-- Since the world w a law has made a disk at p, and written files. -/
structure Ds (w wl : World) (p : Nat) (P : PP) (k : Nat) : Prop where
  out : ∃ b m, DD wl p b m ∧ Lz m P k ∧ ∀ j, b = some j → w.heap.size ≤ j
  bel : Below w.heap.size w wl
  p : w.heap.size ≤ p
theorem Ds.below {w wl wa : World} {p : Nat} {P : PP} {k : Nat} (h : Ds w wl p P k) (hb : Below wl.heap.size wl wa) : Ds w wa p P k := by
  obtain ⟨b, m, h1, h2, h3⟩ := h.out
  exact ⟨⟨b, m, h1.below hb, h2, h3⟩, h.bel.trans (hb.mono h.bel.size), h.p⟩
theorem bel_row {w wl w1 : World} {fb : Option Nat} (h : Below w.heap.size w wl) (hg : wl.grownBy w1 fb) (hlo : ∀ i, fb = some i → w.heap.size ≤ i) : Below w.heap.size w w1 :=
  ⟨hg.os.trans h.os, hg.tape.trans h.tape, hg.output.trans h.output, Nat.le_trans h.size hg.size, fun k hk => (hg.block k (Nat.lt_of_lt_of_le hk h.size) (fun e => by have := hlo k e.symm; omega)).trans (h.block k hk)⟩
theorem bel_chg {w wl w' : World} {p : Nat} {b b' : Option Nat} (h : Below w.heap.size w wl) (hp : w.heap.size ≤ p) (hb : ∀ j, b = some j → w.heap.size ≤ j) (hC : Chg wl w' p b b') : Below w.heap.size w w' ∧ ∀ j, b' = some j → w.heap.size ≤ j :=
  ⟨⟨hC.os.trans h.os, hC.tape.trans h.tape, hC.output.trans h.output, Nat.le_trans h.size hC.size, fun k hk => (hC.block k (Nat.lt_of_lt_of_le hk h.size) (by omega) (fun e => by have := hb k e.symm; omega)).trans (h.block k hk)⟩, fun j e => by
    rcases hC.new j e with h1 | h1
    · exact hb j h1
    · have := h.size; omega⟩
theorem ds_write {w wl : World} {p : Nat} {P : PP} {k : Nat} (h : Ds w wl p P k) (n s : B) (hn : okN n = true) (hnl : n.length ≤ 100) (hk : k ≤ 1000) (hu : usedP P + s.length ≤ 1000000000) :
    Calls Tryz.prog 25 #[.pointer (some ⟨p, 0, none⟩), .string ⟨n.toArray⟩, .string ⟨s.toArray⟩] wl fun e w' => e = .returned (.int .i64 0) ∧ Ds w w' p (putP n (some s) P) (k + 1) ∧ Ko wl w' := by
  obtain ⟨b, m, h1, h2, h3⟩ := h.out
  obtain ⟨m', e1, h4⟩ := lz_wri h2 n s hn hk hu
  have := writeN p b m n s wl h1 h2.ok hn (by omega) (by omega)
  rw [e1] at this
  refine this.mono ?_
  rintro e w' ⟨rfl, b', hC, hD⟩
  obtain ⟨k1, k2⟩ := bel_chg h.bel h.p h3 hC
  exact ⟨rfl, ⟨⟨b', m', hD, h4, k2⟩, k1, h.p⟩, ko_chg hC h1⟩
/-- The disk is synced. -/
structure Dc (w wl : World) (p : Nat) (P : PP) (k : Nat) : Prop where
  out : ∃ b room ch, ch ≤ k ∧ DD wl p b (cm P room ch) ∧ ∀ j, b = some j → w.heap.size ≤ j
  bel : Below w.heap.size w wl
  p : w.heap.size ≤ p
theorem ds_sync {w wl : World} {p : Nat} {P : PP} {k : Nat} (h : Ds w wl p P k) :
    Calls Tryz.prog 27 #[.pointer (some ⟨p, 0, none⟩)] wl fun e w' => e = .returned (.int .i64 0) ∧ Dc w w' p P k ∧ Ko wl w' := by
  obtain ⟨b, m, h1, h2, h3⟩ := h.out
  have := syncN p b m wl h1 h2.ok
  rw [lz_syn h2] at this
  refine this.mono ?_
  rintro e w' ⟨rfl, b', hC, hD⟩
  obtain ⟨k1, k2⟩ := bel_chg h.bel h.p h3 hC
  exact ⟨rfl, ⟨⟨b', m.room, m.ch, h2.ch, hD, k2⟩, k1, h.p⟩, ko_chg hC h1⟩
/-- What a log tells. -/
structure Tl (wl : World) (q : Nat) (s : B) (k : List B) : Prop where
  out : ∃ p b rb L m, WK wl q p b rb L m ∧ L.snap = s ∧ L.recs = k
  len : k.length ≤ 400000
theorem tl_snap {wl : World} {q : Nat} {s : B} {k : List B} (h : Tl wl q s k) : Calls Tryz.prog 17 #[.pointer (some ⟨q, 0, none⟩)] wl fun e w' => e = .returned (.string ⟨s.toArray⟩) ∧ w' = wl := by
  obtain ⟨p, b, rb, L, m, h1, rfl, _⟩ := h.out
  exact snapL_log q p b rb L m wl h1
theorem tl_all {wl : World} {q : Nat} {s : B} {k : List B} (h : Tl wl q s k) : Calls Tryz.prog 20 #[.pointer (some ⟨q, 0, none⟩)] wl fun e w' => ∃ a c, e = .returned (.slice a k.length c) ∧ Below wl.heap.size wl w' ∧ TA w' a k := by
  obtain ⟨p, b, rb, L, m, h1, _, h3⟩ := h.out
  have hl := h.len
  have := allL_log q p b rb L m wl h1 (by rw [h3]; omega)
  rw [h3] at this
  refine this.mono ?_
  rintro e w' ⟨v, rb2, rfl, hb, hT, _⟩
  obtain ⟨a, c, rfl, _⟩ := hT.sl
  exact ⟨a, c, rfl, hb, hT.ta⟩
theorem ge_of_open {w wl w' : World} {q p : Nat} {b b' rb' : Option Nat} {L : LG} {m m0 : DN} (hbel : Below w.heap.size w wl) (hp : w.heap.size ≤ p) (hb : ∀ j, b = some j → w.heap.size ≤ j) (hD : DD wl p b m0) (hq : wl.heap.size ≤ q) (hW : Wch wl w' q p b none b' rb') (hK : WK w' q p b' rb' L m) : Ge w w' q p b' rb' L m ∧ Ko wl w' := by
  obtain ⟨hlo, hbl, hrl⟩ := wch_low hW hbel.size (Nat.le_trans hbel.size hq) hp hb (fun k e => by cases e)
  refine ⟨⟨hK, hbel.trans hlo, Nat.le_trans hbel.size hq, hp, hbl, hrl⟩, hW.size, fun i c t fr hi n1 n2 => ?_⟩
  obtain ⟨v, hDK, _⟩ := hD.out
  obtain ⟨sl, k1, k2, k3⟩ := hDK.out
  have hil := (Array.getElem?_eq_some_iff.1 hi).1
  refine (hW.block i hil (by omega) (kind_ne hi k1.out n1) (fun e => ?_) (fun e => by cases e)).trans hi
  rw [← k3] at e
  rcases k2.2 with ⟨_, rfl⟩ | ⟨g, cap, _, rfl, h4⟩
  · cases e
  · cases e
    obtain ⟨cur, h5, _⟩ := h4.out
    exact kind_ne hi h5 n2 rfl
/-- What is read of segments: the texts, and how many bytes are torn. -/
def rdS (txs : List B) : List B × Nat × Bool := txs.foldl (fun a t => if a.2.2 = true then (a.1, a.2.1 + t.length, true) else (a.1 ++ (unfT t).1, a.2.1 + (t.length - (unfT t).2), decide ((unfT t).2 < t.length))) ([], 0, false)
theorem rd_ok : ∀ (txs : List B) (A : List B) (n : Nat), (∀ x ∈ txs, (unfT x).2 = x.length) → txs.foldl (fun a t => if a.2.2 = true then (a.1, a.2.1 + t.length, true) else (a.1 ++ (unfT t).1, a.2.1 + (t.length - (unfT t).2), decide ((unfT t).2 < t.length))) (A, n, false) = (A ++ (txs.map fun x => (unfT x).1).flatten, n, false)
  | [], A, n, _ => by simp
  | x :: r, A, n, h => by
    have hx := h x (by simp)
    rw [List.foldl_cons]
    have e : (if (A, n, false).2.2 = true then ((A, n, false).1, (A, n, false).2.1 + x.length, true) else ((A, n, false).1 ++ (unfT x).1, (A, n, false).2.1 + (x.length - (unfT x).2), decide ((unfT x).2 < x.length))) = (A ++ (unfT x).1, n, false) := by
      simp [hx]
    rw [e, rd_ok r _ _ (fun y hy => h y (List.mem_cons_of_mem _ hy))]
    simp
theorem rd_broken : ∀ (txs : List B) (A : List B) (n : Nat), txs.foldl (fun a t => if a.2.2 = true then (a.1, a.2.1 + t.length, true) else (a.1 ++ (unfT t).1, a.2.1 + (t.length - (unfT t).2), decide ((unfT t).2 < t.length))) (A, n, true) = (A, n + (txs.map List.length).sum, true)
  | [], A, n => by simp
  | x :: r, A, n => by
    rw [List.foldl_cons]
    show r.foldl _ (A, n + x.length, true) = _
    rw [rd_broken r]
    simp
    omega
theorem rdS_ok {txs : List B} (h : ∀ x ∈ txs, (unfT x).2 = x.length) : rdS txs = ((txs.map fun x => (unfT x).1).flatten, 0, false) := by
  unfold rdS
  rw [rd_ok txs [] 0 h]
  simp
theorem rdS_tn {txs A C : List B} {t : B} (h : Tn txs A C t) : rdS txs = ((A.map fun x => (unfT x).1).flatten ++ (unfT t).1, (t.drop (unfT t).2).length + (C.map List.length).sum, true) := by
  unfold rdS
  have hb := h.bad
  rw [h.eq, List.append_assoc, List.foldl_append, rd_ok A [] 0 h.ok, List.singleton_append, List.foldl_cons]
  have e : ∀ n : Nat, n = 0 → (if (([] ++ (A.map fun x => (unfT x).1).flatten, n, false) : List B × Nat × Bool).2.2 = true then (([] ++ (A.map fun x => (unfT x).1).flatten, n, false) : List B × Nat × Bool) else ([] ++ (A.map fun x => (unfT x).1).flatten ++ (unfT t).1, n + (t.length - (unfT t).2), decide ((unfT t).2 < t.length))) = ([] ++ (A.map fun x => (unfT x).1).flatten ++ (unfT t).1, t.length - (unfT t).2, true) := fun n hn => by
    subst hn
    simp [hb]
  show C.foldl _ ([] ++ (A.map fun x => (unfT x).1).flatten ++ (unfT t).1, 0 + (t.length - (unfT t).2), decide ((unfT t).2 < t.length)) = _
  rw [decide_eq_true hb, rd_broken, Nat.zero_add, List.length_drop]
  simp
end Go.Proofs.YtaiiojbakmminaaGreatDoor
namespace Go.Proofs.YtaiiojbakmminaaGreatDoor
open Go Go.RowKit
theorem eqlNilF (w : World) (b : Addr) (n c : Nat) : (binOp .eql 59 (.slice (some b) n c) (.slice none 0 0)).run Tryz.prog w = .ok (.bool false) w := Lib.run_eql_slice_nil w 59 93 (some b) n c 0 0 Tryz.underlying59
theorem eqlNilF0 (w : World) : (binOp .eql 59 (.slice none 0 0) (.slice none 0 0)).run Tryz.prog w = .ok (.bool true) w := Lib.run_eql_slice_nil w 59 93 none 0 0 0 0 Tryz.underlying59
section
attribute [local go_sem] eqlNilF eqlNilF0
/-- What a clone of files leaves. -/
def SclP (w : World) (l : List F) (e : Ending) (w' : World) : Prop := Below w.heap.size w w' ∧ ∃ sl, e = .returned sl ∧ GL w' 93 6 w.heap.size sl (l.map fL)
theorem bsl0F (w : World) : (Instr.buildSlice 59 0 #[]).run Tryz.prog w = .ok (.slice (some ⟨w.heap.size, 0, none⟩) 0 0) (w.alloc (.cells #[] 93)) := by
  simp [Instr.buildSlice, run_underlying Tryz.underlying59, sizeOf_run zFile.2, Sem.run_bind, Instr.fill, newRow, range0]
theorem run_bsl0F {op : Oper} {a : Act} {w : World} (ho : op.op = .buildSlice 59 0 #[]) : (execOp a.eval op).run Tryz.prog w = .ok (.value (.slice (some ⟨w.heap.size, 0, none⟩) 0 0)) (w.alloc (.cells #[] 93)) := by
  unfold execOp
  simp only [ho, Sem.run_bind, Array.map_empty, bsl0F, Result.andThen_ok]
  rfl
set_option maxRecDepth 100000 in
set_option maxHeartbeats 1000000 in
theorem sclF_any (sl : Value) (l : List F) (w : World) (hL : FL w sl l) (hl : l.length ≤ 1000000) : Calls Tryz.prog 63 #[sl] w (SclP w l) := by
  obtain ⟨ii, hi, hz, hs, hby⟩ := infoFile
  rcases hL.2 with ⟨h1, rfl⟩ | ⟨g, cap, _, rfl, hS⟩
  · have : l = [] := by simpa using h1
    subst this
    go_enter Tryz.func63, Tryz.ntmps63
    go_wp2_with fail
    go_ret
    exact ⟨Below.refl _ _, _, rfl, GL.nil _ _ _ _⟩
  · rw [List.length_map]
    have hA : Below w.heap.size w (w.alloc (.cells #[] 93)) := (Below.refl _ _).alloc (Nat.le_refl _) _
    have hN : Blk (w.alloc (.cells #[] 93)) w.heap.size #[] 93 := Blk.new _ _ _
    by_cases h0 : 0 < l.length
    · have hS1 := hS.grown (row := none) (grown_of_below hA) (fun e => nomatch e)
      obtain ⟨w2, cap2, hr, hb, hG⟩ := run_appendNewG (P := Tryz.prog) (w := w.alloc (.cells #[] 93)) 59 59 93 (some ⟨w.heap.size, 0, none⟩) 6 (l.map fL) g 0 cap (fL_all l) (fL_one l) (fun j v hj => by rw [Nat.zero_add]; exact hS1.cell j v hj) ii _ rfl Tryz.underlying59 hi hz hs hby (by simpa using h0) (by simpa using hl)
      rw [List.length_map] at hr
      clear hS hS1 hL
      go_enter Tryz.func63, Tryz.ntmps63
      go_wp2_with (with_reducible refine at_list ?_; first
        | (refine wpList_run (op := ⟨some 5, _, _, _, _, _⟩) rfl _ _ (run_bsl0F rfl) ?_)
        | (refine wpList_run (op := ⟨some 7, _, _, _, _, _⟩) rfl _ _ (wp_append _ _ _ _ rfl _ _ rfl rfl hr) ?_))
      go_ret
      exact ⟨hA.trans (hb.mono hA.size), _, rfl, fL_all l, .inr ⟨_, cap2, hA.size, by rw [List.length_map]; simp, hG⟩⟩
    · obtain rfl : l = [] := List.length_eq_zero_iff.1 (by omega)
      have hsrc : Src Tryz.prog ii.size 59 (.slice (some ⟨g, 0, none⟩) 0 cap) 0 [] (w.alloc (.cells #[] 93)) :=
        Src.ofSlice _ Tryz.underlying59 ⟨g, 0, none⟩ 0 cap _ (by simp) (fun j u hj => by simp at hj) (fun u hu => by simp at hu)
      have hr := run_append_room_src (P := Tryz.prog) (w.alloc (.cells #[] 93)) 59 59 59 93 ii Tryz.underlying59 hi w.heap.size 0 0 0 _ 0 _ hsrc (Nat.le_refl _) (fun j hj => by simp at hj) (fun j hj => by simp at hj)
      have e0 : ∀ (q : World) (b o : Nat), q.setCells b o [] = q := fun _ _ _ => rfl
      rw [e0] at hr
      have hG : GL (w.alloc (.cells #[] 93)) 93 6 w.heap.size (.slice (some ⟨w.heap.size, 0, none⟩) 0 0) (([] : List F).map fL) := ⟨fun x hx => (by cases hx), .inr ⟨w.heap.size, 0, Nat.le_refl _, rfl, ⟨#[], heap_alloc_last w _, by simp, by simp, fun j v hv => by simp at hv⟩⟩⟩
      clear hsrc hS hL e0
      go_enter Tryz.func63, Tryz.ntmps63
      go_wp2_with (with_reducible refine at_list ?_; first
        | (refine wpList_run (op := ⟨some 5, _, _, _, _, _⟩) rfl _ _ (run_bsl0F rfl) ?_)
        | (refine wpList_run (op := ⟨some 7, _, _, _, _, _⟩) rfl _ _ (wp_append _ _ _ _ rfl _ _ rfl rfl hr) ?_))
      go_ret
      exact ⟨hA, _, rfl, hG⟩
end
/-- A plan of nothing is cloned. -/
def EmA (w w' : World) (v : Value) : Prop := (∃ a c, v = .slice a 0 c) ∧ v.cells = #[v] ∧ v.oneCell' = true ∧ Below w.heap.size w w'
theorem eqlNilAn (w : World) (c : Nat) : (binOp .eql 45 (.slice none 0 c) (.slice none 0 0)).run Tryz.prog w = .ok (.bool true) w := Lib.run_eql_slice_nil w 45 32 none 0 c 0 0 Tryz.underlying45
section
attribute [local go_sem] eqlNilAn eqlNilA1
set_option maxRecDepth 100000 in
theorem sclA_em (a : Option Addr) (c : Nat) (w : World) : Calls Tryz.prog 51 #[.slice a 0 c] w fun e w' => ∃ v, e = .returned v ∧ EmA w w' v := by
  obtain ⟨ii, hi, hz, hs, hby⟩ := infoFall
  have hA : Below w.heap.size w (w.alloc (.cells #[] 32)) := (Below.refl _ _).alloc (Nat.le_refl _) _
  have hN : Blk (w.alloc (.cells #[] 32)) w.heap.size #[] 32 := Blk.new _ _ _
  cases a with
  | none =>
    go_enter Tryz.func51, Tryz.ntmps51
    go_wp2_with fail
    go_ret
    exact ⟨_, rfl, ⟨_, _, rfl⟩, rfl, rfl, Below.refl _ _⟩
  | some g =>
    have hsrc : Src Tryz.prog ii.size 45 (.slice (some g) 0 c) 0 [] (w.alloc (.cells #[] 32)) :=
      Src.ofSlice _ Tryz.underlying45 g 0 c _ (by simp) (fun j u hj => by simp at hj) (fun u hu => by simp at hu)
    have hr := run_append_room_src (P := Tryz.prog) (w.alloc (.cells #[] 32)) 45 45 45 32 ii Tryz.underlying45 hi w.heap.size 0 0 0 _ 0 _ hsrc (Nat.le_refl _) (fun j hj => by simp at hj)
    have e0 : ∀ (q : World) (b o : Nat), q.setCells b o [] = q := fun _ _ _ => rfl
    rw [e0] at hr
    clear hsrc e0
    go_enter Tryz.func51, Tryz.ntmps51
    go_wp2_with (with_reducible refine at_list ?_; first
      | (refine wpList_run (op := ⟨some 5, _, _, _, _, _⟩) rfl _ _ (run_bsl0A rfl) ?_)
      | (refine wpList_run (op := ⟨some 7, _, _, _, _, _⟩) rfl _ _ (wp_append _ _ _ _ rfl _ _ rfl rfl hr) ?_))
    go_ret
    exact ⟨_, rfl, ⟨_, _, rfl⟩, rfl, rfl, hA⟩
end
theorem zDisk : (∀ w, (zeroValue 61).run Tryz.prog w = .ok (.agg (dC (.slice none 0 0) ⟨[], false, false, 0, 0, .slice none 0 0⟩)) w) ∧ (Tryz.prog.info? 61).map (·.size) = some 6 := zero_of_info (by kernel_rfl)
theorem iDisk (sl : Value) (m : DM) : (Tryz.prog.info? 61).map (·.size) = some (dC sl m).size := zDisk.2
theorem dC_one2 {w : World} {sl : Value} {l : List F} (h : FL w sl l) (m : DM) {a : Option Addr} {n c : Nat} (hp : m.pv = .slice a n c) : (dC sl m).all (·.oneCell') = true := by
  rcases h.2 with ⟨_, rfl⟩ | ⟨g, cap, _, rfl, _⟩ <;> simp [dC, Value.oneCell', hp]
set_option maxRecDepth 100000 in
set_option maxHeartbeats 2000000 in
theorem clone_any (p : Nat) (b : Option Nat) (m : DM) (pa : Option Addr) (pc : Nat) (w : World) (hK : DK w p b m) (hl : m.l.length ≤ 1000000) (hpv : m.pv = .slice pa 0 pc) :
    Calls Tryz.prog 30 #[.pointer (some ⟨p, 0, none⟩)] w fun e w' => e = .returned (.pointer (some ⟨w.heap.size, 0, none⟩)) ∧ Below w.heap.size w w' ∧ ∃ b' v, DK w' w.heap.size b' { m with pv := v } ∧ (∃ a c, v = .slice a 0 c) ∧ ∀ r, b' = some r → w.heap.size ≤ r := by
  obtain ⟨sl, hD, hF, hb⟩ := hK.out
  have hpvc : (dC sl m)[4]? = some (.slice pa 0 pc) := by rw [dC_g4, hpv]
  have HC := fun w1 (h : FL w1 sl m.l) => sclF_any sl m.l w1 h hl
  have hpl := hD.lt
  have ho := dC_one2 hF m hpv
  go_enter Tryz.func30, Tryz.ntmps30
  go_wp2_with (with_reducible refine at_list ?_; first
    | (refine wpList_loadRow (op := ⟨some 8, _, _, _, _, _⟩) rfl _ _ rfl p rfl _ _ hD _ Tryz.underlying61 rfl (iDisk _ _) ?_)
    | (refine wpList_allocRow (op := ⟨some 3, _, _, _, _, _⟩) rfl _ rfl _ zDisk.1 ?_; intro w1 hw1 hs1 hQ0; clear hs1)
    | (refine wpList_storeRow (op := ⟨none, .store 61 (.tmp 3) (.tmp 8), _, _, _, _⟩) rfl _ _ _ rfl w.heap.size (dC sl m) rfl rfl _ _ hQ0 rfl (iDisk _ _) ho ?_; intro w2 hg2 hs2 hQ; clear hs2))
  have hB2 : Below w.heap.size w w2 := hw1.trans (below_of_grown hg2 (Nat.le_refl _) hw1.size)
  have hD2 := hD.belowSize hB2
  have hF2 := hF.below hB2
  have hsz2 := hQ.lt
  clear hw1 hg2 hQ0 hD hF
  have hH0 : Blk w2.drew p (dC sl m) 61 := hD2.drew
  refine wp_region_held_drew (S := fun w' : World => Blk w' p (dC sl m) 61) (by kernel_rfl) hH0 (fun hH => ?_)
  try go_frame
  refine wpAnyH_take (i := 0) (oi := ⟨some 9, _, _, _, _, _⟩) (v := .pointer (some ⟨p, 0, none⟩)) rfl (by kernel_rfl) (by kernel_rfl) (by kernel_rfl) (fun _ _ _ h => h) (Or.inl ⟨by rfl, fun w hSw => by go_simp⟩) hH ?_
  try simp only [Act.put, List.setIfInBounds_toArray, List.set_cons_zero, List.set_cons_succ]
  refine wpAnyH_take (i := 1) (oi := ⟨some 10, _, _, _, _, _⟩) (v := .pointer (some ⟨p, 0, none⟩)) rfl (by kernel_rfl) (by kernel_rfl) (by kernel_rfl) (fun _ _ _ h => h) (Or.inl ⟨by rfl, fun w hSw => by go_simp⟩) hH ?_
  try simp only [Act.put, List.setIfInBounds_toArray, List.set_cons_zero, List.set_cons_succ]
  refine wpAnyH_take (i := 2) (oi := ⟨some 11, _, _, _, _, _⟩) (v := .pointer (some ⟨p, 0, none⟩)) rfl (by kernel_rfl) (by kernel_rfl) (by kernel_rfl) (fun _ _ _ h => h) (Or.inl ⟨by rfl, fun w hSw => by go_simp⟩) hH ?_
  try simp only [Act.put, List.setIfInBounds_toArray, List.set_cons_zero, List.set_cons_succ]
  refine wpAnyH_take (i := 3) (oi := ⟨some 12, _, _, _, _, _⟩) (v := sl) rfl (by kernel_rfl) (by kernel_rfl) (by kernel_rfl) (fun _ _ _ h => h) (Or.inl ⟨by rfl, fun w hSw => run_loadCellB _ _ rfl _ 0 rfl _ _ hSw _ Tryz.underlying59 rfl _ (dC_g0 _ _)⟩) hH ?_
  try simp only [Act.put, List.setIfInBounds_toArray, List.set_cons_zero, List.set_cons_succ]
  refine wpAnyH_take (i := 5) (oi := ⟨some 14, _, _, _, _, _⟩) (v := .pointer (some ⟨p, 0, none⟩)) rfl (by kernel_rfl) (by kernel_rfl) (by kernel_rfl) (fun _ _ _ h => h) (Or.inl ⟨by rfl, fun w hSw => by go_simp⟩) hH ?_
  try simp only [Act.put, List.setIfInBounds_toArray, List.set_cons_zero, List.set_cons_succ]
  refine wpAnyH_take (i := 6) (oi := ⟨some 15, _, _, _, _, _⟩) (v := .pointer (some ⟨p, 0, none⟩)) rfl (by kernel_rfl) (by kernel_rfl) (by kernel_rfl) (fun _ _ _ h => h) (Or.inl ⟨by rfl, fun w hSw => by go_simp⟩) hH ?_
  try simp only [Act.put, List.setIfInBounds_toArray, List.set_cons_zero, List.set_cons_succ]
  refine wpAnyH_take (i := 7) (oi := ⟨some 16, _, _, _, _, _⟩) (v := .pointer (some ⟨p, 4, none⟩)) rfl (by kernel_rfl) (by kernel_rfl) (by kernel_rfl) (fun _ _ _ h => h) (Or.inl ⟨by rfl, fun w hSw => by go_simp⟩) hH ?_
  try simp only [Act.put, List.setIfInBounds_toArray, List.set_cons_zero, List.set_cons_succ]
  refine wpAnyH_take (i := 8) (oi := ⟨some 17, _, _, _, _, _⟩) (v := .slice pa 0 pc) rfl (by kernel_rfl) (by kernel_rfl) (by kernel_rfl) (fun _ _ _ h => h) (Or.inl ⟨by rfl, fun w hSw => run_loadCellB _ _ rfl _ 4 rfl _ _ hSw _ Tryz.underlying45 rfl _ hpvc⟩) hH ?_
  try simp only [Act.put, List.setIfInBounds_toArray, List.set_cons_zero, List.set_cons_succ]
  refine wpAnyH_solo (i := 4) (o := ⟨some 13, _, _, _, _, _⟩) rfl (by kernel_rfl) (fun K hK => ?_)
  refine wpList_callR Tryz.func63 (by kernel_rfl) (by kernel_rfl) rfl _ _ rfl #[sl] (args1 rfl) _ (HC _ hF2.drew) ?_
  rintro e w5 ⟨hw5, sl5, rfl, hF5⟩
  refine ⟨_, rfl, ?_⟩
  have hH5 : Blk w5 p (dC sl m) 61 := hH.belowSize hw5
  have hQ5 := hQ.drew.belowSize hw5
  refine hK _ _ hH5 ?_
  clear hK K
  try simp only [Act.put, List.setIfInBounds_toArray, List.set_cons_zero, List.set_cons_succ]
  refine wpAnyH_solo (i := 9) (o := ⟨some 18, _, _, _, _, _⟩) rfl (by kernel_rfl) (fun K hK => ?_)
  refine wpList_callR Tryz.func51 (by kernel_rfl) (by kernel_rfl) rfl _ _ rfl #[.slice pa 0 pc] (args1 rfl) _ (sclA_em pa pc _) ?_
  rintro e w6 ⟨v6, rfl, hv6⟩
  refine ⟨_, rfl, ?_⟩
  have hw6 := hv6.2.2.2
  have hH6 := hH5.belowSize hw6
  have hQ6 := hQ5.belowSize hw6
  refine hK _ _ hH6 ?_
  clear hK K
  try simp only [Act.put, List.setIfInBounds_toArray, List.set_cons_zero, List.set_cons_succ]
  refine wpAnyH_take (i := 10) (oi := ⟨some 19, _, _, _, _, _⟩) (v := .pointer (some ⟨w.heap.size, 0, none⟩)) rfl (by kernel_rfl) (by kernel_rfl) (by kernel_rfl) (fun _ _ _ h => h) (Or.inl ⟨by rfl, fun w hSw => by go_simp⟩) hH6 ?_
  try simp only [Act.put, List.setIfInBounds_toArray, List.set_cons_zero, List.set_cons_succ]
  refine wpAnyH_solo (i := 11) (o := ⟨none, _, _, _, _, _⟩) rfl (by kernel_rfl) (fun K hK => ?_)
  refine wpList_storeCell rfl _ _ _ rfl w.heap.size 0 rfl sl5 rfl _ _ hQ6 iSlF (GL.cells hF5).1 (GL.cells hF5).2 (by rw [dC_size]; decide) ?_
  intro w7 hg7 hs7 hQ7
  clear hs7
  rw [dC_s0 _ _ _ m.l] at hQ7
  have hH7 : Blk w7 p (dC sl m) 61 := hH6.grown hg7 (by simp; omega)
  refine hK _ _ hH7 ?_
  clear hK K
  try simp only [Act.put]
  refine wpAnyH_take (i := 12) (oi := ⟨some 20, _, _, _, _, _⟩) (v := .pointer (some ⟨w.heap.size, 4, none⟩)) rfl (by kernel_rfl) (by kernel_rfl) (by kernel_rfl) (fun _ _ _ h => h) (Or.inl ⟨by rfl, fun w hSw => by go_simp⟩) hH7 ?_
  try simp only [Act.put, List.setIfInBounds_toArray, List.set_cons_zero, List.set_cons_succ]
  refine wpAnyH_solo (i := 13) (o := ⟨none, _, _, _, _, _⟩) rfl (by kernel_rfl) (fun K hK => ?_)
  refine wpList_storeCell rfl _ _ _ rfl w.heap.size 4 rfl v6 rfl _ _ hQ7 iSlA hv6.2.1 hv6.2.2.1 (by rw [dC_size]; decide) ?_
  intro w8 hg8 hs8 hQ8
  clear hs8
  rw [dC_s4] at hQ8
  have hH8 : Blk w8 p (dC sl m) 61 := hH7.grown hg8 (by simp; omega)
  refine hK _ _ hH8 ?_
  clear hK K
  try simp only [Act.put]
  refine wpAnyH_done (by kernel_rfl) ?_ _
  go_simp
  go_wp2_with fail
  go_ret
  have hB5 : Below w.heap.size w w5 := hB2.drew.trans (hw5.mono (by simpa using hB2.size))
  have hB6 := hB5.trans (hw6.mono hB5.size)
  have hB7 := hB6.trans (below_of_grown hg7 (Nat.le_refl _) hB6.size)
  have hF8 : FL w8 sl5 m.l := by
    have h1 : FL w5 sl5 m.l := ⟨hF5.1, by
      rcases hF5.2 with h | ⟨g, cap, _, h⟩
      · exact .inl h
      · exact .inr ⟨g, cap, Nat.zero_le _, h⟩⟩
    have h2 := h1.below hw6
    exact (h2.grown hg7 (h2.ne hQ6 (by decide))).grown hg8 (h2.ne hQ6 (by decide))
  refine ⟨rfl, hB7.trans (below_of_grown hg8 (Nat.le_refl _) hB7.size), slBlk sl5, v6, ⟨sl5, hQ8, hF8, rfl⟩, hv6.1, fun r e => ?_⟩
  have := (GL.lt hF5 r e).1
  simp at this
  omega
/-- A disk on which nothing is planned is cloned. -/
theorem cloneN (p : Nat) (b : Option Nat) (m : DN) (w : World) (hD : DD w p b m) (hl : m.l.length ≤ 1000000) (hpl : m.pl = none) :
    Calls Tryz.prog 30 #[.pointer (some ⟨p, 0, none⟩)] w fun e w' => e = .returned (.pointer (some ⟨w.heap.size, 0, none⟩)) ∧ Below w.heap.size w w' ∧ ∃ b', DD w' w.heap.size b' m ∧ ∀ r, b' = some r → w.heap.size ≤ r := by
  obtain ⟨v, hK, hP⟩ := hD.out
  rw [hpl] at hP
  obtain ⟨pa, pc, rfl⟩ := hP
  refine (clone_any p b (m.lo (.slice pa 0 pc)) pa pc w hK hl rfl).mono ?_
  rintro e w' ⟨rfl, hb, b', v', h1, h2, h3⟩
  exact ⟨rfl, hb, b', ⟨v', h1, by rw [hpl]; exact h2⟩, h3⟩
end Go.Proofs.YtaiiojbakmminaaGreatDoor
