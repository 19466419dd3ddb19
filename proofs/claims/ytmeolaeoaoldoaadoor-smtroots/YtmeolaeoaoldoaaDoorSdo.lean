/- A slice of acts: what it holds, out of its argument; what twins does. What done does, out of what New, Put and Delete do. done: a tree of acts, and the model. -/
import Derived.Test.YtmeolaeoaoldoaaDoorSpq
import Derived.ProofKit
import Derived.LaidMore
import Derived.OpenShut
import Derived.Deep.Slices
import Derived.Test.YtmeolaeoaoldoaaDoorStr
namespace Go.Proofs.YtmeolaeoaoldoaaDoor.Sh
open Go Go.RowKit
/-- An act: its kind, its key, its value. -/
structure A7 where
  kind : Int
  key : List UInt8
  val : List UInt8
def ac7 (x : A7) : Array Value := #[.int .i64 x.kind, .string ⟨x.key.toArray⟩, .string ⟨x.val.toArray⟩]
/-- The acts l lie at a. -/
def AA (w : World) (a : Option Addr) (l : List A7) : Prop := ∀ i (h : i < l.length), ∃ g o, a = some ⟨g, o, none⟩ ∧ w.rangeAt g (o + i * 3) (ac7 l[i]).toList
theorem AA.below {w w' : World} {a : Option Addr} {l : List A7} (h : AA w a l) (hb : Below w.heap.size w w') : AA w' a l := fun i hi => by
  obtain ⟨g, o, ha, hr⟩ := h i hi
  refine ⟨g, o, ha, fun j v hv => ?_⟩
  have := hr j v hv
  rw [hb.cell (World.block_lt_of_cell? _ _ this)]
  exact this
theorem AA.nil (w : World) (a : Option Addr) : AA w a [] := fun i hi => by simp at hi
theorem AA.ex {w : World} {a : Option Addr} {l : List A7} (h : AA w a l) (h0 : 0 < l.length) : ∃ g o, a = some ⟨g, o, none⟩ := by
  obtain ⟨g, o, ha, _⟩ := h 0 h0
  exact ⟨g, o, ha⟩
theorem AA.three {w : World} {g o : Nat} {l : List A7} {i : Nat} {x : A7} (h : AA w (some ⟨g, o, none⟩) l) (hx : l[i]? = some x) : w.cell? ⟨g, o + i * 3, none⟩ = some (.int .i64 x.kind) ∧ w.cell? ⟨g, o + i * 3 + 1, none⟩ = some (.string ⟨x.key.toArray⟩) ∧ w.cell? ⟨g, o + i * 3 + 2, none⟩ = some (.string ⟨x.val.toArray⟩) := by
  obtain ⟨hi, he⟩ := List.getElem?_eq_some_iff.1 hx
  obtain ⟨g', o', ha, hr⟩ := h i hi
  simp only [Option.some.injEq, Addr.mk.injEq, and_true] at ha
  obtain ⟨rfl, rfl⟩ := ha
  rw [he] at hr
  exact ⟨hr 0 _ rfl, hr 1 _ rfl, hr 2 _ rfl⟩
/-- The keys that are held against one another. -/
def keysT (l : List A7) (i : Nat) (more : List UInt8) : List (List UInt8) := more.take 60 :: (l.take i).map fun x => x.key.take 60
def keysD (l : List A7) (more : List UInt8) : List (List UInt8) := keysT l 40 more
theorem keysT_succ {l : List A7} {i : Nat} {x : A7} (more : List UInt8) (h : l[i]? = some x) : keysT l (i + 1) more = keysT l i more ++ [x.key.take 60] := by
  obtain ⟨hi, rfl⟩ := List.getElem?_eq_some_iff.1 h
  unfold keysT
  rw [List.take_succ_eq_append_getElem hi, List.map_append]
  rfl
theorem keysT_len {l : List A7} {i : Nat} (more : List UInt8) (h : i ≤ l.length) : (keysT l i more).length = i + 1 := by
  unfold keysT
  rw [List.length_cons, List.length_map, List.length_take]
  omega
theorem keysT_all {l : List A7} (more : List UInt8) (h : l.length ≤ 40) : keysT l l.length more = keysD l more := by
  unfold keysD keysT
  rw [List.take_length, List.take_of_length_le h]
theorem keysT_each {l : List A7} {i : Nat} {more x : List UInt8} (h : x ∈ keysT l i more) : x.length ≤ 1000 := by
  unfold keysT at h
  rcases List.mem_cons.1 h with rfl | h
  · rw [List.length_take]; omega
  · obtain ⟨y, _, rfl⟩ := List.mem_map.1 h
    rw [List.length_take]; omega
theorem SS.one7 {w : World} {g : Nat} {x : List UInt8} (h : Blk w g #[sv x] 9) : SS w g 1 [x] :=
  ⟨#[sv x], (0, 0), h.out, by simp, by simp, .inl rfl, fun j hj => by
    obtain rfl : j = 0 := by simp at hj; omega
    rfl⟩
set_option maxRecDepth 100000 in
set_option maxHeartbeats 1000000 in
theorem twins_any (l : List A7) (more : List UInt8) (a : Option Addr) (cap : Nat) (w : World) (hA : AA w a l) (hm : more.length ≤ 9223372036854775807) (hk : ∀ x ∈ l, x.key.length ≤ 9223372036854775807) (b : Bool) (hb : b = true ↔ TwinsP (keysD l more)) :
    Calls Tryd.prog 9 #[.slice a l.length cap, .string ⟨more.toArray⟩] w fun e w' => e = .returned (.bool b) ∧ Below w.heap.size w w' := by
  obtain ⟨iop, hio, hz, hsz, hby⟩ := info9
  have HF := few7_any more w hm
  have HP : Hid (∀ i, i ≤ 40 → keysT l i more = keysD l more → ∀ w1 g c, SS w1 g c (keysT l i more) → Calls Tryd.prog 37 #[.slice (some ⟨g, 0, none⟩) (keysT l i more).length c] w1 fun e w' => e = .returned (.bool b) ∧ Below w1.heap.size w1 w') := fun i hi he w1 g c hS =>
    paths_any (keysT l i more) (some ⟨g, 0, none⟩) c w1 hS.xa (by unfold keysT; rw [List.length_cons, List.length_map, List.length_take]; omega) (fun x hx => keysT_each hx) b (by rw [he]; exact hb)
  have h0 : Hid (keysT l 0 more = [more.take 60]) := rfl
  go_enter Tryd.func9, Tryd.ntmps9
  go_wp2_with (first
    | (go_at_call 20; refine HF.mono ?_; rintro e w1 ⟨rfl, hw1⟩; have hw1 := hw1.symm; subst hw1)
    | (with_reducible refine at_list ?_; refine wpList_tsl1 (op := ⟨some 9, _, _, _, _, _⟩) rfl _ rfl (more.take 60) rfl ?_; intro w2 hw2 hs2 hb2; replace hs2 := hs2.symm))
  go_loopw [5, 6] (fun v5 v6 wl => ∃ i g c : Nat, i ≤ l.length ∧ i ≤ 40 ∧ v6 = .int .i64 i ∧ v5 = .slice (some ⟨g, 0, none⟩) (i + 1) c ∧ SS wl g c (keysT l i more) ∧ w.heap.size ≤ g ∧ Below w.heap.size w wl) (fun _ v6 _ => l.length - (intOf v6).toNat)
  case atStart => exact ⟨0, _, 1, by omega, by omega, rfl, rfl, by rw [h0.out]; exact SS.one7 hb2, Nat.le_refl _, hw2⟩
  case round =>
    obtain ⟨i, g, c, hil, hi4, rfl, rfl, hS, hlo, hB⟩ := hrel
    clear hw2 hs2 hb2 HF h0
    have hkl : Hid (i + 1 = (keysT l i more).length) := (keysT_len more hil).symm
    by_cases hlt : i < l.length
    · by_cases h40 : i < 40
      · obtain ⟨g0, o, rfl⟩ := (hA.below hB).ex (by omega)
        obtain ⟨x, hx⟩ : ∃ x, l[i]? = some x := ⟨_, List.getElem?_eq_getElem hlt⟩
        obtain ⟨d0, d1, d2⟩ := (hA.below hB).three hx
        have hT : Hid (keysT l (i + 1) more = keysT l i more ++ [x.key.take 60]) := keysT_succ more hx
        have HF := fun w1 => few7_any x.key w1 (hk x (List.mem_of_getElem? hx))
        have hz1 : (0 : Int) ≤ (i : Int) := by omega
        have hz2 : (i : Int) < (l.length : Int) := by omega
        have hz3 : (i : Int) < 40 := by omega
        clear hx HP
        generalize x.key = kk at *
        generalize kk.take 60 = ks at *
        go_wp2_with (first
          | (go_at_call 20; refine (HF _).mono ?_; rintro e w3 ⟨rfl, hw3⟩; have hw3 := hw3.symm; subst hw3)
          | (with_reducible refine at_list ?_; first
            | (refine wpList_tsl1 (op := ⟨some 27, _, _, _, _, _⟩) rfl _ rfl ks rfl ?_; intro w4 hw4 hs4 hb4; replace hs4 := hs4.symm; have hS4 := hS.belowSize hw4; have hB4 := hB.trans (hw4.mono hB.size))
            | (refine wpList_appendSS (op := ⟨some 28, _, _, _, _, _⟩) rfl _ _ 48 rfl g c (keysT l i more) (i + 1) hkl.out rfl hS4 wr.heap.size 1 rfl ks 9 hb4 iop Tryd.underlying48 hio hz hsz hby (by rw [← hkl.out]; omega) ?_; intro w5 g5 c5 hg5 hgr5 hS5)))
        go_roundw
        case rel => exact ⟨i + 1, g5, c5, by omega, by omega, by go_num, rfl, by rw [hT.out]; exact hS5, by rcases hg5 with rfl | h; exact hlo; exact Nat.le_trans hB4.size h, hB4.trans (below_of_grown hgr5 hlo hB4.size)⟩
        case measure => simp [intOf]; omega
      · have hz3 : ¬ ((i : Int) < 40) := by omega
        have hz2 : (i : Int) < (l.length : Int) := by omega
        have hHP := HP.out i hi4 (by unfold keysD; rw [show i = 40 by omega]) wr g c hS
        rw [← hkl.out] at hHP
        clear HP
        go_wp2_with (go_at_call 37; refine hHP.mono ?_; rintro e w3 ⟨rfl, hw3⟩)
        go_ret
        exact ⟨rfl, hB.trans (hw3.mono hB.size)⟩
    · have hz2 : ¬ ((i : Int) < (l.length : Int)) := by omega
      have hHP := HP.out i hi4 (by rw [show i = l.length by omega]; exact keysT_all more (by omega)) wr g c hS
      rw [← hkl.out] at hHP
      clear HP
      go_wp2_with (go_at_call 37; refine hHP.mono ?_; rintro e w3 ⟨rfl, hw3⟩)
      go_ret
      exact ⟨rfl, hB.trans (hw3.mono hB.size)⟩
end Go.Proofs.YtmeolaeoaoldoaaDoor.Sh
namespace Go.Proofs.YtmeolaeoaoldoaaDoor
open Go Go.ChangeShapes Go.WideShapes Go.ChangeAt Go.WideMaps Go.WideElems Go.RowKit
theorem clA7 : Tryd.prog.cellsOf 58 = 3 := by kernel_rfl
theorem clI7 : Tryd.prog.cellsOf 3 = 1 := by kernel_rfl
theorem clS7 : Tryd.prog.cellsOf 9 = 1 := by kernel_rfl
set_option maxRecDepth 100000 in
theorem act7_of {H : Type} {enc : TypeId × Value → H} {W : World} {n : Nat} {sp : Nat → Bool} {held : Bool} {base : Nat} {cs : List Value} {x : DataW H × List MemPlace} (h : DataW.trod enc Tryd.prog W base sp held n 58 cs = some x) :
    ∃ q : Sh.A7, cs = (Sh.ac7 q).toList ∧ q.key.length ≤ maxLen ∧ q.val.length ≤ maxLen := by
  obtain ⟨xs, f, _, _, hl, hxl, hf⟩ := DataW.trod_struct Tryd.underlying58 h
  rw [clA7] at hl
  match xs, hxl, cs, hl with
  | [y0, y1, y2], _, [v0, v1, v2], _ =>
    have g0 := hf 0 _ rfl
    have g1 := hf 1 _ rfl
    have g2 := hf 2 _ rfl
    simp [clI7, clS7] at g0 g1 g2
    obtain ⟨k, e0, _, _⟩ := DataW.trod_int Tryd.underlying3 g0
    obtain ⟨t, e1, _, l1⟩ := DataW.trod_string Tryd.underlying9 g1
    obtain ⟨u, e2, _, l2⟩ := DataW.trod_string Tryd.underlying9 g2
    refine ⟨⟨k, t.data.toList, u.data.toList⟩, ?_, by simpa using l1, by simpa using l2⟩
    simp at e0 e1 e2
    subst e0 e1 e2
    rfl
theorem acts7_of {H : Type} {enc : TypeId × Value → H} {W : World} {a0 : Option Addr} {len cap : Nat} {d0 : DataW H} {p : List MemPlace} (h0 : DataW.Trod enc Tryd.prog W 0 (fun _ => true) true 22 (.slice a0 len cap) d0 p) :
    ∃ l : List Sh.A7, l.length = len ∧ Sh.AA W a0 l ∧ ∀ x ∈ l, x.key.length ≤ maxLen ∧ x.val.length ≤ maxLen := by
  obtain ⟨fuel, hf⟩ := h0
  rcases DataW.trod_slice Tryd.underlying22 hf with ⟨hcs, _⟩ | ⟨a, l, c, elems, rest, n, _, hcs, _, _, hl, hm, hel, hc, _, _⟩
  · simp [Value.cells] at hcs
    obtain ⟨rfl, rfl, rfl⟩ := hcs
    exact ⟨[], rfl, Sh.AA.nil _ _, fun x hx => nomatch hx⟩
  · simp [Value.cells] at hcs
    obtain ⟨rfl, rfl, rfl⟩ := hcs
    by_cases hl0 : len = 0
    · subst hl0
      exact ⟨[], rfl, Sh.AA.nil _ _, fun x hx => nomatch hx⟩
    have each : ∀ i, i < len → ∃ q : Sh.A7, W.cells? 0 (a.add (i * 3)) 3 = some (Sh.ac7 q).toList ∧ q.key.length ≤ maxLen ∧ q.val.length ≤ maxLen := by
      intro i hi
      have h1 := hc i hi
      rw [clA7, List.getElem?_eq_getElem (by omega)] at h1
      obtain ⟨cs', h2, h3⟩ := Option.bind_eq_some_iff.1 h1
      obtain ⟨q, rfl, hq⟩ := act7_of h3
      exact ⟨q, h2, hq⟩
    obtain ⟨g, o, spot⟩ := a
    obtain ⟨q0, hq0, _⟩ := each 0 (by omega)
    obtain ⟨_, _, hcell0⟩ := World.cells?_some hq0
    have c0 := hcell0 0 (by omega)
    have hspot : spot = none := by
      have e : W.cell? (((⟨g, o, spot⟩ : Addr).add (0 * 3)).add 0) = some (.int .i64 q0.kind) := c0
      simpa [Addr.add] using World.cell?_spot e
    subst hspot
    have each2 : ∀ i, ∃ q : Sh.A7, i < len → (W.rangeAt g (o + i * 3) (Sh.ac7 q).toList ∧ q.key.length ≤ maxLen ∧ q.val.length ≤ maxLen) := by
      intro i
      by_cases hi : i < len
      · obtain ⟨q, hq, hfit⟩ := each i hi
        refine ⟨q, fun _ => ⟨fun j v hv => ?_, hfit⟩⟩
        obtain ⟨_, hlen, hcell⟩ := World.cells?_some hq
        have hj : j < 3 := (List.getElem?_eq_some_iff.1 hv).1
        have := hcell j hj
        rw [Addr.add_mid, Addr.add_mid] at this
        rw [this, hv]
      · exact ⟨⟨0, [], []⟩, fun h => absurd h hi⟩
    obtain ⟨f, hf⟩ := Classical.skolem.1 each2
    refine ⟨(List.range len).map f, by simp, fun i hi => ?_, fun x hx => ?_⟩
    · have hi' : i < len := by simpa using hi
      refine ⟨g, o, rfl, ?_⟩
      simpa using (hf i hi').1
    · obtain ⟨i, hi, rfl⟩ := List.mem_map.1 hx
      exact (hf i (List.mem_range.1 hi)).2
end Go.Proofs.YtmeolaeoaoldoaaDoor
namespace Go.Proofs.YtmeolaeoaoldoaaDoor.Sh
open Go Go.RowKit
/-- What the calls of a tree do. TR w lo b t: in block b lies a tree of the halves t, all of it from block lo on. -/
structure SmtC (TR : World → Nat → Nat → Tr → Prop) : Prop where
  keep : ∀ {w w' : World} {lo b : Nat} {t : Tr}, TR w lo b t → Below w.heap.size w w' → TR w' lo b t
  canon : ∀ {w : World} {lo b : Nat} {t : Tr}, TR w lo b t → Tr.Canon 0 t
  new : ∀ w : World, Calls Tryd.prog 15 #[] w fun e w' => ∃ b, e = .returned (.pointer (some ⟨b, 0, none⟩)) ∧ TR w' w.heap.size b .emp ∧ Below w.heap.size w w'
  put : ∀ (w : World) (lo b : Nat) (t : Tr) (k v : List UInt8), Glob w → lo ≤ w.heap.size → TR w lo b t → t.leaves.length ≤ 100 → k.length ≤ 1000 → v.length ≤ 1000 →
    Calls Tryd.prog 16 #[.pointer (some ⟨b, 0, none⟩), .string ⟨k.toArray⟩, .string ⟨v.toArray⟩] w fun e w' => e = .returned (.int .i64 0) ∧ TR w' lo b (Tr.put 256 0 t (ofD TgD k v)) ∧ Below lo w w' ∧ ∀ sl m, KL w 38 lo sl m → KL w' 38 lo sl m
  del : ∀ (w : World) (lo b : Nat) (t : Tr) (k : List UInt8), Glob w → lo ≤ w.heap.size → TR w lo b t → t.leaves.length ≤ 100 → k.length ≤ 1000 →
    Calls Tryd.prog 26 #[.pointer (some ⟨b, 0, none⟩), .string ⟨k.toArray⟩] w fun e w' => e = .returned (.bool (Tr.find 0 t (TgD 80 [k])).isSome) ∧ TR w' lo b (Tr.del 256 0 t (TgD 80 [k])) ∧ Below lo w w' ∧ ∀ sl m, KL w 38 lo sl m → KL w' 38 lo sl m
/-- The tree has just the keys' leaves. -/
structure Rel7 (K : List (List UInt8)) (t : Tr) (m : List LF) : Prop where
  perm : t.leaves.Perm (leavesD m)
  keys : ∀ x ∈ m, x.1 ∈ K
  apart : m.Pairwise fun x y => x.1 ≠ y.1
theorem mem_getD {α : Type} {l : List α} {x d : α} (h : x ∈ l) : ∃ i, i < l.length ∧ l.getD i d = x := by
  obtain ⟨i, hi, rfl⟩ := List.getElem_of_mem h
  exact ⟨i, hi, by rw [List.getD_eq_getElem?_getD, List.getElem?_eq_getElem hi]; rfl⟩
/-- Keys of a list without twins: one path, one key. -/
theorem no_twins {K : List (List UInt8)} (h : ¬ TwinsP K) {x y : List UInt8} (hx : x ∈ K) (hy : y ∈ K) (he : TgD 80 [x] = TgD 80 [y]) : x = y := by
  apply Classical.byContradiction
  intro hne
  obtain ⟨i, hi, rfl⟩ := mem_getD (d := []) hx
  obtain ⟨k, hk, rfl⟩ := mem_getD (d := []) hy
  rcases Nat.lt_trichotomy i k with h1 | h1 | h1
  · exact h ⟨k, i, h1, hk, fun e => hne e.symm, he.symm⟩
  · exact hne (by rw [h1])
  · exact h ⟨i, k, h1, hi, hne, he⟩
theorem leavesD_less {K : List (List UInt8)} (h : ¬ TwinsP K) {m : List LF} (hm : ∀ x ∈ m, x.1 ∈ K) {k : List UInt8} (hk : k ∈ K) : Tr.lessD (leavesD m) (TgD 80 [k]) = leavesD (withoutD m k) := by
  unfold Tr.lessD leavesD withoutD
  rw [List.filter_map]
  congr 1
  apply List.filter_congr
  intro x hx
  show (!((ofD TgD x.1 x.2).1 == TgD 80 [k])) = !(x.1 == k)
  congr 1
  rw [Bool.eq_iff_iff, beq_iff_eq, beq_iff_eq]
  exact ⟨fun e => no_twins h (hm x hx) hk e, fun e => by rw [e]; rfl⟩
theorem Rel7.nil (K : List (List UInt8)) : Rel7 K .emp [] := ⟨List.Perm.refl _, (fun _ hx => nomatch hx), List.Pairwise.nil⟩
theorem lessD_perm {l m : List LF} (h : l.Perm m) (p : List UInt8) : (Tr.lessD l p).Perm (Tr.lessD m p) := h.filter _
theorem Rel7.del {K : List (List UInt8)} (h : ¬ TwinsP K) {t : Tr} {m : List LF} (hc : Tr.Canon 0 t) (hr : Rel7 K t m) {k : List UInt8} (hk : k ∈ K) : Rel7 K (Tr.del 256 0 t (TgD 80 [k])) (withoutD m k) ∧ (Tr.find 0 t (TgD 80 [k])).isSome = decide ((withoutD m k).length < m.length) := by
  obtain ⟨_, h2⟩ := Tr.del_spec t 256 0 (TgD 80 [k]) rfl hc
  refine ⟨⟨?_, fun x hx => hr.keys x (List.mem_filter.1 hx).1, hr.apart.filter _⟩, ?_⟩
  · rw [h2, ← leavesD_less h hr.keys hk]
    exact lessD_perm hr.perm _
  · rw [Bool.eq_iff_iff, decide_eq_true_iff, Option.isSome_iff_exists]
    constructor
    · rintro ⟨x, hx⟩
      obtain ⟨hx1, hx2⟩ := (Tr.find_spec hc).1 hx
      obtain ⟨y, hy, rfl⟩ := List.mem_map.1 (hr.perm.mem_iff.1 hx1)
      have hyk : y.1 = k := no_twins h (hr.keys y hy) hk hx2
      unfold withoutD
      exact List.length_filter_lt_length_iff_exists.2 ⟨y, hy, by simp [hyk]⟩
    · intro hlt
      obtain ⟨y, hy, hyk⟩ := List.length_filter_lt_length_iff_exists.1 hlt
      have hyk : y.1 = k := by simpa using hyk
      exact ⟨ofD TgD y.1 y.2, (Tr.find_spec hc).2 ⟨hr.perm.mem_iff.2 (List.mem_map.2 ⟨y, hy, rfl⟩), by rw [hyk]; rfl⟩⟩
theorem Rel7.put {K : List (List UInt8)} (h : ¬ TwinsP K) {t : Tr} {m : List LF} (hc : Tr.Canon 0 t) (hr : Rel7 K t m) {k : List UInt8} (v : List UInt8) (hk : k ∈ K) : Rel7 K (Tr.put 256 0 t (ofD TgD k v)) (withD m k v) := by
  obtain ⟨_, h2⟩ := Tr.put_spec t 256 0 (ofD TgD k v) rfl hc (TgD_len _ _) (fun _ _ j hj => absurd hj (by omega))
  refine ⟨?_, fun x hx => ?_, ?_⟩
  · refine h2.trans ?_
    have e : leavesD (withD m k v) = leavesD (withoutD m k) ++ [ofD TgD k v] := by unfold leavesD withD; rw [List.map_append]; rfl
    rw [e, ← leavesD_less h hr.keys hk]
    exact (List.Perm.cons _ (lessD_perm hr.perm _)).trans (List.perm_append_singleton _ _).symm
  · rcases List.mem_append.1 hx with hx | hx
    · exact hr.keys x (List.mem_filter.1 hx).1
    · rw [List.mem_singleton.1 hx]; exact hk
  · refine List.pairwise_append.2 ⟨hr.apart.filter _, List.pairwise_singleton _ _, fun x hx y hy => ?_⟩
    rw [List.mem_singleton.1 hy]
    have := (List.mem_filter.1 hx).2
    simpa using this
end Go.Proofs.YtmeolaeoaoldoaaDoor.Sh
namespace Go.Proofs.YtmeolaeoaoldoaaDoor.Sh
open Go Go.RowKit
theorem KL.lower7 {w : World} {t : TypeId} {lo lo' : Nat} {sl : Value} {l : List LF} (h : KL w t lo sl l) (hl : lo' ≤ lo) : KL w t lo' sl l := by
  rcases h with h | ⟨g, cap, h1, h2, h3⟩
  · exact .inl h
  · exact .inr ⟨g, cap, Nat.le_trans hl h1, h2, h3⟩
/-- What done leaves. -/
def DoneP (TR : World → Nat → Nat → Tr → Prop) (K : List (List UInt8)) (w : World) (e : Ending) (w' : World) : Prop :=
  ∃ b sl m t ok, e = .returned (.tuple #[.pointer (some ⟨b, 0, none⟩), sl, .bool ok]) ∧ TR w' w.heap.size b t ∧ KL w' 38 w.heap.size sl m ∧ m.length ≤ 40 ∧ t.leaves.length ≤ 40 ∧ (∀ x ∈ m, x.1.length ≤ 60 ∧ x.2.length ≤ 60) ∧ (¬ TwinsP K → ok = true ∧ Rel7 K t m) ∧ Below w.heap.size w w'
theorem keysD_mem {l : List A7} {i : Nat} {x : A7} (more : List UInt8) (h : l[i]? = some x) (hi : i < 40) : x.key.take 60 ∈ keysD l more := by
  unfold keysD keysT
  refine List.mem_cons.2 (.inr (List.mem_map.2 ⟨x, ?_, rfl⟩))
  have : (l.take 40)[i]? = some x := by rw [List.getElem?_take, if_pos hi]; exact h
  exact List.mem_of_getElem? this
theorem lessD_len (l : List LF) (p : List UInt8) : (Tr.lessD l p).length ≤ l.length := List.length_filter_le _ _
theorem put_len {t : Tr} (hc : Tr.Canon 0 t) (k v : List UInt8) : (Tr.put 256 0 t (ofD TgD k v)).leaves.length ≤ t.leaves.length + 1 := by
  obtain ⟨_, h2⟩ := Tr.put_spec t 256 0 (ofD TgD k v) rfl hc (TgD_len _ _) (fun _ _ j hj => absurd hj (by omega))
  have := h2.length_eq
  have h3 := lessD_len t.leaves (ofD TgD k v).1
  rw [List.length_cons] at this
  omega
theorem del_len {t : Tr} (hc : Tr.Canon 0 t) (p : List UInt8) : (Tr.del 256 0 t p).leaves.length ≤ t.leaves.length := by
  rw [(Tr.del_spec t 256 0 p rfl hc).2]
  exact lessD_len _ _
theorem withD_len (m : List LF) (k v : List UInt8) : (withD m k v).length ≤ m.length + 1 := by
  unfold withD
  rw [List.length_append, List.length_singleton]
  have := withoutD_len m k
  omega
set_option maxRecDepth 100000 in
set_option maxHeartbeats 4000000 in
theorem done_any {TR : World → Nat → Nat → Tr → Prop} (C : SmtC TR) (l : List A7) (more : List UInt8) (a : Option Addr) (cap : Nat) (w : World) (hG : Glob w) (hA : AA w a l) (hk : ∀ x ∈ l, x.key.length ≤ 9223372036854775807 ∧ x.val.length ≤ 9223372036854775807) :
    Calls Tryd.prog 8 #[.slice a l.length cap] w (DoneP TR (keysD l more) w) := by
  have HN := C.new w
  go_enter Tryd.func8, Tryd.ntmps8
  go_wp2_with (first
    | (go_at_call 15; refine HN.mono ?_; rintro e w1 ⟨b, rfl, hT1, hw1⟩)
    | (with_reducible refine at_list ?_; refine wpList_bsl0Ky (op := ⟨some 12, _, _, _, _, _⟩) rfl rfl ?_; intro w2 hw2 hs2 hK2; replace hs2 := hs2.symm))
  clear HN
  go_loopw [6, 7] (fun v6 v7 wl => ∃ (i : Nat) (m : List LF) (t : Tr), i ≤ l.length ∧ i ≤ 40 ∧ v7 = .int .i64 i ∧ TR wl w.heap.size b t ∧ KL wl 38 w.heap.size v6 m ∧ m.length ≤ i ∧ t.leaves.length ≤ i ∧ (∀ x ∈ m, x.1.length ≤ 60 ∧ x.2.length ≤ 60) ∧ Hid (¬ TwinsP (keysD l more) → Rel7 (keysD l more) t m) ∧ Below w.heap.size w wl) (fun _ v7 _ => l.length - (intOf v7).toNat)
  case atStart => exact ⟨0, [], .emp, by omega, by omega, rfl, C.keep hT1 hw2, hK2.lower7 hw1.size, Nat.le_refl _, Nat.le_refl _, (fun _ hx => nomatch hx), fun _ => Rel7.nil _, hw1.trans (hw2.mono hw1.size)⟩
  case round =>
    obtain ⟨i, m, t, hil, hi4, rfl, hT, hK, hml, htl, hms, hR, hB⟩ := hrel
    clear hT1 hw1 hw2 hs2 hK2
    have hc := C.canon hT
    by_cases hlt : i < l.length
    · by_cases h40 : i < 40
      · obtain ⟨g0, o, rfl⟩ := (hA.below hB).ex (by omega)
        obtain ⟨x, hx⟩ : ∃ x, l[i]? = some x := ⟨_, List.getElem?_eq_getElem hlt⟩
        obtain ⟨d0, d1, d2⟩ := (hA.below hB).three hx
        have hkm := keysD_mem more hx h40
        obtain ⟨hk1, hk2⟩ := hk x (List.mem_of_getElem? hx)
        have HF1 := fun w1 => few7_any x.key w1 hk1
        have HF2 := fun w1 => few7_any x.val w1 hk2
        have hkl : (x.key.take 60).length ≤ 60 := by rw [List.length_take]; omega
        have hvl : (x.val.take 60).length ≤ 60 := by rw [List.length_take]; omega
        have hz1 : (0 : Int) ≤ (i : Int) := by omega
        have hz2 : (i : Int) < (l.length : Int) := by omega
        have hz3 : (i : Int) < 40 := by omega
        obtain ⟨am, cm, e6, hKA⟩ := hK.sl
        subst e6
        have hD : Below wr.heap.size wr wr.drew := (Below.refl _ _).drew
        have e0 : wr.drew.cell? ⟨g0, o + i * 3, none⟩ = some (.int .i64 x.kind) := d0
        have HWo := fun k => without_any m am cm k wr.drew (hKA.below hD) (by omega)
        have HWi := fun k v => with_any m am cm k v wr.drew (hKA.below hD) (by omega)
        have HDe := fun w1 k (hb : Below w.heap.size w w1) (hT : TR w1 w.heap.size b t) (hk : k.length ≤ 60) => C.del w1 w.heap.size b t k (hG.belowSize hb) hb.size hT (by omega) (by omega)
        have HPu := fun w1 k v (hb : Below w.heap.size w w1) (hT : TR w1 w.heap.size b t) (hk : k.length ≤ 60) (hv : v.length ≤ 60) => C.put w1 w.heap.size b t k v (hG.belowSize hb) hb.size hT (by omega) (by omega) (by omega)
        have hRd := fun (h : ¬ TwinsP (keysD l more)) => Rel7.del h hc (hR.out h) hkm
        have hRp := fun (h : ¬ TwinsP (keysD l more)) => Rel7.put h hc (hR.out h) (x.val.take 60) hkm
        clear hx hkm hk1 hk2
        generalize x.key.take 60 = k at *
        generalize x.val.take 60 = v at *
        generalize x.kind = kd at *
        go_upto_region 6 with fail
        have dd : wr.drew.cell? ⟨g0, o + i * 3 + 1, none⟩ = some (.string ⟨x.key.toArray⟩) ∧ wr.drew.cell? ⟨g0, o + i * 3 + 2, none⟩ = some (.string ⟨x.val.toArray⟩) := ⟨d1, d2⟩
        go_region_held3 (fun w' => w'.cell? ⟨g0, o + i * 3 + 1, none⟩ = some (.string ⟨x.key.toArray⟩) ∧ w'.cell? ⟨g0, o + i * 3 + 2, none⟩ = some (.string ⟨x.val.toArray⟩)) (first | assumption | exact dd) (first
          | (go_at_call 20; refine (HF1 wr.drew).mono ?_; clear HF1; rintro e w3 ⟨rfl, hw3⟩; have hw3 := hw3.symm; subst hw3)
          | (go_at_call 20; refine (HF2 wr.drew).mono ?_; rintro e w4 ⟨rfl, hw4⟩; have hw4 := hw4.symm; subst hw4))
        clear dd d0 d1 d2 HF2
        have hBd : Below w.heap.size w wr.drew := hB.drew
        have hTd := C.keep hT hD
        by_cases h3 : kd = 3
        · have hb3 : (kd == 3) = true := by rw [beq_iff_eq]; exact h3
          replace HWo := HWo k
          have HDe := fun w1 hb hT => HDe w1 k hb hT hkl
          have hwl := withoutD_len m k
          have hws : ∀ y ∈ withoutD m k, y.1.length ≤ 60 ∧ y.2.length ≤ 60 := fun y hy => hms y (List.mem_filter.1 hy).1
          have hdl := del_len hc (TgD 80 [k])
          clear HWi HPu hRp h3 hT hK hKA
          replace hRd : Hid (¬ TwinsP (keysD l more) → Rel7 (keysD l more) (Tr.del 256 0 t (TgD 80 [k])) (withoutD m k) ∧ (Tr.find 0 t (TgD 80 [k])).isSome = decide ((withoutD m k).length < m.length)) := hRd
          generalize Tr.del 256 0 t (TgD 80 [k]) = t2 at *
          generalize withoutD m k = m2 at *
          generalize (Tr.find 0 t (TgD 80 [k])).isSome = dB at *
          obtain ⟨eB, he⟩ : ∃ eB, decide (m2.length < m.length) = eB := ⟨_, rfl⟩
          rw [he] at hRd
          have he2 : decide ((m2.length : Int) < (m.length : Int)) = eB := by rw [← he]; exact decide_eq_decide.2 (by omega)
          have harm : True := trivial
          by_cases hde : dB = eB
          · subst hde
            cases dB
            all_goals
              go_wp2_with (first
                | (go_at_call 35; refine HWo.mono ?_; rintro e w5 ⟨sl5, rfl, hK5, hw5⟩; obtain ⟨a5, c5, e5, hKA5⟩ := hK5.sl; subst e5; replace hK5 := hK5.lower7 hBd.size; have hB5 := hBd.trans (hw5.mono hBd.size); have hT5 := C.keep hTd hw5)
                | (go_at_call 26; refine (HDe _ hB5 hT5).mono ?_; rintro e w6 ⟨rfl, hT6, hw6, hkl6⟩; have hK6 := hkl6 _ _ hK5))
              go_roundw
              case rel => exact ⟨i + 1, m2, t2, by omega, by omega, by go_num, hT6, hK6, by omega, by omega, hws, fun h => (hRd.out h).1, hB5.trans hw6⟩
              case measure => simp [intOf]; omega
          · have htw : ∀ {p : Prop}, ¬ TwinsP (keysD l more) → p := fun h => absurd (hRd.out h).2 hde
            cases dB <;> cases eB
            · exact absurd rfl hde
            · go_wp2_with (first
                | (go_at_call 35; refine HWo.mono ?_; rintro e w5 ⟨sl5, rfl, hK5, hw5⟩; obtain ⟨a5, c5, e5, hKA5⟩ := hK5.sl; subst e5; replace hK5 := hK5.lower7 hBd.size; have hB5 := hBd.trans (hw5.mono hBd.size); have hT5 := C.keep hTd hw5)
                | (go_at_call 26; refine (HDe _ hB5 hT5).mono ?_; rintro e w6 ⟨rfl, hT6, hw6, hkl6⟩; have hK6 := hkl6 _ _ hK5))
              go_ret3
              exact ⟨b, _, m2, t2, false, rfl, hT6, hK6, by omega, by omega, hws, htw, hB5.trans hw6⟩
            · go_wp2_with (first
                | (go_at_call 35; refine HWo.mono ?_; rintro e w5 ⟨sl5, rfl, hK5, hw5⟩; obtain ⟨a5, c5, e5, hKA5⟩ := hK5.sl; subst e5; replace hK5 := hK5.lower7 hBd.size; have hB5 := hBd.trans (hw5.mono hBd.size); have hT5 := C.keep hTd hw5)
                | (go_at_call 26; refine (HDe _ hB5 hT5).mono ?_; rintro e w6 ⟨rfl, hT6, hw6, hkl6⟩; have hK6 := hkl6 _ _ hK5))
              go_ret3
              exact ⟨b, _, m2, t2, false, rfl, hT6, hK6, by omega, by omega, hws, htw, hB5.trans hw6⟩
            · exact absurd rfl hde
        · have hb3 : (kd == 3) = false := by rw [beq_eq_false_iff_ne]; exact h3
          replace HWi := HWi k v
          have HPu := fun w1 hb hT => HPu w1 k v hb hT hkl hvl
          have hwl := withD_len m k v
          have hws : ∀ y ∈ withD m k v, y.1.length ≤ 60 ∧ y.2.length ≤ 60 := fun y hy => by
            rcases List.mem_append.1 hy with hy | hy
            · exact hms y (List.mem_filter.1 hy).1
            · rw [List.mem_singleton.1 hy]; exact ⟨hkl, hvl⟩
          have hdl := put_len hc k v
          clear HWo HDe hRd h3 hT hK hKA
          replace hRp : Hid (¬ TwinsP (keysD l more) → Rel7 (keysD l more) (Tr.put 256 0 t (ofD TgD k v)) (withD m k v)) := hRp
          generalize Tr.put 256 0 t (ofD TgD k v) = t2 at *
          generalize withD m k v = m2 at *
          go_wp2_with (first
            | (go_at_call 36; refine HWi.mono ?_; rintro e w5 ⟨sl5, rfl, hK5, hw5⟩; replace hK5 := hK5.lower7 hBd.size; have hB5 := hBd.trans (hw5.mono hBd.size); have hT5 := C.keep hTd hw5)
            | (go_at_call 16; refine (HPu _ hB5 hT5).mono ?_; rintro e w6 ⟨rfl, hT6, hw6, hkl6⟩; have hK6 := hkl6 _ _ hK5))
          go_roundw
          case rel => exact ⟨i + 1, m2, t2, by omega, by omega, by go_num, hT6, hK6, by omega, by omega, hws, hRp.out, hB5.trans hw6⟩
          case measure => simp [intOf]; omega
      · have hz3 : ¬ ((i : Int) < 40) := by omega
        have hz2 : (i : Int) < (l.length : Int) := by omega
        go_wp2_with fail
        go_ret3
        exact ⟨b, _, m, t, true, rfl, hT, hK, by omega, by omega, hms, fun h => ⟨rfl, hR.out h⟩, hB⟩
    · have hz2 : ¬ ((i : Int) < (l.length : Int)) := by omega
      go_wp2_with fail
      go_ret3
      exact ⟨b, _, m, t, true, rfl, hT, hK, by omega, by omega, hms, fun h => ⟨rfl, hR.out h⟩, hB⟩
end Go.Proofs.YtmeolaeoaoldoaaDoor.Sh
