/- What WalSegments tells: segments are followed by others when they are long, generations by others when all is laid anew. What the acts of the law are in memory. The acts of an argument, and how long their texts may be. What WalPlays knows of its log. -/
import Derived.Test.YtaiiojbakmminaaGreatDoorWrw
import Derived.Test.YtaiiojbakmminaaGreatDoorWpr
import Derived.Deep.Slices
namespace Go.Proofs.YtaiiojbakmminaaGreatDoor
open Go Go.RowKit
theorem ts_blk {w : World} {a : Option Addr} {n cap : Nat} {b : Option Nat} {l : List B} (h : TS w (.slice a n cap) b l) : ∀ x, a = some x → b = some x.block := fun x e => by
  rcases h.out with ⟨h1, _, _⟩ | ⟨g, o, cp, cur, h1, h2, _⟩
  · simp only [Value.slice.injEq] at h1
    rw [h1.1] at e; cases e
  · simp only [Value.slice.injEq] at h1
    rw [h1.1] at e
    obtain rfl := Option.some.inj e
    exact h2
theorem cutL_len (l : List B) : (cutL l).length ≤ 6 := by
  unfold cutL
  rw [List.length_map, List.length_take]
  omega
theorem cutL_x {l : List B} {x : B} (h : x ∈ cutL l) : x.length ≤ 200 := by
  obtain ⟨y, _, rfl⟩ := List.mem_map.1 h
  unfold c200
  rw [List.length_take]
  omega
end Go.Proofs.YtaiiojbakmminaaGreatDoor
namespace Go.Proofs.YtaiiojbakmminaaGreatDoor
open Go Go.RowKit
/-- Something that is done. -/
structure AC where
  kind : Int
  s : B
  la : Option Addr
  l : List B
  lc : Nat
  at_ : Int
  keep : Int
  torn : Int
def aC (a : AC) : Array Value := #[.int .i64 a.kind, .string ⟨a.s.toArray⟩, .slice a.la a.l.length a.lc, .int .i64 a.at_, .int .i64 a.keep, .int .i64 a.torn]
theorem aC_g0 (a : AC) : (aC a)[0]? = some (.int .i64 a.kind) := rfl
theorem aC_g1 (a : AC) : (aC a)[1]? = some (.string ⟨a.s.toArray⟩) := rfl
theorem aC_g2 (a : AC) : (aC a)[2]? = some (.slice a.la a.l.length a.lc) := rfl
theorem aC_g4 (a : AC) : (aC a)[4]? = some (.int .i64 a.keep) := rfl
theorem aC_g5 (a : AC) : (aC a)[5]? = some (.int .i64 a.torn) := rfl
theorem aC_one (a : AC) : (aC a).all (·.oneCell') = true := by simp [aC, Value.oneCell']
theorem zAct : (∀ w, (zeroValue 34).run Tryz.prog w = .ok (.agg #[.int .i64 0, .string ⟨#[]⟩, .slice none 0 0, .int .i64 0, .int .i64 0, .int .i64 0]) w) ∧ (Tryz.prog.info? 34).map (·.size) = some 6 := zero_of_info (by kernel_rfl)
theorem iAct (a : AC) : (Tryz.prog.info? 34).map (·.size) = some (aC a).size := zAct.2
/-- Acts lie at an address, with their texts. -/
structure AA (w : World) (ad : Option Addr) (l : List AC) : Prop where
  out : ∀ i x, l[i]? = some x → ∃ g o, ad = some ⟨g, o, none⟩ ∧ w.rangeAt g (o + i * 6) (aC x).toList ∧ XA w x.la x.l ∧ x.l.length ≤ x.lc
theorem range_below {w w' : World} {g o : Nat} {c : List Value} (h : w.rangeAt g o c) (hb : Below w.heap.size w w') : w'.rangeAt g o c := fun j v hv => by
  have h6 := h j v hv
  exact (hb.cell (World.block_lt_of_cell? _ _ h6)).trans h6
end Go.Proofs.YtaiiojbakmminaaGreatDoor
namespace Go.Proofs.YtaiiojbakmminaaGreatDoor
open Go Go.ChangeShapes Go.WideShapes Go.ChangeAt Go.WideMaps Go.WideElems Go.RowKit
theorem clA : Tryz.prog.cellsOf 34 = 6 := by kernel_rfl
theorem clFa : Tryz.prog.cellsOf 32 = 3 := by kernel_rfl
theorem clI : Tryz.prog.cellsOf 3 = 1 := by kernel_rfl
theorem clTx : Tryz.prog.cellsOf 30 = 1 := by kernel_rfl
/-- What is in a list is not more than the list. -/
theorem bulk_in {H : Type} {d : DataW H} : ∀ {l : List (DataW H)}, d ∈ l → Rows.uptoBulk d ≤ Rows.uptoBulkAll l
  | x :: r, h => by
    have e : Rows.uptoBulkAll (x :: r) = Rows.uptoBulk x + Rows.uptoBulkAll r := by simp only [Rows.uptoBulkAll]
    rcases List.mem_cons.1 h with rfl | h
    · omega
    · have := bulk_in h
      omega
theorem texts_of {H : Type} {enc : TypeId × Value → H} {W : World} {n : Nat} {sp : Nat → Bool} {held : Bool} {base : Nat} {cs : List Value} {x : DataW H × List MemPlace} (h : DataW.trod enc Tryz.prog W base sp held n 30 cs = some x) :
    ∃ (a : Option Addr) (l : List B) (cap : Nat), cs = [.slice a l.length cap] ∧ l.length ≤ cap ∧ XA W a l := by
  rcases open_strings Tryz.underlying30 Tryz.underlying9 clStr h with ⟨hcs, _⟩ | ⟨x, l, c, ss, hcs, _, hl, hm, hz, _, hcell, hws⟩
  · exact ⟨none, [], 0, hcs, Nat.le_refl _, ⟨fun j x hx => by simp at hx⟩⟩
  · have hz' : l ≤ ss.length := by rw [hz]; split <;> omega
    have hll : ((ss.take l).map (fun s => s.data.toList)).length = l := by rw [List.length_map, List.length_take]; omega
    refine ⟨some x, (ss.take l).map (fun s => s.data.toList), c, by rw [hll, hcs], by omega, ⟨fun i y hy => ?_⟩⟩
    obtain ⟨hi, rfl⟩ := List.getElem?_eq_some_iff.1 hy
    have hi' : i < l := by omega
    obtain ⟨b, off, spot⟩ := x
    have hc := hcell 0 (by omega)
    have hspot : spot = none := by simpa [Addr.add] using World.cell?_spot hc
    subst hspot
    refine ⟨b, off, rfl, ?_⟩
    have := hcell i (by omega)
    rw [Addr.add_mid] at this
    rw [this, List.getD_eq_getElem?_getD, List.getElem?_eq_getElem (by omega)]
    simp [sv]
set_option maxRecDepth 100000 in
theorem fall_of {H : Type} {enc : TypeId × Value → H} {W : World} {n : Nat} {sp : Nat → Bool} {held : Bool} {base : Nat} {cs : List Value} {x : DataW H × List MemPlace} (h : DataW.trod enc Tryz.prog W base sp held n 32 cs = some x) :
    ∃ (p q r : Int), cs = [.int .i64 p, .int .i64 q, .int .i64 r] := by
  obtain ⟨xs, f, _, _, hl, hxl, hf⟩ := DataW.trod_struct Tryz.underlying32 h
  rw [clFa] at hl
  match xs, hxl, cs, hl with
  | [y0, y1, y2], _, [v0, v1, v2], _ =>
    have g0 := hf 0 _ rfl
    have g1 := hf 1 _ rfl
    have g2 := hf 2 _ rfl
    simp [clI] at g0 g1 g2
    obtain ⟨k, e0, _, _⟩ := DataW.trod_int Tryz.underlying3 g0
    obtain ⟨m, e1, _, _⟩ := DataW.trod_int Tryz.underlying3 g1
    obtain ⟨y, e2, _, _⟩ := DataW.trod_int Tryz.underlying3 g2
    refine ⟨k, m, y, ?_⟩
    simp at e0 e1 e2
    subst e0 e1 e2
    rfl
set_option maxRecDepth 100000 in
theorem act_of {H : Type} {enc : TypeId × Value → H} {W : World} {n : Nat} {sp : Nat → Bool} {held : Bool} {base : Nat} {cs : List Value} {x : DataW H × List MemPlace} (h : DataW.trod enc Tryz.prog W base sp held n 34 cs = some x) :
    ∃ a : AC, cs = (aC a).toList ∧ a.s.length ≤ Rows.uptoBulk x.1 ∧ XA W a.la a.l ∧ a.l.length ≤ a.lc := by
  obtain ⟨xs, f, _, hx, hl, hxl, hf⟩ := DataW.trod_struct Tryz.underlying34 h
  rw [clA] at hl
  match xs, hxl, cs, hl with
  | [y0, y1, y2, y3], _, [v0, v1, v2, v3, v4, v5], _ =>
    have g0 := hf 0 _ rfl
    have g1 := hf 1 _ rfl
    have g2 := hf 2 _ rfl
    have g3 := hf 3 _ rfl
    simp [clI, clStr, clTx, clFa] at g0 g1 g2 g3
    obtain ⟨k, e0, _, _⟩ := DataW.trod_int Tryz.underlying3 g0
    obtain ⟨s, e1, b1, _⟩ := DataW.trod_string Tryz.underlying9 g1
    obtain ⟨la, l, lc, e2, b2, b3⟩ := texts_of g2
    obtain ⟨p, q, r, e3⟩ := fall_of g3
    refine ⟨⟨k, s.data.toList, la, l, lc, p, q, r⟩, ?_, ?_, b3, b2⟩
    · simp at e0 e1 e2 e3
      obtain ⟨e3, e4, e5⟩ := e3
      subst e0 e1 e2 e3 e4 e5
      rfl
    · have h1 : y1.1 ∈ [y0, y1, y2, y3].map (·.1) := by simp
      have h2 := bulk_in h1
      have h3 : Rows.uptoBulk x.1 = Rows.uptoBulkAll ([y0, y1, y2, y3].map (·.1)) + 1 := by rw [hx]; simp only [Rows.uptoBulk]
      have h4 : Rows.uptoBulk y1.1 = s.data.toList.length + 1 := by rw [b1]; simp only [Rows.uptoBulk]
      show s.data.toList.length ≤ _
      omega
set_option maxRecDepth 100000 in
theorem acts_of {H : Type} {enc : TypeId × Value → H} {W : World} {r : Reach} {base : Nat} {v : Value} {d : DataW H} {p : List MemPlace} (hv : Value.okWide Tryz.prog W r base 22 v) (h : DataW.Trod enc Tryz.prog W 0 (fun _ => true) true 22 v d p) :
    ∃ (l : List AC) (a : Option Addr) (cap : Nat), v = .slice a l.length cap ∧ AA W a l ∧ ∀ x ∈ l, x.s.length ≤ Rows.uptoBulk d := by
  obtain ⟨fuel, hf⟩ := h
  obtain ⟨a0, len, cap, rfl⟩ := okWide_slice Tryz.underlying22 hv
  rcases DataW.trod_slice Tryz.underlying22 hf with ⟨hcs, _⟩ | ⟨a, l, c, elems, rest, n, _, hcs, hd, _, hl, hm, hel, hc, _, _⟩
  · simp [Value.cells] at hcs
    obtain ⟨_, rfl, _⟩ := hcs
    exact ⟨[], a0, cap, rfl, ⟨fun i x hx => by simp at hx⟩, fun _ hx => (by cases hx)⟩
  · simp [Value.cells] at hcs
    obtain ⟨rfl, rfl, rfl⟩ := hcs
    have hd1 : d = .slice (elems.map (·.1)) (rest.map (·.1)) := congrArg Prod.fst hd
    by_cases hl0 : len = 0
    · exact ⟨[], some a, cap, by rw [hl0]; rfl, ⟨fun i x hx => by simp at hx⟩, fun _ hx => (by cases hx)⟩
    have each : ∀ i, i < len → ∃ b : AC, W.cells? 0 (a.add (i * 6)) 6 = some (aC b).toList ∧ b.s.length ≤ Rows.uptoBulk d ∧ XA W b.la b.l ∧ b.l.length ≤ b.lc := by
      intro i hi
      have h1 := hc i hi
      have hie : i < elems.length := by omega
      rw [clA, List.getElem?_eq_getElem hie] at h1
      obtain ⟨cs', h2, h3⟩ := Option.bind_eq_some_iff.1 h1
      obtain ⟨b, rfl, h4, h5, h6⟩ := act_of h3
      refine ⟨b, h2, ?_, h5, h6⟩
      have h7 : (elems[i]).1 ∈ elems.map (·.1) := List.mem_map.2 ⟨_, List.getElem_mem hie, rfl⟩
      have h8 := bulk_in h7
      have h9 : Rows.uptoBulk d = Rows.uptoBulkAll (elems.map (·.1)) + Rows.uptoBulkAll (rest.map (·.1)) + 1 := by rw [hd1]; simp only [Rows.uptoBulk]
      omega
    obtain ⟨g, o, spot⟩ := a
    obtain ⟨q0, hq0, _⟩ := each 0 (by omega)
    obtain ⟨_, _, hcell0⟩ := World.cells?_some hq0
    have c0 := hcell0 0 (by omega)
    have hspot : spot = none := by
      have e : W.cell? (((⟨g, o, spot⟩ : Addr).add (0 * 6)).add 0) = some (.int .i64 q0.kind) := c0
      simpa [Addr.add] using World.cell?_spot e
    subst hspot
    have each2 : ∀ i, ∃ b : AC, i < len → W.rangeAt g (o + i * 6) (aC b).toList ∧ b.s.length ≤ Rows.uptoBulk d ∧ XA W b.la b.l ∧ b.l.length ≤ b.lc := by
      intro i
      by_cases hi : i < len
      · obtain ⟨q, hq, h4⟩ := each i hi
        refine ⟨q, fun _ => ⟨fun j v hv => ?_, h4⟩⟩
        obtain ⟨_, hlen, hcell⟩ := World.cells?_some hq
        have hj : j < 6 := (List.getElem?_eq_some_iff.1 hv).1
        have := hcell j hj
        rw [Addr.add_mid, Addr.add_mid] at this
        rw [this, hv]
      · exact ⟨⟨0, [], none, [], 0, 0, 0, 0⟩, fun h => absurd h hi⟩
    obtain ⟨f, hf⟩ := Classical.skolem.1 each2
    refine ⟨(List.range len).map f, some ⟨g, o, none⟩, cap, by simp, ⟨fun i x hx => ?_⟩, fun x hx => ?_⟩
    · obtain ⟨hi, rfl⟩ := List.getElem?_eq_some_iff.1 hx
      have hi' : i < len := by simpa using hi
      simp only [List.getElem_map, List.getElem_range]
      exact ⟨g, o, rfl, (hf i hi').1, (hf i hi').2.2.1, (hf i hi').2.2.2⟩
    · obtain ⟨i, hi, rfl⟩ := List.mem_map.1 hx
      exact (hf i (List.mem_range.1 hi)).2.1
end Go.Proofs.YtaiiojbakmminaaGreatDoor
namespace Go.Proofs.YtaiiojbakmminaaGreatDoor
open Go Go.RowKit
theorem frs_cut {k : List B} (hk : k.length ≤ 6) (hx : ∀ x ∈ k, x.length ≤ 200) : (frs k).length ≤ 1248 := by
  have : ∀ m : List B, (∀ x ∈ m, x.length ≤ 200) → (frs m).length ≤ 208 * m.length := fun m => by
    induction m with
    | nil => intro _; exact Nat.le_refl 0
    | cons y r ih =>
      intro hm
      have e1 : frs (y :: r) = frs [y] ++ frs r := frs_app [y] r
      have := ih fun x hx => hm x (List.mem_cons_of_mem _ hx)
      have := hm y (List.mem_cons_self ..)
      rw [e1, frs_one, List.length_append, frame_len, List.length_cons]
      omega
  have := this k hx
  have := Nat.mul_le_mul_left 208 hk
  omega
/-- Behind n acts the log has the snapshot s and the records k. -/
structure PlL (w wl : World) (q p : Nat) (M : Int) (fb : Option Nat) (s : B) (k : List B) (n : Nat) : Prop where
  out : ∃ L P lb ls ch, Py L P lb ls ∧ L.most = M ∧ L.snap = s ∧ L.recs = k ∧ L.g ≤ n + 1 ∧ L.segs ≤ n ∧ usedP P ≤ 1050000 + n * 1300 ∧ ch ≤ 10 + n * 120 ∧ Gs w wl q p L (cm P 0 ch) fb
  low : ∀ i, fb = some i → w.heap.size ≤ i
  len : k.length ≤ n * 6
theorem PlL.bel {w wl : World} {q p : Nat} {M : Int} {fb : Option Nat} {s : B} {k : List B} {n : Nat} (h : PlL w wl q p M fb s k n) : Below w.heap.size w wl := by
  obtain ⟨L, P, lb, ls, ch, h1, h2, h3, h4, h5, h6, h7, h8, h9⟩ := h.out
  exact h9.bel
theorem PlL.below {w wl wa : World} {q p : Nat} {M : Int} {fb : Option Nat} {s : B} {k : List B} {n : Nat} (h : PlL w wl q p M fb s k n) (hb : Below wl.heap.size wl wa) : PlL w wa q p M fb s k n := by
  obtain ⟨L, P, lb, ls, ch, h1, h2, h3, h4, h5, h6, h7, h8, h9⟩ := h.out
  exact ⟨⟨L, P, lb, ls, ch, h1, h2, h3, h4, h5, h6, h7, h8, h9.below hb⟩, h.low, h.len⟩
theorem PlL.other {w wl wa : World} {q p : Nat} {M : Int} {fb fc : Option Nat} {s : B} {k : List B} {n : Nat} (h : PlL w wl q p M fb s k n) (hb : Below wl.heap.size wl wa) (hn : ∀ i, fc = some i → wl.heap.size ≤ i ∧ SB wa i) : PlL w wa q p M fc s k n := by
  obtain ⟨L, P, lb, ls, ch, h1, h2, h3, h4, h5, h6, h7, h8, h9⟩ := h.out
  exact ⟨⟨L, P, lb, ls, ch, h1, h2, h3, h4, h5, h6, h7, h8, h9.other hb fun i e => ⟨.inr (hn i e).1, (hn i e).2⟩⟩, fun i e => Nat.le_trans h9.bel.size (hn i e).1, h.len⟩
theorem PlL.row {w wl wg w1 : World} {q p : Nat} {M : Int} {fb fc : Option Nat} {s : B} {k : List B} {n : Nat} (h : PlL w wl q p M fb s k n) (hb : Below wl.heap.size wl wg) (hg : wg.grownBy w1 fb) (hn : ∀ i, fc = some i → (fb = some i ∨ wg.heap.size ≤ i) ∧ SB w1 i) : PlL w w1 q p M fc s k n := by
  obtain ⟨L, P, lb, ls, ch, h1, h2, h3, h4, h5, h6, h7, h8, h9⟩ := h.out
  refine ⟨⟨L, P, lb, ls, ch, h1, h2, h3, h4, h5, h6, h7, h8, (h9.below hb).row h.low hg hn⟩, fun i e => ?_, h.len⟩
  rcases (hn i e).1 with h10 | h10
  · exact h.low i h10
  · have := h9.bel.size; have := hb.size; omega
set_option maxRecDepth 100000 in
theorem pl_add {w wl wa : World} {q p : Nat} {M : Int} {fb : Option Nat} {s : B} {k : List B} {n : Nat} (h : PlL w wl q p M fb s k n) (hG : Gw w) (hn : n ≤ 60) (hB : Below wl.heap.size wl wa) (l : List B) (ad : Option Addr) (cap : Nat) (hT : TA wa ad l) (hs : ∀ a, ad = some a → fb = some a.block ∨ wl.heap.size ≤ a.block)
    (hl : l.length ≤ 6) (hx : ∀ x ∈ l, x.length ≤ 200) :
    Calls Tryz.prog 16 #[.pointer (some ⟨q, 0, none⟩), .slice ad l.length cap] wa fun e w' => e = .returned (.int .i64 0) ∧ PlL w w' q p M fb s (k ++ l) (n + 1) ∧ Kp wl w' fb := by
  obtain ⟨L, P, lb, ls, ch, h1, h2, h3, h4, h5, h6, h7, h8, h9⟩ := h.out
  have hf := frs_cut hl hx
  have hls := h1.segs
  have hkl := h.len
  refine (gs_add h9 hG h1 hB l ad cap hT hs (by omega) (by omega) (by omega) (by rw [h4]; omega)).mono ?_
  rintro e w' ⟨rfl, hGs, hKp⟩
  obtain ⟨ls', hpy', _⟩ := py_add h1 l (fun y hy => by have := hx y hy; omega) (by omega)
  have hus := used_addP (L := L) h1.ld.ris l
  refine ⟨rfl, ⟨⟨addL L l, addP L P l, lb, ls', ch + 1, hpy', h2, h3, by rw [← h4]; rfl, by show L.g ≤ _; omega, ?_, by omega, by omega, hGs⟩, h.low, by rw [List.length_append]; omega⟩, hKp⟩
  show addK L ≤ n + 1
  unfold addK
  split <;> omega
set_option maxRecDepth 100000 in
theorem pl_reset {w wl wa : World} {q p : Nat} {M : Int} {fb : Option Nat} {s : B} {k : List B} {n : Nat} (h : PlL w wl q p M fb s k n) (hG : Gw w) (hn : n ≤ 60) (hB : Below wl.heap.size wl wa) (s2 : B) (l : List B) (ad : Option Addr) (cap : Nat) (hT : TA wa ad l) (hs : ∀ a, ad = some a → fb = some a.block ∨ wl.heap.size ≤ a.block)
    (hs2 : s2.length ≤ 1048576) (hl : l.length ≤ 6) (hx : ∀ x ∈ l, x.length ≤ 200) :
    Calls Tryz.prog 12 #[.pointer (some ⟨q, 0, none⟩), .string ⟨s2.toArray⟩, .slice ad l.length cap] wa fun e w' => e = .returned (.int .i64 0) ∧ PlL w w' q p M fb s2 l (n + 1) ∧ Kp wl w' fb := by
  obtain ⟨L, P, lb, ls, ch, h1, h2, h3, h4, h5, h6, h7, h8, h9⟩ := h.out
  have hf := frs_cut hl hx
  have hf2 : (frs [s2]).length ≤ 1048584 := by rw [frs_one, frame_len]; omega
  obtain ⟨ch', hc', HR⟩ := gs_reset h9 hG h1 hB s2 l ad cap hT hs (by omega) (by omega) (by omega) (by omega) (by omega)
  refine HR.mono ?_
  rintro e w' ⟨rfl, hGs, hKp⟩
  refine ⟨rfl, ⟨⟨_, _, l, [], ch', py_reset L s2 l (by omega), h2, rfl, rfl, by show L.g + 1 ≤ _; omega, Nat.zero_le _, ?_, by omega, hGs⟩, h.low, by omega⟩, hKp⟩
  have e1 : usedP [(baseN (L.g + 1), frs [s2] ++ frs l)] = (frs [s2] ++ frs l).length := by simp [usedP]
  rw [e1, List.length_append]
  omega
set_option maxRecDepth 100000 in
theorem pl_open {w wl : World} {q p : Nat} {M : Int} {fb : Option Nat} {s : B} {k : List B} {n : Nat} (h : PlL w wl q p M fb s k n) (hG : Gw w) (hn : n ≤ 60) (hM : 1 ≤ M) :
    Calls Tryz.prog 10 #[.pointer (some ⟨p, 0, none⟩), .int .i64 M] wl fun e w' => ∃ q', e = .returned (.tuple #[.pointer (some ⟨q', 0, none⟩), .int .i64 0, .int .i64 0]) ∧ PlL w w' q' p M fb s k (n + 1) ∧ Kp wl w' fb := by
  obtain ⟨L, P, lb, ls, ch, h1, h2, h3, h4, h5, h6, h7, h8, h9⟩ := h.out
  have hkl := h.len
  have := gs_open h9 hG h1 (by rw [h2]; exact hM) (by omega) (by omega) (by rw [h4]; omega)
  rw [h2] at this
  refine this.mono ?_
  rintro e w' ⟨q', rfl, hGs, hKp⟩
  exact ⟨q', rfl, ⟨⟨L, P, lb, ls, ch, h1, h2, h3, h4, by omega, by omega, by omega, by omega, hGs⟩, h.low, by omega⟩, hKp⟩
/-- The power has failed. -/
structure PlD (w wl : World) (q p : Nat) (M : Int) (fb : Option Nat) (s : B) (k : List B) (n : Nat) : Prop where
  out : ∃ L P lb ls ch, Py L P lb ls ∧ L.most = M ∧ L.snap = s ∧ L.recs = k ∧ L.g ≤ n + 1 ∧ L.segs ≤ n ∧ usedP P ≤ 1050000 + n * 1300 ∧ ch ≤ 10 + n * 120 ∧ Gs w wl q p L { cm P 0 ch with dead := true } fb
  low : ∀ i, fb = some i → w.heap.size ≤ i
  len : k.length ≤ n * 6
theorem pl_crash {w wl : World} {q p : Nat} {M : Int} {fb : Option Nat} {s : B} {k : List B} {n : Nat} (h : PlL w wl q p M fb s k n) (hG : Gw w) (hn : n ≤ 60) (z t : Int) :
    Calls Tryz.prog 14 #[.pointer (some ⟨p, 0, none⟩), .int .i64 z, .int .i64 t] wl fun e w' => e = .returned (.tuple #[]) ∧ PlD w w' q p M fb s k n ∧ Kp wl w' fb := by
  obtain ⟨L, P, lb, ls, ch, h1, h2, h3, h4, h5, h6, h7, h8, h9⟩ := h.out
  refine (gs_crash h9 hG h1 z t (by omega) (by omega)).mono ?_
  rintro e w' ⟨rfl, hGs, hKp⟩
  exact ⟨rfl, ⟨⟨L, P, lb, ls, ch, h1, h2, h3, h4, h5, h6, h7, h8, hGs⟩, h.low, h.len⟩, hKp⟩
theorem pl_up {w wl : World} {q p : Nat} {M : Int} {fb : Option Nat} {s : B} {k : List B} {n : Nat} (h : PlD w wl q p M fb s k n) (hG : Gw w) :
    Calls Tryz.prog 15 #[.pointer (some ⟨p, 0, none⟩)] wl fun e w' => e = .returned (.bool true) ∧ PlL w w' q p M fb s k n ∧ Kp wl w' fb := by
  obtain ⟨L, P, lb, ls, ch, h1, h2, h3, h4, h5, h6, h7, h8, h9⟩ := h.out
  refine (gs_up h9 hG rfl).mono ?_
  rintro e w' ⟨rfl, hGs, hKp⟩
  exact ⟨rfl, ⟨⟨L, P, lb, ls, ch, h1, h2, h3, h4, h5, h6, h7, h8, hGs⟩, h.low, h.len⟩, hKp⟩
theorem PlL.tell {w wl : World} {q p : Nat} {M : Int} {fb : Option Nat} {s : B} {k : List B} {n : Nat} (h : PlL w wl q p M fb s k n) (hn : n ≤ 60) :
    Calls Tryz.prog 17 #[.pointer (some ⟨q, 0, none⟩)] wl (fun e w' => e = .returned (.string ⟨s.toArray⟩) ∧ w' = wl) ∧
    Calls Tryz.prog 18 #[.pointer (some ⟨q, 0, none⟩)] wl (fun e w' => e = .returned (.int .i64 (k.length : Nat)) ∧ w' = wl) ∧
    Calls Tryz.prog 20 #[.pointer (some ⟨q, 0, none⟩)] wl (fun e w' => ∃ a c, e = .returned (.slice a k.length c) ∧ Below wl.heap.size wl w' ∧ TA w' a k) := by
  obtain ⟨L, P, lb, ls, ch, h1, h2, h3, h4, h5, h6, h7, h8, h9⟩ := h.out
  have hkl := h.len
  obtain ⟨b, rb, hK⟩ := gs_wk h9
  have k1 := snapL_log q p b rb L _ wl hK
  have k2 := lenL_log q p b rb L _ wl hK
  have k4 := allL_log q p b rb L _ wl hK (by rw [h4]; omega)
  rw [h3] at k1
  rw [h4] at k2 k4
  refine ⟨k1, k2, k4.mono ?_⟩
  rintro e w' ⟨v, rb2, rfl, hb, hT, _⟩
  obtain ⟨a, c, rfl, _⟩ := hT.sl
  exact ⟨a, c, rfl, hb, hT.ta⟩
end Go.Proofs.YtaiiojbakmminaaGreatDoor
