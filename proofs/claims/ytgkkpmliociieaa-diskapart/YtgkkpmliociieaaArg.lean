/- What is done, out of what an argument reads as. -/
import Derived.Test.YtgkkpmliociieaaVod
import Derived.Test.YtgkkpmliociieaaChecked
import Derived.ProofKit
import Derived.LaidMore
import Derived.OpenShut
import Derived.Stop.Joined
import Derived.Deep.Slices
namespace Go.Proofs.Ytgkkpmliociieaa
open Go Go.ChangeShapes Go.WideShapes Go.ChangeAt Go.WideMaps Go.WideElems Go.RowKit
theorem ownK : ownKnob Try.prog.godebug = none := by kernel_rfl
theorem laidOutT : laidOutB Try.prog = true := by kernel_rfl
theorem clA : Try.prog.cellsOf 36 = 8 := by kernel_rfl
theorem clFa : Try.prog.cellsOf 34 = 3 := by kernel_rfl
theorem cl3 : Try.prog.cellsOf 3 = 1 := by kernel_rfl
theorem cl9 : Try.prog.cellsOf 9 = 1 := by kernel_rfl
/-- What the parts of what is done may be. -/
structure AcOk (a : AC) : Prop where
  name : a.name.length ≤ 9223372036854775807
  to : a.to.length ≤ 9223372036854775807
  s : a.s.length ≤ 9223372036854775807
  n : -9223372036854775808 ≤ a.n ∧ a.n ≤ 9223372036854775807
set_option maxRecDepth 100000 in
theorem fall_of {H : Type} {enc : TypeId × Value → H} {W : World} {n : Nat} {sp : Nat → Bool} {held : Bool} {base : Nat} {cs : List Value} {x : DataW H × List MemPlace} (h : DataW.trod enc Try.prog W base sp held n 34 cs = some x) :
    ∃ (p q r : Int), cs = (falC p q r).toList := by
  obtain ⟨xs, f, _, _, hl, hxl, hf⟩ := DataW.trod_struct Try.underlying34 h
  rw [clFa] at hl
  match xs, hxl, cs, hl with
  | [y0, y1, y2], _, [v0, v1, v2], _ =>
    have g0 := hf 0 _ rfl
    have g1 := hf 1 _ rfl
    have g2 := hf 2 _ rfl
    simp [cl3] at g0 g1 g2
    obtain ⟨k, e0, _, _⟩ := DataW.trod_int Try.underlying3 g0
    obtain ⟨m, e1, _, _⟩ := DataW.trod_int Try.underlying3 g1
    obtain ⟨y, e2, _, _⟩ := DataW.trod_int Try.underlying3 g2
    refine ⟨k, m, y, ?_⟩
    simp at e0 e1 e2
    subst e0 e1 e2
    rfl
set_option maxRecDepth 100000 in
theorem act_of {H : Type} {enc : TypeId × Value → H} {W : World} {n : Nat} {sp : Nat → Bool} {held : Bool} {base : Nat} {cs : List Value} {x : DataW H × List MemPlace} (h : DataW.trod enc Try.prog W base sp held n 36 cs = some x) :
    ∃ a : AC, cs = (aC a).toList ∧ AcOk a := by
  obtain ⟨xs, f, _, _, hl, hxl, hf⟩ := DataW.trod_struct Try.underlying36 h
  rw [clA] at hl
  match xs, hxl, cs, hl with
  | [y0, y1, y2, y3, y4, y5], _, [v0, v1, v2, v3, v4, v5, v6, v7], _ =>
    have g0 := hf 0 _ rfl
    have g1 := hf 1 _ rfl
    have g2 := hf 2 _ rfl
    have g3 := hf 3 _ rfl
    have g4 := hf 4 _ rfl
    have g5 := hf 5 _ rfl
    simp [cl3, cl9, clFa] at g0 g1 g2 g3 g4 g5
    obtain ⟨k, e0, _, _⟩ := DataW.trod_int Try.underlying3 g0
    obtain ⟨nm, e1, _, b1⟩ := DataW.trod_string Try.underlying9 g1
    obtain ⟨to, e2, _, b2⟩ := DataW.trod_string Try.underlying9 g2
    obtain ⟨s, e3, _, b3⟩ := DataW.trod_string Try.underlying9 g3
    obtain ⟨m, e4, _, w4⟩ := DataW.trod_int Try.underlying3 g4
    obtain ⟨p, q, r, e5⟩ := fall_of g5
    have b4 : -9223372036854775808 ≤ m ∧ m ≤ 9223372036854775807 := by simpa [Lit.wf, IntKind.min, IntKind.max, IntKind.signed, IntKind.bits] using w4
    have hsz : ∀ x : ByteArray, x.size ≤ maxLen → x.data.toList.length ≤ 9223372036854775807 := fun x hx => by
      rw [Array.length_toList]
      exact hx
    refine ⟨⟨k, nm.data.toList, to.data.toList, s.data.toList, m, p, q, r⟩, ?_, ⟨hsz _ b1, hsz _ b2, hsz _ b3, b4⟩⟩
    simp [falC] at e0 e1 e2 e3 e4 e5
    obtain ⟨e5, e6, e7⟩ := e5
    subst e0 e1 e2 e3 e4 e5 e6 e7
    rfl
set_option maxRecDepth 100000 in
/-- One thing that is done, as an argument. -/
theorem one_of {H : Type} {enc : TypeId × Value → H} {W : World} {r : Reach} {base : Nat} {v : Value} {d : DataW H} {p : List MemPlace} (hv : Value.okWide Try.prog W r base 36 v) (h : DataW.Trod enc Try.prog W 0 (fun _ => true) true 36 v d p) :
    ∃ a : AC, v = .agg (aC a) ∧ AcOk a := by
  obtain ⟨cs, rfl, hsz⟩ := okWide_struct Try.underlying36 hv
  obtain ⟨fuel, hf⟩ := h
  obtain ⟨cl⟩ := cs
  have hf2 : DataW.trod enc Try.prog W 0 (fun _ => true) true fuel 36 cl = some (d, p) := by simpa [Value.cells] using hf
  obtain ⟨a, rfl, ha⟩ := act_of hf2
  exact ⟨a, by simp, ha⟩
/-- Things that are done lie at an address. -/
def AA (w : World) (a : Option Addr) (l : List AC) : Prop := ∀ i (h : i < l.length), ∃ g o, a = some ⟨g, o, none⟩ ∧ w.rangeAt g (o + i * 8) (aC l[i]).toList
theorem AA.nil (w : World) (a : Option Addr) : AA w a [] := fun _ h => absurd h (Nat.not_lt_zero _)
theorem AA.below {w w' : World} {a : Option Addr} {l : List AC} (h : AA w a l) (hb : Below w.heap.size w w') : AA w' a l := fun i hi => by
  obtain ⟨g, o, h1, h2⟩ := h i hi
  refine ⟨g, o, h1, fun j v hv => ?_⟩
  have h6 := h2 j v hv
  exact (hb.cell (World.block_lt_of_cell? _ _ h6)).trans h6
set_option maxRecDepth 100000 in
theorem acts_of {H : Type} {enc : TypeId × Value → H} {W : World} {r : Reach} {base : Nat} {v : Value} {d : DataW H} {p : List MemPlace} (hv : Value.okWide Try.prog W r base 22 v) (h : DataW.Trod enc Try.prog W 0 (fun _ => true) true 22 v d p) :
    ∃ (l : List AC) (a : Option Addr) (cap : Nat), v = .slice a l.length cap ∧ AA W a l ∧ l.length ≤ maxLen ∧ ∀ x ∈ l, AcOk x := by
  obtain ⟨fuel, hf⟩ := h
  obtain ⟨a0, len, cap, rfl⟩ := okWide_slice Try.underlying22 hv
  rcases DataW.trod_slice Try.underlying22 hf with ⟨hcs, _⟩ | ⟨a, l, c, elems, rest, n, _, hcs, _, _, hl, hm, hel, hc, _, _⟩
  · simp [Value.cells] at hcs
    obtain ⟨_, rfl, _⟩ := hcs
    exact ⟨[], a0, cap, rfl, AA.nil _ _, Nat.zero_le _, fun _ hx => (by cases hx)⟩
  · simp [Value.cells] at hcs
    obtain ⟨rfl, rfl, rfl⟩ := hcs
    by_cases hl0 : len = 0
    · exact ⟨[], some a, cap, by rw [hl0]; rfl, AA.nil _ _, Nat.zero_le _, fun _ hx => (by cases hx)⟩
    have each : ∀ i, i < len → ∃ b : AC, W.cells? 0 (a.add (i * 8)) 8 = some (aC b).toList ∧ AcOk b := by
      intro i hi
      have h1 := hc i hi
      rw [clA, List.getElem?_eq_getElem (by omega)] at h1
      obtain ⟨cs', h2, h3⟩ := Option.bind_eq_some_iff.1 h1
      obtain ⟨b, rfl, h4⟩ := act_of h3
      exact ⟨b, h2, h4⟩
    obtain ⟨g, o, spot⟩ := a
    obtain ⟨q0, hq0, _⟩ := each 0 (by omega)
    obtain ⟨_, _, hcell0⟩ := World.cells?_some hq0
    have c0 := hcell0 0 (by omega)
    have hspot : spot = none := by
      have e : W.cell? (((⟨g, o, spot⟩ : Addr).add (0 * 8)).add 0) = some (.int .i64 q0.kind) := c0
      simpa [Addr.add] using World.cell?_spot e
    subst hspot
    have each2 : ∀ i, ∃ b : AC, i < len → W.rangeAt g (o + i * 8) (aC b).toList ∧ AcOk b := by
      intro i
      by_cases hi : i < len
      · obtain ⟨q, hq, h4⟩ := each i hi
        refine ⟨q, fun _ => ⟨fun j v hv => ?_, h4⟩⟩
        obtain ⟨_, hlen, hcell⟩ := World.cells?_some hq
        have hj : j < 8 := (List.getElem?_eq_some_iff.1 hv).1
        have := hcell j hj
        rw [Addr.add_mid, Addr.add_mid] at this
        rw [this, hv]
      · exact ⟨⟨0, [], [], [], 0, 0, 0, 0⟩, fun h => absurd h hi⟩
    obtain ⟨f, hf⟩ := Classical.skolem.1 each2
    refine ⟨(List.range len).map f, some ⟨g, o, none⟩, cap, by simp, fun i hi => ?_, by simp; omega, fun x hx => ?_⟩
    · have hi' : i < len := by simpa using hi
      refine ⟨g, o, rfl, ?_⟩
      simp only [List.getElem_map, List.getElem_range]
      exact (hf i hi').1
    · obtain ⟨i, hi, rfl⟩ := List.mem_map.1 hx
      exact (hf i (List.mem_range.1 hi)).2
set_option maxRecDepth 100000 in
/-- A fall, as an argument. -/
theorem onef_of {H : Type} {enc : TypeId × Value → H} {W : World} {r : Reach} {base : Nat} {v : Value} {d : DataW H} {p : List MemPlace} (hv : Value.okWide Try.prog W r base 34 v) (h : DataW.Trod enc Try.prog W 0 (fun _ => true) true 34 v d p) :
    ∃ x y z : Int, v = .agg (falC x y z) := by
  obtain ⟨cs, rfl, hsz⟩ := okWide_struct Try.underlying34 hv
  obtain ⟨fuel, hf⟩ := h
  obtain ⟨cl⟩ := cs
  have hf2 : DataW.trod enc Try.prog W 0 (fun _ => true) true fuel 34 cl = some (d, p) := by simpa [Value.cells] using hf
  obtain ⟨x, y, z, rfl⟩ := fall_of hf2
  exact ⟨x, y, z, by simp⟩
end Go.Proofs.Ytgkkpmliociieaa
