/- A slice of acts, out of what its argument reads as. -/
import Derived.Test.YtaccklbijihppaaDoorRds
import Derived.Test.YtaccklbijihppaaDoorGlb
import Derived.Deep.Slices
namespace Go.Proofs.YtaccklbijihppaaDoor
open Go Go.ChangeShapes Go.WideShapes Go.ChangeAt Go.WideMaps Go.WideElems Go.RowKit
theorem laidOutT : laidOutB Tryd.prog = true := by kernel_rfl
theorem cl43 : Tryd.prog.cellsOf 43 = 4 := by kernel_rfl
theorem cl3 : Tryd.prog.cellsOf 3 = 1 := by kernel_rfl
theorem cl22 : Tryd.prog.cellsOf 22 = 1 := by kernel_rfl
theorem cl9 : Tryd.prog.cellsOf 9 = 1 := by kernel_rfl
/-- What an act's numbers may be. -/
def fits (n x : Int) : Prop := -9223372036854775808 ≤ n ∧ n ≤ 9223372036854775807 ∧ 0 ≤ x ∧ x < 18446744073709551616
theorem act_of {H : Type} {enc : TypeId × Value → H} {W : World} {n : Nat} {sp : Nat → Bool} {held : Bool} {base : Nat} {cs : List Value} {x : DataW H × List MemPlace} (h : DataW.trod enc Tryd.prog W base sp held n 43 cs = some x) :
    ∃ (k m y : Int) (t : List UInt8), cs = (ac k m y t).toList ∧ fits m y := by
  obtain ⟨xs, f, _, _, hl, hxl, hf⟩ := DataW.trod_struct Tryd.underlying43 h
  rw [cl43] at hl
  match xs, hxl, cs, hl with
  | [y0, y1, y2, y3], _, [v0, v1, v2, v3], _ =>
    have g0 := hf 0 _ rfl
    have g1 := hf 1 _ rfl
    have g2 := hf 2 _ rfl
    have g3 := hf 3 _ rfl
    simp [cl3, cl22, cl9] at g0 g1 g2 g3
    obtain ⟨k, e0, _, _⟩ := DataW.trod_int Tryd.underlying3 g0
    obtain ⟨m, e1, _, w1⟩ := DataW.trod_int Tryd.underlying3 g1
    obtain ⟨y, e2, _, w2⟩ := DataW.trod_int Tryd.underlying22 g2
    obtain ⟨t, e3, _, _⟩ := DataW.trod_string Tryd.underlying9 g3
    have b1 : -9223372036854775808 ≤ m ∧ m ≤ 9223372036854775807 := by simpa [Lit.wf, IntKind.min, IntKind.max, IntKind.signed, IntKind.bits] using w1
    have b2 : 0 ≤ y ∧ y ≤ 18446744073709551615 := by simpa [Lit.wf, IntKind.min, IntKind.max, IntKind.signed, IntKind.bits] using w2
    refine ⟨k, m, y, t.data.toList, ?_, ⟨b1.1, b1.2, b2.1, by omega⟩⟩
    simp at e0 e1 e2 e3
    subst e0 e1 e2 e3
    rfl
theorem acts_of {H : Type} {enc : TypeId × Value → H} {W : World} {a0 : Option Addr} {len cap : Nat} {d0 : DataW H} {p : List MemPlace} (h0 : DataW.Trod enc Tryd.prog W 0 (fun _ => true) true 35 (.slice a0 len cap) d0 p) :
    (a0 = none ∧ len = 0 ∧ cap = 0) ∨ (len = 0 ∧ ∃ a, a0 = some a) ∨ (len ≤ cap ∧ len ≤ maxLen ∧ ∃ (g o : Nat) (K N X : Nat → Int) (T : Nat → List UInt8), a0 = some ⟨g, o, none⟩ ∧ Acts W g o len K N X T ∧ ∀ i, i < len → fits (N i) (X i)) := by
  obtain ⟨fuel, hf⟩ := h0
  rcases DataW.trod_slice Tryd.underlying35 hf with ⟨hcs, _⟩ | ⟨a, l, c, elems, rest, n, _, hcs, _, _, hl, hm, hel, hc, _, _⟩
  · simp [Value.cells] at hcs
    exact .inl hcs
  · simp [Value.cells] at hcs
    obtain ⟨rfl, rfl, rfl⟩ := hcs
    by_cases hl0 : len = 0
    · exact .inr (.inl ⟨hl0, a, rfl⟩)
    right; right
    have each : ∀ i, i < len → ∃ q : Int × Int × Int × List UInt8, W.cells? 0 (a.add (i * 4)) 4 = some (ac q.1 q.2.1 q.2.2.1 q.2.2.2).toList ∧ fits q.2.1 q.2.2.1 := by
      intro i hi
      have h1 := hc i hi
      rw [cl43, List.getElem?_eq_getElem (by omega)] at h1
      obtain ⟨cs', h2, h3⟩ := Option.bind_eq_some_iff.1 h1
      obtain ⟨k, m, y, t, rfl, hfit⟩ := act_of h3
      exact ⟨(k, m, y, t), h2, hfit⟩
    obtain ⟨g, o, spot⟩ := a
    obtain ⟨q0, hq0, _⟩ := each 0 (by omega)
    obtain ⟨_, _, hcell0⟩ := World.cells?_some hq0
    have c0 := hcell0 0 (by omega)
    have hspot : spot = none := by
      have e : W.cell? (((⟨g, o, spot⟩ : Addr).add (0 * 4)).add 0) = some (.int .i64 q0.1) := c0
      simpa [Addr.add] using World.cell?_spot e
    subst hspot
    have each2 : ∀ i, ∃ q : Int × Int × Int × List UInt8, i < len → (W.rangeAt g (o + i * 4) (ac q.1 q.2.1 q.2.2.1 q.2.2.2).toList ∧ fits q.2.1 q.2.2.1) := by
      intro i
      by_cases hi : i < len
      · obtain ⟨q, hq, hfit⟩ := each i hi
        refine ⟨q, fun _ => ⟨fun j v hv => ?_, hfit⟩⟩
        obtain ⟨_, hlen, hcell⟩ := World.cells?_some hq
        have hj : j < 4 := (List.getElem?_eq_some_iff.1 hv).1
        have := hcell j hj
        rw [Addr.add_mid, Addr.add_mid] at this
        rw [this, hv]
      · exact ⟨(0, 0, 0, []), fun h => absurd h hi⟩
    obtain ⟨f, hf⟩ := Classical.skolem.1 each2
    exact ⟨hl, Nat.le_trans hl hm, g, o, fun i => (f i).1, fun i => (f i).2.1, fun i => (f i).2.2.1, fun i => (f i).2.2.2, rfl, ⟨fun i hi => (hf i hi).1⟩, fun i hi => (hf i hi).2⟩
end Go.Proofs.YtaccklbijihppaaDoor
