/- A slice of falls, out of its argument. -/
import Derived.Test.YtaiiojbakmminaaGreatDoorWsr
import Derived.Test.YtaiiojbakmminaaGreatDoorWdo
namespace Go.Proofs.YtaiiojbakmminaaGreatDoor
open Go Go.ChangeShapes Go.WideShapes Go.ChangeAt Go.WideMaps Go.WideElems Go.RowKit
set_option maxRecDepth 100000 in
theorem fallC_of {H : Type} {enc : TypeId × Value → H} {W : World} {n : Nat} {sp : Nat → Bool} {held : Bool} {base : Nat} {cs : List Value} {x : DataW H × List MemPlace} (h : DataW.trod enc Tryz.prog W base sp held n 32 cs = some x) :
    ∃ f : FA, cs = (faA f).toList ∧ f.at_ ≤ 9223372036854775807 := by
  obtain ⟨xs, f, _, _, hl, hxl, hff⟩ := DataW.trod_struct Tryz.underlying32 h
  rw [clFa] at hl
  match xs, hxl, cs, hl with
  | [y0, y1, y2], _, [v0, v1, v2], _ =>
    have g0 := hff 0 _ rfl
    have g1 := hff 1 _ rfl
    have g2 := hff 2 _ rfl
    simp [clI] at g0 g1 g2
    obtain ⟨k, e0, _, w0⟩ := DataW.trod_int Tryz.underlying3 g0
    obtain ⟨m, e1, _, _⟩ := DataW.trod_int Tryz.underlying3 g1
    obtain ⟨y, e2, _, _⟩ := DataW.trod_int Tryz.underlying3 g2
    have b0 : -9223372036854775808 ≤ k ∧ k ≤ 9223372036854775807 := by simpa [Lit.wf, IntKind.min, IntKind.max, IntKind.signed, IntKind.bits] using w0
    simp at e0 e1 e2
    subst e0 e1 e2
    exact ⟨⟨k, m, y⟩, rfl, b0.2⟩
set_option maxRecDepth 100000 in
theorem falls_of {H : Type} {enc : TypeId × Value → H} {W : World} {a0 : Option Addr} {len cap : Nat} {d : DataW H} {p : List MemPlace} (h : DataW.Trod enc Tryz.prog W 0 (fun _ => true) true 45 (.slice a0 len cap) d p) :
    ∃ l : List FA, l.length = len ∧ FL3 W a0 l ∧ ∀ x ∈ l, x.at_ ≤ 9223372036854775807 := by
  obtain ⟨fuel, hf⟩ := h
  rcases DataW.trod_slice Tryz.underlying45 hf with ⟨hcs, _⟩ | ⟨a, l, c, elems, rest, n, _, hcs, hd, _, hl, hm, hel, hc, _, _⟩
  · simp [Value.cells] at hcs
    obtain ⟨_, rfl, _⟩ := hcs
    exact ⟨[], rfl, ⟨fun i x hx => by simp at hx⟩, fun _ hx => (by cases hx)⟩
  · simp [Value.cells] at hcs
    obtain ⟨rfl, rfl, rfl⟩ := hcs
    by_cases hl0 : len = 0
    · exact ⟨[], by rw [hl0]; rfl, ⟨fun i x hx => by simp at hx⟩, fun _ hx => (by cases hx)⟩
    have each : ∀ i, i < len → ∃ b : FA, W.cells? 0 (a.add (i * 3)) 3 = some (faA b).toList ∧ b.at_ ≤ 9223372036854775807 := by
      intro i hi
      have h1 := hc i hi
      have hie : i < elems.length := by omega
      rw [clFa, List.getElem?_eq_getElem hie] at h1
      obtain ⟨cs', h2, h3⟩ := Option.bind_eq_some_iff.1 h1
      obtain ⟨b, rfl, h4⟩ := fallC_of h3
      exact ⟨b, h2, h4⟩
    obtain ⟨g, o, spot⟩ := a
    obtain ⟨q0, hq0, _⟩ := each 0 (by omega)
    obtain ⟨_, _, hcell0⟩ := World.cells?_some hq0
    have c0 := hcell0 0 (by omega)
    have hspot : spot = none := by
      have e : W.cell? (((⟨g, o, spot⟩ : Addr).add (0 * 3)).add 0) = some (.int .i64 q0.at_) := c0
      simpa [Addr.add] using World.cell?_spot e
    subst hspot
    have each2 : ∀ i, ∃ b : FA, i < len → W.rangeAt g (o + i * 3) (faA b).toList ∧ b.at_ ≤ 9223372036854775807 := by
      intro i
      by_cases hi : i < len
      · obtain ⟨q, hq, h4⟩ := each i hi
        refine ⟨q, fun _ => ⟨fun j v hv => ?_, h4⟩⟩
        obtain ⟨_, hlen, hcell⟩ := World.cells?_some hq
        have hj : j < 3 := (List.getElem?_eq_some_iff.1 hv).1
        have := hcell j hj
        rw [Addr.add_mid, Addr.add_mid] at this
        rw [this, hv]
      · exact ⟨⟨0, 0, 0⟩, fun h => absurd h hi⟩
    obtain ⟨f, hf⟩ := Classical.skolem.1 each2
    refine ⟨(List.range len).map f, by simp, ⟨fun i x hx => ?_⟩, fun x hx => ?_⟩
    · obtain ⟨hi, rfl⟩ := List.getElem?_eq_some_iff.1 hx
      have hi' : i < len := by simpa using hi
      simp only [List.getElem_map, List.getElem_range]
      exact ⟨g, o, rfl, (hf i hi').1⟩
    · obtain ⟨i, hi, rfl⟩ := List.mem_map.1 hx
      exact (hf i (List.mem_range.1 hi)).2
end Go.Proofs.YtaiiojbakmminaaGreatDoor
