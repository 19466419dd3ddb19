/- A slice of slices of texts, out of its argument. -/
import Derived.Test.YtaiiojbakmminaaGreatDoorWpl
import Derived.Test.YtaiiojbakmminaaGreatDoorWrq
namespace Go.Proofs.YtaiiojbakmminaaGreatDoor
open Go Go.ChangeShapes Go.WideShapes Go.ChangeAt Go.WideMaps Go.WideElems Go.RowKit
set_option maxRecDepth 100000 in
theorem segs_of {H : Type} {enc : TypeId × Value → H} {W : World} {a0 : Option Addr} {len cap : Nat} {d : DataW H} {p : List MemPlace} (h : DataW.Trod enc Tryz.prog W 0 (fun _ => true) true 47 (.slice a0 len cap) d p) :
    ∃ l : List SG, l.length = len ∧ SA W a0 l := by
  obtain ⟨fuel, hf⟩ := h
  rcases DataW.trod_slice Tryz.underlying47 hf with ⟨hcs, _⟩ | ⟨a, l, c, elems, rest, n, _, hcs, hd, _, hl, hm, hel, hc, _, _⟩
  · simp [Value.cells] at hcs
    obtain ⟨_, rfl, _⟩ := hcs
    exact ⟨[], rfl, ⟨fun i x hx => by simp at hx⟩⟩
  · simp [Value.cells] at hcs
    obtain ⟨rfl, rfl, rfl⟩ := hcs
    by_cases hl0 : len = 0
    · exact ⟨[], by rw [hl0]; rfl, ⟨fun i x hx => by simp at hx⟩⟩
    have each : ∀ i, i < len → ∃ b : SG, W.cells? 0 (a.add (i * 1)) 1 = some [.slice b.a b.l.length b.c] ∧ XA W b.a b.l ∧ b.l.length ≤ b.c := by
      intro i hi
      have h1 := hc i hi
      have hie : i < elems.length := by omega
      rw [clTx, List.getElem?_eq_getElem hie] at h1
      obtain ⟨cs', h2, h3⟩ := Option.bind_eq_some_iff.1 h1
      obtain ⟨la, l, lc, rfl, h5, h6⟩ := texts_of h3
      exact ⟨⟨la, l, lc⟩, h2, h6, h5⟩
    obtain ⟨g, o, spot⟩ := a
    obtain ⟨q0, hq0, _⟩ := each 0 (by omega)
    obtain ⟨_, _, hcell0⟩ := World.cells?_some hq0
    have c0 := hcell0 0 (by omega)
    have hspot : spot = none := by
      have e : W.cell? (((⟨g, o, spot⟩ : Addr).add (0 * 1)).add 0) = some (.slice q0.a q0.l.length q0.c) := c0
      simpa [Addr.add] using World.cell?_spot e
    subst hspot
    have each2 : ∀ i, ∃ b : SG, i < len → W.cell? ⟨g, o + i, none⟩ = some (.slice b.a b.l.length b.c) ∧ XA W b.a b.l ∧ b.l.length ≤ b.c := by
      intro i
      by_cases hi : i < len
      · obtain ⟨q, hq, h4⟩ := each i hi
        refine ⟨q, fun _ => ⟨?_, h4⟩⟩
        obtain ⟨_, hlen, hcell⟩ := World.cells?_some hq
        have := hcell 0 (by omega)
        rw [Addr.add_mid, Addr.add_mid, Nat.mul_one, Nat.add_zero] at this
        exact this
      · exact ⟨⟨none, [], 0⟩, fun h => absurd h hi⟩
    obtain ⟨f, hf⟩ := Classical.skolem.1 each2
    refine ⟨(List.range len).map f, by simp, ⟨fun i x hx => ?_⟩⟩
    obtain ⟨hi, rfl⟩ := List.getElem?_eq_some_iff.1 hx
    have hi' : i < len := by simpa using hi
    simp only [List.getElem_map, List.getElem_range]
    exact ⟨g, o, rfl, (hf i hi').1, (hf i hi').2.1, (hf i hi').2.2⟩
end Go.Proofs.YtaiiojbakmminaaGreatDoor
