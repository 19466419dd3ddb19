/- The arguments of the statements, out of what their rows list of them. -/
import Derived.Test.YtfohcgjkihaepaaDoorSGlb
import Derived.Test.YtfohcgjkihaepaaDoorSSl
namespace Go.Proofs.YtfohcgjkihaepaaDoor
open Go Go.ChangeShapes Go.WideShapes Go.ChangeAt Go.WideMaps Go.WideElems Go.RowKit
theorem cl9 : Tryd.prog.cellsOf 9 = 1 := by kernel_rfl
theorem strs_of {H : Type} {enc : TypeId × Value → H} {W : World} {a0 : Option Addr} {len0 cap0 : Nat} {d0 : DataW H} {p : List MemPlace} (h0 : DataW.Trod enc Tryd.prog W 0 (fun _ => true) true 22 (.slice a0 len0 cap0) d0 p) :
    ∃ l : List (List UInt8), l.length = len0 ∧ Sh.XA W a0 l := by
  obtain ⟨fuel, hf⟩ := h0
  rcases open_strings Tryd.underlying22 Tryd.underlying9 cl9 hf with ⟨hcs, _⟩ | ⟨x, l, c, ss, hcs, _, hl, hm, hz, _, hcell, hws⟩
  · simp [Value.cells] at hcs
    obtain ⟨rfl, rfl, rfl⟩ := hcs
    exact ⟨[], rfl, Sh.XA.nil _ _⟩
  · simp [Value.cells] at hcs
    obtain ⟨rfl, rfl, rfl⟩ := hcs
    have hz' : ss.length = cap0 := by simpa using hz
    have hll : ((ss.take len0).map (fun s => s.data.toList)).length = len0 := by rw [List.length_map, List.length_take]; omega
    refine ⟨(ss.take len0).map (fun s => s.data.toList), hll, fun i hi => ?_⟩
    have hi' : i < len0 := by omega
    obtain ⟨b, off, spot⟩ := x
    have hc := hcell 0 (by omega)
    have hspot : spot = none := by simpa [Addr.add] using World.cell?_spot hc
    subst hspot
    refine ⟨b, off, rfl, ?_⟩
    have := hcell i (by omega)
    rw [Addr.add_mid] at this
    rw [this, List.getD_eq_getElem?_getD, List.getElem?_eq_getElem (by omega)]
    simp
theorem cl3 : Tryd.prog.cellsOf 3 = 1 := by kernel_rfl
theorem clA2 : Tryd.prog.cellsOf 34 = 2 := by kernel_rfl
theorem uA2 : Tryd.prog.underlying 34 = some (.array 2 3) := Tryd.underlying34
/-- A pair of numbers. -/
theorem pair_of {H : Type} {enc : TypeId × Value → H} {W : World} {base : Nat} {v : Value} {d0 : DataW H} {p : List MemPlace} (hv : Value.okWide Tryd.prog W .any base 34 v) (h0 : DataW.Trod enc Tryd.prog W 0 (fun _ => true) true 34 v d0 p) :
    ∃ x y : Int, v = .agg #[.int .i64 x, .int .i64 y] ∧ (-9223372036854775808 ≤ x ∧ x ≤ 9223372036854775807) ∧ (-9223372036854775808 ≤ y ∧ y ≤ 9223372036854775807) := by
  obtain ⟨cs, rfl, hsz, _⟩ : ∃ cs, v = .agg cs ∧ cs.size = Tryd.prog.cellsOf 34 ∧ Row.okWide Tryd.prog W .any base 34 cs := by
    simpa [Value.okWide, uA2] using hv
  rw [clA2] at hsz
  obtain ⟨l⟩ := cs
  have hl : l.length = 2 := hsz
  obtain ⟨fuel, hf⟩ := h0
  obtain ⟨xs, m, _, _, _, hn, hel⟩ := DataW.trod_array uA2 hf
  have e0 := hel 0 (by decide)
  have e1 := hel 1 (by decide)
  rw [cl3, List.getElem?_eq_getElem (by omega)] at e0 e1
  obtain ⟨x, hx, _, wx⟩ := DataW.trod_int Tryd.underlying3 e0
  obtain ⟨y, hy, _, wy⟩ := DataW.trod_int Tryd.underlying3 e1
  have bx : -9223372036854775808 ≤ x ∧ x ≤ 9223372036854775807 := by simpa [Lit.wf, IntKind.min, IntKind.max, IntKind.signed, IntKind.bits] using wx
  have by' : -9223372036854775808 ≤ y ∧ y ≤ 9223372036854775807 := by simpa [Lit.wf, IntKind.min, IntKind.max, IntKind.signed, IntKind.bits] using wy
  match l, hl with
  | [a, b], _ =>
    simp [Value.cells] at hx hy
    subst hx
    subst hy
    exact ⟨x, y, rfl, bx, by'⟩
end Go.Proofs.YtfohcgjkihaepaaDoor
