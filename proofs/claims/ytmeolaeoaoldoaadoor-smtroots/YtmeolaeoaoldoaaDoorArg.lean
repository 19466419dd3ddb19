/- The arguments of the statements, out of what their rows list of them. -/
import Derived.Test.YtmeolaeoaoldoaaDoorSGlb
import Derived.Test.YtmeolaeoaoldoaaDoorSdo
namespace Go.Proofs.YtmeolaeoaoldoaaDoor
open Go Go.ChangeShapes Go.WideShapes Go.ChangeAt Go.WideMaps Go.WideElems Go.RowKit
theorem clLf : Tryd.prog.cellsOf 46 = 2 := by kernel_rfl
set_option maxRecDepth 100000 in
/-- A leaf. -/
theorem leaf_of {H : Type} {enc : TypeId × Value → H} {W : World} {base : Nat} {v : Value} {d0 : DataW H} {p : List MemPlace} (hv : Value.okWide Tryd.prog W .any base 46 v) (h0 : DataW.Trod enc Tryd.prog W 0 (fun _ => true) true 46 v d0 p) :
    ∃ x y : List UInt8, v = .agg #[.string ⟨x.toArray⟩, .string ⟨y.toArray⟩] ∧ x.length ≤ maxLen ∧ y.length ≤ maxLen := by
  obtain ⟨cs, rfl, hsz, _⟩ : ∃ cs, v = .agg cs ∧ cs.size = Tryd.prog.cellsOf 46 ∧ Row.okWide Tryd.prog W .any base 46 cs := by
    simpa [Value.okWide, Tryd.underlying46] using hv
  obtain ⟨l⟩ := cs
  obtain ⟨fuel, hf⟩ := h0
  obtain ⟨xs, f, _, _, hl, hxl, hf2⟩ := DataW.trod_struct Tryd.underlying46 hf
  rw [clLf] at hl
  have hll : l.length = 2 := by simpa [Value.cells] using hl
  match xs, hxl, l, hll with
  | [y0, y1], _, [v0, v1], _ =>
    have g0 := hf2 0 _ rfl
    have g1 := hf2 1 _ rfl
    simp [clS7, Value.cells] at g0 g1
    obtain ⟨t, e1, _, l1⟩ := DataW.trod_string Tryd.underlying9 g0
    obtain ⟨u, e2, _, l2⟩ := DataW.trod_string Tryd.underlying9 g1
    simp at e1 e2
    subst e1 e2
    exact ⟨t.data.toList, u.data.toList, rfl, by simpa using l1, by simpa using l2⟩
end Go.Proofs.YtmeolaeoaoldoaaDoor
