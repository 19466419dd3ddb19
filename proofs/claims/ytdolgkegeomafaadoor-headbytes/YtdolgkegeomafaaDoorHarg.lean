/- A header, out of what its argument reads as. -/
import Derived.Test.YtdolgkegeomafaaDoorHmh
import Derived.Test.YtdolgkegeomafaaDoorChecked
import Derived.ProofKit
import Derived.LaidMore
import Derived.OpenShut
import Derived.Stop.Joined
import Derived.Deep.Slices
namespace Go.Proofs.YtdolgkegeomafaaDoor
open Go Go.ChangeShapes Go.WideShapes Go.ChangeAt Go.WideMaps Go.WideElems Go.RowKit
theorem clH : Tryd.prog.cellsOf 25 = 5 := by kernel_rfl
theorem clSlI : Tryd.prog.cellsOf 23 = 1 := by kernel_rfl
theorem cl3 : Tryd.prog.cellsOf 3 = 1 := by kernel_rfl
theorem cl22 : Tryd.prog.cellsOf 22 = 1 := by kernel_rfl
theorem cl9 : Tryd.prog.cellsOf 9 = 1 := by kernel_rfl
set_option maxRecDepth 100000 in
/-- The numbers of an argument's slice. -/
theorem ints_of {H : Type} {enc : TypeId × Value → H} {W : World} {n : Nat} {a0 : Option Addr} {len cap : Nat} {x : DataW H × List MemPlace} (hf : DataW.trod enc Tryd.prog W 0 (fun _ => true) true n 23 [.slice a0 len cap] = some x) :
    ∃ l : List Int, l.length = len ∧ IA W a0 l ∧ len ≤ cap := by
  rcases DataW.trod_slice Tryd.underlying23 hf with ⟨hcs, _⟩ | ⟨a, l, c, elems, rest, n, _, hcs, _, _, hl, hm, hel, hc, _, _⟩
  · simp at hcs
    obtain ⟨_, rfl, rfl⟩ := hcs
    exact ⟨[], rfl, fun i x hx => by simp at hx, Nat.le_refl _⟩
  · simp at hcs
    obtain ⟨rfl, rfl, rfl⟩ := hcs
    by_cases hl0 : len = 0
    · exact ⟨[], by rw [hl0]; rfl, fun i x hx => by simp at hx, by omega⟩
    have each : ∀ i, i < len → ∃ q : Int, W.cells? 0 (a.add (i * 1)) 1 = some [.int .i64 q] := by
      intro i hi
      have h1 := hc i hi
      rw [cl3, List.getElem?_eq_getElem (by omega)] at h1
      obtain ⟨cs', h2, h3⟩ := Option.bind_eq_some_iff.1 h1
      obtain ⟨k, e0, _, _⟩ := DataW.trod_int Tryd.underlying3 h3
      subst e0
      exact ⟨k, h2⟩
    obtain ⟨g, o, spot⟩ := a
    obtain ⟨q0, hq0⟩ := each 0 (by omega)
    obtain ⟨_, _, hcell0⟩ := World.cells?_some hq0
    have c0 := hcell0 0 (by omega)
    have hspot : spot = none := by
      have e : W.cell? (((⟨g, o, spot⟩ : Addr).add (0 * 1)).add 0) = some (.int .i64 q0) := c0
      simpa [Addr.add] using World.cell?_spot e
    subst hspot
    have each2 : ∀ i, ∃ q : Int, i < len → W.cell? ⟨g, o + i, none⟩ = some (.int .i64 q) := by
      intro i
      by_cases hi : i < len
      · obtain ⟨q, hq⟩ := each i hi
        refine ⟨q, fun _ => ?_⟩
        obtain ⟨_, hlen, hcell⟩ := World.cells?_some hq
        have := hcell 0 (by omega)
        rw [Addr.add_mid, Addr.add_mid, Nat.mul_one, Nat.add_zero] at this
        rw [this]
        rfl
      · exact ⟨0, fun h => absurd h hi⟩
    obtain ⟨f, hf⟩ := Classical.skolem.1 each2
    refine ⟨(List.range len).map f, by simp, fun i x hx => ⟨g, o, rfl, ?_⟩, by omega⟩
    have hi' : i < len := by have := (List.getElem?_eq_some_iff.1 hx).1; simpa using this
    have h1 := hf i hi'
    rw [List.getElem?_map, List.getElem?_range hi'] at hx
    simp at hx
    rw [h1, hx]
set_option maxRecDepth 100000 in
/-- A header out of its argument. -/
theorem hdr_of {H : Type} {enc : TypeId × Value → H} {W : World} {r : Reach} {base : Nat} {v : Value} {d : DataW H} {p : List MemPlace} (hv : Value.okWide Tryd.prog W r base 25 v) (h : DataW.Trod enc Tryd.prog W 0 (fun _ => true) true 25 v d p) :
    ∃ (x : HH) (a : Option Addr) (cap : Nat), v = .agg (hA x.height x.prev x.txr x.str (.slice a x.mem.length cap)) ∧ IA W a x.mem ∧ x.height < 18446744073709551616 ∧ x.mem.length ≤ cap := by
  obtain ⟨cs, rfl, hsz⟩ := okWide_struct Tryd.underlying25 hv
  obtain ⟨fuel, hf⟩ := h
  obtain ⟨xs, f, _, _, hl, hxl, hfd⟩ := DataW.trod_struct Tryd.underlying25 hf
  rw [clH] at hl
  obtain ⟨cl⟩ := cs
  replace hl : cl.length = 5 := hl
  match xs, hxl, cl, hl with
  | [y0, y1, y2, y3, y4], _, [v0, v1, v2, v3, v4], _ =>
    have g0 := hfd 0 _ rfl
    have g1 := hfd 1 _ rfl
    have g2 := hfd 2 _ rfl
    have g3 := hfd 3 _ rfl
    have g4 := hfd 4 _ rfl
    simp [cl22, cl9, clSlI, Value.cells] at g0 g1 g2 g3 g4
    obtain ⟨c, e0, _, w0⟩ := DataW.trod_int Tryd.underlying22 g0
    obtain ⟨p, e1, _, _⟩ := DataW.trod_string Tryd.underlying9 g1
    obtain ⟨t, e2, _, _⟩ := DataW.trod_string Tryd.underlying9 g2
    obtain ⟨s, e3, _, _⟩ := DataW.trod_string Tryd.underlying9 g3
    have b0 : 0 ≤ c ∧ c ≤ 18446744073709551615 := by simpa [Lit.wf, IntKind.min, IntKind.max, IntKind.signed, IntKind.bits] using w0
    simp at e0 e1 e2 e3
    subst e0 e1 e2 e3
    have hs4 : ∃ a len cap, v4 = .slice a len cap := by
      rcases DataW.trod_slice Tryd.underlying23 g4 with ⟨hcs, _⟩ | ⟨a, l, c, elems, rest, n, _, hcs, _⟩
      · simp at hcs; exact ⟨_, _, _, hcs⟩
      · simp at hcs; exact ⟨_, _, _, hcs⟩
    obtain ⟨a, len, cap, rfl⟩ := hs4
    obtain ⟨l, hll, hIA, hcap⟩ := ints_of g4
    refine ⟨⟨c.toNat, p.data.toList, t.data.toList, s.data.toList, l⟩, a, cap, ?_, hIA, by dsimp only; omega, by dsimp only; omega⟩
    dsimp only
    rw [hll]
    unfold hA
    rw [show ((c.toNat : Nat) : Int) = c from by omega]
end Go.Proofs.YtdolgkegeomafaaDoor
