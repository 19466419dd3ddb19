/- A transaction, out of what its argument reads as. -/
import Derived.Test.YtdikilhobmkpkaaGreatDoorOpc
import Derived.Test.YtdikilhobmkpkaaGreatDoorChecked
import Derived.ProofKit
import Derived.LaidMore
import Derived.OpenShut
import Derived.Stop.Joined
import Derived.Deep.Slices
namespace Go.Proofs.YtdikilhobmkpkaaGreatDoor
open Go Go.ChangeShapes Go.WideShapes Go.ChangeAt Go.WideMaps Go.WideElems Go.RowKit
theorem clOp : Tryz.prog.cellsOf 59 = 3 := by kernel_rfl
theorem clTx : Tryz.prog.cellsOf 33 = 3 := by kernel_rfl
theorem clSl : Tryz.prog.cellsOf 31 = 1 := by kernel_rfl
theorem cl3 : Tryz.prog.cellsOf 3 = 1 := by kernel_rfl
theorem cl22 : Tryz.prog.cellsOf 30 = 1 := by kernel_rfl
theorem cl9 : Tryz.prog.cellsOf 9 = 1 := by kernel_rfl
set_option maxRecDepth 100000 in
theorem op_of {H : Type} {enc : TypeId × Value → H} {W : World} {n : Nat} {sp : Nat → Bool} {held : Bool} {base : Nat} {cs : List Value} {x : DataW H × List MemPlace} (h : DataW.trod enc Tryz.prog W base sp held n 59 cs = some x) :
    ∃ o : O, cs = (opc o).toList := by
  obtain ⟨xs, f, _, _, hl, hxl, hf⟩ := DataW.trod_struct Tryz.underlying59 h
  rw [clOp] at hl
  match xs, hxl, cs, hl with
  | [y0, y1, y2], _, [v0, v1, v2], _ =>
    have g0 := hf 0 _ rfl
    have g1 := hf 1 _ rfl
    have g2 := hf 2 _ rfl
    simp [cl3, cl9] at g0 g1 g2
    obtain ⟨k, e0, _, _⟩ := DataW.trod_int Tryz.underlying3 g0
    obtain ⟨s, e1, _, _⟩ := DataW.trod_string Tryz.underlying9 g1
    obtain ⟨t, e2, _, _⟩ := DataW.trod_string Tryz.underlying9 g2
    refine ⟨⟨k, s.data.toList, t.data.toList⟩, ?_⟩
    simp at e0 e1 e2
    subst e0 e1 e2
    rfl
set_option maxRecDepth 100000 in
/-- The operations of an argument's slice. -/
theorem ops_of {H : Type} {enc : TypeId × Value → H} {W : World} {n : Nat} {a0 : Option Addr} {len cap : Nat} {x : DataW H × List MemPlace} (hf : DataW.trod enc Tryz.prog W 0 (fun _ => true) true n 31 [.slice a0 len cap] = some x) :
    ∃ l : List O, l.length = len ∧ SL W a0 l := by
  rcases DataW.trod_slice Tryz.underlying31 hf with ⟨hcs, _⟩ | ⟨a, l, c, elems, rest, n, _, hcs, _, _, hl, hm, hel, hc, _, _⟩
  · simp at hcs
    obtain ⟨_, rfl, _⟩ := hcs
    exact ⟨[], rfl, SL.nil _ _⟩
  · simp at hcs
    obtain ⟨rfl, rfl, rfl⟩ := hcs
    by_cases hl0 : len = 0
    · exact ⟨[], by rw [hl0]; rfl, SL.nil _ _⟩
    have each : ∀ i, i < len → ∃ q : O, W.cells? 0 (a.add (i * 3)) 3 = some (opc q).toList := by
      intro i hi
      have h1 := hc i hi
      rw [clOp, List.getElem?_eq_getElem (by omega)] at h1
      obtain ⟨cs', h2, h3⟩ := Option.bind_eq_some_iff.1 h1
      obtain ⟨q, rfl⟩ := op_of h3
      exact ⟨q, h2⟩
    obtain ⟨g, o, spot⟩ := a
    obtain ⟨q0, hq0⟩ := each 0 (by omega)
    obtain ⟨_, _, hcell0⟩ := World.cells?_some hq0
    have c0 := hcell0 0 (by omega)
    have hspot : spot = none := by
      have e : W.cell? (((⟨g, o, spot⟩ : Addr).add (0 * 3)).add 0) = some (.int .i64 q0.kind) := c0
      simpa [Addr.add] using World.cell?_spot e
    subst hspot
    have each2 : ∀ i, ∃ q : O, i < len → W.rangeAt g (o + i * 3) (opc q).toList := by
      intro i
      by_cases hi : i < len
      · obtain ⟨q, hq⟩ := each i hi
        refine ⟨q, fun _ j v hv => ?_⟩
        obtain ⟨_, hlen, hcell⟩ := World.cells?_some hq
        have hj : j < 3 := (List.getElem?_eq_some_iff.1 hv).1
        have := hcell j hj
        rw [Addr.add_mid, Addr.add_mid] at this
        rw [this, hv]
      · exact ⟨⟨0, [], []⟩, fun h => absurd h hi⟩
    obtain ⟨f, hf⟩ := Classical.skolem.1 each2
    refine ⟨(List.range len).map f, by simp, fun i hi => ⟨g, o, rfl, ?_⟩⟩
    have hi' : i < len := by simpa using hi
    have := hf i hi'
    simpa using this
set_option maxRecDepth 100000 in
/-- A transaction out of its argument. -/
theorem tx_of {H : Type} {enc : TypeId × Value → H} {W : World} {r : Reach} {base : Nat} {v : Value} {d : DataW H} {p : List MemPlace} (hv : Value.okWide Tryz.prog W r base 33 v) (h : DataW.Trod enc Tryz.prog W 0 (fun _ => true) true 33 v d p) :
    ∃ (t : TX) (a : Option Addr) (cap : Nat), v = .agg (txc t.client t.nonce (.slice a t.ops.length cap)) ∧ SL W a t.ops ∧ t.client < 18446744073709551616 ∧ t.nonce < 18446744073709551616 := by
  obtain ⟨cs, rfl, hsz⟩ := okWide_struct Tryz.underlying33 hv
  obtain ⟨fuel, hf⟩ := h
  obtain ⟨xs, f, _, _, hl, hxl, hfd⟩ := DataW.trod_struct Tryz.underlying33 hf
  rw [clTx] at hl
  obtain ⟨cl⟩ := cs
  replace hl : cl.length = 3 := hl
  match xs, hxl, cl, hl with
  | [y0, y1, y2], _, [v0, v1, v2], _ =>
    have g0 := hfd 0 _ rfl
    have g1 := hfd 1 _ rfl
    have g2 := hfd 2 _ rfl
    simp [cl22, clSl, Value.cells] at g0 g1 g2
    obtain ⟨c, e0, _, w0⟩ := DataW.trod_int Tryz.underlying30 g0
    obtain ⟨n, e1, _, w1⟩ := DataW.trod_int Tryz.underlying30 g1
    have b0 : 0 ≤ c ∧ c ≤ 18446744073709551615 := by simpa [Lit.wf, IntKind.min, IntKind.max, IntKind.signed, IntKind.bits] using w0
    have b1 : 0 ≤ n ∧ n ≤ 18446744073709551615 := by simpa [Lit.wf, IntKind.min, IntKind.max, IntKind.signed, IntKind.bits] using w1
    simp at e0 e1
    subst e0 e1
    have hs2 : ∃ a len cap, v2 = .slice a len cap := by
      rcases DataW.trod_slice Tryz.underlying31 g2 with ⟨hcs, _⟩ | ⟨a, l, c, elems, rest, n, _, hcs, _⟩
      · simp at hcs; exact ⟨_, _, _, hcs⟩
      · simp at hcs; exact ⟨_, _, _, hcs⟩
    obtain ⟨a, len, cap, rfl⟩ := hs2
    obtain ⟨l, hll, hSL⟩ := ops_of g2
    refine ⟨⟨c.toNat, n.toNat, l⟩, a, cap, ?_, hSL, by dsimp only; omega, by dsimp only; omega⟩
    dsimp only
    rw [hll]
    unfold txc
    rw [show ((c.toNat : Nat) : Int) = c from by omega, show ((n.toNat : Nat) : Int) = n from by omega]
end Go.Proofs.YtdikilhobmkpkaaGreatDoor
