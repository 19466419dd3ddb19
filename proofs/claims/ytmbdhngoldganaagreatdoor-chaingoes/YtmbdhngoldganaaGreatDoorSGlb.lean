/- The two tables of the program, out of what its row lists of them. -/
import Derived.Test.YtmbdhngoldganaaGreatDoorRows
import Derived.Test.YtmbdhngoldganaaGreatDoorSWg
import Derived.ProofKit
import Derived.LaidMore
import Derived.OpenShut
import Derived.Stop.Joined
namespace Go.Proofs.YtmbdhngoldganaaGreatDoor.Sh
open Go.ChangeShapes Go.WideShapes Go.ChangeAt Go.WideMaps Go.WideElems Go.RowKit

theorem ownK : ownKnob Tryz.prog.godebug = none := by kernel_rfl
theorem laidOutT : laidOutB Tryz.prog = true := by kernel_rfl
theorem gFirst : Tryz.prog.globalNamed "muniment/sha.firstWords" = some 0 := by kernel_rfl
theorem gRound : Tryz.prog.globalNamed "muniment/sha.roundNumbers" = some 1 := by kernel_rfl
theorem tFirst : (Tryz.prog.globals[0]?).map (·.type) = some 237 := by kernel_rfl
theorem tRound : (Tryz.prog.globals[1]?).map (·.type) = some 236 := by kernel_rfl
theorem c38 : Tryz.prog.cellsOf 235 = 1 := by kernel_rfl
theorem door_met (os : Os) (args : Array Value) : laidMetH Tryz.prog Rows.chainNilRow.laid ((World.doorLaid Tryz.prog 400 os).forCall (fun _ _ => 0) ⟨#[], args, []⟩).memory :=
  laidMetH_of_parts3 (fuel := 8) (laidMet_of_run' 8 (by kernel_rfl) (by kernel_rfl)) (by kernel_rfl) (by kernel_rfl)

/-- A table of words that reads as a list of numbers holds them. -/
theorem table_cells {H : Type} {enc : TypeId × Value → H} {W : World} {base fuel n : Nat} {sp : Nat → Bool} {held : Bool} {t : TypeId} {cs : List Value} {ns : List Int} {p : List MemPlace}
    (hu : Tryz.prog.underlying t = some (.array n 235)) (h : DataW.trod enc Tryz.prog W base sp held fuel t cs = some (.agg (ns.map fun z => .lit (.int .u32 z)), p)) :
    ∀ j, j < n → cs[j]? = some (.int .u32 (ns.getD j 0)) := by
  obtain ⟨xs, m, _, hx, _, hn, hel⟩ := DataW.trod_array hu h
  simp only [Prod.mk.injEq, DataW.agg.injEq] at hx
  intro j hj
  have h0 := hel j hj
  rw [c38, Nat.mul_one] at h0
  have hxj : j < xs.length := by omega
  rw [List.getElem?_eq_getElem hxj] at h0
  obtain ⟨k, e1, e2, _⟩ := DataW.trod_int Tryz.underlying235 h0
  have e3 : (ns.map fun z => (DataW.lit (.int .u32 z) : DataW H))[j]? = (xs.map (·.1))[j]? := by rw [hx.1]
  rw [List.getElem?_map, List.getElem?_map, List.getElem?_eq_getElem hxj, e2] at e3
  have e4 : ns[j]? = some k := by
    cases hq : ns[j]? with
    | none => rw [hq] at e3; cases e3
    | some z => rw [hq] at e3; simp at e3; rw [e3]
  rw [List.getD_eq_getElem?_getD, e4]
  have e5 : (cs.drop j).take 1 = [.int .u32 k] := e1
  have e6 : cs[j]? = ((cs.drop j).take 1)[0]? := by simp
  rw [e6, e5]; rfl

theorem glob_of {W : World} (h : laidMetH Tryz.prog Rows.chainNilRow.laid W) : Glob W := by
  rw [MakeChecks.laidMetH_plain _ _ _ (by kernel_rfl)] at h
  obtain ⟨ps, ⟨g0, t0, cs0, f0, p0, q0, hg0, ht0, hv0, hd0, ⟨g1, t1, cs1, f1, p1, q1, hg1, ht1, hv1, hd1, _, _⟩, _⟩, _, _⟩ := h
  obtain rfl := Option.some.inj (gFirst.symm.trans hg0)
  obtain rfl := Option.some.inj (gRound.symm.trans hg1)
  obtain rfl := Option.some.inj (tFirst.symm.trans ht0)
  obtain rfl := Option.some.inj (tRound.symm.trans ht1)
  have k1 := table_cells (ns := Ktab.map (fun (n : Nat) => (n : Int))) Tryz.underlying236 hd1
  have k0 := table_cells (ns := [1779033703, 3144134277, 1013904242, 2773480762, 1359893119, 2600822924, 528734635, 1541459225]) Tryz.underlying237 hd0
  have h2 : 1 < W.heap.size := World.block_lt_of_cell? W ⟨1, 0, none⟩ ((World.var?_cell hg1 hv1 0).trans (by rw [← Array.getElem?_toList, k1 0 (by omega)]))
  refine ⟨h2, fun j hj => ?_, fun j hj => ?_⟩
  · rw [World.var?_cell hg1 hv1 j, ← Array.getElem?_toList, k1 j hj]
    have : ∀ j, j < 64 → (Ktab.map (fun (n : Nat) => (n : Int))).getD j 0 = n32 (Kt j) := by decide
    rw [this j hj]
  · rw [World.var?_cell hg0 hv0 j, ← Array.getElem?_toList, k0 j hj]
    have : ∀ j, j < 8 → ([1779033703, 3144134277, 1013904242, 2773480762, 1359893119, 2600822924, 528734635, 1541459225] : List Int).getD j 0 = n32 (H0.at j) := by decide
    rw [this j hj]
end Go.Proofs.YtmbdhngoldganaaGreatDoor.Sh
