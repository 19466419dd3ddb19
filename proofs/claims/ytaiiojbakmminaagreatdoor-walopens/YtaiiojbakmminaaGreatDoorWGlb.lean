/- What the row lists of the program's variables gives the two that are looked at. -/
import Derived.Test.YtaiiojbakmminaaGreatDoorRows
import Derived.Test.YtaiiojbakmminaaGreatDoorWun
import Derived.ProofKit
import Derived.LaidMore
import Derived.OpenShut
import Derived.Stop.Joined
import Derived.Stop.LaidErr
namespace Go.Proofs.YtaiiojbakmminaaGreatDoor
open Go.ChangeShapes Go.WideShapes Go.ChangeAt Go.WideMaps Go.WideElems Go.RowKit

theorem ownK : ownKnob Tryz.prog.godebug = none := by kernel_rfl
theorem laidOutT : laidOutB Tryz.prog = true := by kernel_rfl
theorem gSteps : Tryz.prog.globalNamed "muniment/wire.checkSteps" = some 0 := by kernel_rfl
theorem tSteps : (Tryz.prog.globals[0]?).map (·.type) = some 176 := by kernel_rfl
theorem gSyn : Tryz.prog.globalNamed "strconv.ErrSyntax" = some 1 := by kernel_rfl
theorem tSyn : (Tryz.prog.globals[1]?).map (·.type) = some 102 := by kernel_rfl
theorem cU32 : Tryz.prog.cellsOf 77 = 1 := by kernel_rfl
theorem star : "*errors.errorString" = "*" ++ "errors.errorString" := by decide
theorem rowErr (u : TypeId) (h : Tryz.prog.typeName? 3 u = some "*errors.errorString") : u = 198 :=
  typeName_ptr_named (nm := "errors.errorString") (by rw [← star]; kernel_rfl) (by kernel_rfl) (by decide) u (by rw [← star]; exact h)
theorem door_met (os : Os) (args : Array Value) : laidMetH Tryz.prog Rows.walSegmentsRow.laid ((World.doorLaid Tryz.prog 400 os).forCall (fun _ _ => 0) ⟨#[], args, []⟩).memory :=
  laidMetH_of_parts3 (fuel := 8) (laidMet_of_run' 8 (by kernel_rfl) (by kernel_rfl)) (by kernel_rfl) (by kernel_rfl)

/-- A table of words that reads as a list of numbers holds them. -/
theorem table_cells {H : Type} {enc : TypeId × Value → H} {W : World} {base fuel n : Nat} {sp : Nat → Bool} {held : Bool} {t : TypeId} {cs : List Value} {ns : List Int} {p : List MemPlace}
    (hu : Tryz.prog.underlying t = some (.array n 77)) (h : DataW.trod enc Tryz.prog W base sp held fuel t cs = some (.agg (ns.map fun z => .lit (.int .u32 z)), p)) :
    ∀ j, j < n → cs[j]? = some (.int .u32 (ns.getD j 0)) := by
  obtain ⟨xs, m, _, hx, _, hn, hel⟩ := DataW.trod_array hu h
  simp only [Prod.mk.injEq, DataW.agg.injEq] at hx
  intro j hj
  have h0 := hel j hj
  rw [cU32, Nat.mul_one] at h0
  have hxj : j < xs.length := by omega
  rw [List.getElem?_eq_getElem hxj] at h0
  obtain ⟨k, e1, e2, _⟩ := DataW.trod_int Tryz.underlying77 h0
  have e3 : (ns.map fun z => (DataW.lit (.int .u32 z) : DataW H))[j]? = (xs.map (·.1))[j]? := by rw [hx.1]
  rw [List.getElem?_map, List.getElem?_map, List.getElem?_eq_getElem hxj, e2] at e3
  have e4 : ns[j]? = some k := by
    cases hq : ns[j]? with
    | none => rw [hq] at e3; cases e3
    | some z => rw [hq] at e3; simp at e3; rw [e3]
  rw [List.getD_eq_getElem?_getD, e4]
  have e5 : (cs.drop j).take 1 = [.int .u32 k] := e1
  have e6 : cs[j]? = ((cs.drop j).take 1)[0]? := by simp
  rw [e6, e5]; rfl

theorem gw_of {W : World} (h : laidMetH Tryz.prog Rows.walSegmentsRow.laid W) : Gw W := by
  rw [MakeChecks.laidMetH_plain _ _ _ (by kernel_rfl)] at h
  have h4 := laidMet.tail (laidMet.tail (laidMet.tail h))
  have h6 := laidMet.tail (laidMet.tail h4)
  obtain ⟨a, s, hv, _, _, _⟩ := laid_sentinel h6 gSyn tSyn Tryz.underlying102 rowErr Tryz.underlying198 Tryz.underlying200 rfl rfl Tryz.underlying9 (by kernel_rfl) (by kernel_rfl)
  obtain ⟨ps, ⟨g0, t0, cs0, f0, p0, q0, hg0, ht0, hv0, hd0, _, _⟩, _, _⟩ := h4
  obtain rfl := Option.some.inj (gSteps.symm.trans hg0)
  obtain rfl := Option.some.inj (tSteps.symm.trans ht0)
  have k0 := table_cells (ns := tabL.map (fun (n : Nat) => (n : Int))) Tryz.underlying176 hd0
  have h1 : W.cell? ⟨1, 0, none⟩ = some (.iface 198 (.pointer (some a))) := (World.var?_cell gSyn hv 0).trans rfl
  have h2 : 1 < W.heap.size := World.block_lt_of_cell? W ⟨1, 0, none⟩ h1
  refine ⟨⟨by omega, fun j hj => ?_⟩, h2, ⟨_, h1, .inr ⟨_, _, rfl⟩⟩⟩
  rw [World.var?_cell hg0 hv0 j, ← Array.getElem?_toList, k0 j hj]
  have : ∀ j, j < 16 → (tabL.map (fun (n : Nat) => (n : Int))).getD j 0 = n32 (tab j) := by decide
  rw [this j hj]
end Go.Proofs.YtaiiojbakmminaaGreatDoor
