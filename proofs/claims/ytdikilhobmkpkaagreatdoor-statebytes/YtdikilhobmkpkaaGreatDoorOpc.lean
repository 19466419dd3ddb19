/- Operations and transactions in memory. -/
import Derived.Test.YtdikilhobmkpkaaGreatDoorTxm
import Derived.Test.YtdikilhobmkpkaaGreatDoorWrb
namespace Go.Proofs.YtdikilhobmkpkaaGreatDoor
open Go Go.RowKit
/-- The cells of an operation. -/
def opc (o : O) : Array Value := #[.int .i64 o.kind, .string ⟨o.key.toArray⟩, .string ⟨o.val.toArray⟩]
/-- The cells of a transaction whose operations are the slice sl. -/
def txc (c n : Nat) (sl : Value) : Array Value := #[.int .u64 (c : Nat), .int .u64 (n : Nat), sl]
theorem opc_size (o : O) : (opc o).size = 3 := rfl
theorem txc_size (c n : Nat) (sl : Value) : (txc c n sl).size = 3 := rfl
theorem opc_one (o : O) : (opc o).all (·.oneCell') = true := by simp [opc, Value.oneCell']
theorem txc_one (c n : Nat) (a : Option Addr) (len cap : Nat) : (txc c n (.slice a len cap)).all (·.oneCell') = true := by simp [txc, Value.oneCell']
theorem opc_g0 (o : O) : (opc o)[0]? = some (.int .i64 o.kind) := rfl
theorem opc_g1 (o : O) : (opc o)[1]? = some (.string ⟨o.key.toArray⟩) := rfl
theorem opc_g2 (o : O) : (opc o)[2]? = some (.string ⟨o.val.toArray⟩) := rfl
theorem txc_g0 (c n : Nat) (sl : Value) : (txc c n sl)[0]? = some (.int .u64 (c : Nat)) := rfl
theorem txc_g1 (c n : Nat) (sl : Value) : (txc c n sl)[1]? = some (.int .u64 (n : Nat)) := rfl
theorem txc_g2 (c n : Nat) (sl : Value) : (txc c n sl)[2]? = some sl := rfl
theorem zOp : (∀ w, (zeroValue 59).run Tryz.prog w = .ok (.agg (opc ⟨0, [], []⟩)) w) ∧ (Tryz.prog.info? 59).map (·.size) = some 3 := zero_of_info (by kernel_rfl)
theorem zTx : (∀ w, (zeroValue 33).run Tryz.prog w = .ok (.agg (txc 0 0 (.slice none 0 0))) w) ∧ (Tryz.prog.info? 33).map (·.size) = some 3 := zero_of_info (by kernel_rfl)
/-- The operations l lie at a. -/
def SL (w : World) (a : Option Addr) (l : List O) : Prop := ∀ i (h : i < l.length), ∃ g o, a = some ⟨g, o, none⟩ ∧ w.rangeAt g (o + i * 3) (opc l[i]).toList
theorem SL.below {w w' : World} {a : Option Addr} {l : List O} (h : SL w a l) (hb : Below w.heap.size w w') : SL w' a l := fun i hi => by
  obtain ⟨g, o, ha, hr⟩ := h i hi
  refine ⟨g, o, ha, fun j v hv => ?_⟩
  have h1 := hr j v hv
  rw [hb.cell (World.block_lt_of_cell? _ _ h1)]
  exact h1
theorem SL.nil (w : World) (a : Option Addr) : SL w a [] := fun i hi => by simp at hi
theorem SL.at {w : World} {g o : Nat} {l : List O} (h : SL w (some ⟨g, o, none⟩) l) (i : Nat) (hi : i < l.length) : w.rangeAt g (o + i * 3) (opc l[i]).toList := by
  obtain ⟨g', o', ha, hr⟩ := h i hi
  simp only [Option.some.injEq, Addr.mk.injEq, and_true] at ha
  rw [ha.1, ha.2]
  exact hr
theorem SL.ex {w : World} {a : Option Addr} {l : List O} (h : SL w a l) (h0 : l.length ≠ 0) : ∃ g o, a = some ⟨g, o, none⟩ := by
  obtain ⟨g, o, ha, _⟩ := h 0 (by omega)
  exact ⟨g, o, ha⟩
end Go.Proofs.YtdikilhobmkpkaaGreatDoor
