/- What ID and the plain ID do. -/
import Derived.Test.YtdikilhobmkpkaaGreatDoorPut

import Derived.Test.YtdikilhobmkpkaaGreatDoorSTgd
namespace Go.Proofs.YtdikilhobmkpkaaGreatDoor
open Go Go.RowKit
theorem zStr : (∀ w, (zeroValue 9).run Tryz.prog w = .ok (.string ⟨#[]⟩) w) := fun w => Tryz.zeroValue9 w
theorem bslS (s : List UInt8) (w : World) : (Instr.buildSlice 26 1 #[(0, .string ⟨s.toArray⟩)]).run Tryz.prog w = .ok (.slice (some ⟨w.heap.size, 0, none⟩) 1 1) (w.alloc (.cells #[.string ⟨s.toArray⟩] 9)) := by
  have i9' : (Tryz.prog.info? 9).map (·.size) = some 1 := by kernel_rfl
  simp [Instr.buildSlice, run_underlying Tryz.underlying26, sizeOf_run i9', Sem.run_bind, Instr.fill, newRow, Tryz.zeroValue9, Value.cells, range1]
theorem wpList_bslS {ops : Array Oper} {rest : List Oper} {op : Oper} {a : Act} {w : World} {Q : Exit → Act → World → Prop} (hgd : op.guard = none) (x : Operand) (ho : op.op = .buildSlice 26 1 #[(0, x)]) (s : List UInt8) (hx : a.eval x = .string ⟨s.toArray⟩)
    (h : ∀ w1 : World, Below w.heap.size w w1 → w1.cell? ⟨w.heap.size, 0, none⟩ = some (.string ⟨s.toArray⟩) → wpList Tryz.prog ops Q rest (a.put op.dst (.slice (some ⟨w.heap.size, 0, none⟩) 1 1)) w1) : wpList Tryz.prog ops Q (op :: rest) a w := by
  refine wpList_run hgd _ _ ?_ (h _ ((Below.refl _ _).alloc (Nat.le_refl _) (.cells #[.string ⟨s.toArray⟩] 9)) ?_)
  · unfold execOp
    have e : (#[(0, x)] : Array (Nat × Operand)).map (fun (i, x) => (i, a.eval x)) = #[(0, .string ⟨s.toArray⟩)] := by simp [hx]
    have hr := bslS s w
    rw [← e] at hr
    simp only [ho, Sem.run_bind, hr, Result.andThen_ok]
    rfl
  · exact (Blk.new w #[.string ⟨s.toArray⟩] 9).cell 0
/-- A transaction's digest. -/
def idB (t : TX) : List UInt8 := Sh.digest (Sh.tagTo 84 [txB t] 1)
theorem tag_len (s : List UInt8) (h : s.length ≤ 1000) : (Sh.tagTo 84 [s] 1).length ≤ 549755813888 := by
  have : Sh.tagTo 84 [s] 1 = [84] ++ Sh.be s.length 4 ++ s := rfl
  rw [this, List.length_append, List.length_append, Sh.be_length]
  simp
  omega
theorem one_cell {w : World} {b : Nat} {s : List UInt8} (hc : w.cell? ⟨b, 0, none⟩ = some (.string ⟨s.toArray⟩)) : ∀ i, i < 1 → w.cell? ⟨b, 0 + i, none⟩ = some (.string ⟨([s].getD i []).toArray⟩) := fun i hi => by
  have h0 : i = 0 := by omega
  subst h0
  exact hc
set_option maxRecDepth 100000 in
set_option maxHeartbeats 400000 in
theorem id_any (t : TX) (ht : OkT t) (a : Option Addr) (cap : Nat) (w : World) (h : SL w a t.ops) (hG : Sh.Glob w) :
    Calls Tryz.prog 27 #[.agg (txc t.client t.nonce (.slice a t.ops.length cap))] w fun e w' => e = .returned (.string ⟨(idB t).toArray⟩) ∧ Below w.heap.size w w' := by
  have hle := txB_le ht
  have HB := fun w' (hB : Below w.heap.size w w') => bytesOf_any t ht a cap w' (h.below hB)
  have HI : Hid (idB t = Sh.digest (Sh.tagTo 84 [txB t] 1)) := by exact rfl
  rw [HI.out]
  have HT := fun b w' (hG : Sh.Glob w') (hc : w'.cell? ⟨b, 0, none⟩ = some (.string ⟨(txB t).toArray⟩)) => Sh.tagged_any 84 b 0 1 1 [txB t] w' hG (one_cell hc) (tag_len _ (by omega))
  change ∀ b w', Sh.Glob w' → w'.cell? ⟨b, 0, none⟩ = some (.string ⟨(txB t).toArray⟩) → Calls Tryz.prog 59 #[.int .u8 84, .slice (some ⟨b, 0, none⟩) 1 1] w' _ at HT
  generalize Sh.digest (Sh.tagTo 84 [txB t] 1) = dg at *
  generalize txB t = tb at *
  generalize (Value.slice a t.ops.length cap) = sl at *
  go_enter Tryz.func27, Tryz.ntmps27
  go_wp2_with (first
    | (go_at_call 60; refine (HB _ hw1).mono ?_; rintro e w2 ⟨rfl, hw2⟩; have hB2 := hw1.trans (hw2.mono hw1.size))
    | (go_at_call 59; refine (HT _ _ (hG.belowSize (hB2.trans (hw3.mono hB2.size))) hc3).mono ?_; rintro e w4 ⟨rfl, hw4⟩)
    | (with_reducible refine at_list ?_; first
      | (refine wpList_boxRow (op := ⟨some 1, _, _, _, _, _⟩) rfl _ _ rfl _ rfl ?_; intro w1 hw1 hs1 hb1; replace hs1 := hs1.symm)
      | (refine wpList_loadRow (op := ⟨some 3, _, _, _, _, _⟩) rfl _ _ rfl w.heap.size rfl _ _ hb1 _ Tryz.underlying33 rfl (by rw [txc_size]; exact zTx.2) ?_)
      | (refine wpList_bslS (op := ⟨some 5, _, _, _, _, _⟩) rfl _ rfl tb rfl ?_; intro w3 hw3 hc3)))
  go_ret
  exact ⟨rfl, (hB2.trans (hw3.mono hB2.size)).trans (hw4.mono (Nat.le_trans hB2.size hw3.size))⟩
end Go.Proofs.YtdikilhobmkpkaaGreatDoor
