/- What Hash of a header and the plain one do. -/
import Derived.Test.YtdolgkegeomafaaDoorHmh
import Derived.Test.YtdolgkegeomafaaDoorSRtg
import Derived.Test.YtdolgkegeomafaaDoorSTgd
namespace Go.Proofs.YtdolgkegeomafaaDoor
open Go Go.RowKit
theorem bslS (s : List UInt8) (w : World) : (Instr.buildSlice 68 1 #[(0, .string ⟨s.toArray⟩)]).run Tryd.prog w = .ok (.slice (some ⟨w.heap.size, 0, none⟩) 1 1) (w.alloc (.cells #[.string ⟨s.toArray⟩] 9)) := by
  simp [Instr.buildSlice, run_underlying Tryd.underlying68, sizeOf_run i9, Sem.run_bind, Instr.fill, newRow, Tryd.zeroValue9, Value.cells, range1]
theorem wpList_bslS {ops : Array Oper} {rest : List Oper} {op : Oper} {a : Act} {w : World} {Q : Exit → Act → World → Prop} (hgd : op.guard = none) (x : Operand) (ho : op.op = .buildSlice 68 1 #[(0, x)]) (s : List UInt8) (hx : a.eval x = .string ⟨s.toArray⟩)
    (h : ∀ w1 : World, Below w.heap.size w w1 → w1.cell? ⟨w.heap.size, 0, none⟩ = some (.string ⟨s.toArray⟩) → wpList Tryd.prog ops Q rest (a.put op.dst (.slice (some ⟨w.heap.size, 0, none⟩) 1 1)) w1) : wpList Tryd.prog ops Q (op :: rest) a w := by
  refine wpList_run hgd _ _ ?_ (h _ ((Below.refl _ _).alloc (Nat.le_refl _) (.cells #[.string ⟨s.toArray⟩] 9)) ?_)
  · unfold execOp
    have e : (#[(0, x)] : Array (Nat × Operand)).map (fun (i, x) => (i, a.eval x)) = #[(0, .string ⟨s.toArray⟩)] := by simp [hx]
    have hr := bslS s w
    rw [← e] at hr
    simp only [ho, Sem.run_bind, hr, Result.andThen_ok]
    rfl
  · exact (Blk.new w #[.string ⟨s.toArray⟩] 9).cell 0
/-- A header's digest. -/
def hD (h : HH) : List UInt8 := Sh.digest (Sh.tagTo 72 [hB h] 1)
theorem tag_len (s : List UInt8) (h : s.length ≤ 1000) : (Sh.tagTo 72 [s] 1).length ≤ 549755813888 := by
  have : Sh.tagTo 72 [s] 1 = [72] ++ Sh.be s.length 4 ++ s := rfl
  rw [this, List.length_append, List.length_append, Sh.be_length]
  simp
  omega
theorem one_cell {w : World} {b : Nat} {s : List UInt8} (hc : w.cell? ⟨b, 0, none⟩ = some (.string ⟨s.toArray⟩)) : ∀ i, i < 1 → w.cell? ⟨b, 0 + i, none⟩ = some (.string ⟨([s].getD i []).toArray⟩) := fun i hi => by
  have h0 : i = 0 := by omega
  subst h0
  exact hc
set_option maxRecDepth 100000 in
set_option maxHeartbeats 400000 in
theorem hashH_any (x : HH) (hk : OkH x) (a : Option Addr) (cap : Nat) (w : World) (h : IA w a x.mem) (hG : Sh.Glob w) :
    Calls Tryd.prog 20 #[.agg (hA x.height x.prev x.txr x.str (.slice a x.mem.length cap))] w fun e w' => e = .returned (.string ⟨(hD x).toArray⟩) ∧ Below w.heap.size w w' := by
  have hle := hB_len hk
  have h16 := hk.m.len
  have HB := fun w' (hB : Below w.heap.size w w') => bytesOfH_any x hk a cap w' (h.below hB)
  have HI : Hid (hD x = Sh.digest (Sh.tagTo 72 [hB x] 1)) := by exact rfl
  rw [HI.out]
  have HT := fun b w' (hG : Sh.Glob w') (hc : w'.cell? ⟨b, 0, none⟩ = some (.string ⟨(hB x).toArray⟩)) => Sh.tagged_any 72 b 0 1 1 [hB x] w' hG (one_cell hc) (tag_len _ (by omega))
  change ∀ b w', Sh.Glob w' → w'.cell? ⟨b, 0, none⟩ = some (.string ⟨(hB x).toArray⟩) → Calls Tryd.prog 38 #[.int .u8 72, .slice (some ⟨b, 0, none⟩) 1 1] w' _ at HT
  change ∀ w', Below w.heap.size w w' → Calls Tryd.prog 22 #[.agg (hA x.height x.prev x.txr x.str (.slice a x.mem.length cap))] w' _ at HB
  generalize Sh.digest (Sh.tagTo 72 [hB x] 1) = dg at *
  generalize hB x = tb at *
  generalize (Value.slice a x.mem.length cap) = sl at *
  clear hle h16
  go_enter Tryd.func20, Tryd.ntmps20
  go_wp2_with (first
    | (go_at_call 22; refine (HB _ hw1).mono ?_; rintro e w2 ⟨rfl, hw2⟩; have hB2 := hw1.trans (hw2.mono hw1.size))
    | (go_at_call 38; refine (HT _ _ (hG.belowSize (hB2.trans (hw3.mono hB2.size))) hc3).mono ?_; rintro e w4 ⟨rfl, hw4⟩)
    | (with_reducible refine at_list ?_; first
      | (refine wpList_boxRow (op := ⟨some 1, _, _, _, _, _⟩) rfl _ _ rfl _ rfl ?_; intro w1 hw1 hs1 hb1; replace hs1 := hs1.symm)
      | (refine wpList_loadRow (op := ⟨some 3, _, _, _, _, _⟩) rfl _ _ rfl w.heap.size rfl _ _ hb1 _ Tryd.underlying25 rfl (by rw [hA_size]; exact zH.2) ?_)
      | (refine wpList_bslS (op := ⟨some 5, _, _, _, _, _⟩) rfl _ rfl tb rfl ?_; intro w3 hw3 hc3)))
  go_ret
  exact ⟨rfl, (hB2.trans (hw3.mono hB2.size)).trans (hw4.mono (Nat.le_trans hB2.size hw3.size))⟩
set_option maxRecDepth 100000 in
set_option maxHeartbeats 400000 in
theorem rhashH_any (x : HH) (hk : OkH x) (hh : x.height < 18446744073709551616) (a : Option Addr) (cap : Nat) (w : World) (h : IA w a x.mem) :
    Calls Tryd.prog 21 #[.agg (hA x.height x.prev x.txr x.str (.slice a x.mem.length cap))] w fun e w' => e = .returned (.string ⟨(hD x).toArray⟩) ∧ Below w.heap.size w w' := by
  have hle := hB_len hk
  have h16 := hk.m.len
  have HB := fun w' (hB : Below w.heap.size w w') => rbytesH_any x a cap w' (h.below hB) hk hh
  have HI : Hid (hD x = Sh.digest (Sh.tagTo 72 [hB x] 1)) := by exact rfl
  rw [HI.out]
  have HT := fun b w' (hc : w'.cell? ⟨b, 0, none⟩ = some (.string ⟨(hB x).toArray⟩)) => Sh.rtagged_any 72 b 0 1 1 [hB x] w' (one_cell hc) (tag_len _ (by omega))
  change ∀ b w', w'.cell? ⟨b, 0, none⟩ = some (.string ⟨(hB x).toArray⟩) → Calls Tryd.prog 39 #[.int .u8 72, .slice (some ⟨b, 0, none⟩) 1 1] w' _ at HT
  change ∀ w', Below w.heap.size w w' → Calls Tryd.prog 16 #[.agg (hA x.height x.prev x.txr x.str (.slice a x.mem.length cap))] w' _ at HB
  generalize Sh.digest (Sh.tagTo 72 [hB x] 1) = dg at *
  generalize hB x = tb at *
  generalize (Value.slice a x.mem.length cap) = sl at *
  clear hle h16
  go_enter Tryd.func21, Tryd.ntmps21
  go_wp2_with (first
    | (go_at_call 16; refine (HB _ hw1).mono ?_; rintro e w2 ⟨rfl, hw2⟩; have hB2 := hw1.trans (hw2.mono hw1.size))
    | (go_at_call 39; refine (HT _ _ hc3).mono ?_; rintro e w4 ⟨rfl, hw4⟩)
    | (with_reducible refine at_list ?_; first
      | (refine wpList_boxRow (op := ⟨some 1, _, _, _, _, _⟩) rfl _ _ rfl _ rfl ?_; intro w1 hw1 hs1 hb1; replace hs1 := hs1.symm)
      | (refine wpList_loadRow (op := ⟨some 3, _, _, _, _, _⟩) rfl _ _ rfl w.heap.size rfl _ _ hb1 _ Tryd.underlying30 rfl (by rw [hA_size]; exact zRH.2) ?_)
      | (refine wpList_bslS (op := ⟨some 5, _, _, _, _, _⟩) rfl _ rfl tb rfl ?_; intro w3 hw3 hc3)))
  go_ret
  exact ⟨rfl, (hB2.trans (hw3.mono hB2.size)).trans (hw4.mono (Nat.le_trans hB2.size hw3.size))⟩
end Go.Proofs.YtdolgkegeomafaaDoor
