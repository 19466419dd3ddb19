/- What takeOp does. -/
import Derived.Test.YtncoifkchoiiaaaDoorOsl
import Derived.Test.YtncoifkchoiiaaaDoorAt
namespace Go.Proofs.YtncoifkchoiiaaaDoor
open Go Go.RowKit
theorem opc_set0 (k k' : Int) (a b : List UInt8) : (opc ⟨k, a, b⟩).setIfInBounds 0 (.int .i64 k') = opc ⟨k', a, b⟩ := rfl
theorem opc_set1 (k : Int) (a a' b : List UInt8) : (opc ⟨k, a, b⟩).setIfInBounds 1 (.string ⟨a'.toArray⟩) = opc ⟨k, a', b⟩ := rfl
theorem opc_set2 (k : Int) (a b b' : List UInt8) : (opc ⟨k, a, b⟩).setIfInBounds 2 (.string ⟨b'.toArray⟩) = opc ⟨k, a, b'⟩ := rfl
theorem i9 : (Tryd.prog.info? 9).map (·.size) = some 1 := by kernel_rfl
theorem Blk.to {w w' : World} {b i : Nat} {r : R} {c : Array Value} {ty : TypeId} (h : Blk w i c ty) (hT : To w w' b r) (hi : i ≠ b) : Blk w' i c ty := h.grown hT.grown (fun e => hi (Option.some.inj e))
theorem To.behind {w w1 w2 : World} {b : Nat} {r : R} (h : Below w.heap.size w w1) (k : To w1 w2 b r) : To w w2 b r := ⟨grown_trans (grown_of_below h) k.grown, k.rd⟩
theorem RD.lt {w : World} {b : Nat} {r : R} (h : RD w b r) : b < w.heap.size := h.blk.lt
theorem RD.grown {w w' : World} {b i : Nat} {r : R} (h : RD w b r) (hg : w.grownBy w' (some i)) (hi : b ≠ i) : RD w' b r := ⟨h.blk.grown hg (fun e => hi (Option.some.inj e))⟩
/-- What is written into a block that is new since w leaves a reader's step. -/
theorem To.write {w w1 w2 : World} {b i : Nat} {r : R} (k : To w w1 b r) (hg : w1.grownBy w2 (some i)) (hb : b < w.heap.size) (hi : w.heap.size ≤ i) : To w w2 b r :=
  ⟨⟨hg.os.trans k.grown.os, hg.tape.trans k.grown.tape, hg.output.trans k.grown.output, Nat.le_trans k.grown.size hg.size, fun j hj hr => (hg.block j (Nat.lt_of_lt_of_le hj k.grown.size) (fun e => by have := Option.some.inj e; omega)).trans (k.grown.block j hj hr)⟩, k.rd.grown hg (by omega)⟩
set_option maxRecDepth 100000 in
set_option maxHeartbeats 400000 in
theorem takeOp_any (b : Nat) (r : R) (w : World) (h : RD w b r) (hk : r.ok) (hl : r.s.length ≤ 140737488355328) :
    Calls Tryd.prog 32 #[.pointer (some ⟨b, 0, none⟩)] w fun e w' => e = .returned (.agg (opc r.op.2)) ∧ To w w' b r.op.1 := by
  have hbl := h.lt
  have H1 := fun w (h : RD w b r) => number_r b r 1 w h hk hl
  have hn1 : (r.number 1).2 < 256 := by
    have h2 : ((r.early 1).bytes 1).2.length ≤ 1 := by
      unfold R.bytes
      split
      · simp
      · split
        · simp
        · split
          · simp
          · simp only [List.length_take]; omega
    have h3 := val_lt _ ((r.early 1).bytes 1).2 rfl
    have h4 : 256 ^ ((r.early 1).bytes 1).2.length ≤ 256 ^ 1 := Nat.pow_le_pow_right (by decide) h2
    unfold R.number
    simp only
    omega
  have H2 := fun w (h : RD w b (r.number 1).1) => text_any b (r.number 1).1 32 w h (R.ok_number hk 1) (by rw [R.number_s]; exact hl) (by decide)
  have H3 := fun w (h : RD w b ((r.number 1).1.text 32).1) => text_any b ((r.number 1).1.text 32).1 64 w h (R.ok_text (R.ok_number hk 1) 32) (by rw [R.text_s, R.number_s]; exact hl) (by decide)
  have HE : Hid (r.op = ((((r.number 1).1.text 32).1.text 64).1, ⟨((r.number 1).2 : Nat), ((r.number 1).1.text 32).2, (((r.number 1).1.text 32).1.text 64).2⟩)) := by exact rfl
  rw [HE.out]
  clear HE
  generalize ((r.number 1).1.text 32).1.text 64 = q3 at *
  generalize (r.number 1).1.text 32 = q2 at *
  generalize r.number 1 = q1 at *
  obtain ⟨r1, m⟩ := q1
  obtain ⟨r2, key⟩ := q2
  obtain ⟨r3, vv⟩ := q3
  dsimp only at *
  have hm := show IntKind.i64.wrap (m : Int) = (m : Int) by rw [IntKind.wrap_i64]; omega
  go_enter Tryd.func32, Tryd.ntmps32
  go_wp2_with (first
    | (go_at_call 30; refine (H1 _ ((h.below hw1).below hw2)).mono ?_; rintro e w3 ⟨rfl, hT1⟩; replace hz1 := hz1.to hT1 (by omega); replace hz2 := hz2.to hT1 (by omega); replace hT1 := To.behind (hw1.trans (hw2.mono hw1.size)) hT1)
    | (go_at_call 48; refine (H2 _ hT2.rd).mono ?_; rintro e w5 ⟨rfl, hT3⟩; clear H2; replace hz1 := hz1.to hT3 (by omega); replace hz4 := hz4.to hT3 (by omega); replace hT3 := hT2.trans hT3)
    | (go_at_call 48; refine (H3 _ hT4.rd).mono ?_; rintro e w7 ⟨rfl, hT5⟩; clear H3; replace hz1 := hz1.to hT5 (by omega); replace hz6 := hz6.to hT5 (by omega); replace hT5 := hT4.trans hT5)
    | (with_reducible refine at_list ?_; first
      | (refine wpList_allocRow (op := ⟨some 2, _, _, _, _, _⟩) rfl _ rfl _ zOp.1 ?_; intro w1 hw1 hs1 hz1; replace hs1 := hs1.symm)
      | (refine wpList_allocRow (op := ⟨some 3, _, _, _, _, _⟩) rfl _ rfl _ zOp.1 ?_; intro w2 hw2 hs2 hz2; replace hs2 := hs2.symm; replace hz1 := hz1.belowSize hw2)
      | (refine wpList_storeCell (op := ⟨none, .store 3 (.tmp 7) (.tmp 6), _, _, _, _⟩) rfl _ _ _ rfl w1.heap.size 0 rfl (.int .i64 (m : Nat)) rfl _ _ hz2 i3 rfl rfl (by simp [opc]) ?_; intro w4 hg4 hs4 hz4; rw [opc_set0] at hz4; replace hz1 := hz1.grown hg4 (by simp; omega); have hT2 := hT1.write hg4 hbl hw1.size)
      | (refine wpList_storeCell (op := ⟨none, .store 9 (.tmp 10) (.tmp 9), _, _, _, _⟩) rfl _ _ _ rfl w1.heap.size 1 rfl (.string ⟨key.toArray⟩) rfl _ _ hz4 i9 rfl rfl (by simp [opc]) ?_; intro w6 hg6 hs6 hz6; rw [opc_set1] at hz6; replace hz1 := hz1.grown hg6 (by simp; omega); have hT4 := hT3.write hg6 hbl hw1.size)
      | (refine wpList_storeCell (op := ⟨none, .store 9 (.tmp 13) (.tmp 12), _, _, _, _⟩) rfl _ _ _ rfl w1.heap.size 2 rfl (.string ⟨vv.toArray⟩) rfl _ _ hz6 i9 rfl rfl (by simp [opc]) ?_; intro w8 hg8 hs8 hz8; rw [opc_set2] at hz8; replace hz1 := hz1.grown hg8 (by simp; omega); have hT6 := hT5.write hg8 hbl hw1.size)
      | (refine wpList_loadRow (op := ⟨some 14, _, _, _, _, _⟩) rfl _ _ rfl w1.heap.size rfl _ _ hz8 _ Tryd.underlying52 rfl (by rw [opc_size]; exact zOp.2) ?_)
      | (refine wpList_storeRow (op := ⟨none, .store 52 (.tmp 2) (.tmp 14), _, _, _, _⟩) rfl _ _ _ rfl w.heap.size (opc ⟨(m : Nat), key, vv⟩) rfl rfl _ _ hz1 (by rw [opc_size, opc_size]) (by rw [opc_size]; exact zOp.2) (opc_one _) ?_; intro w9 hg9 hs9 hz9)))
  refine bodyPost_ret (v := .agg (opc ⟨(m : Nat), key, vv⟩)) ?_ rfl ⟨rfl, hT6.write hg9 hbl (Nat.le_refl _)⟩
  exact results_cell_row rfl _ _ w.heap.size _ _ _ _ rfl hz9.out Tryd.underlying52 rfl (by rw [opc_size]; exact zOp.2)
end Go.Proofs.YtncoifkchoiiaaaDoor
