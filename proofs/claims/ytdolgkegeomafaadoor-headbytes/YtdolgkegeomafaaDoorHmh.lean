/- What Ref, zeros and awake of the head's law do. -/
import Derived.Test.YtdolgkegeomafaaDoorHmg
namespace Go.Proofs.YtdolgkegeomafaaDoor
open Go Go.RowKit
theorem zRH : (∀ w, (zeroValue 30).run Tryd.prog w = .ok (.agg (hA 0 [] [] [] (.slice none 0 0))) w) ∧ (Tryd.prog.info? 30).map (·.size) = some 5 := zero_of_info (by kernel_rfl)
theorem builtRH (ht : Nat) (p t s : List UInt8) (a : Option Addr) (n cap : Nat) : Tryd.prog.built 30 [(0, .int .u64 (ht : Nat)), (1, .string ⟨p.toArray⟩), (2, .string ⟨t.toArray⟩), (3, .string ⟨s.toArray⟩), (4, .slice a n cap)] = some (hA ht p t s (.slice a n cap)) := by kernel_rfl
theorem builtH (ht : Nat) (p t s : List UInt8) (a : Option Addr) (n cap : Nat) : Tryd.prog.built 25 [(0, .int .u64 (ht : Nat)), (1, .string ⟨p.toArray⟩), (2, .string ⟨t.toArray⟩), (3, .string ⟨s.toArray⟩), (4, .slice a n cap)] = some (hA ht p t s (.slice a n cap)) := by kernel_rfl
set_option maxRecDepth 100000 in
set_option maxHeartbeats 1000000 in
theorem refH_any (ht : Nat) (p t s : List UInt8) (a : Option Addr) (n cap : Nat) (w : World) :
    Calls Tryd.prog 6 #[.agg (hA ht p t s (.slice a n cap))] w fun e w' => e = .returned (.agg (hA ht p t s (.slice a n cap))) ∧ Below w.heap.size w w' := by
  go_enter Tryd.func6, Tryd.ntmps6
  go_wp2_with (with_reducible refine at_list ?_; first
    | (refine wpList_boxRow (op := ⟨some 1, _, _, _, _, _⟩) rfl _ _ rfl _ rfl ?_; intro w1 hw1 hs1 hb1; replace hs1 := hs1.symm)
    | (refine wpList_allocRow (op := ⟨some 2, _, _, _, _, _⟩) rfl _ rfl _ zRH.1 ?_; intro w2 hw2 hs2 hz2; replace hs2 := hs2.symm; replace hb1 := hb1.belowSize hw2; have c0 := (hb1.cell 0).trans (hA_g0 _ _ _ _ _); have c1 := (hb1.cell 1).trans (hA_g1 _ _ _ _ _); have c2 := (hb1.cell 2).trans (hA_g2 _ _ _ _ _); have c3 := (hb1.cell 3).trans (hA_g3 _ _ _ _ _); have c4 := (hb1.cell 4).trans (hA_g4 _ _ _ _ _))
    | (refine wpList_build (o := ⟨some 13, _, _, _, _, _⟩) rfl _ _ rfl (builtRH ht p t s a n cap) ?_)
    | (refine wpList_storeRow (op := ⟨none, .store 30 (.tmp 2) (.tmp 13), _, _, _, _⟩) rfl _ _ _ rfl w1.heap.size (hA ht p t s (.slice a n cap)) rfl rfl _ _ hz2 (by simp only [hA_size]) (by rw [hA_size]; exact zRH.2) (hA_one _ _ _ _ _ _ _) ?_; intro w3 hg3 hs3 hz3))
  have HB : Below w.heap.size w w2 := hw1.trans (hw2.mono hw1.size)
  refine bodyPost_ret (v := .agg (hA ht p t s (.slice a n cap))) ?_ rfl ⟨rfl, HB.trans (below_of_grown hg3 hw1.size HB.size)⟩
  exact results_cell_row rfl _ _ w1.heap.size _ _ _ _ rfl hz3.out Tryd.underlying30 rfl (by rw [hA_size]; exact zRH.2)
def zr : List UInt8 := List.replicate 32 0
set_option maxRecDepth 100000 in
theorem zeros_any (w : World) : Calls Tryd.prog 23 #[] w fun e w' => e = .returned (.string ⟨zr.toArray⟩) ∧ w' = w := by
  have HR := fun w => rhash_any [] w (by decide)
  rw [show hash32 [] = zr from rfl] at HR
  generalize zr = z at *
  go_enter Tryd.func23, Tryd.ntmps23
  go_wp2_with (go_at_call 35; refine (HR _).mono ?_; rintro e w2 ⟨rfl, hw2⟩; have hw2 := hw2.symm; subst hw2)
  go_ret
  exact ⟨rfl, rfl⟩
theorem range2 : Array.range 2 = #[0, 1] := by decide
theorem bsl2I (x y : Int) (w : World) : (Instr.buildSlice 23 2 #[(0, .int .i64 x), (1, .int .i64 y)]).run Tryd.prog w = .ok (.slice (some ⟨w.heap.size, 0, none⟩) 2 2) (w.alloc (.cells #[.int .i64 x, .int .i64 y] 3)) := by
  simp [Instr.buildSlice, run_underlying Tryd.underlying23, sizeOf_run i3, Sem.run_bind, Instr.fill, newRow, Tryd.zeroValue3, Value.cells, range2]
section
variable {ops : Array Oper} {rest : List Oper} {op : Oper} {a : Act} {w : World} {Q : Exit → Act → World → Prop}
theorem wpList_bsl2I (hgd : op.guard = none) (x y : Operand) (ho : op.op = .buildSlice 23 2 #[(0, x), (1, y)]) (p q : Int) (hx : a.eval x = .int .i64 p) (hy : a.eval y = .int .i64 q)
    (h : ∀ w1 : World, Below w.heap.size w w1 → w1.heap.size = w.heap.size + 1 → Blk w1 w.heap.size #[.int .i64 p, .int .i64 q] 3 → wpList Tryd.prog ops Q rest (a.put op.dst (.slice (some ⟨w.heap.size, 0, none⟩) 2 2)) w1) : wpList Tryd.prog ops Q (op :: rest) a w := by
  refine wpList_run hgd _ _ ?_ (h _ ((Below.refl _ _).alloc (Nat.le_refl _) _) (by simp) (Blk.new _ _ _))
  unfold execOp
  have e : (#[(0, x), (1, y)] : Array (Nat × Operand)).map (fun (i, x) => (i, a.eval x)) = #[(0, .int .i64 p), (1, .int .i64 q)] := by simp [hx, hy]
  have hr := bsl2I p q w
  rw [← e] at hr
  simp only [ho, Sem.run_bind, hr, Result.andThen_ok]
  rfl
end
theorem Blk.ia2 {w : World} {g : Nat} {x y : Int} (h : Blk w g #[.int .i64 x, .int .i64 y] 3) : IA w (some ⟨g, 0, none⟩) [x, y] := fun i v hv => by
  refine ⟨g, 0, rfl, ?_⟩
  rw [Nat.zero_add, h.cell]
  have hi : i < 2 := (List.getElem?_eq_some_iff.1 hv).1
  rcases (show i = 0 ∨ i = 1 by omega) with rfl | rfl
  · simp at hv; subst hv; rfl
  · simp at hv; subst hv; rfl
def HW : HH := ⟨1, zr, zr, zr, [2, 5]⟩
theorem HW_ok : OkH HW := ⟨by decide, rfl, rfl, rfl, okM_iff.1 (by decide)⟩
section
attribute [local go_sem] Oper.semAt_some
set_option maxRecDepth 100000 in
set_option maxHeartbeats 1000000 in
theorem awakeH_any (w : World) : Calls Tryd.prog 7 #[] w fun e w' => e = .returned (.bool true) ∧ Below w.heap.size w w' := by
  have HZ := fun w => zeros_any w
  have HE := fun g w (hA : IA w (some ⟨g, 0, none⟩) [2, 5]) => encodeH_any HW (some ⟨g, 0, none⟩) 2 w hA
  rw [show encH HW = hB HW from if_pos (okH_iff.2 HW_ok), chkH_zero HW_ok] at HE
  have HD := fun w => decodeH_at HW HW_ok (by decide) w
  generalize hB HW = S at *
  change ∀ w, Calls Tryd.prog 11 #[.string ⟨S.toArray⟩] w fun e w' => ∃ a cap, e = .returned (.tuple #[.agg (hA 1 zr zr zr (.slice a 2 cap)), .int .i64 0]) ∧ Below w.heap.size w w' ∧ VL w' 3 w.heap.size (.slice a 2 cap) (([2, 5] : List Int).map fun x => .int .i64 x) at HD
  change ∀ g w, IA w (some ⟨g, 0, none⟩) [2, 5] → Calls Tryd.prog 4 #[.agg (hA 1 zr zr zr (.slice (some ⟨g, 0, none⟩) 2 2))] w _ at HE
  generalize zr = z at *
  go_enter Tryd.func7, Tryd.ntmps7
  go_wp2_with (first
    | (go_at_call 23; refine (HZ _).mono ?_; rintro e w1 ⟨rfl, hw1⟩; have hw1 := hw1.symm; subst hw1)
    | (go_at_call 4; refine (HE _ _ hb2.ia2).mono ?_; rintro e w3 ⟨rfl, hw3⟩; have HB := hw2.trans (hw3.mono hw2.size))
    | (go_at_call 11; refine (HD _).mono ?_; rintro e w4 ⟨a4, cap4, rfl, hw4, hV4⟩; replace HB := HB.trans (hw4.mono HB.size))
    | (with_reducible refine at_list ?_; first
      | (refine wpList_bsl2I (op := ⟨some 9, _, _, _, _, _⟩) rfl _ _ rfl 2 5 rfl rfl ?_; intro w2 hw2 hs2 hb2; replace hs2 := hs2.symm)
      | (refine wpList_build (o := ⟨some 10, _, _, _, _, _⟩) rfl _ _ rfl (builtH 1 z z z (some ⟨w.heap.size, 0, none⟩) 2 2) ?_)
      | (refine wpList_allocRow (op := ⟨some 3, _, _, _, _, _⟩) rfl _ rfl _ zH0.1 ?_; intro w5 hw5 hs5 hz5; replace hs5 := hs5.symm; replace hV4 := hV4.below hw5; have hB4 := HB.size; replace HB := HB.trans (hw5.mono HB.size))
      | (refine wpList_storeRow (op := ⟨none, .store 25 (.tmp 3) (.tmp 17), _, _, _, _⟩) rfl _ _ _ rfl w4.heap.size (hA 1 z z z (.slice a4 2 cap4)) rfl rfl _ _ hz5 (by simp only [hA_size]) (by rw [hA_size]; exact zH.2) (hA_one _ _ _ _ _ _ _) ?_; intro w6 hg6 hs6 hz6; replace hV4 := hV4.grownT hg6 hz5 (by decide); replace HB := HB.trans (below_of_grown hg6 hB4 HB.size); have c0 := (hz6.cell 0).trans (hA_g0 _ _ _ _ _); have c4 := (hz6.cell 4).trans (hA_g4 _ _ _ _ _); obtain ⟨g7, o7, rfl⟩ := hV4.ia0.ex (by decide); have c7 : w6.cell? ⟨g7, o7 + 1, none⟩ = some (.int .i64 5) := hV4.ia0.cell (show 1 < 2 by decide))))
  go_ret
  exact ⟨rfl, HB⟩
end
end Go.Proofs.YtdolgkegeomafaaDoor
