/- What a loss of power does to a disk. -/
import Derived.Test.YtaiiojbakmminaaGreatDoorKSet
namespace Go.Proofs.YtaiiojbakmminaaGreatDoor
open Go Go.RowKit
/-- Has a loose file its bit, and is it set? -/
def kept (z : Int) (k : Nat) : Bool := decide ((k : Int) < 62) && (bits BinOp.and IntKind.i64 (z / 2 ^ k) 1 == 1)
set_option maxRecDepth 100000 in
theorem isKept_any (z : Int) (k : Nat) (w : World) : Calls Tryz.prog 80 #[.int .i64 z, .int .i64 (k : Nat)] w fun e w' => e = .returned (.bool (kept z k)) ∧ w' = w := by
  unfold kept
  by_cases hk : (k : Int) < 62
  · rw [decide_eq_true hk, Bool.true_and]
    go_enter Tryz.func80, Tryz.ntmps80
    go_wp2
    go_ret
    exact ⟨rfl, rfl⟩
  · rw [decide_eq_false hk, Bool.false_and]
    go_enter Tryz.func80, Tryz.ntmps80
    go_wp2
    go_ret
    exact ⟨rfl, rfl⟩
/-- Is a loose file torn that is not kept? -/
def torn (f : F) (z : Int) (first : Bool) : Bool := first && decide (0 < z) && (f.last == 1 || f.last == 2)
def lostC (f : F) (z : Int) (first : Bool) : Option B := if torn f z first = true then some ((kbyt f.is).take z.toNat ++ (kbyt f.sure).drop (min z.toNat (kbyt f.is).length)) else f.sure
set_option maxRecDepth 100000 in
set_option maxHeartbeats 1000000 in
theorem lost_sure (f : F) (z : Int) (first : Bool) (w : World) (h : torn f z first = false) : Calls Tryz.prog 81 #[.agg (fC f), .int .i64 z, .bool first] w fun e w' => e = .returned (.agg (cC f.sure)) ∧ Below w.heap.size w w' := by
  have g5 := fC_g5 f
  unfold torn at h
  generalize f.last = la at *
  cases first with
  | false =>
    clear h
    go_enter Tryz.func81, Tryz.ntmps81
    go_wp2_with (with_reducible refine at_list ?_; first
      | (refine wpList_boxRow (op := ⟨some 3, _, _, _, _, _⟩) rfl _ _ rfl _ rfl ?_; intro w1 hw1 hs1 h3; clear hs1)
      | (refine wpList_allocRow (op := ⟨some 6, _, _, _, _, _⟩) rfl _ rfl _ zCon.1 ?_; intro w2 hw2 hs2 h6; clear hs2; have hsz := h3.lt; replace h3 := h3.belowSize hw2; have hB2 := hw1.trans (hw2.mono hw1.size); have hsr := h3.sureR)
      | (refine wpList_loadAt (op := ⟨some 25, _, _, _, _, _⟩) rfl _ _ rfl w.heap.size 3 rfl (cC f.sure) hsr _ Tryz.underlying91 rfl (iCon _) ?_)
      | (refine wpList_storeRow (op := ⟨none, .store 91 (.tmp 6) (.tmp 25), _, _, _, _⟩) rfl _ _ _ rfl w1.heap.size (cC f.sure) rfl rfl _ _ h6 rfl (iCon _) (cC_one _) ?_; intro w3 hg3 hs3 h6b; clear hs3))
    refine bodyPost_ret (v := .agg (cC f.sure)) ?_ rfl ⟨rfl, hB2.trans (below_of_grown hg3 (by omega) hB2.size)⟩
    exact results_cell_row rfl _ _ w1.heap.size _ _ _ _ rfl h6b.out Tryz.underlying91 rfl (iCon _)
  | true =>
    by_cases hz : z ≤ 0
    · clear h
      go_enter Tryz.func81, Tryz.ntmps81
      go_wp2_with (with_reducible refine at_list ?_; first
        | (refine wpList_boxRow (op := ⟨some 3, _, _, _, _, _⟩) rfl _ _ rfl _ rfl ?_; intro w1 hw1 hs1 h3; clear hs1)
        | (refine wpList_allocRow (op := ⟨some 6, _, _, _, _, _⟩) rfl _ rfl _ zCon.1 ?_; intro w2 hw2 hs2 h6; clear hs2; have hsz := h3.lt; replace h3 := h3.belowSize hw2; have hB2 := hw1.trans (hw2.mono hw1.size); have hsr := h3.sureR)
        | (refine wpList_loadAt (op := ⟨some 25, _, _, _, _, _⟩) rfl _ _ rfl w.heap.size 3 rfl (cC f.sure) hsr _ Tryz.underlying91 rfl (iCon _) ?_)
        | (refine wpList_storeRow (op := ⟨none, .store 91 (.tmp 6) (.tmp 25), _, _, _, _⟩) rfl _ _ _ rfl w1.heap.size (cC f.sure) rfl rfl _ _ h6 rfl (iCon _) (cC_one _) ?_; intro w3 hg3 hs3 h6b; clear hs3))
      refine bodyPost_ret (v := .agg (cC f.sure)) ?_ rfl ⟨rfl, hB2.trans (below_of_grown hg3 (by omega) hB2.size)⟩
      exact results_cell_row rfl _ _ w1.heap.size _ _ _ _ rfl h6b.out Tryz.underlying91 rfl (iCon _)
    · rw [decide_eq_true (by omega), Bool.true_and, Bool.true_and, Bool.or_eq_false_iff] at h
      have hl1 : ¬ (la : Int) = 1 := by have := h.1; simp at this; omega
      have hl2 : ¬ (la : Int) = 2 := by have := h.2; simp at this; omega
      have hb1 : ((la : Int) != 1) = true := by simp [hl1]
      have hb2 : ((la : Int) != 2) = true := by simp [hl2]
      clear h
      go_enter Tryz.func81, Tryz.ntmps81
      go_wp2_with (with_reducible refine at_list ?_; first
        | (refine wpList_boxRow (op := ⟨some 3, _, _, _, _, _⟩) rfl _ _ rfl _ rfl ?_; intro w1 hw1 hs1 h3; clear hs1)
        | (refine wpList_allocRow (op := ⟨some 6, _, _, _, _, _⟩) rfl _ rfl _ zCon.1 ?_; intro w2 hw2 hs2 h6; clear hs2; have hsz := h3.lt; replace h3 := h3.belowSize hw2; have hB2 := hw1.trans (hw2.mono hw1.size); have hsr := h3.sureR; have c5 := (h3.cell 5).trans g5)
        | (refine wpList_loadAt (op := ⟨some 25, _, _, _, _, _⟩) rfl _ _ rfl w.heap.size 3 rfl (cC f.sure) hsr _ Tryz.underlying91 rfl (iCon _) ?_)
        | (refine wpList_storeRow (op := ⟨none, .store 91 (.tmp 6) (.tmp 25), _, _, _, _⟩) rfl _ _ _ rfl w1.heap.size (cC f.sure) rfl rfl _ _ h6 rfl (iCon _) (cC_one _) ?_; intro w3 hg3 hs3 h6b; clear hs3))
      refine bodyPost_ret (v := .agg (cC f.sure)) ?_ rfl ⟨rfl, hB2.trans (below_of_grown hg3 (by omega) hB2.size)⟩
      exact results_cell_row rfl _ _ w1.heap.size _ _ _ _ rfl h6b.out Tryz.underlying91 rfl (iCon _)
theorem kextract_drop (l : B) (n : Nat) : (ByteArray.mk l.toArray).extract n l.length = ⟨(l.drop n).toArray⟩ := by
  have : ((ByteArray.mk l.toArray).extract n l.length).data = (l.drop n).toArray := by
    apply Array.ext'
    simp [ByteArray.extract, ByteArray.copySlice]
    rw [List.take_of_length_le (by simp)]
  rw [show (ByteArray.mk l.toArray).extract n l.length = ⟨((ByteArray.mk l.toArray).extract n l.length).data⟩ from rfl, this]
section
variable {op : Oper} {a : Act} {w : World}
attribute [local go_sem] kextract_take kextract_drop
theorem run_cutTo {x y : Operand} {l : B} {n : Nat} (ho : op.op = .slice 9 x none (some y) none) (hx : a.eval x = .string ⟨l.toArray⟩) (hy : a.eval y = .int .i64 (n : Nat)) (hn : n ≤ l.length) : (execOp a.eval op).run Tryz.prog w = .ok (.value (.string ⟨(l.take n).toArray⟩)) w := by
  have h1 : (n : Int) ≤ (l.length : Int) := by omega
  unfold execOp
  simp only [ho, Option.map_some, Option.map_none, hx, hy]
  go_simp
theorem run_cutFrom {x y : Operand} {l : B} {n : Nat} (ho : op.op = .slice 9 x (some y) none none) (hx : a.eval x = .string ⟨l.toArray⟩) (hy : a.eval y = .int .i64 (n : Nat)) (hn : n ≤ l.length) : (execOp a.eval op).run Tryz.prog w = .ok (.value (.string ⟨(l.drop n).toArray⟩)) w := by
  have h1 : (n : Int) ≤ (l.length : Int) := by omega
  unfold execOp
  simp only [ho, Option.map_some, Option.map_none, hx, hy]
  go_simp
theorem run_min {x y : Operand} {n k q : Nat} (ho : op.op = .call { callee := .builtin .min, args := #[x, y], argTypes := #[3, 3] }) (hx : a.eval x = .int .i64 (n : Nat)) (hy : a.eval y = .int .i64 (k : Nat)) (hq : min n k = q) : (execOp a.eval op).run Tryz.prog w = .ok (.value (.int .i64 (q : Nat))) w := by
  unfold execOp
  simp only [ho]
  simp [resolve, invoke, builtin, hx, hy, Builtin.min_, Builtin.min2]
  split <;> omega
theorem run_addS {x y : Operand} {l r : B} (ho : op.op = .binOp .add 9 x y 9) (hx : a.eval x = .string ⟨l.toArray⟩) (hy : a.eval y = .string ⟨r.toArray⟩) (h : ¬ 9223372036854775807 < l.length + r.length) : (execOp a.eval op).run Tryz.prog w = .ok (.value (.string ⟨(l ++ r).toArray⟩)) w := by
  unfold execOp
  simp only [ho, hx, hy]
  go_simp
  apply ByteArray.ext
  simp [ByteArray.data_append]
end
set_option maxRecDepth 100000 in
set_option maxHeartbeats 1000000 in
theorem lost_torn (f : F) (z : Int) (la n q : Nat) (w : World) (hz : 0 < z) (g5 : (fC f)[5]? = some (.int .i64 (la : Nat))) (hl : la = 1 ∨ la = 2) (hn0 : min z ((kbyt f.is).length : Int) = (n : Int)) (hn : n ≤ (kbyt f.is).length) (hq : min n (kbyt f.sure).length = q) (hadd : ¬ 9223372036854775807 < ((kbyt f.is).take n).length + ((kbyt f.sure).drop q).length) :
    Calls Tryz.prog 81 #[.agg (fC f), .int .i64 z, .bool true] w fun e w' => e = .returned (.agg (cC (some ((kbyt f.is).take n ++ (kbyt f.sure).drop q)))) ∧ Below w.heap.size w w' := by
  have hql : q ≤ (kbyt f.sure).length := by omega
  have hz0 : ¬ z ≤ 0 := by omega
  rcases hl with rfl | rfl <;>
  · go_enter Tryz.func81, Tryz.ntmps81
    go_wp2_with (with_reducible refine at_list ?_; first
        | (refine wpList_boxRow (op := ⟨some 3, _, _, _, _, _⟩) rfl _ _ rfl _ rfl ?_; intro w1 hw1 hs1 h3; clear hs1)
        | (refine wpList_allocRow (op := ⟨some 6, _, _, _, _, _⟩) rfl _ rfl _ zCon.1 ?_; intro w2 hw2 hs2 h6; clear hs2; have hsz := h3.lt; replace h3 := h3.belowSize hw2; have hB2 := hw1.trans (hw2.mono hw1.size); have c5 := (h3.cell 5).trans g5)
        | (refine wpList_loadCell (op := ⟨some 29, _, _, _, _, _⟩) rfl _ _ rfl w.heap.size 2 rfl _ _ h3 _ Tryz.underlying9 rfl _ (fC_g2 _) ?_))
    have hH0 : Blk w2.drew w.heap.size (fC f) 93 := h3.drew
    refine wp_region_held_drew (S := fun w' : World => Blk w' w.heap.size (fC f) 93) (by kernel_rfl) hH0 (fun hH => ?_)
    try go_frame
    refine wpAnyH_take (i := 0) (oi := ⟨some 32, _, _, _, _, _⟩) (v := .pointer (some ⟨w.heap.size, 1, none⟩)) rfl (by kernel_rfl) (by kernel_rfl) (by kernel_rfl) (fun _ _ _ h => h) (Or.inl ⟨by rfl, fun w hSw => by go_simp⟩) hH ?_
    try simp only [Act.put, List.setIfInBounds_toArray, List.set_cons_zero, List.set_cons_succ]
    refine wpAnyH_take (i := 1) (oi := ⟨some 33, _, _, _, _, _⟩) (v := .pointer (some ⟨w.heap.size, 2, none⟩)) rfl (by kernel_rfl) (by kernel_rfl) (by kernel_rfl) (fun _ _ _ h => h) (Or.inl ⟨by rfl, fun w hSw => by go_simp⟩) hH ?_
    try simp only [Act.put, List.setIfInBounds_toArray, List.set_cons_zero, List.set_cons_succ]
    refine wpAnyH_take (i := 2) (oi := ⟨some 34, _, _, _, _, _⟩) (v := .string ⟨(kbyt f.is).toArray⟩) rfl (by kernel_rfl) (by kernel_rfl) (by kernel_rfl) (fun _ _ _ h => h) (Or.inl ⟨by rfl, fun w hSw => run_loadCellB _ _ rfl _ 2 rfl _ _ hSw _ Tryz.underlying9 rfl _ (fC_g2 _)⟩) hH ?_
    try simp only [Act.put, List.setIfInBounds_toArray, List.set_cons_zero, List.set_cons_succ]
    refine wpAnyH_take (i := 3) (oi := ⟨some 35, _, _, _, _, _⟩) (v := .int .i64 (n : Nat)) rfl (by kernel_rfl) (by kernel_rfl) (by kernel_rfl) (fun _ _ _ h => h) (Or.inl ⟨by rfl, fun w hSw => by go_simp⟩) hH ?_
    try simp only [Act.put, List.setIfInBounds_toArray, List.set_cons_zero, List.set_cons_succ]
    refine wpAnyH_take (i := 4) (oi := ⟨some 36, _, _, _, _, _⟩) (v := .string ⟨((kbyt f.is).take n).toArray⟩) rfl (by kernel_rfl) (by kernel_rfl) (by kernel_rfl) (fun _ _ _ h => h) (Or.inl ⟨by rfl, fun w hSw => run_cutTo rfl rfl rfl hn⟩) hH ?_
    try simp only [Act.put, List.setIfInBounds_toArray, List.set_cons_zero, List.set_cons_succ]
    refine wpAnyH_take (i := 5) (oi := ⟨some 37, _, _, _, _, _⟩) (v := .pointer (some ⟨w.heap.size, 3, none⟩)) rfl (by kernel_rfl) (by kernel_rfl) (by kernel_rfl) (fun _ _ _ h => h) (Or.inl ⟨by rfl, fun w hSw => by go_simp⟩) hH ?_
    try simp only [Act.put, List.setIfInBounds_toArray, List.set_cons_zero, List.set_cons_succ]
    refine wpAnyH_take (i := 6) (oi := ⟨some 38, _, _, _, _, _⟩) (v := .pointer (some ⟨w.heap.size, 4, none⟩)) rfl (by kernel_rfl) (by kernel_rfl) (by kernel_rfl) (fun _ _ _ h => h) (Or.inl ⟨by rfl, fun w hSw => by go_simp⟩) hH ?_
    try simp only [Act.put, List.setIfInBounds_toArray, List.set_cons_zero, List.set_cons_succ]
    refine wpAnyH_take (i := 7) (oi := ⟨some 39, _, _, _, _, _⟩) (v := .string ⟨(kbyt f.sure).toArray⟩) rfl (by kernel_rfl) (by kernel_rfl) (by kernel_rfl) (fun _ _ _ h => h) (Or.inl ⟨by rfl, fun w hSw => run_loadCellB _ _ rfl _ 4 rfl _ _ hSw _ Tryz.underlying9 rfl _ (fC_g4 _)⟩) hH ?_
    try simp only [Act.put, List.setIfInBounds_toArray, List.set_cons_zero, List.set_cons_succ]
    refine wpAnyH_take (i := 8) (oi := ⟨some 40, _, _, _, _, _⟩) (v := .int .i64 (n : Nat)) rfl (by kernel_rfl) (by kernel_rfl) (by kernel_rfl) (fun _ _ _ h => h) (Or.inl ⟨by rfl, fun w hSw => by go_simp⟩) hH ?_
    try simp only [Act.put, List.setIfInBounds_toArray, List.set_cons_zero, List.set_cons_succ]
    refine wpAnyH_take (i := 9) (oi := ⟨some 41, _, _, _, _, _⟩) (v := .pointer (some ⟨w.heap.size, 3, none⟩)) rfl (by kernel_rfl) (by kernel_rfl) (by kernel_rfl) (fun _ _ _ h => h) (Or.inl ⟨by rfl, fun w hSw => by go_simp⟩) hH ?_
    try simp only [Act.put, List.setIfInBounds_toArray, List.set_cons_zero, List.set_cons_succ]
    refine wpAnyH_take (i := 10) (oi := ⟨some 42, _, _, _, _, _⟩) (v := .pointer (some ⟨w.heap.size, 4, none⟩)) rfl (by kernel_rfl) (by kernel_rfl) (by kernel_rfl) (fun _ _ _ h => h) (Or.inl ⟨by rfl, fun w hSw => by go_simp⟩) hH ?_
    try simp only [Act.put, List.setIfInBounds_toArray, List.set_cons_zero, List.set_cons_succ]
    refine wpAnyH_take (i := 11) (oi := ⟨some 43, _, _, _, _, _⟩) (v := .string ⟨(kbyt f.sure).toArray⟩) rfl (by kernel_rfl) (by kernel_rfl) (by kernel_rfl) (fun _ _ _ h => h) (Or.inl ⟨by rfl, fun w hSw => run_loadCellB _ _ rfl _ 4 rfl _ _ hSw _ Tryz.underlying9 rfl _ (fC_g4 _)⟩) hH ?_
    try simp only [Act.put, List.setIfInBounds_toArray, List.set_cons_zero, List.set_cons_succ]
    refine wpAnyH_take (i := 12) (oi := ⟨some 44, _, _, _, _, _⟩) (v := .int .i64 ((kbyt f.sure).length : Nat)) rfl (by kernel_rfl) (by kernel_rfl) (by kernel_rfl) (fun _ _ _ h => h) (Or.inl ⟨by rfl, fun w hSw => by go_simp⟩) hH ?_
    try simp only [Act.put, List.setIfInBounds_toArray, List.set_cons_zero, List.set_cons_succ]
    refine wpAnyH_take (i := 13) (oi := ⟨some 45, _, _, _, _, _⟩) (v := .int .i64 (q : Nat)) rfl (by kernel_rfl) (by kernel_rfl) (by kernel_rfl) (fun _ _ _ h => h) (Or.inl ⟨by rfl, fun w hSw => run_min rfl rfl rfl hq⟩) hH ?_
    try simp only [Act.put, List.setIfInBounds_toArray, List.set_cons_zero, List.set_cons_succ]
    refine wpAnyH_take (i := 14) (oi := ⟨some 46, _, _, _, _, _⟩) (v := .string ⟨((kbyt f.sure).drop q).toArray⟩) rfl (by kernel_rfl) (by kernel_rfl) (by kernel_rfl) (fun _ _ _ h => h) (Or.inl ⟨by rfl, fun w hSw => run_cutFrom rfl rfl rfl hql⟩) hH ?_
    try simp only [Act.put, List.setIfInBounds_toArray, List.set_cons_zero, List.set_cons_succ]
    refine wpAnyH_take (i := 15) (oi := ⟨some 47, _, _, _, _, _⟩) (v := .string ⟨((kbyt f.is).take n ++ (kbyt f.sure).drop q).toArray⟩) rfl (by kernel_rfl) (by kernel_rfl) (by kernel_rfl) (fun _ _ _ h => h) (Or.inl ⟨by rfl, fun w hSw => run_addS rfl rfl rfl hadd⟩) hH ?_
    try simp only [Act.put, List.setIfInBounds_toArray, List.set_cons_zero, List.set_cons_succ]
    refine wpAnyH_take (i := 16) (oi := ⟨some 48, _, _, _, _, _⟩) (v := .agg (cC (some ((kbyt f.is).take n ++ (kbyt f.sure).drop q)))) rfl (by kernel_rfl) (by kernel_rfl) (by kernel_rfl) (fun _ _ _ h => h) (Or.inl ⟨by rfl, fun w hSw => run_built2 _ _ _ _ _ rfl _ _ rfl rfl _ (builtC _)⟩) hH ?_
    try simp only [Act.put, List.setIfInBounds_toArray, List.set_cons_zero, List.set_cons_succ]
    refine wpAnyH_solo (i := 17) (o := ⟨none, _, _, _, _, _⟩) rfl (by kernel_rfl) (fun K hK => ?_)
    refine wpList_storeRow rfl _ _ _ rfl w1.heap.size (cC (some ((kbyt f.is).take n ++ (kbyt f.sure).drop q))) rfl rfl _ _ h6.drew rfl (iCon _) (cC_one _) ?_
    intro w3 hg3 hs3 h6b
    clear hs3
    have hH8 : Blk w3 w.heap.size (fC f) 93 := hH.grown hg3 (by simp; omega)
    refine hK _ _ hH8 ?_
    clear hK K
    try simp only [Act.put]
    refine wpAnyH_done (by kernel_rfl) ?_ _
    go_simp
    go_wp2_with fail
    refine bodyPost_ret (v := .agg (cC (some ((kbyt f.is).take n ++ (kbyt f.sure).drop q)))) ?_ rfl ⟨rfl, hB2.drew.trans (below_of_grown hg3 (by omega) (by simpa using hB2.size))⟩
    exact results_cell_row rfl _ _ w1.heap.size _ _ _ _ rfl h6b.out Tryz.underlying91 rfl (iCon _)
theorem lost_any (f : F) (z : Int) (first : Bool) (w : World) (h1 : (kbyt f.is).length ≤ 1000000000000) (h2 : (kbyt f.sure).length ≤ 1000000000000) :
    Calls Tryz.prog 81 #[.agg (fC f), .int .i64 z, .bool first] w fun e w' => e = .returned (.agg (cC (lostC f z first))) ∧ Below w.heap.size w w' := by
  unfold lostC
  cases ht : torn f z first
  · rw [if_neg (by simp)]
    exact lost_sure f z first w ht
  · rw [if_pos rfl]
    unfold torn at ht
    simp only [Bool.and_eq_true, decide_eq_true_eq, Bool.or_eq_true, beq_iff_eq] at ht
    obtain ⟨⟨rfl, hz⟩, hl⟩ := ht
    have e1 : (kbyt f.is).take z.toNat = (kbyt f.is).take (min z.toNat (kbyt f.is).length) := by
      rw [List.take_eq_take_iff]
      omega
    have e2 : (kbyt f.sure).drop (min z.toNat (kbyt f.is).length) = (kbyt f.sure).drop (min (min z.toNat (kbyt f.is).length) (kbyt f.sure).length) := by
      rcases Nat.le_total (min z.toNat (kbyt f.is).length) (kbyt f.sure).length with h | h
      · rw [Nat.min_eq_left h]
      · rw [Nat.min_eq_right h, List.drop_eq_nil_of_le h, List.drop_eq_nil_of_le (Nat.le_refl _)]
    rw [e1, e2]
    exact lost_torn f z f.last _ _ w hz (fC_g5 f) hl (by omega) (by omega) rfl (by simp; omega)
end Go.Proofs.YtaiiojbakmminaaGreatDoor
