/- Entries that are made one's own. -/
import Derived.Test.YtnhlejdilldfaaaGreatRms
import Derived.Test.YtnhlejdilldfaaaGreatRap
import Derived.Test.YtnhlejdilldfaaaGreatCix
namespace Go.Proofs.YtnhlejdilldfaaaGreat
open Go Go.RowKit Go.Maps
theorem lec_one (e : LE) (a : Option Addr) (n c : Nat) : ∀ u ∈ (lec e (.slice a n c)).toList, u.oneCell' = true := fun u hu => by
  simp only [lec, List.mem_cons, List.not_mem_nil, or_false] at hu
  rcases hu with rfl | rfl | rfl | rfl <;> rfl
/-- The cells of entries that lie somewhere. -/
theorem EA.things {w : World} {a : Option Addr} {l : List LE} (h : EA w a l) : ∃ os : List (List Value), os.length = l.length ∧ (∀ x ∈ os, x.length = 4) ∧ (∀ x ∈ os, ∀ u ∈ x, u.oneCell' = true) ∧ (∀ i (hi : i < os.length), ∃ g o, a = some ⟨g, o, none⟩ ∧ w.rangeAt g (o + i * 4) os[i]) ∧
    ∀ i (hi : i < l.length), ∃ ma mc, os[i]? = some (lec l[i] (.slice ma l[i].mem.length mc)).toList ∧ IA w ma l[i].mem ∧ l[i].mem.length ≤ 17592186044416 := by
  have hc : ∀ i : Fin l.length, ∃ p : Option Addr × Nat, (∃ g o, a = some ⟨g, o, none⟩ ∧ w.rangeAt g (o + i * 4) (lec l[i] (.slice p.1 l[i].mem.length p.2)).toList) ∧ IA w p.1 l[i].mem ∧ l[i].mem.length ≤ 17592186044416 := fun i => by
    obtain ⟨g, o, ma, cap, h1, h2, h3, h4⟩ := h i i.2
    exact ⟨(ma, cap), ⟨g, o, h1, h2⟩, h3, h4⟩
  obtain ⟨f, hf⟩ := Classical.axiomOfChoice hc
  refine ⟨List.ofFn fun i : Fin l.length => (lec l[i] (.slice (f i).1 l[i].mem.length (f i).2)).toList, by simp, fun x hx => ?_, fun x hx => ?_, fun i hi => ?_, fun i hi => ?_⟩
  · obtain ⟨i, rfl⟩ := List.mem_ofFn.1 hx
    rfl
  · obtain ⟨i, rfl⟩ := List.mem_ofFn.1 hx
    exact lec_one _ _ _ _
  · rw [List.getElem_ofFn]
    have hi2 : i < l.length := by simpa using hi
    exact (hf ⟨i, hi2⟩).1
  · refine ⟨(f ⟨i, hi⟩).1, (f ⟨i, hi⟩).2, ?_, (hf ⟨i, hi⟩).2⟩
    rw [List.getElem?_ofFn, dif_pos hi]
    rfl
theorem infoE : ∃ i, Tryz.prog.info? 29 = some i ∧ i.zero = some (.agg #[.int .i64 0, .string ⟨#[]⟩, .bool false, .slice none 0 0]) ∧ i.size = 4 ∧ i.bytes ≤ 256 := by
  have h : (Tryz.prog.info? 29).map (fun i => (i.zero, i.size, i.bytes)) = some (some (.agg #[.int .i64 0, .string ⟨#[]⟩, .bool false, .slice none 0 0]), 4, 56) := by kernel_rfl
  cases hq : Tryz.prog.info? 29 with
  | none => rw [hq] at h; cases h
  | some i => rw [hq] at h; simp at h; exact ⟨i, rfl, h.1, h.2.1, by omega⟩
theorem zE4 : (Value.agg #[.int .i64 0, .string ⟨#[]⟩, .bool false, .slice none 0 0]).cells.size = 4 := rfl
theorem iE4 : (Tryz.prog.info? 29).map (·.size) = some 4 := by kernel_rfl
theorem bsl0E (w : World) : (Instr.buildSlice 22 0 #[]).run Tryz.prog w = .ok (.slice (some ⟨w.heap.size, 0, none⟩) 0 0) (w.alloc (.cells #[] 29)) := by
  simp [Instr.buildSlice, run_underlying Tryz.underlying22, sizeOf_run iE4, Sem.run_bind, Instr.fill, newRow, range0]
section
variable {ops : Array Oper} {rest : List Oper} {op : Oper} {a : Act} {w : World} {Q : Exit → Act → World → Prop}
theorem wpList_bsl0E (hgd : op.guard = none) (ho : op.op = .buildSlice 22 0 #[])
    (h : ∀ w1 : World, Below w.heap.size w w1 → w1.heap.size = w.heap.size + 1 → GL w1 29 4 w.heap.size (.slice (some ⟨w.heap.size, 0, none⟩) 0 0) [] → wpList Tryz.prog ops Q rest (a.put op.dst (.slice (some ⟨w.heap.size, 0, none⟩) 0 0)) w1) : wpList Tryz.prog ops Q (op :: rest) a w := by
  refine wpList_run hgd _ _ ?_ (h _ ((Below.refl _ _).alloc (Nat.le_refl _) (.cells #[] 29)) (by simp) ⟨fun x hx => (by cases hx), .inr ⟨w.heap.size, 0, Nat.le_refl _, rfl, ⟨#[], (Blk.new w _ _).out, by simp, by simp, fun j v hv => by simp at hv⟩⟩⟩)
  unfold execOp
  have hr := bsl0E w
  simp only [ho, Sem.run_bind, Array.map_empty, hr, Result.andThen_ok]
  rfl
end
theorem eqlNilE (w : World) (b : Addr) (n c : Nat) : (binOp .eql 22 (.slice (some b) n c) (.slice none 0 0)).run Tryz.prog w = .ok (.bool false) w := Lib.run_eql_slice_nil w 22 29 (some b) n c 0 0 Tryz.underlying22
theorem eqlNilE0 (w : World) (n c : Nat) : (binOp .eql 22 (.slice none n c) (.slice none 0 0)).run Tryz.prog w = .ok (.bool true) w := Lib.run_eql_slice_nil w 22 29 none n c 0 0 Tryz.underlying22
section
attribute [local go_sem] eqlNilE eqlNilE0
set_option maxRecDepth 100000 in
/-- A slice of entries is cloned: the same entries, in a slice of its own. -/
theorem scloneE (b : Addr) (l : List LE) (cap : Nat) (w : World) (h : EA w (some b) l) (hl : l.length ≤ 137438953472) :
    Calls Tryz.prog 102 #[.slice (some b) l.length cap] w fun e w' => ∃ v ls, e = .returned v ∧ Below w.heap.size w w' ∧ GL w' 29 4 w.heap.size v ls ∧ ls.length = l.length ∧ ∀ i (hi : i < l.length), ∃ ma mc, ls[i]? = some (lec l[i] (.slice ma l[i].mem.length mc)).toList ∧ IA w ma l[i].mem ∧ l[i].mem.length ≤ 17592186044416 := by
  obtain ⟨os, h1, h2, h3, h4, h5⟩ := h.things
  obtain ⟨ii, hi, hz, hs, hby⟩ := infoE
  have hlen : ([] : List (List Value)).length + os.length ≤ 274877906944 := by rw [h1, List.length_nil]; omega
  have hsrc : ∀ w1, Below w.heap.size w w1 → Src Tryz.prog ii.size 22 (.slice (some b) l.length cap) os.length os.flatten w1 := fun w1 hw1 => by
    rw [← h1]
    refine Src.things Tryz.underlying22 4 hs (some b) cap os h2 h3 (fun i hi => ?_)
    obtain ⟨g, o, k1, k2⟩ := h4 i hi
    exact ⟨g, o, k1, fun j v hv => by
      have := k2 j v hv
      rw [hw1.cell (World.block_lt_of_cell? _ _ this)]
      exact this⟩
  go_enter Tryz.func102, Tryz.ntmps102
  go_wp2_with (with_reducible refine at_list ?_; first
    | (refine wpList_bsl0E (op := ⟨some 5, _, _, _, _, _⟩) rfl rfl ?_; intro w1 hw1 hs1 hG1; replace hs1 := hs1.symm)
    | (refine wpList_appendS (op := ⟨some 7, _, _, _, _, _⟩) rfl _ _ _ 29 rfl 4 w.heap.size (.slice (some ⟨w.heap.size, 0, none⟩) 0 0) [] hw1.size rfl hG1 (.slice (some b) l.length cap) rfl os h2 ii (hsrc w1 hw1) _ zE4 Tryz.underlying22 hi hz hs hby hlen ?_; intro w2 sl2 hw2 hG2 hn2))
  go_ret
  refine ⟨sl2, _, rfl, hw1.trans (below_of_grown hw2 (Nat.le_refl _) hw1.size), hG2, by rw [List.nil_append]; exact h1, h5⟩
set_option maxRecDepth 100000 in
theorem scloneE_nil (cap : Nat) (w : World) : Calls Tryz.prog 102 #[.slice none 0 cap] w fun e w' => e = .returned (.slice none 0 0) ∧ w' = w := by
  go_enter Tryz.func102, Tryz.ntmps102
  go_wp2_with fail
  go_ret
  exact ⟨rfl, rfl⟩
end
/-- New blocks. -/
def NewB (w w' : World) (k : Nat) : Prop := w.heap.size ≤ k ∧ k < w'.heap.size
theorem sclF (a : Option Addr) (l : List Int) (cap : Nat) (w : World) (h : IA w a l) (hl : l.length ≤ 17592186044416) :
    Calls Tryz.prog 61 #[.slice a l.length cap] w fun e w' => ∃ x c, e = .returned (.slice x l.length c) ∧ IF (NewB w w') w' x l ∧ Below w.heap.size w w' := by
  by_cases h0 : 0 < l.length
  · refine (scloneI_any a l cap w h h0 hl).mono ?_
    rintro e w' ⟨g, c, rfl, h1, h2, h3⟩
    exact ⟨_, c, rfl, IF.of h3.ia (fun g' o' e _ => by cases e; exact ⟨h1, h3.lt⟩), h2⟩
  · refine (scloneI_all a l cap w h hl).mono ?_
    rintro e w' ⟨x, c, rfl, h1, h2⟩
    refine ⟨x, c, rfl, ?_, h2⟩
    obtain rfl : l = [] := List.length_eq_zero_iff.1 (by omega)
    exact IF.nil _ _ _
/-- The cells of an entry that was made. -/
theorem lecI (e : LE) (v : Value) : (Tryz.prog.info? 29).map (·.size) = some (#[Value.int .i64 e.term, .string ⟨e.s.toArray⟩, .bool e.conf, v] : Array Value).size := by kernel_rfl
theorem lecS (t : Int) (s : ByteArray) (c : Bool) (v : Value) (t2 : Int) (s2 : ByteArray) (c2 : Bool) (v2 : Value) : (#[Value.int .i64 t, .string s, .bool c, v] : Array Value).size = (#[Value.int .i64 t2, .string s2, .bool c2, v2] : Array Value).size := rfl
theorem lecO (t : Int) (s : ByteArray) (c : Bool) (a : Option Addr) (n m : Nat) : (#[Value.int .i64 t, .string s, .bool c, .slice a n m] : Array Value).all (·.oneCell') = true := by simp [Value.oneCell']
set_option maxRecDepth 100000 in
theorem cloneEntry_any (x : LE) (ma : Option Addr) (mc : Nat) (w : World) (h : IA w ma x.mem) (hl : x.mem.length ≤ 17592186044416) :
    Calls Tryz.prog 64 #[.agg #[.int .i64 x.term, .string ⟨x.s.toArray⟩, .bool x.conf, .slice ma x.mem.length mc]] w fun e w' => ∃ a c, e = .returned (.agg #[.int .i64 x.term, .string ⟨x.s.toArray⟩, .bool x.conf, .slice a x.mem.length c]) ∧ IF (NewB w w') w' a x.mem ∧ Below w.heap.size w w' := by
  have HC := fun w1 (hB : Below w.heap.size w w1) => sclF ma x.mem mc w1 (h.below hB) hl
  have hB0 := fun o1 o2 => ((Below.refl w.heap.size w).alloc (Nat.le_refl _) o1).alloc (by simp) o2
  go_enter Tryz.func64, Tryz.ntmps64
  go_wp2_with (first
    | (go_at_call 61; refine (HC _ (hB0 _ _)).mono ?_; rintro e w1 ⟨y, c, rfl, hI, hw1⟩
       have hbx := ((Blk.new w _ _).alloc _).belowSize hw1
       have hbr := (Blk.new (w.alloc (.cells #[.int .i64 x.term, .string ⟨x.s.toArray⟩, .bool x.conf, .slice ma x.mem.length mc] 29)) #[.int .i64 0, .string ⟨#[]⟩, .bool false, .slice none 0 0] 29).belowSize hw1
       rw [World.size_alloc] at hbr
       have hbr2 := hbr.setCell_other ⟨w.heap.size, 3, none⟩ (Nat.succ_ne_self _) (.slice y x.mem.length c)
       have d0 := hbx.cell 0
       have d1 := hbx.cell 1
       have d2 := hbx.cell 2
       have d3 := hbx.cell 3
       have f3 := hbx.frozen 3)
    | (with_reducible refine at_list ?_; refine wpList_storeRow (op := ⟨none, .store 29 (.tmp 2) (.tmp 7), _, _, _, _⟩) rfl _ _ _ rfl (w.heap.size + 1) #[.int .i64 x.term, .string ⟨x.s.toArray⟩, .bool x.conf, .slice y x.mem.length c] rfl rfl _ _ hbr2 (lecS ..) (lecI x _) (lecO ..) ?_; intro w3 hg3 hs3 h4b))
  have hb1 := bl_ca (hB0 _ _) hw1
  have hb2 := bl_st hb1 (Nat.le_refl _) 3 (.slice y x.mem.length c)
  have hw3 := bl_gr hb2 hg3 (Nat.le_succ _)
  refine bodyPost_ret (v := .agg _) ?_ rfl ⟨y, c, rfl, ?_, hw3⟩
  · exact results_cell_row rfl _ _ (w.heap.size + 1) _ _ _ _ rfl h4b.out Tryz.underlying29 rfl (lecI x _)
  · refine hI.kept (fun k hk => ?_) (fun k hk => ?_)
    · have h1 := hk.1
      simp only [World.size_alloc] at h1
      rw [hg3.block k (by simpa using hk.2) (fun e => by have := Option.some.inj e; omega)]
      exact Below.heap_setCell _ _ _ _ (by show k ≠ w.heap.size; omega)
    · have h1 := hk.1
      have h2 := hk.2
      simp only [World.size_alloc] at h1
      exact ⟨by omega, Nat.lt_of_lt_of_le h2 (by rw [hs3]; simp)⟩
end Go.Proofs.YtnhlejdilldfaaaGreat
