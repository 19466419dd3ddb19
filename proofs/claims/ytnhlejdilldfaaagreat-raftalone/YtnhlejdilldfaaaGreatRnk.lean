/- New of what may be. -/
import Derived.Test.YtnhlejdilldfaaaGreatRhr
import Derived.Great.Ranges
import Derived.Carry
namespace Go.Proofs.YtnhlejdilldfaaaGreat
open Go Go.RowKit Go.Maps
/-- As many empty maps lie behind a world. -/
structure MkS (W : World) (k : Nat) (w' : World) : Prop where
  size : w'.heap.size = W.heap.size + k
  below : Below W.heap.size W w'
  maps : ∀ i, i < k → w'.heap[W.heap.size + i]? = some (.map #[] 0)
theorem MkS.zero (W : World) : MkS W 0 W := ⟨rfl, Below.refl _ _, fun _ h => absurd h (Nat.not_lt_zero _)⟩
theorem MkS.make {W w : World} {k : Nat} (h : MkS W k w) : MkS W (k + 1) (w.alloc (.map #[] 0)) := by
  refine ⟨by rw [World.size_alloc, h.size]; omega, h.below.alloc (by rw [h.size]; omega) _, fun i hi => ?_⟩
  by_cases he : i = k
  · subst he
    rw [← h.size]
    exact heap_alloc_last w _
  · rw [Below.heap_alloc w _ _ (by rw [h.size]; omega)]
    exact h.maps i (by omega)
theorem wpList_mkM {ops : Array Oper} {rest : List Oper} {op : Oper} {a : Act} {w W : World} {Q : Exit → Act → World → Prop} {k : Nat} (hgd : op.guard = none) (t : TypeId) (hop : op.op = .makeMap t none) (h : MkS W k w)
    (hK : ∀ w1, MkS W (k + 1) w1 → wpList Tryz.prog ops Q rest (a.put op.dst (.map (some (W.heap.size + k)))) w1) : wpList Tryz.prog ops Q (op :: rest) a w := by
  refine wpList_run hgd (.map (some (W.heap.size + k))) (w.alloc (.map #[] 0)) ?_ (hK _ h.make)
  simp [execOp, hop, run_makeMap, h.size]
theorem MkS.ma {W w w' : World} {k : Nat} (h : MkS W k w) (et : TypeId) (z : DataW Unit) (X : List Int) (i : Nat) (hi : i < k) (hb : w'.heap[W.heap.size + i]? = w.heap[W.heap.size + i]?) : MA w' et z (W.heap.size + i) X fun _ => z := by
  have h1 := h.maps i hi
  exact ⟨0, .map [], ⟨#[], 0, by rw [hb]; exact h1, ⟨by simp, MapKept.stamped_empty _, by simp⟩, Nat.le_refl _, rfl⟩, isMap_empty, fun _ => rfl, Keys.empty X⟩
/-- As New lays it, ahead of its waiting. -/
def RN.raw (me : Int) (h : HD) (draws : List Int) : RN := { me := me, k := h, role := 1, leader := -1, commit := h.bi, draws := draws, wait := 0, ticks := 0, quiet := 0, votes := fun _ => false, next := fun _ => 0, had := fun _ => 0, ends := fun _ => 0, pidx := 0, pterm := 0, ps := [], keys := [] }
theorem raw_nd {w A w3 w4 W w5 : World} {me : Int} {k : HD} {draws : List Int} {x a3 xd : Option Addr} {c c3 cd : Nat} (hA : w.heap.size ≤ A.heap.size) (hw3 : Below A.heap.size A w3) (hv3 : ∀ r, slBlk (.slice a3 k.log.length c3) = some r → A.heap.size ≤ r)
    (hI3 : IF (fun q => NewB A w3 q ∧ slBlk (.slice a3 k.log.length c3) ≠ some q) w3 x k.bconf) (hG3 : LG (fun q => NewB A w3 q ∧ slBlk (.slice a3 k.log.length c3) ≠ some q) w3 (.slice a3 k.log.length c3) k.log) (hw4 : Below w3.heap.size w3 w4) (hd0 : draws.length = 0)
    (hWe : w4.alloc (.cells #[.int .i64 me, .int .i64 k.term, .int .i64 k.vote, .int .i64 k.bi, .int .i64 k.bt, .string ⟨k.base.toArray⟩, .slice x k.bconf.length c, .slice a3 k.log.length c3, .int .i64 1, .int .i64 (-1), .int .i64 k.bi, .slice xd draws.length cd, .int .i64 0, .int .i64 0, .int .i64 0, .map none, .map none, .map none, .map none, .int .i64 0, .int .i64 0, .string ⟨#[]⟩] 109) = W)
    (hMk : MkS W 4 w5) : ∃ F M lb, (∀ q, F q → w.heap.size ≤ q) ∧ (∀ q, own w4.heap.size M lb q → w.heap.size ≤ q) ∧ Below w4.heap.size w4 ((((w5.setCell ⟨w4.heap.size, 15, none⟩ (.map (some W.heap.size))).setCell ⟨w4.heap.size, 16, none⟩ (.map (some (W.heap.size + 1)))).setCell ⟨w4.heap.size, 17, none⟩ (.map (some (W.heap.size + 2)))).setCell ⟨w4.heap.size, 18, none⟩ (.map (some (W.heap.size + 3)))) ∧
      ND F w4.heap.size M lb ((((w5.setCell ⟨w4.heap.size, 15, none⟩ (.map (some W.heap.size))).setCell ⟨w4.heap.size, 16, none⟩ (.map (some (W.heap.size + 1)))).setCell ⟨w4.heap.size, 17, none⟩ (.map (some (W.heap.size + 2)))).setCell ⟨w4.heap.size, 18, none⟩ (.map (some (W.heap.size + 3)))) (RN.raw me k draws) := by
  have hWs : W.heap.size = w4.heap.size + 1 := by rw [← hWe]; exact World.size_alloc _ _
  have hBN : Blk W w4.heap.size #[.int .i64 me, .int .i64 k.term, .int .i64 k.vote, .int .i64 k.bi, .int .i64 k.bt, .string ⟨k.base.toArray⟩, .slice x k.bconf.length c, .slice a3 k.log.length c3, .int .i64 1, .int .i64 (-1), .int .i64 k.bi, .slice xd draws.length cd, .int .i64 0, .int .i64 0, .int .i64 0, .map none, .map none, .map none, .map none, .int .i64 0, .int .i64 0, .string ⟨#[]⟩] 109 := by
    rw [← hWe]
    exact Blk.new _ _ _
  have hb4W : Below w4.heap.size w4 W := by rw [← hWe]; exact bl_al (Below.refl _ _) _
  have hs34 := hw4.size
  have hsA3 := hw3.size
  have hb45 : Below w4.heap.size w4 w5 := hb4W.trans (hMk.below.mono (by omega))
  have hB5 := hBN.belowSize hMk.below
  have hB6 := (((hB5.setCell 15 (.map (some W.heap.size))).setCell 16 (.map (some (W.heap.size + 1)))).setCell 17 (.map (some (W.heap.size + 2)))).setCell 18 (.map (some (W.heap.size + 3)))
  have hb6 := bl_st (bl_st (bl_st (bl_st hb45 (Nat.le_refl _) 15 (.map (some W.heap.size))) (Nat.le_refl _) 16 (.map (some (W.heap.size + 1)))) (Nat.le_refl _) 17 (.map (some (W.heap.size + 2)))) (Nat.le_refl _) 18 (.map (some (W.heap.size + 3)))
  have hk6 : ∀ q, q ≠ w4.heap.size → ((((w5.setCell ⟨w4.heap.size, 15, none⟩ (.map (some W.heap.size))).setCell ⟨w4.heap.size, 16, none⟩ (.map (some (W.heap.size + 1)))).setCell ⟨w4.heap.size, 17, none⟩ (.map (some (W.heap.size + 2)))).setCell ⟨w4.heap.size, 18, none⟩ (.map (some (W.heap.size + 3)))).heap[q]? = w5.heap[q]? := fun q hq =>
    (((Below.heap_setCell _ _ _ _ hq).trans (Below.heap_setCell _ _ _ _ hq)).trans (Below.heap_setCell _ _ _ _ hq)).trans (Below.heap_setCell _ _ _ _ hq)
  have hs6 : ((((w5.setCell ⟨w4.heap.size, 15, none⟩ (.map (some W.heap.size))).setCell ⟨w4.heap.size, 16, none⟩ (.map (some (W.heap.size + 1)))).setCell ⟨w4.heap.size, 17, none⟩ (.map (some (W.heap.size + 2)))).setCell ⟨w4.heap.size, 18, none⟩ (.map (some (W.heap.size + 3)))).heap.size = w5.heap.size := by simp
  generalize (((w5.setCell ⟨w4.heap.size, 15, none⟩ (.map (some W.heap.size))).setCell ⟨w4.heap.size, 16, none⟩ (.map (some (W.heap.size + 1)))).setCell ⟨w4.heap.size, 17, none⟩ (.map (some (W.heap.size + 2)))).setCell ⟨w4.heap.size, 18, none⟩ (.map (some (W.heap.size + 3))) = w6 at *
  have hlb : ∀ r, slBlk (.slice a3 k.log.length c3) = some r → w.heap.size ≤ r ∧ r < w3.heap.size := fun r hr => ⟨Nat.le_trans hA (hv3 r hr), by
    obtain ⟨ls, h6, _⟩ := hG3
    exact (h6.lt r hr).2⟩
  have hkeep : ∀ q, q < w3.heap.size → w6.heap[q]? = w3.heap[q]? := fun q hq => (hb6.block q (by omega)).trans (hw4.block q hq)
  have hF3 : ∀ q, (NewB A w3 q ∧ slBlk (.slice a3 k.log.length c3) ≠ some q) → w6.heap[q]? = w3.heap[q]? := fun q hq => hkeep q hq.1.2
  have hs5 := hMk.size
  refine ⟨fun q => NewB A w3 q ∧ slBlk (.slice a3 k.log.length c3) ≠ some q, ⟨W.heap.size, W.heap.size + 1, W.heap.size + 2, W.heap.size + 3⟩, slBlk (.slice a3 k.log.length c3), fun q hq => Nat.le_trans hA hq.1.1, fun q hq => ?_, hb6, ?_⟩
  · rcases hq with h | h | h | h | h | h
    · subst h; omega
    · have h : q = W.heap.size := h
      omega
    · have h : q = W.heap.size + 1 := h
      omega
    · have h : q = W.heap.size + 2 := h
      omega
    · have h : q = W.heap.size + 3 := h
      omega
    · exact (hlb q h).1
  · refine ⟨⟨x, c, .slice a3 k.log.length c3, xd, cd, hB6, rfl, hI3.kept hF3 (fun _ h => h), hG3.kept (fun r hr => hkeep r (hlb r hr).2) hF3 (fun _ h => h), ?_, by show draws.length ≤ cd; omega⟩, ?_, ?_, ?_, ?_, ?_, ?_, ?_⟩
    · intro i y hy
      have hy : draws[i]? = some y := hy
      rw [List.length_eq_zero_iff.1 hd0] at hy
      simp at hy
    · exact hMk.ma _ _ _ 0 (by omega) (hk6 _ (by omega))
    · exact hMk.ma _ _ _ 1 (by omega) (hk6 _ (by omega))
    · exact hMk.ma _ _ _ 2 (by omega) (hk6 _ (by omega))
    · exact hMk.ma _ _ _ 3 (by omega) (hk6 _ (by omega))
    · show W.heap.size ≠ W.heap.size + 1 ∧ W.heap.size ≠ W.heap.size + 2 ∧ W.heap.size ≠ W.heap.size + 3 ∧ W.heap.size + 1 ≠ W.heap.size + 2 ∧ W.heap.size + 1 ≠ W.heap.size + 3 ∧ W.heap.size + 2 ≠ W.heap.size + 3
      omega
    · rintro q ⟨⟨h1, h2⟩, h3⟩ ho
      rcases ho with h | h | h | h | h | h
      · omega
      · have h : q = W.heap.size := h
        omega
      · have h : q = W.heap.size + 1 := h
        omega
      · have h : q = W.heap.size + 2 := h
        omega
      · have h : q = W.heap.size + 3 := h
        omega
      · exact h3 h
    · rintro q ⟨⟨h1, h2⟩, h3⟩
      omega
/-- What New tells. -/
def NewP (w : World) (me : Int) (k : HD) (draws : List Int) (e : Ending) (w' : World) : Prop := ∃ F nb M lb, e = .returned (.tuple #[.pointer (some ⟨nb, 0, none⟩), .int .i64 0]) ∧ Below w.heap.size w w' ∧ (∀ q, F q → w.heap.size ≤ q) ∧ (∀ q, own nb M lb q → w.heap.size ≤ q) ∧ ND F nb M lb w' (RN.made me k draws)
set_option maxRecDepth 100000 in
set_option maxHeartbeats 1000000 in
theorem new_ok1 (w : World) (me : Int) (k : HD) (draws : List Int) (ba la da : Option Addr) (bc lc dc : Nat) (hok : RN.newOk me k = true) (hv : k.vote = -1) (hbd : Bnd (RN.raw me k draws)) (hB : IA w ba k.bconf) (hL : EA w la k.log) (hbl : k.bconf.length ≤ 17592186044416) (hll : k.log.length ≤ 137438953472) (hD : IA w da draws) (hd0 : draws.length = 0) : Calls Tryz.prog 20 #[.int .i64 me, .agg #[.int .i64 k.term, .int .i64 k.vote, .int .i64 k.bi, .int .i64 k.bt, .string ⟨k.base.toArray⟩, .slice ba k.bconf.length bc, .slice la k.log.length lc], .slice da draws.length dc] w (NewP w me k draws) := by
    unfold RN.newOk at hok
    simp only [Bool.and_eq_true] at hok
    obtain ⟨d1, d2, d3, d4⟩ := hok
    have d5 : (k.vote != -1) = false := by rw [hv]; rfl
    have d6 : decide (0 ≤ k.vote ∧ k.vote < 16) = false := by rw [hv]; rfl
    clear d4 hv
    have hdl : Hid (draws.length ≤ 17592186044416) := by show draws.length ≤ _; omega
    replace hd0 : Hid (draws.length = 0) := hd0
    go_enter Tryz.func20, Tryz.ntmps20
    go_upto_region 1 with fail
    have hA0 := bl_al (Below.refl w.heap.size w) (.cells #[.int .i64 k.term, .int .i64 k.vote, .int .i64 k.bi, .int .i64 k.bt, .string ⟨k.base.toArray⟩, .slice ba k.bconf.length bc, .slice la k.log.length lc] 43)
    have hBA := Blk.new w #[.int .i64 k.term, .int .i64 k.vote, .int .i64 k.bi, .int .i64 k.bt, .string ⟨k.base.toArray⟩, .slice ba k.bconf.length bc, .slice la k.log.length lc] 43
    generalize w.alloc (.cells #[.int .i64 k.term, .int .i64 k.vote, .int .i64 k.bi, .int .i64 k.bt, .string ⟨k.base.toArray⟩, .slice ba k.bconf.length bc, .slice la k.log.length lc] 43) = A at *
    have e0 := hBA.cell 0
    have e1 := hBA.cell 1
    have e2 := hBA.cell 2
    go_upto_region 3 with (first
    | (go_at_call 43; refine (isReplica_any A _).mono ?_; rintro e w1 ⟨rfl, hw1⟩; replace hw1 := hw1.symm; subst hw1)
    | (go_at_call 42; refine (isCount_any A _).mono ?_; rintro e w1 ⟨rfl, hw1⟩; replace hw1 := hw1.symm; subst hw1))
    refine wp_region_held_drew (S := fun w' : World => Below w.heap.size w w' ∧ Blk w' w.heap.size #[.int .i64 k.term, .int .i64 k.vote, .int .i64 k.bi, .int .i64 k.bt, .string ⟨k.base.toArray⟩, .slice ba k.bconf.length bc, .slice la k.log.length lc] 43) (by kernel_rfl) (And.intro (bl_dr hA0) hBA.drew) (fun hH => ?_)
    try go_frame
    refine wpAnyH_take (i := 0) (oi := ⟨some 35, _, _, _, _, _⟩) (v := .int .i64 me) rfl (by kernel_rfl) (by kernel_rfl) (by kernel_rfl) (fun _ _ _ h => h) (Or.inl ⟨by rfl, fun w hSw => by go_simp⟩) hH ?_
    try simp only [Act.put, List.setIfInBounds_toArray, List.set_cons_zero, List.set_cons_succ]
    refine wpAnyH_take (i := 1) (oi := ⟨some 36, _, _, _, _, _⟩) (v := .agg #[.int .i64 k.term, .int .i64 k.vote, .int .i64 k.bi, .int .i64 k.bt, .string ⟨k.base.toArray⟩, .slice ba k.bconf.length bc, .slice la k.log.length lc]) rfl (by kernel_rfl) (by kernel_rfl) (by kernel_rfl) (fun _ _ _ h => h) (Or.inl ⟨by rfl, fun w hSw => run_loadMid _ _ rfl _ 0 rfl _ hSw.2.rangeAll _ Tryz.underlying43 rfl (hd_info ..)⟩) hH ?_
    try simp only [Act.put, List.setIfInBounds_toArray, List.set_cons_zero, List.set_cons_succ]
    refine wpAnyH_take (i := 3) (oi := ⟨some 38, _, _, _, _, _⟩) (v := .pointer (some ⟨w.heap.size, 2, none⟩)) rfl (by kernel_rfl) (by kernel_rfl) (by kernel_rfl) (fun _ _ _ h => h) (Or.inl ⟨by rfl, fun w hSw => by go_simp⟩) hH ?_
    try simp only [Act.put, List.setIfInBounds_toArray, List.set_cons_zero, List.set_cons_succ]
    refine wpAnyH_take (i := 4) (oi := ⟨some 39, _, _, _, _, _⟩) (v := .int .i64 k.bi) rfl (by kernel_rfl) (by kernel_rfl) (by kernel_rfl) (fun _ _ _ h => h) (Or.inl ⟨by rfl, fun w hSw => run_loadC _ _ rfl _ _ rfl _ Tryz.underlying3 rfl _ (hSw.2.cell 2)⟩) hH ?_
    try simp only [Act.put, List.setIfInBounds_toArray, List.set_cons_zero, List.set_cons_succ]
    refine wpAnyH_take (i := 5) (oi := ⟨some 40, _, _, _, _, _⟩) (v := .slice da draws.length dc) rfl (by kernel_rfl) (by kernel_rfl) (by kernel_rfl) (fun _ _ _ h => h) (Or.inl ⟨by rfl, fun w hSw => by go_simp⟩) hH ?_
    try simp only [Act.put, List.setIfInBounds_toArray, List.set_cons_zero, List.set_cons_succ]
    refine wpAnyH_solo (i := 2) (o := ⟨some 37, _, _, _, _, _⟩) rfl (by kernel_rfl) (fun K hK => ?_)
    refine wpList_callR Tryz.func60 (by kernel_rfl) (by kernel_rfl) rfl _ _ rfl #[.agg #[.int .i64 k.term, .int .i64 k.vote, .int .i64 k.bi, .int .i64 k.bt, .string ⟨k.base.toArray⟩, .slice ba k.bconf.length bc, .slice la k.log.length lc]] (args1 rfl) _ (cloneHard_any k ba la bc lc _ (hB.below hH.1) (hL.below hH.1) hbl hll) ?_
    rintro e w3 hce
    obtain ⟨x, c, v, rfl, hw3, hv3, hI3, hG3⟩ := hce
    obtain ⟨a3, c3, rfl, _⟩ := hG3.sl
    have hH3 := And.intro (bl_ca hH.1 hw3) (hH.2.belowSize hw3)
    refine ⟨_, rfl, ?_⟩
    refine hK _ _ (hH3) ?_
    clear hH
    have hH := hH3
    clear hK K
    try simp only [Act.put, List.setIfInBounds_toArray, List.set_cons_zero, List.set_cons_succ]
    refine wpAnyH_solo (i := 6) (o := ⟨some 41, _, _, _, _, _⟩) rfl (by kernel_rfl) (fun K hK => ?_)
    refine wpList_callR Tryz.func61 (by kernel_rfl) (by kernel_rfl) rfl _ _ rfl #[.slice da draws.length dc] (args1 rfl) _ (sclF da draws dc _ (hD.below hH.1) hdl.out) ?_
    rintro e w4 ⟨xd, cd, rfl, hI4, hw4⟩
    have hH3 := And.intro (bl_ca hH.1 hw4) (hH.2.belowSize hw4)
    refine ⟨_, rfl, ?_⟩
    refine hK _ _ (hH3) ?_
    clear hH
    have hH := hH3
    clear hK K
    try simp only [Act.put, List.setIfInBounds_toArray, List.set_cons_zero, List.set_cons_succ]
    refine wpAnyH_take (i := 7) (oi := ⟨some 42, _, _, _, _, _⟩) (v := .agg #[.int .i64 me, .int .i64 k.term, .int .i64 k.vote, .int .i64 k.bi, .int .i64 k.bt, .string ⟨k.base.toArray⟩, .slice x k.bconf.length c, .slice a3 k.log.length c3, .int .i64 1, .int .i64 (-1), .int .i64 k.bi, .slice xd draws.length cd, .int .i64 0, .int .i64 0, .int .i64 0, .map none, .map none, .map none, .map none, .int .i64 0, .int .i64 0, .string ⟨#[]⟩]) rfl (by kernel_rfl) (by kernel_rfl) (by kernel_rfl) (fun _ _ _ h => h) (Or.inl ⟨by rfl, fun w hSw => by go_simp⟩) hH ?_
    try simp only [Act.put, List.setIfInBounds_toArray, List.set_cons_zero, List.set_cons_succ]
    refine wpAnyH_solo (i := 8) (o := ⟨some 43, _, _, _, _, _⟩) rfl (by kernel_rfl) (fun K hK => ?_)
    refine Go.Great.wpList_boxTo rfl 109 _ rfl (some 43) rfl w4.heap.size rfl #[.int .i64 me, .int .i64 k.term, .int .i64 k.vote, .int .i64 k.bi, .int .i64 k.bt, .string ⟨k.base.toArray⟩, .slice x k.bconf.length c, .slice a3 k.log.length c3, .int .i64 1, .int .i64 (-1), .int .i64 k.bi, .slice xd draws.length cd, .int .i64 0, .int .i64 0, .int .i64 0, .map none, .map none, .map none, .map none, .int .i64 0, .int .i64 0, .string ⟨#[]⟩] rfl ?_
    have hBN := Blk.new w4 #[.int .i64 me, .int .i64 k.term, .int .i64 k.vote, .int .i64 k.bi, .int .i64 k.bt, .string ⟨k.base.toArray⟩, .slice x k.bconf.length c, .slice a3 k.log.length c3, .int .i64 1, .int .i64 (-1), .int .i64 k.bi, .slice xd draws.length cd, .int .i64 0, .int .i64 0, .int .i64 0, .map none, .map none, .map none, .map none, .int .i64 0, .int .i64 0, .string ⟨#[]⟩] 109
    have hH3 := And.intro (bl_al hH.1 (.cells #[.int .i64 me, .int .i64 k.term, .int .i64 k.vote, .int .i64 k.bi, .int .i64 k.bt, .string ⟨k.base.toArray⟩, .slice x k.bconf.length c, .slice a3 k.log.length c3, .int .i64 1, .int .i64 (-1), .int .i64 k.bi, .slice xd draws.length cd, .int .i64 0, .int .i64 0, .int .i64 0, .map none, .map none, .map none, .map none, .int .i64 0, .int .i64 0, .string ⟨#[]⟩] 109)) (hH.2.alloc (.cells #[.int .i64 me, .int .i64 k.term, .int .i64 k.vote, .int .i64 k.bi, .int .i64 k.bt, .string ⟨k.base.toArray⟩, .slice x k.bconf.length c, .slice a3 k.log.length c3, .int .i64 1, .int .i64 (-1), .int .i64 k.bi, .slice xd draws.length cd, .int .i64 0, .int .i64 0, .int .i64 0, .map none, .map none, .map none, .map none, .int .i64 0, .int .i64 0, .string ⟨#[]⟩] 109))
    refine hK _ _ hH3 ?_
    clear hH
    have hH := hH3
    clear hK K
    try simp only [Act.put, List.setIfInBounds_toArray, List.set_cons_zero, List.set_cons_succ]
    refine wpAnyH_solo (i := 9) (o := ⟨some 8, _, _, _, _, _⟩) rfl (by kernel_rfl) (fun K hK => ?_)
    refine wpList_pure rfl (.pointer (some ⟨w4.heap.size, 0, none⟩)) (by go_simp) ?_
    refine hK _ _ hH ?_
    clear hK K
    try simp only [Act.put, List.setIfInBounds_toArray, List.set_cons_zero, List.set_cons_succ]
    refine wpAnyH_done (by kernel_rfl) ?_ _
    try simp only [Act.put]
    try go_simp
    generalize hWe : w4.alloc (.cells #[.int .i64 me, .int .i64 k.term, .int .i64 k.vote, .int .i64 k.bi, .int .i64 k.bt, .string ⟨k.base.toArray⟩, .slice x k.bconf.length c, .slice a3 k.log.length c3, .int .i64 1, .int .i64 (-1), .int .i64 k.bi, .slice xd draws.length cd, .int .i64 0, .int .i64 0, .int .i64 0, .map none, .map none, .map none, .map none, .int .i64 0, .int .i64 0, .string ⟨#[]⟩] 109) = W at *
    have hMk := MkS.zero W
    go_upto_region 5 with (with_reducible refine at_list ?_; refine wpList_mkM rfl _ rfl hMk ?_; clear hMk; intro w5 hMk; have hB5 := hBN.belowSize hMk.below; have c15 := hB5.cell 15; have c16 := hB5.cell 16; have c17 := hB5.cell 17; have c18 := hB5.cell 18; have f15 := hB5.frozen 15; have f16 := hB5.frozen 16; have f17 := hB5.frozen 17; have f18 := hB5.frozen 18)
    clear c15 c16 c17 c18 f15 f16 f17 f18
    have hA0d := bl_dr hA0
    obtain ⟨F, M, lb, hF, ho, hb6, hND⟩ := raw_nd (A := A.drew) (me := me) (draws := draws) (xd := xd) (cd := cd) (c := c) hA0d.size hw3 hv3 hI3 hG3 hw4 hd0.out hWe hMk
    have hbw6 : Below w.heap.size w _ := hA0d.trans ((hw3.mono hA0d.size).trans ((hw4.mono (Nat.le_trans hA0d.size hw3.size)).trans (hb6.mono (Nat.le_trans (Nat.le_trans hA0d.size hw3.size) hw4.size))))
    clear hMk hB5
    generalize (((w5.setCell ⟨w4.heap.size, 15, none⟩ (.map (some W.heap.size))).setCell ⟨w4.heap.size, 16, none⟩ (.map (some (W.heap.size + 1)))).setCell ⟨w4.heap.size, 17, none⟩ (.map (some (W.heap.size + 2)))).setCell ⟨w4.heap.size, 18, none⟩ (.map (some (W.heap.size + 3))) = w6 at *
    go_wp2_with (go_at_call 62; refine (begin_any F w4.heap.size M lb _ _ hND hbd).mono ?_; rintro e w7 ⟨rfl, hS7, hN7⟩)
    go_ret2
    exact ⟨F, w4.heap.size, M, lb, rfl, ⟨hS7.os.trans hbw6.os, hS7.tape.trans hbw6.tape, hS7.output.trans hbw6.output, Nat.le_trans hbw6.size hS7.size, fun i hi => (hS7.keep i (Nat.lt_of_lt_of_le hi hbw6.size) (fun h => by have := ho i h; omega)).trans (hbw6.block i hi)⟩, hF, ho, hN7⟩
set_option maxRecDepth 100000 in
set_option maxHeartbeats 1000000 in
theorem new_ok2 (w : World) (me : Int) (k : HD) (draws : List Int) (ba la da : Option Addr) (bc lc dc : Nat) (hok : RN.newOk me k = true) (hv : k.vote ≠ -1) (hbd : Bnd (RN.raw me k draws)) (hB : IA w ba k.bconf) (hL : EA w la k.log) (hbl : k.bconf.length ≤ 17592186044416) (hll : k.log.length ≤ 137438953472) (hD : IA w da draws) (hd0 : draws.length = 0) : Calls Tryz.prog 20 #[.int .i64 me, .agg #[.int .i64 k.term, .int .i64 k.vote, .int .i64 k.bi, .int .i64 k.bt, .string ⟨k.base.toArray⟩, .slice ba k.bconf.length bc, .slice la k.log.length lc], .slice da draws.length dc] w (NewP w me k draws) := by
    unfold RN.newOk at hok
    simp only [Bool.and_eq_true] at hok
    obtain ⟨d1, d2, d3, d4⟩ := hok
    have d5 : (k.vote != -1) = true := bne_iff_ne.2 hv
    have d6 : decide (0 ≤ k.vote ∧ k.vote < 16) = true := by simpa [hv] using d4
    clear d4 hv
    have hdl : Hid (draws.length ≤ 17592186044416) := by show draws.length ≤ _; omega
    replace hd0 : Hid (draws.length = 0) := hd0
    go_enter Tryz.func20, Tryz.ntmps20
    go_upto_region 1 with fail
    have hA0 := bl_al (Below.refl w.heap.size w) (.cells #[.int .i64 k.term, .int .i64 k.vote, .int .i64 k.bi, .int .i64 k.bt, .string ⟨k.base.toArray⟩, .slice ba k.bconf.length bc, .slice la k.log.length lc] 43)
    have hBA := Blk.new w #[.int .i64 k.term, .int .i64 k.vote, .int .i64 k.bi, .int .i64 k.bt, .string ⟨k.base.toArray⟩, .slice ba k.bconf.length bc, .slice la k.log.length lc] 43
    generalize w.alloc (.cells #[.int .i64 k.term, .int .i64 k.vote, .int .i64 k.bi, .int .i64 k.bt, .string ⟨k.base.toArray⟩, .slice ba k.bconf.length bc, .slice la k.log.length lc] 43) = A at *
    have e0 := hBA.cell 0
    have e1 := hBA.cell 1
    have e2 := hBA.cell 2
    go_upto_region 3 with (first
    | (go_at_call 43; refine (isReplica_any A _).mono ?_; rintro e w1 ⟨rfl, hw1⟩; replace hw1 := hw1.symm; subst hw1)
    | (go_at_call 42; refine (isCount_any A _).mono ?_; rintro e w1 ⟨rfl, hw1⟩; replace hw1 := hw1.symm; subst hw1))
    refine wp_region_held_drew (S := fun w' : World => Below w.heap.size w w' ∧ Blk w' w.heap.size #[.int .i64 k.term, .int .i64 k.vote, .int .i64 k.bi, .int .i64 k.bt, .string ⟨k.base.toArray⟩, .slice ba k.bconf.length bc, .slice la k.log.length lc] 43) (by kernel_rfl) (And.intro (bl_dr hA0) hBA.drew) (fun hH => ?_)
    try go_frame
    refine wpAnyH_take (i := 0) (oi := ⟨some 35, _, _, _, _, _⟩) (v := .int .i64 me) rfl (by kernel_rfl) (by kernel_rfl) (by kernel_rfl) (fun _ _ _ h => h) (Or.inl ⟨by rfl, fun w hSw => by go_simp⟩) hH ?_
    try simp only [Act.put, List.setIfInBounds_toArray, List.set_cons_zero, List.set_cons_succ]
    refine wpAnyH_take (i := 1) (oi := ⟨some 36, _, _, _, _, _⟩) (v := .agg #[.int .i64 k.term, .int .i64 k.vote, .int .i64 k.bi, .int .i64 k.bt, .string ⟨k.base.toArray⟩, .slice ba k.bconf.length bc, .slice la k.log.length lc]) rfl (by kernel_rfl) (by kernel_rfl) (by kernel_rfl) (fun _ _ _ h => h) (Or.inl ⟨by rfl, fun w hSw => run_loadMid _ _ rfl _ 0 rfl _ hSw.2.rangeAll _ Tryz.underlying43 rfl (hd_info ..)⟩) hH ?_
    try simp only [Act.put, List.setIfInBounds_toArray, List.set_cons_zero, List.set_cons_succ]
    refine wpAnyH_take (i := 3) (oi := ⟨some 38, _, _, _, _, _⟩) (v := .pointer (some ⟨w.heap.size, 2, none⟩)) rfl (by kernel_rfl) (by kernel_rfl) (by kernel_rfl) (fun _ _ _ h => h) (Or.inl ⟨by rfl, fun w hSw => by go_simp⟩) hH ?_
    try simp only [Act.put, List.setIfInBounds_toArray, List.set_cons_zero, List.set_cons_succ]
    refine wpAnyH_take (i := 4) (oi := ⟨some 39, _, _, _, _, _⟩) (v := .int .i64 k.bi) rfl (by kernel_rfl) (by kernel_rfl) (by kernel_rfl) (fun _ _ _ h => h) (Or.inl ⟨by rfl, fun w hSw => run_loadC _ _ rfl _ _ rfl _ Tryz.underlying3 rfl _ (hSw.2.cell 2)⟩) hH ?_
    try simp only [Act.put, List.setIfInBounds_toArray, List.set_cons_zero, List.set_cons_succ]
    refine wpAnyH_take (i := 5) (oi := ⟨some 40, _, _, _, _, _⟩) (v := .slice da draws.length dc) rfl (by kernel_rfl) (by kernel_rfl) (by kernel_rfl) (fun _ _ _ h => h) (Or.inl ⟨by rfl, fun w hSw => by go_simp⟩) hH ?_
    try simp only [Act.put, List.setIfInBounds_toArray, List.set_cons_zero, List.set_cons_succ]
    refine wpAnyH_solo (i := 2) (o := ⟨some 37, _, _, _, _, _⟩) rfl (by kernel_rfl) (fun K hK => ?_)
    refine wpList_callR Tryz.func60 (by kernel_rfl) (by kernel_rfl) rfl _ _ rfl #[.agg #[.int .i64 k.term, .int .i64 k.vote, .int .i64 k.bi, .int .i64 k.bt, .string ⟨k.base.toArray⟩, .slice ba k.bconf.length bc, .slice la k.log.length lc]] (args1 rfl) _ (cloneHard_any k ba la bc lc _ (hB.below hH.1) (hL.below hH.1) hbl hll) ?_
    rintro e w3 hce
    obtain ⟨x, c, v, rfl, hw3, hv3, hI3, hG3⟩ := hce
    obtain ⟨a3, c3, rfl, _⟩ := hG3.sl
    have hH3 := And.intro (bl_ca hH.1 hw3) (hH.2.belowSize hw3)
    refine ⟨_, rfl, ?_⟩
    refine hK _ _ (hH3) ?_
    clear hH
    have hH := hH3
    clear hK K
    try simp only [Act.put, List.setIfInBounds_toArray, List.set_cons_zero, List.set_cons_succ]
    refine wpAnyH_solo (i := 6) (o := ⟨some 41, _, _, _, _, _⟩) rfl (by kernel_rfl) (fun K hK => ?_)
    refine wpList_callR Tryz.func61 (by kernel_rfl) (by kernel_rfl) rfl _ _ rfl #[.slice da draws.length dc] (args1 rfl) _ (sclF da draws dc _ (hD.below hH.1) hdl.out) ?_
    rintro e w4 ⟨xd, cd, rfl, hI4, hw4⟩
    have hH3 := And.intro (bl_ca hH.1 hw4) (hH.2.belowSize hw4)
    refine ⟨_, rfl, ?_⟩
    refine hK _ _ (hH3) ?_
    clear hH
    have hH := hH3
    clear hK K
    try simp only [Act.put, List.setIfInBounds_toArray, List.set_cons_zero, List.set_cons_succ]
    refine wpAnyH_take (i := 7) (oi := ⟨some 42, _, _, _, _, _⟩) (v := .agg #[.int .i64 me, .int .i64 k.term, .int .i64 k.vote, .int .i64 k.bi, .int .i64 k.bt, .string ⟨k.base.toArray⟩, .slice x k.bconf.length c, .slice a3 k.log.length c3, .int .i64 1, .int .i64 (-1), .int .i64 k.bi, .slice xd draws.length cd, .int .i64 0, .int .i64 0, .int .i64 0, .map none, .map none, .map none, .map none, .int .i64 0, .int .i64 0, .string ⟨#[]⟩]) rfl (by kernel_rfl) (by kernel_rfl) (by kernel_rfl) (fun _ _ _ h => h) (Or.inl ⟨by rfl, fun w hSw => by go_simp⟩) hH ?_
    try simp only [Act.put, List.setIfInBounds_toArray, List.set_cons_zero, List.set_cons_succ]
    refine wpAnyH_solo (i := 8) (o := ⟨some 43, _, _, _, _, _⟩) rfl (by kernel_rfl) (fun K hK => ?_)
    refine Go.Great.wpList_boxTo rfl 109 _ rfl (some 43) rfl w4.heap.size rfl #[.int .i64 me, .int .i64 k.term, .int .i64 k.vote, .int .i64 k.bi, .int .i64 k.bt, .string ⟨k.base.toArray⟩, .slice x k.bconf.length c, .slice a3 k.log.length c3, .int .i64 1, .int .i64 (-1), .int .i64 k.bi, .slice xd draws.length cd, .int .i64 0, .int .i64 0, .int .i64 0, .map none, .map none, .map none, .map none, .int .i64 0, .int .i64 0, .string ⟨#[]⟩] rfl ?_
    have hBN := Blk.new w4 #[.int .i64 me, .int .i64 k.term, .int .i64 k.vote, .int .i64 k.bi, .int .i64 k.bt, .string ⟨k.base.toArray⟩, .slice x k.bconf.length c, .slice a3 k.log.length c3, .int .i64 1, .int .i64 (-1), .int .i64 k.bi, .slice xd draws.length cd, .int .i64 0, .int .i64 0, .int .i64 0, .map none, .map none, .map none, .map none, .int .i64 0, .int .i64 0, .string ⟨#[]⟩] 109
    have hH3 := And.intro (bl_al hH.1 (.cells #[.int .i64 me, .int .i64 k.term, .int .i64 k.vote, .int .i64 k.bi, .int .i64 k.bt, .string ⟨k.base.toArray⟩, .slice x k.bconf.length c, .slice a3 k.log.length c3, .int .i64 1, .int .i64 (-1), .int .i64 k.bi, .slice xd draws.length cd, .int .i64 0, .int .i64 0, .int .i64 0, .map none, .map none, .map none, .map none, .int .i64 0, .int .i64 0, .string ⟨#[]⟩] 109)) (hH.2.alloc (.cells #[.int .i64 me, .int .i64 k.term, .int .i64 k.vote, .int .i64 k.bi, .int .i64 k.bt, .string ⟨k.base.toArray⟩, .slice x k.bconf.length c, .slice a3 k.log.length c3, .int .i64 1, .int .i64 (-1), .int .i64 k.bi, .slice xd draws.length cd, .int .i64 0, .int .i64 0, .int .i64 0, .map none, .map none, .map none, .map none, .int .i64 0, .int .i64 0, .string ⟨#[]⟩] 109))
    refine hK _ _ hH3 ?_
    clear hH
    have hH := hH3
    clear hK K
    try simp only [Act.put, List.setIfInBounds_toArray, List.set_cons_zero, List.set_cons_succ]
    refine wpAnyH_solo (i := 9) (o := ⟨some 8, _, _, _, _, _⟩) rfl (by kernel_rfl) (fun K hK => ?_)
    refine wpList_pure rfl (.pointer (some ⟨w4.heap.size, 0, none⟩)) (by go_simp) ?_
    refine hK _ _ hH ?_
    clear hK K
    try simp only [Act.put, List.setIfInBounds_toArray, List.set_cons_zero, List.set_cons_succ]
    refine wpAnyH_done (by kernel_rfl) ?_ _
    try simp only [Act.put]
    try go_simp
    generalize hWe : w4.alloc (.cells #[.int .i64 me, .int .i64 k.term, .int .i64 k.vote, .int .i64 k.bi, .int .i64 k.bt, .string ⟨k.base.toArray⟩, .slice x k.bconf.length c, .slice a3 k.log.length c3, .int .i64 1, .int .i64 (-1), .int .i64 k.bi, .slice xd draws.length cd, .int .i64 0, .int .i64 0, .int .i64 0, .map none, .map none, .map none, .map none, .int .i64 0, .int .i64 0, .string ⟨#[]⟩] 109) = W at *
    have hMk := MkS.zero W
    go_upto_region 5 with (with_reducible refine at_list ?_; refine wpList_mkM rfl _ rfl hMk ?_; clear hMk; intro w5 hMk; have hB5 := hBN.belowSize hMk.below; have c15 := hB5.cell 15; have c16 := hB5.cell 16; have c17 := hB5.cell 17; have c18 := hB5.cell 18; have f15 := hB5.frozen 15; have f16 := hB5.frozen 16; have f17 := hB5.frozen 17; have f18 := hB5.frozen 18)
    clear c15 c16 c17 c18 f15 f16 f17 f18
    have hA0d := bl_dr hA0
    obtain ⟨F, M, lb, hF, ho, hb6, hND⟩ := raw_nd (A := A.drew) (me := me) (draws := draws) (xd := xd) (cd := cd) (c := c) hA0d.size hw3 hv3 hI3 hG3 hw4 hd0.out hWe hMk
    have hbw6 : Below w.heap.size w _ := hA0d.trans ((hw3.mono hA0d.size).trans ((hw4.mono (Nat.le_trans hA0d.size hw3.size)).trans (hb6.mono (Nat.le_trans (Nat.le_trans hA0d.size hw3.size) hw4.size))))
    clear hMk hB5
    generalize (((w5.setCell ⟨w4.heap.size, 15, none⟩ (.map (some W.heap.size))).setCell ⟨w4.heap.size, 16, none⟩ (.map (some (W.heap.size + 1)))).setCell ⟨w4.heap.size, 17, none⟩ (.map (some (W.heap.size + 2)))).setCell ⟨w4.heap.size, 18, none⟩ (.map (some (W.heap.size + 3))) = w6 at *
    go_wp2_with (go_at_call 62; refine (begin_any F w4.heap.size M lb _ _ hND hbd).mono ?_; rintro e w7 ⟨rfl, hS7, hN7⟩)
    go_ret2
    exact ⟨F, w4.heap.size, M, lb, rfl, ⟨hS7.os.trans hbw6.os, hS7.tape.trans hbw6.tape, hS7.output.trans hbw6.output, Nat.le_trans hbw6.size hS7.size, fun i hi => (hS7.keep i (Nat.lt_of_lt_of_le hi hbw6.size) (fun h => by have := ho i h; omega)).trans (hbw6.block i hi)⟩, hF, ho, hN7⟩
/-- New of what may be, without draws. -/
theorem new_any (w : World) (me : Int) (k : HD) (draws : List Int) (ba la da : Option Addr) (bc lc dc : Nat) (hok : RN.newOk me k = true) (hbd : Bnd (RN.raw me k draws)) (hB : IA w ba k.bconf) (hL : EA w la k.log) (hd0 : draws.length = 0) : Calls Tryz.prog 20 #[.int .i64 me, .agg #[.int .i64 k.term, .int .i64 k.vote, .int .i64 k.bi, .int .i64 k.bt, .string ⟨k.base.toArray⟩, .slice ba k.bconf.length bc, .slice la k.log.length lc], .slice da draws.length dc] w (NewP w me k draws) := by
  have h1 : k.bconf.length ≤ 17592186044416 := hbd.bconf
  have h2 : k.log.length ≤ 68719476736 := hbd.log
  have hD : IA w da draws := fun i x hx => by
    rw [List.length_eq_zero_iff.1 hd0] at hx
    simp at hx
  by_cases hv : k.vote = -1
  · exact new_ok1 w me k draws ba la da bc lc dc hok hv hbd hB hL h1 (by omega) hD hd0
  · exact new_ok2 w me k draws ba la da bc lc dc hok hv hbd hB hL h1 (by omega) hD hd0
end Go.Proofs.YtnhlejdilldfaaaGreat
