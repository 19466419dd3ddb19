/- What a candidate asks; who may stand. -/
import Derived.Test.YtnhlejdilldfaaaGreatRot
import Derived.Test.YtnhlejdilldfaaaGreatRrg
namespace Go.Proofs.YtnhlejdilldfaaaGreat
open Go Go.RowKit Go.Maps
section
variable (F : Nat → Prop) (nb : Nat) (M : NM) (lb : Option Nat) (w : World) (N : RN)
set_option maxRecDepth 100000 in
set_option maxHeartbeats 1000000 in
theorem ask_any (h : ND F nb M lb w N) (hb : Bnd N) (x : Int) : Calls Tryz.prog 120 #[.pointer (some ⟨nb, 0, none⟩), .int .i64 x] w (TlP w (N.ask x)) := by
  have hA0 := Below.refl w.heap.size w
  have hBA := Blk.new w #[.int .i64 0, .int .i64 0, .int .i64 0, .int .i64 0, .int .i64 0, .int .i64 0, .int .i64 0, .bool false, .slice none 0 0, .int .i64 0, .string ⟨#[]⟩, .bool false, .slice none 0 0] 25
  have hwA : Below w.heap.size w (w.alloc (.cells #[.int .i64 0, .int .i64 0, .int .i64 0, .int .i64 0, .int .i64 0, .int .i64 0, .int .i64 0, .bool false, .slice none 0 0, .int .i64 0, .string ⟨#[]⟩, .bool false, .slice none 0 0] 25)) := bl_al hA0 _
  have ht : N.ask x = { N.msg 1 x with index := N.last, logTerm := N.termAt N.last } := rfl
  have HM := fun W (hW : ND F nb M lb W N) => message_any F nb M lb W N hW 1 x
  have HL := fun W (hW : ND F nb M lb W N) => last_any F nb M lb W N hW hb
  have HT := fun W (hW : ND F nb M lb W N) => termAt_any F nb M lb W N hW hb N.last (by unfold RN.last; omega) (Int.le_refl _)
  rw [ht]
  generalize N.termAt N.last = tm at *
  generalize N.last = la at *
  clear ht
  go_enter Tryz.func120, Tryz.ntmps120
  go_upto_region 1 with fail
  generalize w.alloc (.cells #[.int .i64 0, .int .i64 0, .int .i64 0, .int .i64 0, .int .i64 0, .int .i64 0, .int .i64 0, .bool false, .slice none 0 0, .int .i64 0, .string ⟨#[]⟩, .bool false, .slice none 0 0] 25) = A at *
  replace h := h.below hwA
  go_wp2_with (first
    | (go_at_call 106; refine (HM _ h).mono ?_; rintro e w2 ⟨rfl, hw2⟩; clear HM; have hne : Hid (w.heap.size ≠ w2.heap.size) := (fun e => by have := hw2.size; have := hBA.lt; omega))
    | (go_at_call 99; refine (HL _ (h.below (bl_al hw2 _))).mono ?_; rintro e w3 ⟨rfl, hw3⟩; have hm : Blk _ w2.heap.size #[.int .i64 1, .int .i64 N.me, .int .i64 x, .int .i64 N.k.term, .int .i64 0, .int .i64 0, .int .i64 0, .bool false, .slice none 0 0, .int .i64 0, .string ⟨#[]⟩, .bool false, .slice none 0 0] 25 := (Blk.new w2 _ _).belowSize hw3; replace hw3 := bl_ca (bl_al hw2 _) hw3; clear HL; have e4 := hm.cell 4; have f4 := hm.frozen 4)
    | (go_at_call 72; refine (HT _ (h.below (bl_st hw3 hw2.size 4 _))).mono ?_; rintro e w4 ⟨rfl, hw4⟩; have hm4 : Blk _ w2.heap.size #[.int .i64 1, .int .i64 N.me, .int .i64 x, .int .i64 N.k.term, .int .i64 la, .int .i64 0, .int .i64 0, .bool false, .slice none 0 0, .int .i64 0, .string ⟨#[]⟩, .bool false, .slice none 0 0] 25 := (hm.setCell 4 (.int .i64 la)).belowSize hw4; have hw4a := bl_ca (bl_st hw3 hw2.size 4 _) hw4; clear e4 f4 HT; have e0 := hm4.cell 0; have e1 := hm4.cell 1; have e2 := hm4.cell 2; have e3 := hm4.cell 3; have e4 := hm4.cell 4; have e5 := hm4.cell 5; have e6 := hm4.cell 6; have e7 := hm4.cell 7; have e8 := hm4.cell 8; have e9 := hm4.cell 9; have e10 := hm4.cell 10; have e11 := hm4.cell 11; have e12 := hm4.cell 12; have f5 := hm4.frozen 5; have hR := (hBA.belowSize hw4a).setCell_other ⟨w2.heap.size, 5, none⟩ hne.out (.int .i64 tm))
    | (with_reducible refine at_list ?_; refine wpList_storeRow (op := ⟨none, .store 25 (.tmp 4) (.tmp 17), _, _, _, _⟩) rfl _ _ _ rfl w.heap.size #[.int .i64 1, .int .i64 N.me, .int .i64 x, .int .i64 N.k.term, .int .i64 la, .int .i64 tm, .int .i64 0, .bool false, .slice none 0 0, .int .i64 0, .string ⟨#[]⟩, .bool false, .slice none 0 0] rfl rfl _ _ hR (m13_size ..) (m13_info ..) (m13_one ..) ?_; intro w5 hg5 hs5 hB5))
  have hb6 := bl_st hw4a hw2.size 5 (.int .i64 tm)
  have hb5 := bl_gr (bl_ca hwA hb6) hg5 (Nat.le_refl _)
  refine bodyPost_ret (v := .agg #[.int .i64 1, .int .i64 N.me, .int .i64 x, .int .i64 N.k.term, .int .i64 la, .int .i64 tm, .int .i64 0, .bool false, .slice none 0 0, .int .i64 0, .string ⟨#[]⟩, .bool false, .slice none 0 0]) ?_ rfl ⟨.slice none 0 0, .slice none 0 0, rfl, ⟨⟨none, 0, rfl, Nat.le_refl _, EF.nil _ _ _⟩, ⟨none, 0, rfl, by show 0 ≤ _; omega, IF.nil _ _ _⟩⟩, hb5⟩
  exact results_cell_row rfl _ _ w.heap.size _ _ _ _ rfl hB5.out Tryz.underlying25 rfl (m13_info ..)
end
theorem hasF (l : List Int) (a : Option Addr) (cap : Nat) (k : Int) (w : World) (hA : IA w a l) (hl : l.length ≤ 17592186044416) : Calls Tryz.prog 117 #[.slice a l.length cap, .int .i64 k] w fun e w' => e = .returned (.bool (decide (k ∈ l))) ∧ Below w.heap.size w w' := by
  have HC := contains_any l a cap k w hA hl
  generalize decide (k ∈ l) = q at *
  go_enter Tryz.func117, Tryz.ntmps117
  go_wp2_with (go_at_call 122; refine HC.mono ?_; rintro e w1 ⟨rfl, hw1⟩; clear HC)
  go_ret
  exact ⟨rfl, hw1⟩
/-- Whoever takes part, by whatever entry, is a replica. -/
structure Gm (N : RN) : Prop where
  base : N.k.bconf.length ≤ 16 ∧ ∀ x ∈ N.k.bconf, 0 ≤ x ∧ x < 16
  log : ∀ e ∈ N.k.log, e.mem.length ≤ 16 ∧ ∀ x ∈ e.mem, 0 ≤ x ∧ x < 16
theorem ltM_good {base : List Int} {l : List LE} {P : List Int → Prop} (hb : P base) (hl : ∀ e ∈ l, P e.mem) : ∀ i, P (ltM base l i).1
  | 0 => hb
  | i + 1 => by
    show P (if h : i < l.length then bif l[i].conf then (l[i].mem, i + 1) else ltM base l i else ltM base l i).1
    by_cases h : i < l.length
    · rw [dif_pos h]
      cases l[i].conf
      · exact ltM_good hb hl i
      · exact hl _ (List.getElem_mem h)
    · rw [dif_neg h]
      exact ltM_good hb hl i
theorem Gm.mems {N : RN} (h : Gm N) : N.mems.length ≤ 16 ∧ ∀ x ∈ N.mems, 0 ≤ x ∧ x < 16 := ltM_good (P := fun l => l.length ≤ 16 ∧ ∀ x ∈ l, 0 ≤ x ∧ x < 16) h.base h.log _
theorem Gm.memsUpTo {N : RN} (h : Gm N) (i : Int) : (N.memsUpTo i).length ≤ 16 ∧ ∀ x ∈ N.memsUpTo i, 0 ≤ x ∧ x < 16 := ltM_good (P := fun l => l.length ≤ 16 ∧ ∀ x ∈ l, 0 ≤ x ∧ x < 16) h.base (fun e he => h.log e (List.mem_of_mem_take he)) _
section
variable (F : Nat → Prop) (nb : Nat) (M : NM) (lb : Option Nat) (w : World) (N : RN)
set_option maxRecDepth 100000 in
set_option maxHeartbeats 1000000 in
theorem mayStand_any (h : ND F nb M lb w N) (hb : Bnd N) (hg : Gm N) : Calls Tryz.prog 95 #[.pointer (some ⟨nb, 0, none⟩)] w fun e w' => e = .returned (.bool N.mayStand) ∧ Below w.heap.size w w' := by
  have HL := latestN F nb M lb w N h hb
  have hml := hg.mems.1
  have hul := (hg.memsUpTo (N.confAt - 1)).1
  have hca : N.k.bi ≤ N.confAt ∧ N.confAt ≤ N.last := by
    have := ltM_le N.k.bconf N.k.log N.k.log.length
    unfold RN.confAt RN.last
    omega
  have HH := fun W a c (hA : IA W a N.mems) => hasF N.mems a c N.me W hA (by omega)
  have HH2 := fun W a c (hA : IA W a (N.memsUpTo (N.confAt - 1))) => hasF _ a c N.me W hA (by omega)
  have HU := fun W (hW : ND F nb M lb W N) h1 => latestUpTo_any F nb M lb W N hW hb (N.confAt - 1) h1 (by omega)
  have hbi := hb.bi
  have hbl := hb.last
  have hci := hb.commit
  unfold RN.last at hca
  have hw1 : IntKind.i64.wrap (N.confAt - 1) = N.confAt - 1 := by rw [IntKind.wrap_i64]; omega
  unfold RN.mayStand
  by_cases h1 : N.me ∈ N.mems
  · rw [decide_eq_true h1] at HH ⊢
    clear HH2 HU
    generalize N.mems = L at *
    generalize N.confAt = ca at *
    go_enter Tryz.func95, Tryz.ntmps95
    go_wp2_with (first
      | (go_at_call 73; refine HL.mono ?_; rintro e w1 ⟨a, c, rfl, hI, hw1⟩; clear HL; have c0 := (h.below hw1).c0)
      | (go_at_call 117; refine (HH _ a c hI.ia).mono ?_; rintro e w2 ⟨rfl, hw2⟩; clear HH))
    go_ret
    exact ⟨rfl, bl_ca hw1 hw2⟩
  · rw [decide_eq_false h1] at HH ⊢
    by_cases h2 : N.confAt > N.commit
    · rw [decide_eq_true h2]
      replace HU := fun W hW => HU W hW (by omega)
      have d1 : decide (N.confAt > N.commit) = true := decide_eq_true h2
      generalize N.memsUpTo (N.confAt - 1) = U at *
      have hrw : (false || (true && decide (N.me ∈ U))) = decide (N.me ∈ U) := by simp
      rw [hrw]
      generalize decide (N.me ∈ U) = q at *
      generalize N.mems = L at *
      generalize N.confAt = ca at *
      clear hrw
      go_enter Tryz.func95, Tryz.ntmps95
      go_upto_region 4 with (first
        | (go_at_call 73; refine HL.mono ?_; rintro e w1 ⟨a, c, rfl, hI, hw1⟩; clear HL; have c0 := (h.below hw1).c0)
        | (go_at_call 117; refine (HH _ a c hI.ia).mono ?_; rintro e w2 ⟨rfl, hw2⟩; clear HH; replace hw2 := bl_ca hw1 hw2))
      have hw2d := hw2.drew
      have h2 := h.below hw2
      refine wp_region_held_drew (S := fun w' : World => ND F nb M lb w' N) (by kernel_rfl) (h2.drew) (fun hH => ?_)
      try go_frame
      refine wpAnyH_take (i := 0) (oi := ⟨some 16, _, _, _, _, _⟩) (v := .int .i64 ca) rfl (by kernel_rfl) (by kernel_rfl) (by kernel_rfl) (fun _ _ _ h => h) (Or.inl ⟨by rfl, fun w hSw => by go_simp⟩) hH ?_
      try simp only [Act.put, List.setIfInBounds_toArray, List.set_cons_zero, List.set_cons_succ]
      refine wpAnyH_take (i := 1) (oi := ⟨some 17, _, _, _, _, _⟩) (v := .pointer (some ⟨nb, 0, none⟩)) rfl (by kernel_rfl) (by kernel_rfl) (by kernel_rfl) (fun _ _ _ h => h) (Or.inl ⟨by rfl, fun w hSw => by go_simp⟩) hH ?_
      try simp only [Act.put, List.setIfInBounds_toArray, List.set_cons_zero, List.set_cons_succ]
      refine wpAnyH_take (i := 2) (oi := ⟨some 18, _, _, _, _, _⟩) (v := .pointer (some ⟨nb, 0, none⟩)) rfl (by kernel_rfl) (by kernel_rfl) (by kernel_rfl) (fun _ _ _ h => h) (Or.inl ⟨by rfl, fun w hSw => by go_simp⟩) hH ?_
      try simp only [Act.put, List.setIfInBounds_toArray, List.set_cons_zero, List.set_cons_succ]
      refine wpAnyH_take (i := 3) (oi := ⟨some 19, _, _, _, _, _⟩) (v := .pointer (some ⟨nb, 10, none⟩)) rfl (by kernel_rfl) (by kernel_rfl) (by kernel_rfl) (fun _ _ _ h => h) (Or.inl ⟨by rfl, fun w hSw => by go_simp⟩) hH ?_
      try simp only [Act.put, List.setIfInBounds_toArray, List.set_cons_zero, List.set_cons_succ]
      refine wpAnyH_take (i := 4) (oi := ⟨some 20, _, _, _, _, _⟩) (v := .int .i64 N.commit) rfl (by kernel_rfl) (by kernel_rfl) (by kernel_rfl) (fun _ _ _ h => h) (Or.inl ⟨by rfl, fun w hSw => run_loadC _ _ rfl _ _ rfl _ Tryz.underlying3 rfl _ (hSw.c10)⟩) hH ?_
      try simp only [Act.put, List.setIfInBounds_toArray, List.set_cons_zero, List.set_cons_succ]
      refine wpAnyH_take (i := 5) (oi := ⟨some 21, _, _, _, _, _⟩) (v := .bool true) rfl (by kernel_rfl) (by kernel_rfl) (by kernel_rfl) (fun _ _ _ h => h) (Or.inl ⟨by rfl, fun w hSw => by go_simp⟩) hH ?_
      try simp only [Act.put, List.setIfInBounds_toArray, List.set_cons_zero, List.set_cons_succ]
      refine wpAnyH_take (i := 6) (oi := ⟨some 22, _, _, _, _, _⟩) (v := .bool true) rfl (by kernel_rfl) (by kernel_rfl) (by kernel_rfl) (fun _ _ _ h => h) (Or.inl ⟨by rfl, fun w hSw => by go_simp⟩) hH ?_
      try simp only [Act.put, List.setIfInBounds_toArray, List.set_cons_zero, List.set_cons_succ]
      refine wpAnyH_take (i := 7) (oi := ⟨some 23, _, _, _, _, _⟩) (v := .pointer (some ⟨nb, 0, none⟩)) rfl (by kernel_rfl) (by kernel_rfl) (by kernel_rfl) (fun _ _ _ h => h) (Or.inl ⟨by rfl, fun w hSw => by go_simp⟩) hH ?_
      try simp only [Act.put, List.setIfInBounds_toArray, List.set_cons_zero, List.set_cons_succ]
      refine wpAnyH_take (i := 8) (oi := ⟨some 24, _, _, _, _, _⟩) (v := .int .i64 ca) rfl (by kernel_rfl) (by kernel_rfl) (by kernel_rfl) (fun _ _ _ h => h) (Or.inl ⟨by rfl, fun w hSw => by go_simp⟩) hH ?_
      try simp only [Act.put, List.setIfInBounds_toArray, List.set_cons_zero, List.set_cons_succ]
      refine wpAnyH_take (i := 9) (oi := ⟨some 25, _, _, _, _, _⟩) (v := .int .i64 (ca - 1)) rfl (by kernel_rfl) (by kernel_rfl) (by kernel_rfl) (fun _ _ _ h => h) (Or.inl ⟨by rfl, fun w hSw => by go_simp⟩) hH ?_
      try simp only [Act.put, List.setIfInBounds_toArray, List.set_cons_zero, List.set_cons_succ]
      refine wpAnyH_take (i := 11) (oi := ⟨some 27, _, _, _, _, _⟩) (v := .pointer (some ⟨nb, 0, none⟩)) rfl (by kernel_rfl) (by kernel_rfl) (by kernel_rfl) (fun _ _ _ h => h) (Or.inl ⟨by rfl, fun w hSw => by go_simp⟩) hH ?_
      try simp only [Act.put, List.setIfInBounds_toArray, List.set_cons_zero, List.set_cons_succ]
      refine wpAnyH_take (i := 12) (oi := ⟨some 28, _, _, _, _, _⟩) (v := .pointer (some ⟨nb, 0, none⟩)) rfl (by kernel_rfl) (by kernel_rfl) (by kernel_rfl) (fun _ _ _ h => h) (Or.inl ⟨by rfl, fun w hSw => by go_simp⟩) hH ?_
      try simp only [Act.put, List.setIfInBounds_toArray, List.set_cons_zero, List.set_cons_succ]
      refine wpAnyH_take (i := 13) (oi := ⟨some 29, _, _, _, _, _⟩) (v := .pointer (some ⟨nb, 0, none⟩)) rfl (by kernel_rfl) (by kernel_rfl) (by kernel_rfl) (fun _ _ _ h => h) (Or.inl ⟨by rfl, fun w hSw => by go_simp⟩) hH ?_
      try simp only [Act.put, List.setIfInBounds_toArray, List.set_cons_zero, List.set_cons_succ]
      refine wpAnyH_take (i := 14) (oi := ⟨some 30, _, _, _, _, _⟩) (v := .int .i64 N.me) rfl (by kernel_rfl) (by kernel_rfl) (by kernel_rfl) (fun _ _ _ h => h) (Or.inl ⟨by rfl, fun w hSw => run_loadC _ _ rfl _ _ rfl _ Tryz.underlying3 rfl _ (hSw.c0)⟩) hH ?_
      try simp only [Act.put, List.setIfInBounds_toArray, List.set_cons_zero, List.set_cons_succ]
      refine wpAnyH_solo (i := 10) (o := ⟨some 26, _, _, _, _, _⟩) rfl (by kernel_rfl) (fun K hK => ?_)
      refine wpList_callG Tryz.func76 (by kernel_rfl) (by kernel_rfl) (by first | rfl | go_simp) _ _ rfl #[.pointer (some ⟨nb, 0, none⟩), .int .i64 (ca - 1)] (args2 rfl rfl) _ (HU _ hH) ?_
      rintro e w3 ⟨a3, c3, rfl, hI3, hw3⟩
      have hH3 := hH.below hw3
      refine ⟨_, rfl, ?_⟩
      refine hK _ _ (hH3) ?_
      clear hH
      have hH := hH3
      clear hK K
      try simp only [Act.put, List.setIfInBounds_toArray, List.set_cons_zero, List.set_cons_succ]
      refine wpAnyH_solo (i := 15) (o := ⟨some 31, _, _, _, _, _⟩) rfl (by kernel_rfl) (fun K hK => ?_)
      refine wpList_callG Tryz.func117 (by kernel_rfl) (by kernel_rfl) (by first | rfl | go_simp) _ _ rfl #[.slice a3 U.length c3, .int .i64 N.me] (args2 rfl rfl) _ (HH2 _ a3 c3 hI3.ia) ?_
      rintro e w4 ⟨rfl, hw4⟩
      have hH4 := hH.below hw4
      refine ⟨_, rfl, ?_⟩
      refine hK _ _ (hH4) ?_
      clear hH
      have hH := hH4
      clear hK K
      try simp only [Act.put, List.setIfInBounds_toArray, List.set_cons_zero, List.set_cons_succ]
      refine wpAnyH_take (i := 16) (oi := ⟨some 32, _, _, _, _, _⟩) (v := .bool q) rfl (by kernel_rfl) (by kernel_rfl) (by kernel_rfl) (fun _ _ _ h => h) (Or.inl ⟨by rfl, fun w hSw => by go_simp⟩) hH ?_
      try simp only [Act.put, List.setIfInBounds_toArray, List.set_cons_zero, List.set_cons_succ]
      refine wpAnyH_solo (i := 17) (o := ⟨some 2, _, _, _, _, _⟩) rfl (by kernel_rfl) (fun K hK => ?_)
      refine wpList_pure rfl (.bool q) (by go_simp) ?_
      refine hK _ _ hH ?_
      clear hK K
      try simp only [Act.put, List.setIfInBounds_toArray, List.set_cons_zero, List.set_cons_succ]
      refine wpAnyH_done (by kernel_rfl) ?_ _
      try simp only [Act.put]
      try go_simp
      go_wp2_with fail
      go_ret
      exact ⟨rfl, bl_ca (bl_ca hw2d hw3) hw4⟩
    · have d1 : decide (N.confAt > N.commit) = false := decide_eq_false h2
      rw [decide_eq_false h2]
      clear HU HH2
      have hrw : ∀ q, (false || (false && q)) = false := fun q => by simp
      rw [hrw]
      generalize N.mems = L at *
      generalize N.confAt = ca at *
      clear hrw
      go_enter Tryz.func95, Tryz.ntmps95
      go_upto_region 4 with (first
        | (go_at_call 73; refine HL.mono ?_; rintro e w1 ⟨a, c, rfl, hI, hw1⟩; clear HL; have c0 := (h.below hw1).c0)
        | (go_at_call 117; refine (HH _ a c hI.ia).mono ?_; rintro e w2 ⟨rfl, hw2⟩; clear HH; replace hw2 := bl_ca hw1 hw2))
      have hw2d := hw2.drew
      have h2 := h.below hw2
      refine wp_region_held_drew (S := fun w' : World => ND F nb M lb w' N) (by kernel_rfl) (h2.drew) (fun hH => ?_)
      try go_frame
      refine wpAnyH_take (i := 0) (oi := ⟨some 16, _, _, _, _, _⟩) (v := .int .i64 ca) rfl (by kernel_rfl) (by kernel_rfl) (by kernel_rfl) (fun _ _ _ h => h) (Or.inl ⟨by rfl, fun w hSw => by go_simp⟩) hH ?_
      try simp only [Act.put, List.setIfInBounds_toArray, List.set_cons_zero, List.set_cons_succ]
      refine wpAnyH_take (i := 1) (oi := ⟨some 17, _, _, _, _, _⟩) (v := .pointer (some ⟨nb, 0, none⟩)) rfl (by kernel_rfl) (by kernel_rfl) (by kernel_rfl) (fun _ _ _ h => h) (Or.inl ⟨by rfl, fun w hSw => by go_simp⟩) hH ?_
      try simp only [Act.put, List.setIfInBounds_toArray, List.set_cons_zero, List.set_cons_succ]
      refine wpAnyH_take (i := 2) (oi := ⟨some 18, _, _, _, _, _⟩) (v := .pointer (some ⟨nb, 0, none⟩)) rfl (by kernel_rfl) (by kernel_rfl) (by kernel_rfl) (fun _ _ _ h => h) (Or.inl ⟨by rfl, fun w hSw => by go_simp⟩) hH ?_
      try simp only [Act.put, List.setIfInBounds_toArray, List.set_cons_zero, List.set_cons_succ]
      refine wpAnyH_take (i := 3) (oi := ⟨some 19, _, _, _, _, _⟩) (v := .pointer (some ⟨nb, 10, none⟩)) rfl (by kernel_rfl) (by kernel_rfl) (by kernel_rfl) (fun _ _ _ h => h) (Or.inl ⟨by rfl, fun w hSw => by go_simp⟩) hH ?_
      try simp only [Act.put, List.setIfInBounds_toArray, List.set_cons_zero, List.set_cons_succ]
      refine wpAnyH_take (i := 4) (oi := ⟨some 20, _, _, _, _, _⟩) (v := .int .i64 N.commit) rfl (by kernel_rfl) (by kernel_rfl) (by kernel_rfl) (fun _ _ _ h => h) (Or.inl ⟨by rfl, fun w hSw => run_loadC _ _ rfl _ _ rfl _ Tryz.underlying3 rfl _ (hSw.c10)⟩) hH ?_
      try simp only [Act.put, List.setIfInBounds_toArray, List.set_cons_zero, List.set_cons_succ]
      refine wpAnyH_take (i := 5) (oi := ⟨some 21, _, _, _, _, _⟩) (v := .bool false) rfl (by kernel_rfl) (by kernel_rfl) (by kernel_rfl) (fun _ _ _ h => h) (Or.inl ⟨by rfl, fun w hSw => by go_simp⟩) hH ?_
      try simp only [Act.put, List.setIfInBounds_toArray, List.set_cons_zero, List.set_cons_succ]
      refine wpAnyH_take (i := 6) (oi := ⟨some 22, _, _, _, _, _⟩) (v := .bool false) rfl (by kernel_rfl) (by kernel_rfl) (by kernel_rfl) (fun _ _ _ h => h) (Or.inl ⟨by rfl, fun w hSw => by go_simp⟩) hH ?_
      try simp only [Act.put, List.setIfInBounds_toArray, List.set_cons_zero, List.set_cons_succ]
      refine wpAnyH_take (i := 7) (oi := ⟨some 23, _, _, _, _, _⟩) (v := undef) rfl (by kernel_rfl) (by kernel_rfl) (by kernel_rfl) (fun _ _ _ h => h) (Or.inr ⟨by first | rfl | go_simp, rfl⟩) hH ?_
      try simp only [Act.put, List.setIfInBounds_toArray, List.set_cons_zero, List.set_cons_succ]
      refine wpAnyH_take (i := 8) (oi := ⟨some 24, _, _, _, _, _⟩) (v := undef) rfl (by kernel_rfl) (by kernel_rfl) (by kernel_rfl) (fun _ _ _ h => h) (Or.inr ⟨by first | rfl | go_simp, rfl⟩) hH ?_
      try simp only [Act.put, List.setIfInBounds_toArray, List.set_cons_zero, List.set_cons_succ]
      refine wpAnyH_take (i := 9) (oi := ⟨some 25, _, _, _, _, _⟩) (v := undef) rfl (by kernel_rfl) (by kernel_rfl) (by kernel_rfl) (fun _ _ _ h => h) (Or.inr ⟨by first | rfl | go_simp, rfl⟩) hH ?_
      try simp only [Act.put, List.setIfInBounds_toArray, List.set_cons_zero, List.set_cons_succ]
      refine wpAnyH_take (i := 10) (oi := ⟨some 26, _, _, _, _, _⟩) (v := undef) rfl (by kernel_rfl) (by kernel_rfl) (by kernel_rfl) (fun _ _ _ h => h) (Or.inr ⟨by first | rfl | go_simp, rfl⟩) hH ?_
      try simp only [Act.put, List.setIfInBounds_toArray, List.set_cons_zero, List.set_cons_succ]
      refine wpAnyH_take (i := 11) (oi := ⟨some 27, _, _, _, _, _⟩) (v := undef) rfl (by kernel_rfl) (by kernel_rfl) (by kernel_rfl) (fun _ _ _ h => h) (Or.inr ⟨by first | rfl | go_simp, rfl⟩) hH ?_
      try simp only [Act.put, List.setIfInBounds_toArray, List.set_cons_zero, List.set_cons_succ]
      refine wpAnyH_take (i := 12) (oi := ⟨some 28, _, _, _, _, _⟩) (v := undef) rfl (by kernel_rfl) (by kernel_rfl) (by kernel_rfl) (fun _ _ _ h => h) (Or.inr ⟨by first | rfl | go_simp, rfl⟩) hH ?_
      try simp only [Act.put, List.setIfInBounds_toArray, List.set_cons_zero, List.set_cons_succ]
      refine wpAnyH_take (i := 13) (oi := ⟨some 29, _, _, _, _, _⟩) (v := undef) rfl (by kernel_rfl) (by kernel_rfl) (by kernel_rfl) (fun _ _ _ h => h) (Or.inr ⟨by first | rfl | go_simp, rfl⟩) hH ?_
      try simp only [Act.put, List.setIfInBounds_toArray, List.set_cons_zero, List.set_cons_succ]
      refine wpAnyH_take (i := 14) (oi := ⟨some 30, _, _, _, _, _⟩) (v := undef) rfl (by kernel_rfl) (by kernel_rfl) (by kernel_rfl) (fun _ _ _ h => h) (Or.inr ⟨by first | rfl | go_simp, rfl⟩) hH ?_
      try simp only [Act.put, List.setIfInBounds_toArray, List.set_cons_zero, List.set_cons_succ]
      refine wpAnyH_take (i := 15) (oi := ⟨some 31, _, _, _, _, _⟩) (v := undef) rfl (by kernel_rfl) (by kernel_rfl) (by kernel_rfl) (fun _ _ _ h => h) (Or.inr ⟨by first | rfl | go_simp, rfl⟩) hH ?_
      try simp only [Act.put, List.setIfInBounds_toArray, List.set_cons_zero, List.set_cons_succ]
      refine wpAnyH_take (i := 16) (oi := ⟨some 32, _, _, _, _, _⟩) (v := .bool false) rfl (by kernel_rfl) (by kernel_rfl) (by kernel_rfl) (fun _ _ _ h => h) (Or.inl ⟨by rfl, fun w hSw => by go_simp⟩) hH ?_
      try simp only [Act.put, List.setIfInBounds_toArray, List.set_cons_zero, List.set_cons_succ]
      refine wpAnyH_solo (i := 17) (o := ⟨some 2, _, _, _, _, _⟩) rfl (by kernel_rfl) (fun K hK => ?_)
      refine wpList_pure rfl (.bool false) (by go_simp) ?_
      refine hK _ _ hH ?_
      clear hK K
      try simp only [Act.put, List.setIfInBounds_toArray, List.set_cons_zero, List.set_cons_succ]
      refine wpAnyH_done (by kernel_rfl) ?_ _
      try simp only [Act.put]
      try go_simp
      go_wp2_with fail
      go_ret
      exact ⟨rfl, hw2d⟩
end
end Go.Proofs.YtnhlejdilldfaaaGreat
