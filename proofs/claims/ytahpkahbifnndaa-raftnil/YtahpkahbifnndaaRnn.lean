/- A nil node: Entry, Hard, Change. New of what may not be. -/
import Derived.Test.YtahpkahbifnndaaRax
namespace Go.Proofs.Ytahpkahbifnndaa
open Go Go.RowKit Go.Maps
section
variable (w : World)
set_option maxRecDepth 100000 in
set_option maxHeartbeats 1000000 in
theorem entry_nil (i : Int) : Calls Try.prog 7 #[.pointer none, .int .i64 i] w fun e w' => e = .returned (.tuple #[.agg #[.int .i64 0, .string ⟨#[]⟩, .bool false, .slice none 0 0], .bool false]) ∧ Below w.heap.size w w' := by
  go_enter Try.func7, Try.ntmps7
  go_upto_region 1 with fail
  have hA0 := bl_al (Below.refl w.heap.size w) (.cells #[.int .i64 0, .string ⟨#[]⟩, .bool false, .slice none 0 0] 31)
  have hBA := Blk.new w #[.int .i64 0, .string ⟨#[]⟩, .bool false, .slice none 0 0] 31
  generalize w.alloc (.cells #[.int .i64 0, .string ⟨#[]⟩, .bool false, .slice none 0 0] 31) = A at *
  go_wp2_with (first
    | (go_at_call 25; refine (none_nil _).mono ?_; rintro e w1 ⟨rfl, hw1⟩; replace hw1 := hw1.symm; subst hw1)
    | (with_reducible refine at_list ?_; refine wpList_storeRow (op := ⟨none, .store 31 (.tmp 4) (.tmp 25), _, _, _, _⟩) rfl _ _ _ rfl w.heap.size #[.int .i64 0, .string ⟨#[]⟩, .bool false, .slice none 0 0] rfl rfl _ _ hBA (lecS ..) (lecI RN.zle _) (lecO ..) ?_; intro w3 hg3 hs3 h4b))
  refine bodyPost_ret (v := .tuple #[.agg #[.int .i64 0, .string ⟨#[]⟩, .bool false, .slice none 0 0], .bool false]) ?_ rfl ⟨rfl, bl_gr hA0 hg3 (Nat.le_refl _)⟩
  exact results_celltmp (p := 4) (u := 5) rfl _ _ w.heap.size _ _ _ _ rfl h4b.out Try.underlying31 rfl (lecI RN.zle _)
set_option maxRecDepth 100000 in
set_option maxHeartbeats 1000000 in
theorem hard_nil : Calls Try.prog 15 #[.pointer none] w fun e w' => e = .returned (.agg #[.int .i64 0, .int .i64 (-1), .int .i64 0, .int .i64 0, .string ⟨#[]⟩, .slice none 0 0, .slice none 0 0]) ∧ Below w.heap.size w w' := by
  go_enter Try.func15, Try.ntmps15
  go_upto_region 1 with fail
  have hA0 := bl_al (Below.refl w.heap.size w) (.cells #[.int .i64 0, .int .i64 0, .int .i64 0, .int .i64 0, .string ⟨#[]⟩, .slice none 0 0, .slice none 0 0] 39)
  have hBA := Blk.new w #[.int .i64 0, .int .i64 0, .int .i64 0, .int .i64 0, .string ⟨#[]⟩, .slice none 0 0, .slice none 0 0] 39
  generalize w.alloc (.cells #[.int .i64 0, .int .i64 0, .int .i64 0, .int .i64 0, .string ⟨#[]⟩, .slice none 0 0, .slice none 0 0] 39) = A at *
  go_wp2_with (first
    | (go_at_call 25; refine (none_nil _).mono ?_; rintro e w1 ⟨rfl, hw1⟩; replace hw1 := hw1.symm; subst hw1)
    | (with_reducible refine at_list ?_; refine wpList_storeRow (op := ⟨none, .store 39 (.tmp 2) (.tmp 5), _, _, _, _⟩) rfl _ _ _ rfl w.heap.size #[.int .i64 0, .int .i64 (-1), .int .i64 0, .int .i64 0, .string ⟨#[]⟩, .slice none 0 0, .slice none 0 0] rfl rfl _ _ hBA (hd_size ..) (hd_info ..) (hd_one ..) ?_; intro w5 hg5 hs5 h5b))
  refine bodyPost_ret (v := .agg #[.int .i64 0, .int .i64 (-1), .int .i64 0, .int .i64 0, .string ⟨#[]⟩, .slice none 0 0, .slice none 0 0]) ?_ rfl ⟨rfl, bl_gr hA0 hg5 (Nat.le_refl _)⟩
  exact results_cell_row rfl _ _ w.heap.size _ _ _ _ rfl h5b.out Try.underlying39 rfl (hd_info ..)
set_option maxRecDepth 100000 in
set_option maxHeartbeats 1000000 in
theorem change_nil (a : Option Addr) (n c : Nat) : Calls Try.prog 8 #[.pointer none, .slice a n c] w fun e w' => e = .returned (.tuple #[.int .i64 0, .slice none 0 0, .bool false]) ∧ Below w.heap.size w w' := by
  go_enter Try.func8, Try.ntmps8
  go_upto_region 1 with fail
  refine wp_region_held_drew (S := fun w' : World => Below w.heap.size w w') (by kernel_rfl) ((Below.refl w.heap.size w).drew) (fun hH => ?_)
  try go_frame
  refine wpAnyH_take (i := 0) (oi := ⟨some 11, _, _, _, _, _⟩) (v := .pointer none) rfl (by kernel_rfl) (by kernel_rfl) (by kernel_rfl) (fun _ _ _ h => h) (Or.inl ⟨by rfl, fun w hSw => by go_simp⟩) hH ?_
  try simp only [Act.put, List.setIfInBounds_toArray, List.set_cons_zero, List.set_cons_succ]
  refine wpAnyH_solo (i := 1) (o := ⟨some 12, _, _, _, _, _⟩) rfl (by kernel_rfl) (fun K hK => ?_)
  refine wpList_callR Try.func16 (by kernel_rfl) (by kernel_rfl) rfl _ _ rfl #[.pointer none] (args1 rfl) _ (role_nil _) ?_
  rintro e w3 ⟨rfl, hw3⟩
  replace hw3 := hw3.symm
  subst hw3
  refine ⟨_, rfl, ?_⟩
  refine hK _ _ (hH) ?_
  clear hK K
  try simp only [Act.put, List.setIfInBounds_toArray, List.set_cons_zero, List.set_cons_succ]
  refine wpAnyH_take (i := 2) (oi := ⟨some 13, _, _, _, _, _⟩) (v := .bool true) rfl (by kernel_rfl) (by kernel_rfl) (by kernel_rfl) (fun _ _ _ h => h) (Or.inl ⟨by rfl, fun w hSw => by go_simp⟩) hH ?_
  try simp only [Act.put, List.setIfInBounds_toArray, List.set_cons_zero, List.set_cons_succ]
  refine wpAnyH_take (i := 3) (oi := ⟨some 14, _, _, _, _, _⟩) (v := .bool true) rfl (by kernel_rfl) (by kernel_rfl) (by kernel_rfl) (fun _ _ _ h => h) (Or.inl ⟨by rfl, fun w hSw => by go_simp⟩) hH ?_
  try simp only [Act.put, List.setIfInBounds_toArray, List.set_cons_zero, List.set_cons_succ]
  refine wpAnyH_take (i := 4) (oi := ⟨some 15, _, _, _, _, _⟩) (v := undef) rfl (by kernel_rfl) (by kernel_rfl) (by kernel_rfl) (fun _ _ _ h => h) (Or.inr ⟨by first | rfl | go_simp, rfl⟩) hH ?_
  try simp only [Act.put, List.setIfInBounds_toArray, List.set_cons_zero, List.set_cons_succ]
  refine wpAnyH_take (i := 5) (oi := ⟨some 16, _, _, _, _, _⟩) (v := undef) rfl (by kernel_rfl) (by kernel_rfl) (by kernel_rfl) (fun _ _ _ h => h) (Or.inr ⟨by first | rfl | go_simp, rfl⟩) hH ?_
  try simp only [Act.put, List.setIfInBounds_toArray, List.set_cons_zero, List.set_cons_succ]
  refine wpAnyH_take (i := 6) (oi := ⟨some 17, _, _, _, _, _⟩) (v := undef) rfl (by kernel_rfl) (by kernel_rfl) (by kernel_rfl) (fun _ _ _ h => h) (Or.inr ⟨by first | rfl | go_simp, rfl⟩) hH ?_
  try simp only [Act.put, List.setIfInBounds_toArray, List.set_cons_zero, List.set_cons_succ]
  refine wpAnyH_take (i := 7) (oi := ⟨some 18, _, _, _, _, _⟩) (v := undef) rfl (by kernel_rfl) (by kernel_rfl) (by kernel_rfl) (fun _ _ _ h => h) (Or.inr ⟨by first | rfl | go_simp, rfl⟩) hH ?_
  try simp only [Act.put, List.setIfInBounds_toArray, List.set_cons_zero, List.set_cons_succ]
  refine wpAnyH_take (i := 8) (oi := ⟨some 19, _, _, _, _, _⟩) (v := undef) rfl (by kernel_rfl) (by kernel_rfl) (by kernel_rfl) (fun _ _ _ h => h) (Or.inr ⟨by first | rfl | go_simp, rfl⟩) hH ?_
  try simp only [Act.put, List.setIfInBounds_toArray, List.set_cons_zero, List.set_cons_succ]
  refine wpAnyH_take (i := 9) (oi := ⟨some 20, _, _, _, _, _⟩) (v := undef) rfl (by kernel_rfl) (by kernel_rfl) (by kernel_rfl) (fun _ _ _ h => h) (Or.inr ⟨by first | rfl | go_simp, rfl⟩) hH ?_
  try simp only [Act.put, List.setIfInBounds_toArray, List.set_cons_zero, List.set_cons_succ]
  refine wpAnyH_take (i := 10) (oi := ⟨some 21, _, _, _, _, _⟩) (v := undef) rfl (by kernel_rfl) (by kernel_rfl) (by kernel_rfl) (fun _ _ _ h => h) (Or.inr ⟨by first | rfl | go_simp, rfl⟩) hH ?_
  try simp only [Act.put, List.setIfInBounds_toArray, List.set_cons_zero, List.set_cons_succ]
  refine wpAnyH_take (i := 11) (oi := ⟨some 22, _, _, _, _, _⟩) (v := undef) rfl (by kernel_rfl) (by kernel_rfl) (by kernel_rfl) (fun _ _ _ h => h) (Or.inr ⟨by first | rfl | go_simp, rfl⟩) hH ?_
  try simp only [Act.put, List.setIfInBounds_toArray, List.set_cons_zero, List.set_cons_succ]
  refine wpAnyH_take (i := 12) (oi := ⟨some 23, _, _, _, _, _⟩) (v := undef) rfl (by kernel_rfl) (by kernel_rfl) (by kernel_rfl) (fun _ _ _ h => h) (Or.inr ⟨by first | rfl | go_simp, rfl⟩) hH ?_
  try simp only [Act.put, List.setIfInBounds_toArray, List.set_cons_zero, List.set_cons_succ]
  refine wpAnyH_take (i := 13) (oi := ⟨some 24, _, _, _, _, _⟩) (v := undef) rfl (by kernel_rfl) (by kernel_rfl) (by kernel_rfl) (fun _ _ _ h => h) (Or.inr ⟨by first | rfl | go_simp, rfl⟩) hH ?_
  try simp only [Act.put, List.setIfInBounds_toArray, List.set_cons_zero, List.set_cons_succ]
  refine wpAnyH_take (i := 14) (oi := ⟨some 25, _, _, _, _, _⟩) (v := undef) rfl (by kernel_rfl) (by kernel_rfl) (by kernel_rfl) (fun _ _ _ h => h) (Or.inr ⟨by first | rfl | go_simp, rfl⟩) hH ?_
  try simp only [Act.put, List.setIfInBounds_toArray, List.set_cons_zero, List.set_cons_succ]
  refine wpAnyH_take (i := 15) (oi := ⟨some 26, _, _, _, _, _⟩) (v := undef) rfl (by kernel_rfl) (by kernel_rfl) (by kernel_rfl) (fun _ _ _ h => h) (Or.inr ⟨by first | rfl | go_simp, rfl⟩) hH ?_
  try simp only [Act.put, List.setIfInBounds_toArray, List.set_cons_zero, List.set_cons_succ]
  refine wpAnyH_take (i := 16) (oi := ⟨some 27, _, _, _, _, _⟩) (v := .bool true) rfl (by kernel_rfl) (by kernel_rfl) (by kernel_rfl) (fun _ _ _ h => h) (Or.inl ⟨by rfl, fun w hSw => by go_simp⟩) hH ?_
  try simp only [Act.put, List.setIfInBounds_toArray, List.set_cons_zero, List.set_cons_succ]
  refine wpAnyH_done (by kernel_rfl) ?_ _
  try simp only [Act.put]
  try go_simp
  go_wp2_with fail
  go_ret3
  exact ⟨rfl, hH⟩
end
end Go.Proofs.Ytahpkahbifnndaa
namespace Go.Proofs.Ytahpkahbifnndaa
open Go Go.RowKit Go.Maps
set_option maxRecDepth 100000 in
set_option maxHeartbeats 1000000 in
theorem new_bad (w : World) (me : Int) (k : HD) (ba la da : Option Addr) (bc lc dn dc : Nat) (hbad : RN.newOk me k = false) : Calls Try.prog 9 #[.int .i64 me, .agg #[.int .i64 k.term, .int .i64 k.vote, .int .i64 k.bi, .int .i64 k.bt, .string ⟨k.base.toArray⟩, .slice ba k.bconf.length bc, .slice la k.log.length lc], .slice da dn dc] w fun e w' => e = .returned (.tuple #[.pointer none, .int .i64 1]) ∧ Below w.heap.size w w' := by
  unfold RN.newOk at hbad
  cases d1 : decide (0 ≤ me ∧ me < 16) with
  | false =>
    clear hbad
    go_enter Try.func9, Try.ntmps9
    go_upto_region 1 with fail
    have hA0 := bl_al (Below.refl w.heap.size w) (.cells #[.int .i64 k.term, .int .i64 k.vote, .int .i64 k.bi, .int .i64 k.bt, .string ⟨k.base.toArray⟩, .slice ba k.bconf.length bc, .slice la k.log.length lc] 39)
    have hBA := Blk.new w #[.int .i64 k.term, .int .i64 k.vote, .int .i64 k.bi, .int .i64 k.bt, .string ⟨k.base.toArray⟩, .slice ba k.bconf.length bc, .slice la k.log.length lc] 39
    generalize w.alloc (.cells #[.int .i64 k.term, .int .i64 k.vote, .int .i64 k.bi, .int .i64 k.bt, .string ⟨k.base.toArray⟩, .slice ba k.bconf.length bc, .slice la k.log.length lc] 39) = A at *
    have e0 := hBA.cell 0
    have e1 := hBA.cell 1
    have e2 := hBA.cell 2
    go_wp2_with (first
    | (go_at_call 32; refine (isReplica_any A _).mono ?_; rintro e w1 ⟨rfl, hw1⟩; replace hw1 := hw1.symm; subst hw1)
    | (go_at_call 33; refine (isCount_any A _).mono ?_; rintro e w1 ⟨rfl, hw1⟩; replace hw1 := hw1.symm; subst hw1))
    go_ret2
    exact ⟨rfl, hA0⟩
  | true =>
    cases d2 : MSG.cnt k.term with
    | false =>
      clear hbad
      go_enter Try.func9, Try.ntmps9
      go_upto_region 1 with fail
      have hA0 := bl_al (Below.refl w.heap.size w) (.cells #[.int .i64 k.term, .int .i64 k.vote, .int .i64 k.bi, .int .i64 k.bt, .string ⟨k.base.toArray⟩, .slice ba k.bconf.length bc, .slice la k.log.length lc] 39)
      have hBA := Blk.new w #[.int .i64 k.term, .int .i64 k.vote, .int .i64 k.bi, .int .i64 k.bt, .string ⟨k.base.toArray⟩, .slice ba k.bconf.length bc, .slice la k.log.length lc] 39
      generalize w.alloc (.cells #[.int .i64 k.term, .int .i64 k.vote, .int .i64 k.bi, .int .i64 k.bt, .string ⟨k.base.toArray⟩, .slice ba k.bconf.length bc, .slice la k.log.length lc] 39) = A at *
      have e0 := hBA.cell 0
      have e1 := hBA.cell 1
      have e2 := hBA.cell 2
      go_wp2_with (first
    | (go_at_call 32; refine (isReplica_any A _).mono ?_; rintro e w1 ⟨rfl, hw1⟩; replace hw1 := hw1.symm; subst hw1)
    | (go_at_call 33; refine (isCount_any A _).mono ?_; rintro e w1 ⟨rfl, hw1⟩; replace hw1 := hw1.symm; subst hw1))
      go_ret2
      exact ⟨rfl, hA0⟩
    | true =>
      cases d3 : MSG.cnt k.bi with
      | false =>
        clear hbad
        go_enter Try.func9, Try.ntmps9
        go_upto_region 1 with fail
        have hA0 := bl_al (Below.refl w.heap.size w) (.cells #[.int .i64 k.term, .int .i64 k.vote, .int .i64 k.bi, .int .i64 k.bt, .string ⟨k.base.toArray⟩, .slice ba k.bconf.length bc, .slice la k.log.length lc] 39)
        have hBA := Blk.new w #[.int .i64 k.term, .int .i64 k.vote, .int .i64 k.bi, .int .i64 k.bt, .string ⟨k.base.toArray⟩, .slice ba k.bconf.length bc, .slice la k.log.length lc] 39
        generalize w.alloc (.cells #[.int .i64 k.term, .int .i64 k.vote, .int .i64 k.bi, .int .i64 k.bt, .string ⟨k.base.toArray⟩, .slice ba k.bconf.length bc, .slice la k.log.length lc] 39) = A at *
        have e0 := hBA.cell 0
        have e1 := hBA.cell 1
        have e2 := hBA.cell 2
        go_wp2_with (first
    | (go_at_call 32; refine (isReplica_any A _).mono ?_; rintro e w1 ⟨rfl, hw1⟩; replace hw1 := hw1.symm; subst hw1)
    | (go_at_call 33; refine (isCount_any A _).mono ?_; rintro e w1 ⟨rfl, hw1⟩; replace hw1 := hw1.symm; subst hw1))
        go_ret2
        exact ⟨rfl, hA0⟩
      | true =>
        rw [d1, d2, d3] at hbad
        have h4 : decide (0 ≤ k.vote ∧ k.vote < 16) = false ∧ decide (k.vote = -1) = false := by simpa using hbad
        have d4 := h4.1
        have d5 : (k.vote != -1) = true := bne_iff_ne.2 (of_decide_eq_false h4.2)
        clear hbad h4
        go_enter Try.func9, Try.ntmps9
        go_upto_region 1 with fail
        have hA0 := bl_al (Below.refl w.heap.size w) (.cells #[.int .i64 k.term, .int .i64 k.vote, .int .i64 k.bi, .int .i64 k.bt, .string ⟨k.base.toArray⟩, .slice ba k.bconf.length bc, .slice la k.log.length lc] 39)
        have hBA := Blk.new w #[.int .i64 k.term, .int .i64 k.vote, .int .i64 k.bi, .int .i64 k.bt, .string ⟨k.base.toArray⟩, .slice ba k.bconf.length bc, .slice la k.log.length lc] 39
        generalize w.alloc (.cells #[.int .i64 k.term, .int .i64 k.vote, .int .i64 k.bi, .int .i64 k.bt, .string ⟨k.base.toArray⟩, .slice ba k.bconf.length bc, .slice la k.log.length lc] 39) = A at *
        have e0 := hBA.cell 0
        have e1 := hBA.cell 1
        have e2 := hBA.cell 2
        go_wp2_with (first
    | (go_at_call 32; refine (isReplica_any A _).mono ?_; rintro e w1 ⟨rfl, hw1⟩; replace hw1 := hw1.symm; subst hw1)
    | (go_at_call 33; refine (isCount_any A _).mono ?_; rintro e w1 ⟨rfl, hw1⟩; replace hw1 := hw1.symm; subst hw1))
        go_ret2
        exact ⟨rfl, hA0⟩
end Go.Proofs.Ytahpkahbifnndaa
