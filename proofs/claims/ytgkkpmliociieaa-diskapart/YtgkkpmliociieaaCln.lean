/- What Clone of a disk does; and a nil disk. -/
import Derived.Test.YtgkkpmliociieaaFal
import Derived.Test.YtgkkpmliociieaaNam
namespace Go.Proofs.Ytgkkpmliociieaa
open Go Go.RowKit
theorem iSlA : (Try.prog.info? 57).map (·.size) = some 1 := by kernel_rfl
theorem eqlNilA (w : World) : (binOp .eql 57 (.slice none 0 0) (.slice none 0 0)).run Try.prog w = .ok (.bool true) w := Lib.run_eql_slice_nil w 57 34 none 0 0 0 0 Try.underlying57
theorem eqlNilF (w : World) (b : Addr) (n c : Nat) : (binOp .eql 71 (.slice (some b) n c) (.slice none 0 0)).run Try.prog w = .ok (.bool false) w := Lib.run_eql_slice_nil w 71 80 (some b) n c 0 0 Try.underlying71
theorem eqlNilF0 (w : World) : (binOp .eql 71 (.slice none 0 0) (.slice none 0 0)).run Try.prog w = .ok (.bool true) w := Lib.run_eql_slice_nil w 71 80 none 0 0 0 0 Try.underlying71
section
attribute [local go_sem] eqlNilA eqlNilF eqlNilF0
set_option maxRecDepth 100000 in
theorem sclN (w : World) : Calls Try.prog 40 #[.slice none 0 0] w fun e w' => e = .returned (.slice none 0 0) ∧ w' = w := by
  go_enter Try.func40, Try.ntmps40
  go_wp2_with fail
  go_ret
  exact ⟨rfl, rfl⟩
/-- What a clone of files leaves. -/
def SclP (w : World) (l : List F) (e : Ending) (w' : World) : Prop := Below w.heap.size w w' ∧ ∃ sl, e = .returned sl ∧ GL w' 80 6 w.heap.size sl (l.map fL)
theorem run_appendNewG {P : Program} {w : World} (st ty t : TypeId) (ba : Option Addr) (k : Nat) (l : List (List Value)) (g o c : Nat) (hall : ∀ x ∈ l, x.length = k) (hone : ∀ x ∈ l, ∀ u ∈ x, u.oneCell' = true) (hcell : ∀ (j : Nat) (v : Value), l.flatten[j]? = some v → w.cell? ⟨g, o + j, none⟩ = some v) (i : TypeInfo) (z : Value) (hz1 : z.cells.size = k)
    (hu : P.underlying st = some (.slice t)) (hi : P.info? t = some i) (hz : i.zero = some z) (hs : i.size = k) (hby : i.bytes ≤ 256) (h0 : 0 < l.length) (hlen : l.length ≤ 1000000) :
    ∃ (w1 : World) (cap1 : Nat), (Builtin.append_ #[st, st] ty #[.slice ba 0 0, .slice (some ⟨g, o, none⟩) l.length c]).run P w = .ok (.slice (some ⟨w.heap.size, 0, none⟩) l.length cap1) w1 ∧ Below w.heap.size w w1 ∧ GS w1 t k w.heap.size cap1 l := by
  have hfl := flat_len hall
  have hsrc : Src P i.size st (.slice (some ⟨g, o, none⟩) l.length c) l.length l.flatten w :=
    Src.ofSlice w hu ⟨g, o, none⟩ l.length c _ (by rw [hs, hfl]) (fun j u hj => by
      rw [Addr.add_mid]
      exact hcell j u hj) (fun u hu => by
        obtain ⟨x, hx, hux⟩ := List.mem_flatten.1 hu
        exact hone x hx u hux)
  have hold : (Builtin.firstCells i.size 0 (.slice ba 0 0)).run P w.drew = .ok ([] : List Value).toArray w.drew := by
    cases ba with
    | none => exact run_firstCells_none (w := w.drew) i.size 0 0 0
    | some b => exact run_firstCells_some w.drew i.size 0 b 0 0 [] (by simp) (fun j v hj => by simp at hj)
  have hr := run_append_grow_src (P := P) w st st ty t i _ hu hi hz ba 0 0 _ hold _ l.length _ hsrc (by omega) (by omega) (growslice_fits (by omega) (Nat.le_trans (Nat.mul_le_mul (show 0 + l.length ≤ 1000000 by omega) hby) (by decide)))
  have hge : 0 + l.length ≤ grownCap w (0 + l.length) 0 t := grownCap_ge w _ _ _
  refine ⟨_, _, by rw [Nat.zero_add] at hr; exact hr, (Below.refl _ w).drew.alloc (Nat.le_refl _) _, ?_⟩
  rw [Nat.zero_add] at hge
  refine ⟨_, heap_alloc_last w.drew _, hge, ?_, ?_⟩
  · simp only [Array.size_append, List.size_toArray, List.length_append, hfl, size_zeroCells, List.length_nil, hz1]
    have h9 : grownCap w l.length 0 t * k = l.length * k + (grownCap w l.length 0 t - l.length) * k := by
      rw [Nat.sub_mul]
      have := Nat.mul_le_mul_right k hge
      omega
    omega
  · intro j v hj
    have hjl := (List.getElem?_eq_some_iff.1 hj).1
    rw [Array.getElem?_append_left (by simpa using hjl)]
    simpa using hj
theorem bsl0F (w : World) : (Instr.buildSlice 71 0 #[]).run Try.prog w = .ok (.slice (some ⟨w.heap.size, 0, none⟩) 0 0) (w.alloc (.cells #[] 80)) := by
  simp [Instr.buildSlice, run_underlying Try.underlying71, sizeOf_run zFile.2, Sem.run_bind, Instr.fill, newRow, range0]
theorem run_bsl0F {op : Oper} {a : Act} {w : World} (ho : op.op = .buildSlice 71 0 #[]) : (execOp a.eval op).run Try.prog w = .ok (.value (.slice (some ⟨w.heap.size, 0, none⟩) 0 0)) (w.alloc (.cells #[] 80)) := by
  unfold execOp
  simp only [ho, Sem.run_bind, Array.map_empty, bsl0F, Result.andThen_ok]
  rfl
set_option maxRecDepth 100000 in
set_option maxHeartbeats 1000000 in
theorem sclF_any (sl : Value) (l : List F) (w : World) (hL : FL w sl l) (hl : l.length ≤ 1000000) : Calls Try.prog 46 #[sl] w (SclP w l) := by
  obtain ⟨ii, hi, hz, hs, hby⟩ := infoFile
  rcases hL.2 with ⟨h1, rfl⟩ | ⟨g, cap, _, rfl, hS⟩
  · have : l = [] := by simpa using h1
    subst this
    go_enter Try.func46, Try.ntmps46
    go_wp2_with fail
    go_ret
    exact ⟨Below.refl _ _, _, rfl, GL.nil _ _ _ _⟩
  · rw [List.length_map]
    have hA : Below w.heap.size w (w.alloc (.cells #[] 80)) := (Below.refl _ _).alloc (Nat.le_refl _) _
    have hN : Blk (w.alloc (.cells #[] 80)) w.heap.size #[] 80 := Blk.new _ _ _
    by_cases h0 : 0 < l.length
    · have hS1 := hS.grown (row := none) (grown_of_below hA) (fun e => nomatch e)
      obtain ⟨w2, cap2, hr, hb, hG⟩ := run_appendNewG (P := Try.prog) (w := w.alloc (.cells #[] 80)) 71 71 80 (some ⟨w.heap.size, 0, none⟩) 6 (l.map fL) g 0 cap (fL_all l) (fL_one l) (fun j v hj => by rw [Nat.zero_add]; exact hS1.cell j v hj) ii _ rfl Try.underlying71 hi hz hs hby (by simpa using h0) (by simpa using hl)
      rw [List.length_map] at hr
      clear hS hS1 hL
      go_enter Try.func46, Try.ntmps46
      go_wp2_with (with_reducible refine at_list ?_; first
        | (refine wpList_run (op := ⟨some 5, _, _, _, _, _⟩) rfl _ _ (run_bsl0F rfl) ?_)
        | (refine wpList_run (op := ⟨some 7, _, _, _, _, _⟩) rfl _ _ (wp_append _ _ _ _ rfl _ _ rfl rfl hr) ?_))
      go_ret
      exact ⟨hA.trans (hb.mono hA.size), _, rfl, fL_all l, .inr ⟨_, cap2, hA.size, by rw [List.length_map]; simp, hG⟩⟩
    · obtain rfl : l = [] := List.length_eq_zero_iff.1 (by omega)
      have hsrc : Src Try.prog ii.size 71 (.slice (some ⟨g, 0, none⟩) 0 cap) 0 [] (w.alloc (.cells #[] 80)) :=
        Src.ofSlice _ Try.underlying71 ⟨g, 0, none⟩ 0 cap _ (by simp) (fun j u hj => by simp at hj) (fun u hu => by simp at hu)
      have hr := run_append_room_src (P := Try.prog) (w.alloc (.cells #[] 80)) 71 71 71 80 ii Try.underlying71 hi w.heap.size 0 0 0 _ 0 _ hsrc (Nat.le_refl _) (fun j hj => by simp at hj) (fun j hj => by simp at hj)
      have e0 : ∀ (q : World) (b o : Nat), q.setCells b o [] = q := fun _ _ _ => rfl
      rw [e0] at hr
      have hG : GL (w.alloc (.cells #[] 80)) 80 6 w.heap.size (.slice (some ⟨w.heap.size, 0, none⟩) 0 0) (([] : List F).map fL) := ⟨fun x hx => (by cases hx), .inr ⟨w.heap.size, 0, Nat.le_refl _, rfl, ⟨#[], heap_alloc_last w _, by simp, by simp, fun j v hv => by simp at hv⟩⟩⟩
      clear hsrc hS hL e0
      go_enter Try.func46, Try.ntmps46
      go_wp2_with (with_reducible refine at_list ?_; first
        | (refine wpList_run (op := ⟨some 5, _, _, _, _, _⟩) rfl _ _ (run_bsl0F rfl) ?_)
        | (refine wpList_run (op := ⟨some 7, _, _, _, _, _⟩) rfl _ _ (wp_append _ _ _ _ rfl _ _ rfl rfl hr) ?_))
      go_ret
      exact ⟨hA, _, rfl, hG⟩
end
theorem zDisk : (∀ w, (zeroValue 73).run Try.prog w = .ok (.agg (dC (.slice none 0 0) ⟨[], false, false, 0, 0⟩)) w) ∧ (Try.prog.info? 73).map (·.size) = some 6 := zero_of_info (by kernel_rfl)
theorem iDisk (sl : Value) (m : DM) : (Try.prog.info? 73).map (·.size) = some (dC sl m).size := zDisk.2
theorem dC_one {w : World} {sl : Value} {l : List F} (h : FL w sl l) (m : DM) : (dC sl m).all (·.oneCell') = true := by
  rcases h.2 with ⟨_, rfl⟩ | ⟨g, cap, _, rfl, _⟩ <;> simp [dC, Value.oneCell']
set_option maxRecDepth 100000 in
set_option maxHeartbeats 2000000 in
theorem clone_any (p : Nat) (b : Option Nat) (m : DM) (w : World) (hK : DK w p b m) (hl : m.l.length ≤ 1000000) :
    Calls Try.prog 23 #[.pointer (some ⟨p, 0, none⟩)] w fun e w' => e = .returned (.pointer (some ⟨w.heap.size, 0, none⟩)) ∧ Below w.heap.size w w' ∧ ∃ b', DK w' w.heap.size b' m ∧ ∀ r, b' = some r → w.heap.size ≤ r := by
  obtain ⟨sl, hD, hF, hb⟩ := hK.out
  have HC := fun w1 (h : FL w1 sl m.l) => sclF_any sl m.l w1 h hl
  have hpl := hD.lt
  have ho := dC_one hF m
  go_enter Try.func23, Try.ntmps23
  go_wp2_with (with_reducible refine at_list ?_; first
    | (refine wpList_loadRow (op := ⟨some 8, _, _, _, _, _⟩) rfl _ _ rfl p rfl _ _ hD _ Try.underlying73 rfl (iDisk _ _) ?_)
    | (refine wpList_allocRow (op := ⟨some 3, _, _, _, _, _⟩) rfl _ rfl _ zDisk.1 ?_; intro w1 hw1 hs1 hQ0; clear hs1)
    | (refine wpList_storeRow (op := ⟨none, .store 73 (.tmp 3) (.tmp 8), _, _, _, _⟩) rfl _ _ _ rfl w.heap.size (dC sl m) rfl rfl _ _ hQ0 rfl (iDisk _ _) ho ?_; intro w2 hg2 hs2 hQ; clear hs2))
  have hB2 : Below w.heap.size w w2 := hw1.trans (below_of_grown hg2 (Nat.le_refl _) hw1.size)
  have hD2 := hD.belowSize hB2
  have hF2 := hF.below hB2
  have hsz2 := hQ.lt
  clear hw1 hg2 hQ0 hD hF
  have hH0 : Blk w2.drew p (dC sl m) 73 := hD2.drew
  refine wp_region_held_drew (S := fun w' : World => Blk w' p (dC sl m) 73) (by kernel_rfl) hH0 (fun hH => ?_)
  try go_frame
  refine wpAnyH_take (i := 0) (oi := ⟨some 9, _, _, _, _, _⟩) (v := .pointer (some ⟨p, 0, none⟩)) rfl (by kernel_rfl) (by kernel_rfl) (by kernel_rfl) (fun _ _ _ h => h) (Or.inl ⟨by rfl, fun w hSw => by go_simp⟩) hH ?_
  try simp only [Act.put, List.setIfInBounds_toArray, List.set_cons_zero, List.set_cons_succ]
  refine wpAnyH_take (i := 1) (oi := ⟨some 10, _, _, _, _, _⟩) (v := .pointer (some ⟨p, 0, none⟩)) rfl (by kernel_rfl) (by kernel_rfl) (by kernel_rfl) (fun _ _ _ h => h) (Or.inl ⟨by rfl, fun w hSw => by go_simp⟩) hH ?_
  try simp only [Act.put, List.setIfInBounds_toArray, List.set_cons_zero, List.set_cons_succ]
  refine wpAnyH_take (i := 2) (oi := ⟨some 11, _, _, _, _, _⟩) (v := .pointer (some ⟨p, 0, none⟩)) rfl (by kernel_rfl) (by kernel_rfl) (by kernel_rfl) (fun _ _ _ h => h) (Or.inl ⟨by rfl, fun w hSw => by go_simp⟩) hH ?_
  try simp only [Act.put, List.setIfInBounds_toArray, List.set_cons_zero, List.set_cons_succ]
  refine wpAnyH_take (i := 3) (oi := ⟨some 12, _, _, _, _, _⟩) (v := sl) rfl (by kernel_rfl) (by kernel_rfl) (by kernel_rfl) (fun _ _ _ h => h) (Or.inl ⟨by rfl, fun w hSw => run_loadCellB _ _ rfl _ 0 rfl _ _ hSw _ Try.underlying71 rfl _ (dC_g0 _ _)⟩) hH ?_
  try simp only [Act.put, List.setIfInBounds_toArray, List.set_cons_zero, List.set_cons_succ]
  refine wpAnyH_take (i := 5) (oi := ⟨some 14, _, _, _, _, _⟩) (v := .pointer (some ⟨p, 0, none⟩)) rfl (by kernel_rfl) (by kernel_rfl) (by kernel_rfl) (fun _ _ _ h => h) (Or.inl ⟨by rfl, fun w hSw => by go_simp⟩) hH ?_
  try simp only [Act.put, List.setIfInBounds_toArray, List.set_cons_zero, List.set_cons_succ]
  refine wpAnyH_take (i := 6) (oi := ⟨some 15, _, _, _, _, _⟩) (v := .pointer (some ⟨p, 0, none⟩)) rfl (by kernel_rfl) (by kernel_rfl) (by kernel_rfl) (fun _ _ _ h => h) (Or.inl ⟨by rfl, fun w hSw => by go_simp⟩) hH ?_
  try simp only [Act.put, List.setIfInBounds_toArray, List.set_cons_zero, List.set_cons_succ]
  refine wpAnyH_take (i := 7) (oi := ⟨some 16, _, _, _, _, _⟩) (v := .pointer (some ⟨p, 4, none⟩)) rfl (by kernel_rfl) (by kernel_rfl) (by kernel_rfl) (fun _ _ _ h => h) (Or.inl ⟨by rfl, fun w hSw => by go_simp⟩) hH ?_
  try simp only [Act.put, List.setIfInBounds_toArray, List.set_cons_zero, List.set_cons_succ]
  refine wpAnyH_take (i := 8) (oi := ⟨some 17, _, _, _, _, _⟩) (v := .slice none 0 0) rfl (by kernel_rfl) (by kernel_rfl) (by kernel_rfl) (fun _ _ _ h => h) (Or.inl ⟨by rfl, fun w hSw => run_loadCellB _ _ rfl _ 4 rfl _ _ hSw _ Try.underlying57 rfl _ (dC_g4 _ _)⟩) hH ?_
  try simp only [Act.put, List.setIfInBounds_toArray, List.set_cons_zero, List.set_cons_succ]
  refine wpAnyH_solo (i := 4) (o := ⟨some 13, _, _, _, _, _⟩) rfl (by kernel_rfl) (fun K hK => ?_)
  refine wpList_callR Try.func46 (by kernel_rfl) (by kernel_rfl) rfl _ _ rfl #[sl] (args1 rfl) _ (HC _ hF2.drew) ?_
  rintro e w5 ⟨hw5, sl5, rfl, hF5⟩
  refine ⟨_, rfl, ?_⟩
  have hH5 : Blk w5 p (dC sl m) 73 := hH.belowSize hw5
  have hQ5 := hQ.drew.belowSize hw5
  refine hK _ _ hH5 ?_
  clear hK K
  try simp only [Act.put, List.setIfInBounds_toArray, List.set_cons_zero, List.set_cons_succ]
  refine wpAnyH_solo (i := 9) (o := ⟨some 18, _, _, _, _, _⟩) rfl (by kernel_rfl) (fun K hK => ?_)
  refine wpList_callR Try.func40 (by kernel_rfl) (by kernel_rfl) rfl _ _ rfl #[.slice none 0 0] (args1 rfl) _ (sclN _) ?_
  rintro e w6 ⟨rfl, hw6⟩
  have hw6 := hw6.symm
  subst hw6
  refine ⟨_, rfl, ?_⟩
  refine hK _ _ hH5 ?_
  clear hK K
  try simp only [Act.put, List.setIfInBounds_toArray, List.set_cons_zero, List.set_cons_succ]
  refine wpAnyH_take (i := 10) (oi := ⟨some 19, _, _, _, _, _⟩) (v := .pointer (some ⟨w.heap.size, 0, none⟩)) rfl (by kernel_rfl) (by kernel_rfl) (by kernel_rfl) (fun _ _ _ h => h) (Or.inl ⟨by rfl, fun w hSw => by go_simp⟩) hH5 ?_
  try simp only [Act.put, List.setIfInBounds_toArray, List.set_cons_zero, List.set_cons_succ]
  refine wpAnyH_solo (i := 11) (o := ⟨none, _, _, _, _, _⟩) rfl (by kernel_rfl) (fun K hK => ?_)
  refine wpList_storeCell rfl _ _ _ rfl w.heap.size 0 rfl sl5 rfl _ _ hQ5 iSlF (GL.cells hF5).1 (GL.cells hF5).2 (by rw [dC_size]; decide) ?_
  intro w7 hg7 hs7 hQ7
  clear hs7
  rw [dC_s0 _ _ _ m.l] at hQ7
  have hH7 : Blk w7 p (dC sl m) 73 := hH5.grown hg7 (by simp; omega)
  refine hK _ _ hH7 ?_
  clear hK K
  try simp only [Act.put]
  refine wpAnyH_take (i := 12) (oi := ⟨some 20, _, _, _, _, _⟩) (v := .pointer (some ⟨w.heap.size, 4, none⟩)) rfl (by kernel_rfl) (by kernel_rfl) (by kernel_rfl) (fun _ _ _ h => h) (Or.inl ⟨by rfl, fun w hSw => by go_simp⟩) hH7 ?_
  try simp only [Act.put, List.setIfInBounds_toArray, List.set_cons_zero, List.set_cons_succ]
  refine wpAnyH_solo (i := 13) (o := ⟨none, _, _, _, _, _⟩) rfl (by kernel_rfl) (fun K hK => ?_)
  refine wpList_storeCell rfl _ _ _ rfl w.heap.size 4 rfl (.slice none 0 0) rfl _ _ hQ7 iSlA rfl rfl (by rw [dC_size]; decide) ?_
  intro w8 hg8 hs8 hQ8
  clear hs8
  have hH8 : Blk w8 p (dC sl m) 73 := hH7.grown hg8 (by simp; omega)
  refine hK _ _ hH8 ?_
  clear hK K
  try simp only [Act.put]
  refine wpAnyH_done (by kernel_rfl) ?_ _
  go_simp
  go_wp2_with fail
  go_ret
  have hB5 : Below w.heap.size w w5 := hB2.drew.trans (hw5.mono (by simpa using hB2.size))
  have hB7 := hB5.trans (below_of_grown hg7 (Nat.le_refl _) hB5.size)
  have hF8 : FL w8 sl5 m.l := by
    have h1 : FL w5 sl5 m.l := ⟨hF5.1, by
      rcases hF5.2 with h | ⟨g, cap, _, h⟩
      · exact .inl h
      · exact .inr ⟨g, cap, Nat.zero_le _, h⟩⟩
    exact (h1.grown hg7 (h1.ne hQ5 (by decide))).grown hg8 (h1.ne hQ5 (by decide))
  refine ⟨rfl, hB7.trans (below_of_grown hg8 (Nat.le_refl _) hB7.size), slBlk sl5, ⟨sl5, hQ8, hF8, rfl⟩, fun r e => ?_⟩
  have := (GL.lt hF5 r e).1
  simp at this
  omega
set_option maxRecDepth 100000 in
theorem clone_nil (w : World) : Calls Try.prog 23 #[.pointer none] w fun e w' => e = .returned (.pointer none) ∧ w' = w := by
  go_enter Try.func23, Try.ntmps23
  go_wp2_with fail
  go_ret
  exact ⟨rfl, rfl⟩
set_option maxRecDepth 100000 in
theorem plan_nil (x : Value) (w : World) : Calls Try.prog 20 #[.pointer none, x] w fun e w' => e = .returned (.tuple #[]) ∧ w' = w := by
  go_enter Try.func20, Try.ntmps20
  go_wp2_with fail
  first | refine bodyPost_end (results_none rfl _ _ _) rfl ⟨rfl, rfl⟩ | refine bodyPost_ret (results_none rfl _ _ _) rfl ⟨rfl, rfl⟩
set_option maxRecDepth 100000 in
theorem append_nil (n s : Value) (w : World) : Calls Try.prog 35 #[.pointer none, n, s] w fun e w' => e = .returned (.int .i64 7) ∧ Below w.heap.size w w' := by
  have HN := named_nil n w
  go_enter Try.func35, Try.ntmps35
  go_wp2_with (go_at_call 44; refine HN.mono ?_; rintro e w0 ⟨rfl, hw0⟩; subst hw0)
  go_ret
  exact ⟨rfl, Below.refl _ _⟩
set_option maxRecDepth 100000 in
theorem write_nil (n s : Value) (w : World) : Calls Try.prog 22 #[.pointer none, n, s] w fun e w' => e = .returned (.int .i64 7) ∧ Below w.heap.size w w' := by
  have HN := named_nil n w
  go_enter Try.func22, Try.ntmps22
  go_wp2_with (go_at_call 44; refine HN.mono ?_; rintro e w0 ⟨rfl, hw0⟩; subst hw0)
  go_ret
  exact ⟨rfl, Below.refl _ _⟩
set_option maxRecDepth 100000 in
set_option maxHeartbeats 1000000 in
theorem move_nil (n t : Value) (w : World) : Calls Try.prog 48 #[.pointer none, n, t] w fun e w' => e = .returned (.int .i64 7) ∧ Below w.heap.size w w' := by
  have HT := there_nil n w
  go_enter Try.func48, Try.ntmps48
  go_wp2_with (first
    | (go_at_call 39; refine HT.mono ?_; rintro e w1 ⟨rfl, hw1⟩)
    | (with_reducible refine at_list ?_; first
      | (refine wpList_allocRow (op := ⟨some 7, _, _, _, _, _⟩) rfl _ rfl _ zCon.1 ?_; intro w2 hw2 hs2 h5; clear hs2; have hB2 := hw1.trans (hw2.mono hw1.size); have hsz := hw1.size)
      | (refine wpList_storeRow (op := ⟨none, .store 75 (.tmp 7) (.tmp 13), _, _, _, _⟩) rfl _ _ _ rfl w1.heap.size (cC none) rfl rfl _ _ h5 rfl (iCon _) (cC_one _) ?_; intro w3 hg3 hs3 h5b; clear hs3; have hB3 := hB2.trans (below_of_grown hg3 (by omega) hB2.size))))
  go_ret
  exact ⟨rfl, hB3⟩
set_option maxRecDepth 100000 in
set_option maxHeartbeats 1000000 in
theorem truncate_nil (n t : Value) (w : World) : Calls Try.prog 50 #[.pointer none, n, t] w fun e w' => e = .returned (.int .i64 7) ∧ Below w.heap.size w w' := by
  have HT := there_nil n w
  go_enter Try.func50, Try.ntmps50
  go_wp2_with (first
    | (go_at_call 39; refine HT.mono ?_; rintro e w1 ⟨rfl, hw1⟩)
    | (with_reducible refine at_list ?_; first
      | (refine wpList_allocRow (op := ⟨some 7, _, _, _, _, _⟩) rfl _ rfl _ zCon.1 ?_; intro w2 hw2 hs2 h5; clear hs2; have hB2 := hw1.trans (hw2.mono hw1.size); have hsz := hw1.size)
      | (refine wpList_storeRow (op := ⟨none, .store 75 (.tmp 7) (.tmp 13), _, _, _, _⟩) rfl _ _ _ rfl w1.heap.size (cC none) rfl rfl _ _ h5 rfl (iCon _) (cC_one _) ?_; intro w3 hg3 hs3 h5b; clear hs3; have hB3 := hB2.trans (below_of_grown hg3 (by omega) hB2.size))))
  go_ret
  exact ⟨rfl, hB3⟩
set_option maxRecDepth 100000 in
set_option maxHeartbeats 1000000 in
theorem remove_nil (n : Value) (w : World) : Calls Try.prog 49 #[.pointer none, n] w fun e w' => e = .returned (.int .i64 7) ∧ Below w.heap.size w w' := by
  have HT := there_nil n w
  go_enter Try.func49, Try.ntmps49
  go_wp2_with (first
    | (go_at_call 39; refine HT.mono ?_; rintro e w1 ⟨rfl, hw1⟩)
    | (with_reducible refine at_list ?_; first
      | (refine wpList_allocRow (op := ⟨some 5, _, _, _, _, _⟩) rfl _ rfl _ zCon.1 ?_; intro w2 hw2 hs2 h5; clear hs2; have hB2 := hw1.trans (hw2.mono hw1.size); have hsz := hw1.size)
      | (refine wpList_storeRow (op := ⟨none, .store 75 (.tmp 5) (.tmp 11), _, _, _, _⟩) rfl _ _ _ rfl w1.heap.size (cC none) rfl rfl _ _ h5 rfl (iCon _) (cC_one _) ?_; intro w3 hg3 hs3 h5b; clear hs3; have hB3 := hB2.trans (below_of_grown hg3 (by omega) hB2.size))))
  go_ret
  exact ⟨rfl, hB3⟩
end Go.Proofs.Ytgkkpmliociieaa
