/- What WireReads does. -/
import Derived.Test.YtaccklbijihppaaDoorOnd
import Derived.Test.YtaccklbijihppaaDoorUf
namespace Go.Proofs.YtaccklbijihppaaDoor
open Go Go.RowKit
/-- Acts lie in block g from o on. -/
structure Acts (w : World) (g o len : Nat) (K N X : Nat → Int) (T : Nat → List UInt8) : Prop where
  out : ∀ i, i < len → w.rangeAt g (o + i * 4) (ac (K i) (N i) (X i) (T i)).toList
theorem Acts.below {w w' : World} {g o len : Nat} {K N X : Nat → Int} {T : Nat → List UInt8} (h : Acts w g o len K N X T) (hb : Below w.heap.size w w') : Acts w' g o len K N X T :=
  ⟨fun i hi j v hv => by
    have h1 := h.out i hi j v hv
    rw [hb.cell (World.block_lt_of_cell? _ _ h1)]
    exact h1⟩
section
variable {P : Program} {op : Oper} {a : Act} {w : World}
theorem run_loadMid (ty : TypeId) (x : Operand) (ho : op.op = .load ty x) (b o : Nat) (hx : a.eval x = .pointer (some ⟨b, o, none⟩))
    (c : Array Value) (hb : w.rangeAt b o c.toList) (d : TypeDesc) (hu : P.underlying ty = some d) (hd : d.isRow = true) (hi : (P.info? ty).map (·.size) = some c.size) :
    (execOp a.eval op).run P w = .ok (.value (.agg c)) w := by
  have hl := run_loadVar_mid (P := P) w b o ty c.toList d hb hu hd (by simpa using hi)
  rw [Array.toArray_toList] at hl
  unfold execOp
  simp only [ho, hx]
  simp [Instr.loadAt, Instr.sureAddr, hl]
end
theorem i43 : (Tryd.prog.info? 43).map (·.size) = some 4 := by kernel_rfl
theorem ac_size (kind n x : Int) (t : List UInt8) : (ac kind n x t).size = 4 := rfl
/-- The reader behind i acts. -/
def st (K N : Nat → Int) (r : R) : Nat → R
  | 0 => r
  | i + 1 => (st K N r i).act (K i) (N i)
theorem st_ok (K N : Nat → Int) {r : R} (h : r.ok) : ∀ i, (st K N r i).ok
  | 0 => h
  | i + 1 => R.act_ok (st_ok K N h i) _ _
theorem st_s (K N : Nat → Int) (r : R) : ∀ i, (st K N r i).s = r.s
  | 0 => rfl
  | i + 1 => (R.act_s _ _ _).trans (st_s K N r i)
theorem left_quiet (b : Nat) (r : R) (w : World) (n : Nat) (h : RD w b r) (hk : r.ok) (hl : r.s.length ≤ 1099511627776) :
    Calls Tryd.prog 23 #[.pointer (some ⟨b, 0, none⟩)] (w.drewN n) fun e w' => e = .returned (.int .i64 ((r.s.length : Int) - (r.pos : Nat))) ∧ ∃ m, w' = (w.drewN n).drewN m :=
  (left_any b r (w.drewN n) (h.drew ⟨n, rfl⟩) hk hl).mono fun _ _ ⟨h1, h2⟩ => ⟨h1, h2.out⟩
set_option maxRecDepth 100000 in
set_option maxHeartbeats 2000000 in
theorem reads_some (l : List UInt8) (g o len cap : Nat) (K N X : Nat → Int) (T : Nat → List UInt8) (w : World) (hG : Glob w) (hA : Acts w g o len K N X T) (hN : ∀ i, i < len → N i ≤ 9223372036854775807) :
    Calls Tryd.prog 5 #[.string ⟨l.toArray⟩, .slice (some ⟨g, o, none⟩) len cap] w fun e w' => e = .returned (.bool true) ∧ Below w.heap.size w w' := by
  have hl := fewL_length l
  have HFEW := few_any l w
  have HNEW := newr_any (fewL l) w
  have HAW := fun w (hG : Glob w) => awake_any w hG
  generalize fewL l = x at *
  go_enter Tryd.func5, Tryd.ntmps5
  go_wp2_with (first
    | (go_at_call 13; refine HFEW.mono ?_; rintro e w' ⟨rfl, hw'⟩; have hw2' := hw'.symm; subst hw2'; clear hw')
    | (go_at_call 19; refine HNEW.mono ?_; rintro e w1 ⟨rfl, hw1, hR1⟩)
    | (go_at_call 9; refine (HAW _ (hG.belowSize hw1)).mono ?_; rintro e w2 ⟨rfl, hw2⟩; have hl2 := hw2.size; have hl1 := hR1.blk.lt; replace hR1 := hR1.below hw2)
    | (with_reducible refine at_list ?_; first
      | (refine wpList_build (o := ⟨some 21, _, _, _, _, _⟩) rfl _ _ rfl (by rw [show Tryd.prog.built 39 _ = _ from built39 x]; rfl) ?_)
      | (refine wpList_allocRow (op := ⟨some 7, _, _, _, _, _⟩) rfl _ rfl _ z39.1 ?_; intro w3 hw3 hs3 hz3; replace hs3 := hs3.symm; replace hR1 := hR1.below hw3)
      | (refine wpList_storeRow (op := ⟨none, .store 39 (.tmp 7) (.tmp 21), _, _, _, _⟩) rfl _ _ _ rfl w2.heap.size (rc x 0 0) rfl rfl _ _ hz3 (by rw [rc_size, rc_size]) (by rw [rc_size]; exact z39.2) (rc_one _ _ _) ?_; intro w4 hg4 hs4 hz4)))
  have hB1 : Below w.heap.size w w1 := hw1
  have hB2 : Below w.heap.size w w2 := hB1.trans (hw2.mono hB1.size)
  have hB3 : Below w.heap.size w w3 := hB2.trans (hw3.mono hB2.size)
  have hB4 : Below w.heap.size w w4 := hB3.trans (below_of_grown hg4 hB2.size hB3.size)
  have hR4 : RD w4 w.heap.size ⟨x, 0, 0⟩ := ⟨hR1.blk.grown hg4 (by simp; omega)⟩
  obtain ⟨M, hM0⟩ : ∃ M, M = w2.heap.size := ⟨_, rfl⟩
  rw [← hM0] at hz4 ⊢
  have hBM : w.heap.size < M := by omega
  have hok0 : (⟨x, 0, 0⟩ : R).ok := Nat.zero_le _
  clear hB1 hB2 hB3 hw1 hw2 hw3 hg4 hs4 hs3 hl1 hl2 hR1 hM0 HNEW HFEW HAW
  go_loopw [8] (fun v8 wl => ∃ i : Nat, i ≤ len ∧ i ≤ 200 ∧ v8 = .int .i64 i ∧ Below w.heap.size w wl ∧ RD wl w.heap.size (st K N ⟨x, 0, 0⟩ i) ∧ Blk wl M (rc (st K N ⟨x, 0, 0⟩ i).s (st K N ⟨x, 0, 0⟩ i).pos (st K N ⟨x, 0, 0⟩ i).err) 39) (fun v8 _ => 200 - (intOf v8).toNat)
  case atStart => exact ⟨0, by omega, by omega, rfl, hB4, hR4, hz4⟩
  case round =>
    obtain ⟨i, hi, hi2, rfl, hBl, hR, hM⟩ := hrel
    clear hB4 hR4 hz4
    by_cases hlt : i < len
    · by_cases hlt2 : i < 200
      · have hact := (hA.below (hBl)).out i hlt
        have hni := hN i hlt
        have hok := st_ok K N hok0 (i + 1)
        have hss := st_s K N ⟨x, 0, 0⟩ (i + 1)
        have hok1 := st_ok K N hok0 i
        have hss1 := st_s K N ⟨x, 0, 0⟩ i
        have HS : Hid (st K N ⟨x, 0, 0⟩ (i + 1) = (st K N ⟨x, 0, 0⟩ i).act (K i) (N i)) := by exact rfl
        rw [HS.out] at hok hss
        generalize st K N ⟨x, 0, 0⟩ i = q at *
        have HO := fun w' (h' : RD w' w.heap.size q) => one_any w.heap.size q (K i) (N i) (X i) (T i) w' h' hok1 (by rw [hss1]; show x.length ≤ _; omega) hni
        generalize q.act (K i) (N i) = q2 at *
        obtain ⟨s, pos, err⟩ := q
        obtain ⟨us, up, ue⟩ := q2
        simp only at hss hss1
        subst hss hss1
        simp only at HO hM
        generalize K i = kk at *
        generalize N i = nn at *
        generalize X i = xx at *
        generalize T i = tt at *
        have hul : s.length ≤ 1099511627776 := by omega
        have huk : up ≤ s.length := hok
        go_wp2_with fail
        refine wp_region_any (by kernel_rfl) ?_
        change wpAny _ _ _ _ _ _ _ (World.drew _)
        have hBd : Below w.heap.size w wr.drew := hBl.drew
        replace hR := hR.drew ⟨1, rfl⟩
        replace hM := hM.drew
        replace hact : wr.drew.rangeAt g (o + i * 4) (ac kk nn xx tt).toList := hact
        refine wpAny_take (i := 0) (oi := ⟨some 33, _, _, _, _, _⟩) (v := .pointer (some ⟨w.heap.size, 0, none⟩)) rfl (by kernel_rfl) (by kernel_rfl) (by kernel_rfl) (fun _ _ _ h => h) (Or.inl ⟨by rfl, fun w => by go_simp⟩) ?_
        refine wpAny_take (i := 2) (oi := ⟨some 35, _, _, _, _, _⟩) (v := .slice (some ⟨g, o, none⟩) len cap) rfl (by kernel_rfl) (by kernel_rfl) (by kernel_rfl) (fun _ _ _ h => h) (Or.inl ⟨by rfl, fun w => by go_simp⟩) ?_
        refine wpAny_take (i := 3) (oi := ⟨some 36, _, _, _, _, _⟩) (v := .int .i64 (i : Nat)) rfl (by kernel_rfl) (by kernel_rfl) (by kernel_rfl) (fun _ _ _ h => h) (Or.inl ⟨by rfl, fun w => by go_simp⟩) ?_
        refine wpAny_take (i := 4) (oi := ⟨some 37, _, _, _, _, _⟩) (v := .pointer (some ⟨g, o + i * 4, none⟩)) rfl (by kernel_rfl) (by kernel_rfl) (by kernel_rfl) (fun _ _ _ h => h) (Or.inl ⟨by rfl, fun w => by go_simp⟩) ?_
        simp only [Act.put, List.setIfInBounds_toArray, List.set_cons_zero, List.set_cons_succ]
        refine wpAny_ready (rs := [1, 5]) (by kernel_rfl) (by simp) ?_
        refine AllReady.cons (o := ⟨some 34, .load 39 (.tmp 7), _, _, _, _⟩) rfl (fun K hK => ?_) (AllReady.cons (o := ⟨some 38, .load 43 (.tmp 37), _, _, _, _⟩) rfl (fun K hK => ?_) AllReady.nil)
        · skip
          rw [if_pos (by rfl)]
          refine wp_run _ _ (run_loadRow _ _ rfl M rfl _ _ hM _ Tryd.underlying39 rfl (by rw [rc_size]; exact z39.2)) ?_
          refine hK _ _ ?_
          clear hK K
          refine wpAny_ready (rs := [5]) (by kernel_rfl) (by simp) ?_
          refine AllReady.cons (o := ⟨some 38, .load 43 (.tmp 37), _, _, _, _⟩) rfl (fun K hK => ?_) AllReady.nil
          rw [if_pos (by rfl)]
          refine wp_run _ _ (run_loadMid _ _ rfl g (o + i * 4) rfl (ac kk nn xx tt) hact _ Tryd.underlying43 rfl (by rw [ac_size]; exact i43)) ?_
          refine hK _ _ ?_
          clear hK K
          simp only [Act.put, List.setIfInBounds_toArray, List.set_cons_zero, List.set_cons_succ]
          refine wpAny_ready (rs := [6]) (by kernel_rfl) (by simp) ?_
          refine AllReady.cons (o := ⟨some 39, .call ⟨.value (.func 20), #[.tmp 33, .tmp 34, .tmp 38], #[36, 39, 43]⟩, _, _, _, _⟩) rfl (fun K hK => ?_) AllReady.nil
          rw [if_pos (by rfl)]
          go_simp
          refine (HO _ hR).mono ?_
          rintro e wc ⟨rfl, hT⟩
          refine hK _ _ ?_
          clear hK K hR
          replace hM := hM.grown hT.grown (by simp; omega)
          refine wpAny_take (i := 7) (oi := ⟨some 32, _, _, _, _, _⟩) (v := .tuple #[.agg (rc s up ue), .bool true]) rfl (by kernel_rfl) (by kernel_rfl) (by kernel_rfl) (fun _ _ _ h => h) (Or.inl ⟨by rfl, fun w => by go_simp⟩) ?_
          refine wpAny_take (i := 8) (oi := ⟨some 40, _, _, _, _, _⟩) (v := .agg (rc s up ue)) rfl (by kernel_rfl) (by kernel_rfl) (by kernel_rfl) (fun _ _ _ h => h) (Or.inl ⟨by rfl, fun w => by go_simp⟩) ?_
          refine wpAny_take (i := 9) (oi := ⟨some 41, _, _, _, _, _⟩) (v := .bool true) rfl (by kernel_rfl) (by kernel_rfl) (by kernel_rfl) (fun _ _ _ h => h) (Or.inl ⟨by rfl, fun w => by go_simp⟩) ?_
          simp only [Act.put, List.setIfInBounds_toArray, List.set_cons_zero, List.set_cons_succ]
          refine wpAny_ready (rs := [10]) (by kernel_rfl) (by simp) ?_
          refine AllReady.cons (o := ⟨none, .store 39 (.tmp 7) (.tmp 40), _, _, _, _⟩) rfl (fun K hK => ?_) AllReady.nil
          rw [if_pos (by rfl)]
          refine wp_storeRow _ _ _ rfl M (rc s up ue) rfl rfl _ _ hM (by rw [rc_size, rc_size]) (by rw [rc_size]; exact z39.2) (rc_one _ _ _) ?_
          intro ws hgs hss hM2
          refine hK _ _ ?_
          clear hK K hM
          refine wpAny_take (i := 11) (oi := ⟨some 9, _, _, _, _, _⟩) (v := .bool true) rfl (by kernel_rfl) (by kernel_rfl) (by kernel_rfl) (fun _ _ _ h => h) (Or.inl ⟨by rfl, fun w => by go_simp⟩) ?_
          refine wpAny_done (by kernel_rfl) ?_ _
          simp only [Act.put, List.setIfInBounds_toArray, List.set_cons_zero, List.set_cons_succ]
          have hR2 : RD ws w.heap.size ⟨s, up, ue⟩ := ⟨hT.rd.blk.grown hgs (by simp; omega)⟩
          have hBc : Below w.heap.size w wc := hBd.trans (below_of_grown hT.grown (Nat.le_refl _) hBd.size)
          have hBs : Below w.heap.size w ws := hBc.trans (below_of_grown hgs (by omega) hBc.size)
          clear hT hgs hss hBd hBc
          go_simp
          have hb2 := hR2.c0
          have c1 := (hM2.cell 1).trans (rc_g1 _ _ _)
          have c2 := (hM2.cell 2).trans (rc_g2 _ _ _)
          clear hb2
          go_wp2_with fail
          go_quiet ((first
            | (go_at_call 21; exact Calls.quiet_of_same (err_any w.heap.size ⟨s, up, ue⟩ _ (hR2.drew ⟨_, rfl⟩)))
            | (go_at_call 22; exact Calls.quiet_of_same (at_any w.heap.size ⟨s, up, ue⟩ _ (hR2.drew ⟨_, rfl⟩)))
            | (go_at_call 23; exact Calls.quiet_of (left_quiet w.heap.size ⟨s, up, ue⟩ _ _ hR2 hok hul))))
          clear c1 c2
          go_wp2_with fail
          go_roundw
          case rel => exact ⟨i + 1, by omega, by omega, by go_num, below_draws hBs _, by rw [HS.out]; exact hR2.drew ⟨_, rfl⟩, by rw [HS.out]; exact hM2.drewN _⟩
          case measure => simp [intOf]; omega
        · skip
          rw [if_pos (by rfl)]
          refine wp_run _ _ (run_loadMid _ _ rfl g (o + i * 4) rfl (ac kk nn xx tt) hact _ Tryd.underlying43 rfl (by rw [ac_size]; exact i43)) ?_
          refine hK _ _ ?_
          clear hK K
          refine wpAny_ready (rs := [1]) (by kernel_rfl) (by simp) ?_
          refine AllReady.cons (o := ⟨some 34, .load 39 (.tmp 7), _, _, _, _⟩) rfl (fun K hK => ?_) AllReady.nil
          rw [if_pos (by rfl)]
          refine wp_run _ _ (run_loadRow _ _ rfl M rfl _ _ hM _ Tryd.underlying39 rfl (by rw [rc_size]; exact z39.2)) ?_
          refine hK _ _ ?_
          clear hK K
          simp only [Act.put, List.setIfInBounds_toArray, List.set_cons_zero, List.set_cons_succ]
          refine wpAny_ready (rs := [6]) (by kernel_rfl) (by simp) ?_
          refine AllReady.cons (o := ⟨some 39, .call ⟨.value (.func 20), #[.tmp 33, .tmp 34, .tmp 38], #[36, 39, 43]⟩, _, _, _, _⟩) rfl (fun K hK => ?_) AllReady.nil
          rw [if_pos (by rfl)]
          go_simp
          refine (HO _ hR).mono ?_
          rintro e wc ⟨rfl, hT⟩
          refine hK _ _ ?_
          clear hK K hR
          replace hM := hM.grown hT.grown (by simp; omega)
          refine wpAny_take (i := 7) (oi := ⟨some 32, _, _, _, _, _⟩) (v := .tuple #[.agg (rc s up ue), .bool true]) rfl (by kernel_rfl) (by kernel_rfl) (by kernel_rfl) (fun _ _ _ h => h) (Or.inl ⟨by rfl, fun w => by go_simp⟩) ?_
          refine wpAny_take (i := 8) (oi := ⟨some 40, _, _, _, _, _⟩) (v := .agg (rc s up ue)) rfl (by kernel_rfl) (by kernel_rfl) (by kernel_rfl) (fun _ _ _ h => h) (Or.inl ⟨by rfl, fun w => by go_simp⟩) ?_
          refine wpAny_take (i := 9) (oi := ⟨some 41, _, _, _, _, _⟩) (v := .bool true) rfl (by kernel_rfl) (by kernel_rfl) (by kernel_rfl) (fun _ _ _ h => h) (Or.inl ⟨by rfl, fun w => by go_simp⟩) ?_
          simp only [Act.put, List.setIfInBounds_toArray, List.set_cons_zero, List.set_cons_succ]
          refine wpAny_ready (rs := [10]) (by kernel_rfl) (by simp) ?_
          refine AllReady.cons (o := ⟨none, .store 39 (.tmp 7) (.tmp 40), _, _, _, _⟩) rfl (fun K hK => ?_) AllReady.nil
          rw [if_pos (by rfl)]
          refine wp_storeRow _ _ _ rfl M (rc s up ue) rfl rfl _ _ hM (by rw [rc_size, rc_size]) (by rw [rc_size]; exact z39.2) (rc_one _ _ _) ?_
          intro ws hgs hss hM2
          refine hK _ _ ?_
          clear hK K hM
          refine wpAny_take (i := 11) (oi := ⟨some 9, _, _, _, _, _⟩) (v := .bool true) rfl (by kernel_rfl) (by kernel_rfl) (by kernel_rfl) (fun _ _ _ h => h) (Or.inl ⟨by rfl, fun w => by go_simp⟩) ?_
          refine wpAny_done (by kernel_rfl) ?_ _
          simp only [Act.put, List.setIfInBounds_toArray, List.set_cons_zero, List.set_cons_succ]
          have hR2 : RD ws w.heap.size ⟨s, up, ue⟩ := ⟨hT.rd.blk.grown hgs (by simp; omega)⟩
          have hBc : Below w.heap.size w wc := hBd.trans (below_of_grown hT.grown (Nat.le_refl _) hBd.size)
          have hBs : Below w.heap.size w ws := hBc.trans (below_of_grown hgs (by omega) hBc.size)
          clear hT hgs hss hBd hBc
          go_simp
          have hb2 := hR2.c0
          have c1 := (hM2.cell 1).trans (rc_g1 _ _ _)
          have c2 := (hM2.cell 2).trans (rc_g2 _ _ _)
          clear hb2
          go_wp2_with fail
          go_quiet ((first
            | (go_at_call 21; exact Calls.quiet_of_same (err_any w.heap.size ⟨s, up, ue⟩ _ (hR2.drew ⟨_, rfl⟩)))
            | (go_at_call 22; exact Calls.quiet_of_same (at_any w.heap.size ⟨s, up, ue⟩ _ (hR2.drew ⟨_, rfl⟩)))
            | (go_at_call 23; exact Calls.quiet_of (left_quiet w.heap.size ⟨s, up, ue⟩ _ _ hR2 hok hul))))
          clear c1 c2
          go_wp2_with fail
          go_roundw
          case rel => exact ⟨i + 1, by omega, by omega, by go_num, below_draws hBs _, by rw [HS.out]; exact hR2.drew ⟨_, rfl⟩, by rw [HS.out]; exact hM2.drewN _⟩
          case measure => simp [intOf]; omega
      · have hd2 : decide ((i : Int) < 200) = false := decide_eq_false (by omega)
        go_wp2_with fail
        go_ret
        exact ⟨rfl, hBl⟩
    · have hd2 : decide ((i : Int) < (len : Int)) = false := decide_eq_false (by omega)
      go_wp2_with fail
      go_ret
      exact ⟨rfl, hBl⟩
set_option maxRecDepth 100000 in
set_option maxHeartbeats 2000000 in
theorem reads_zero (l : List UInt8) (a0 : Option Addr) (cap : Nat) (w : World) (hG : Glob w) :
    Calls Tryd.prog 5 #[.string ⟨l.toArray⟩, .slice a0 0 cap] w fun e w' => e = .returned (.bool true) ∧ Below w.heap.size w w' := by
  have hl := fewL_length l
  have HFEW := few_any l w
  have HNEW := newr_any (fewL l) w
  have HAW := fun w (hG : Glob w) => awake_any w hG
  generalize fewL l = x at *
  go_enter Tryd.func5, Tryd.ntmps5
  go_wp2_with (first
    | (go_at_call 13; refine HFEW.mono ?_; rintro e w' ⟨rfl, hw'⟩; have hw2' := hw'.symm; subst hw2'; clear hw')
    | (go_at_call 19; refine HNEW.mono ?_; rintro e w1 ⟨rfl, hw1, hR1⟩)
    | (go_at_call 9; refine (HAW _ (hG.belowSize hw1)).mono ?_; rintro e w2 ⟨rfl, hw2⟩; have hl2 := hw2.size; have hl1 := hR1.blk.lt; replace hR1 := hR1.below hw2)
    | (with_reducible refine at_list ?_; first
      | (refine wpList_build (o := ⟨some 21, _, _, _, _, _⟩) rfl _ _ rfl (by rw [show Tryd.prog.built 39 _ = _ from built39 x]; rfl) ?_)
      | (refine wpList_allocRow (op := ⟨some 7, _, _, _, _, _⟩) rfl _ rfl _ z39.1 ?_; intro w3 hw3 hs3 hz3; replace hs3 := hs3.symm; replace hR1 := hR1.below hw3)
      | (refine wpList_storeRow (op := ⟨none, .store 39 (.tmp 7) (.tmp 21), _, _, _, _⟩) rfl _ _ _ rfl w2.heap.size (rc x 0 0) rfl rfl _ _ hz3 (by rw [rc_size, rc_size]) (by rw [rc_size]; exact z39.2) (rc_one _ _ _) ?_; intro w4 hg4 hs4 hz4)))
  have hB1 : Below w.heap.size w w1 := hw1
  have hB2 : Below w.heap.size w w2 := hB1.trans (hw2.mono hB1.size)
  have hB3 : Below w.heap.size w w3 := hB2.trans (hw3.mono hB2.size)
  have hB4 : Below w.heap.size w w4 := hB3.trans (below_of_grown hg4 hB2.size hB3.size)
  clear hB1 hB2 hB3 hw1 hw2 hw3 hg4 hs4 hs3 hl1 hl2 hR1 hz4 HNEW HFEW HAW
  go_loopw [8] (fun v8 wl => v8 = .int .i64 0 ∧ Below w.heap.size w wl) (fun _ _ => 0)
  case atStart => exact ⟨rfl, hB4⟩
  case round =>
    obtain ⟨rfl, hBl⟩ := hrel
    clear hB4
    go_wp2_with fail
    go_ret
    exact ⟨rfl, hBl⟩
end Go.Proofs.YtaccklbijihppaaDoor
