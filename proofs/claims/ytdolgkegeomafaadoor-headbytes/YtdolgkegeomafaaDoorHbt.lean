/- What HeadBytes does. -/
import Derived.Test.YtdolgkegeomafaaDoorHht
import Derived.Deep.RegionHeld3
namespace Go.Proofs.YtdolgkegeomafaaDoor
open Go Go.RowKit
theorem run_loadRow {P : Program} {op : Oper} {a : Act} {w : World} (ty : TypeId) (x : Operand) (ho : op.op = .load ty x) (b : Nat) (hx : a.eval x = .pointer (some ⟨b, 0, none⟩))
    (c : Array Value) (t : TypeId) (hb : Blk w b c t) (d : TypeDesc) (hu : P.underlying ty = some d) (hd : d.isRow = true) (hi : (P.info? ty).map (·.size) = some c.size) :
    (execOp a.eval op).run P w = .ok (.value (.agg c)) w := by
  unfold execOp
  simp only [ho, hx]
  simp [Instr.loadAt, Instr.sureAddr, hb.loadVar d hu hd hi]
theorem run_loadCellB {P : Program} {op : Oper} {a : Act} {w : World} (ty : TypeId) (x : Operand) (ho : op.op = .load ty x) (b o : Nat) (hx : a.eval x = .pointer (some ⟨b, o, none⟩))
    (c : Array Value) (t : TypeId) (hb : Blk w b c t) (d : TypeDesc) (hu : P.underlying ty = some d) (hd : d.isRow = false) (v : Value) (hv : c[o]? = some v) :
    (execOp a.eval op).run P w = .ok (.value v) w := by
  have hc : w.cell? ⟨b, o, none⟩ = some v := (hb.cell o).trans hv
  unfold execOp
  simp only [ho, hx]
  simp [Instr.loadAt, Instr.sureAddr, Sem.run_bind, loadVar, isAgg_run hu hd, hc, go_sem]
theorem mkAppx (x : List UInt8) : (ByteArray.mk x.toArray ++ ByteArray.mk #[120]) = ByteArray.mk (x ++ [120]).toArray := by
  apply ByteArray.ext
  simp
theorem left_one (b : Nat) (tb : List UInt8) (w : World) (h : RD w b ⟨tb ++ [120], tb.length, 0⟩) (hl : tb.length ≤ 1000) : Calls Tryd.prog 19 #[.pointer (some ⟨b, 0, none⟩)] w fun e w' => e = .returned (.int .i64 1) ∧ Draws w w' := by
  have hlx : (tb ++ [120]).length = tb.length + 1 := by simp
  refine (left_any b ⟨tb ++ [120], tb.length, 0⟩ w h (by show tb.length ≤ (tb ++ [120]).length; omega) (by show (tb ++ [120]).length ≤ _; omega)).mono ?_
  rintro e w' ⟨rfl, hD⟩
  refine ⟨?_, hD⟩
  show Ending.returned (.int .i64 (((tb ++ [120]).length : Int) - (tb.length : Nat))) = _
  rw [hlx, show ((tb.length + 1 : Nat) : Int) - (tb.length : Nat) = 1 by omega]
section
attribute [local go_sem] Oper.semAt_some mkAppx
set_option maxRecDepth 100000 in
set_option maxHeartbeats 4000000 in
/-- A header that may not be, of at most forty that take part. -/
theorem hbytes_bad (ht : Nat) (p t s : List UInt8) (l : List Int) (hbad : ¬ okH ⟨ht, p, t, s, l⟩ = true) (hl : l.length ≤ 40) (a : Option Addr) (cap : Nat) (w : World) (h : IA w a l) :
    Calls Tryd.prog 3 #[.agg (hA ht p t s (.slice a l.length cap))] w fun e w' => e = .returned (.bool true) ∧ Below w.heap.size w w' := by
  have HE := fun w' (k : Below w.heap.size w w') => encodeH_any ⟨ht, p, t, s, l⟩ a cap w' (h.below k)
  have HC := fun w' (k : Below w.heap.size w w') => checkH_any ⟨ht, p, t, s, l⟩ a cap w' (h.below k)
  have HF := fun w => refH_any ht p t s a l.length cap w
  have HK := fun w' (k : Below w.heap.size w w') => rcheckH_any ⟨ht, p, t, s, l⟩ a cap w' (h.below k)
  have HAw := fun w => awakeH_any w
  obtain ⟨B, hB0⟩ : ∃ B, okM l = B := ⟨_, rfl⟩
  have HM := fun w' (k : Below w.heap.size w w') => members_any l a cap w' (h.below k) B hB0
  have HRM := fun w' (k : Below w.heap.size w w') => rmembers_any l a cap w' (h.below k) B hB0
  clear hB0
  have hnk : ¬ OkH ⟨ht, p, t, s, l⟩ := fun k => hbad (okH_iff.2 k)
  rw [show encH ⟨ht, p, t, s, l⟩ = [] from if_neg hbad, chkH_not hnk] at HE
  rw [chkH_not hnk] at HC HK
  clear hnk hbad
  change ∀ w', Below w.heap.size w w' → Calls Tryd.prog 4 #[.agg (hA ht p t s (.slice a l.length cap))] w' _ at HE
  change ∀ w', Below w.heap.size w w' → Calls Tryd.prog 8 #[.agg (hA ht p t s (.slice a l.length cap))] w' _ at HC
  change ∀ w', Below w.heap.size w w' → Calls Tryd.prog 5 #[.agg (hA ht p t s (.slice a l.length cap))] w' _ at HK
  obtain ⟨C, hC⟩ : ∃ C : Int, Hid (C = 80) := ⟨80, rfl⟩
  rw [show (80 : Int) = C from hC.out.symm] at HE HC HK
  have hC0 : (C != 0) = true := by rw [hC.out]; decide
  have hd40 : decide (40 < (l.length : Int)) = false := decide_eq_false (by omega)
  clear h
  go_enter Tryd.func3, Tryd.ntmps3
  go_wp2_with (first
    | (go_at_call 4; refine (HE _ HB).mono ?_; rintro e w2 ⟨rfl, hw2⟩; clear HE; replace h1 := h1.belowSize hw2; replace HB := HB.trans (hw2.mono HB.size); clear hw2)
    | (go_at_call 6; refine (HF _).mono ?_; rintro e w3 ⟨rfl, hw3⟩; replace h1 := h1.belowSize hw3; replace HB := HB.trans (hw3.mono HB.size); clear hw3)
    | (go_at_call 5; refine (HK _ HB).mono ?_; rintro e w4 ⟨rfl, hw4⟩; clear HK; replace h1 := h1.belowSize hw4; replace HB := HB.trans (hw4.mono HB.size); clear hw4)
    | (with_reducible refine at_list ?_; first
      | (refine wpList_boxRow (op := ⟨some 1, _, _, _, _, _⟩) rfl _ _ rfl _ rfl ?_; intro w1 hw1 hs1 h1; replace hs1 := hs1.symm; have HB := hw1; clear hw1; have c4 := (h1.cell 4).trans (hA_g4 _ _ _ _ _))
      | (refine wpList_loadRow (op := ⟨some 20, _, _, _, _, _⟩) rfl _ _ rfl w.heap.size rfl _ _ h1 _ Tryd.underlying25 rfl (by rw [hA_size]; exact zH.2) ?_)
      | (refine wpList_loadRow (op := ⟨some 24, _, _, _, _, _⟩) rfl _ _ rfl w.heap.size rfl _ _ h1 _ Tryd.underlying25 rfl (by rw [hA_size]; exact zH.2) ?_)))
  clear HF
  replace HB := HB.drew
  refine wp_region_held_drew (S := fun w' => Blk w' w.heap.size (hA ht p t s (.slice a l.length cap)) 25) (by kernel_rfl) h1.drew (fun hHeld => ?_)
  clear h1
  refine wpAnyH_ready (rs := [0]) (by kernel_rfl) (by simp) ?_
  refine AllReadyH.cons (o := ⟨some 27, .call ⟨.value (.func 7), #[], #[]⟩, _, _, _, _⟩) rfl (fun K hK => ?_) AllReadyH.nil
  rw [if_pos (by rfl)]
  go_simp
  refine (HAw _).mono ?_
  rintro e wa ⟨rfl, hwa⟩
  have hHx := hHeld.belowSize hwa
  refine hK.out _ _ hHx (fun _ => ?_)
  clear hK K hHeld
  have hHeld := hHx
  clear hHx
  replace HB := HB.trans (hwa.mono HB.size)
  try simp only [Act.put, List.setIfInBounds_toArray, List.set_cons_zero, List.set_cons_succ]
  refine wpAnyH_take (i := 1) (oi := ⟨some 28, _, _, _, _, _⟩) (v := .bool false) rfl (by kernel_rfl) (by kernel_rfl) (by kernel_rfl) (fun _ _ _ h => h) (Or.inl ⟨by rfl, fun w hSw => by go_simp⟩) hHeld ?_
  refine wpAnyH_take (i := 2) (oi := ⟨some 29, _, _, _, _, _⟩) (v := .bool false) rfl (by kernel_rfl) (by kernel_rfl) (by kernel_rfl) (fun _ _ _ h => h) (Or.inl ⟨by rfl, fun w hSw => by go_simp⟩) hHeld ?_
  simp only [Act.put, List.setIfInBounds_toArray, List.set_cons_zero, List.set_cons_succ]
  refine wpAnyH_take (i := 3) (oi := ⟨some 30, _, _, _, _, _⟩) (v := .agg (hA ht p t s (.slice a l.length cap))) rfl (by kernel_rfl) (by kernel_rfl) (by kernel_rfl) (fun _ _ _ h => h) (Or.inl ⟨by rfl, fun w hSw => run_loadRow _ _ rfl _ rfl _ _ hSw _ Tryd.underlying25 rfl (by rw [hA_size]; exact zH.2)⟩) hHeld ?_
  refine wpAnyH_take (i := 5) (oi := ⟨some 32, _, _, _, _, _⟩) (v := .int .i64 C) rfl (by kernel_rfl) (by kernel_rfl) (by kernel_rfl) (fun _ _ _ h => h) (Or.inl ⟨by rfl, fun w hSw => by go_simp⟩) hHeld ?_
  simp only [Act.put, List.setIfInBounds_toArray, List.set_cons_zero, List.set_cons_succ]
  refine wpAnyH_ready (rs := [4]) (by kernel_rfl) (by simp) ?_
  refine AllReadyH.cons (o := ⟨some 31, .call ⟨.value (.func 8), #[.tmp 30], #[25]⟩, _, _, _, _⟩) rfl (fun K hK => ?_) AllReadyH.nil
  rw [if_pos (by rfl)]
  go_simp
  refine (HC _ HB).mono ?_
  rintro e wb ⟨rfl, hwb⟩
  have hHx := hHeld.belowSize hwb
  refine hK.out _ _ hHx (fun _ => ?_)
  clear hK K hHeld
  have hHeld := hHx
  clear hHx
  replace HB := HB.trans (hwb.mono HB.size)
  try simp only [Act.put, List.setIfInBounds_toArray, List.set_cons_zero, List.set_cons_succ]
  refine wpAnyH_take (i := 6) (oi := ⟨some 33, _, _, _, _, _⟩) (v := .bool false) rfl (by kernel_rfl) (by kernel_rfl) (by kernel_rfl) (fun _ _ _ h => h) (Or.inl ⟨by rfl, fun w hSw => by go_simp⟩) hHeld ?_
  refine wpAnyH_take (i := 7) (oi := ⟨some 34, _, _, _, _, _⟩) (v := .bool false) rfl (by kernel_rfl) (by kernel_rfl) (by kernel_rfl) (fun _ _ _ h => h) (Or.inl ⟨by rfl, fun w hSw => by go_simp⟩) hHeld ?_
  refine wpAnyH_take (i := 8) (oi := ⟨some 35, _, _, _, _, _⟩) (v := .bool false) rfl (by kernel_rfl) (by kernel_rfl) (by kernel_rfl) (fun _ _ _ h => h) (Or.inl ⟨by rfl, fun w hSw => by go_simp⟩) hHeld ?_
  simp only [Act.put, List.setIfInBounds_toArray, List.set_cons_zero, List.set_cons_succ]
  refine wpAnyH_take (i := 9) (oi := ⟨some 36, _, _, _, _, _⟩) (v := .int .i64 C) rfl (by kernel_rfl) (by kernel_rfl) (by kernel_rfl) (fun _ _ _ h => h) (Or.inl ⟨by rfl, fun w hSw => by go_simp⟩) hHeld ?_
  refine wpAnyH_take (i := 10) (oi := ⟨some 37, _, _, _, _, _⟩) (v := .int .i64 C) rfl (by kernel_rfl) (by kernel_rfl) (by kernel_rfl) (fun _ _ _ h => h) (Or.inl ⟨by rfl, fun w hSw => by go_simp⟩) hHeld ?_
  simp only [Act.put, List.setIfInBounds_toArray, List.set_cons_zero, List.set_cons_succ]
  refine wpAnyH_take (i := 11) (oi := ⟨some 38, _, _, _, _, _⟩) (v := .bool false) rfl (by kernel_rfl) (by kernel_rfl) (by kernel_rfl) (fun _ _ _ h => h) (Or.inl ⟨by rfl, fun w hSw => by go_simp⟩) hHeld ?_
  refine wpAnyH_take (i := 12) (oi := ⟨some 39, _, _, _, _, _⟩) (v := .bool false) rfl (by kernel_rfl) (by kernel_rfl) (by kernel_rfl) (fun _ _ _ h => h) (Or.inl ⟨by rfl, fun w hSw => by go_simp⟩) hHeld ?_
  refine wpAnyH_take (i := 13) (oi := ⟨some 40, _, _, _, _, _⟩) (v := .bool false) rfl (by kernel_rfl) (by kernel_rfl) (by kernel_rfl) (fun _ _ _ h => h) (Or.inl ⟨by rfl, fun w hSw => by go_simp⟩) hHeld ?_
  simp only [Act.put, List.setIfInBounds_toArray, List.set_cons_zero, List.set_cons_succ]
  refine wpAnyH_take (i := 14) (oi := ⟨some 41, _, _, _, _, _⟩) (v := .pointer (some ⟨w.heap.size, 4, none⟩)) rfl (by kernel_rfl) (by kernel_rfl) (by kernel_rfl) (fun _ _ _ h => h) (Or.inl ⟨by rfl, fun w hSw => by go_simp⟩) hHeld ?_
  refine wpAnyH_take (i := 17) (oi := ⟨some 44, _, _, _, _, _⟩) (v := .pointer (some ⟨w.heap.size, 4, none⟩)) rfl (by kernel_rfl) (by kernel_rfl) (by kernel_rfl) (fun _ _ _ h => h) (Or.inl ⟨by rfl, fun w hSw => by go_simp⟩) hHeld ?_
  simp only [Act.put, List.setIfInBounds_toArray, List.set_cons_zero, List.set_cons_succ]
  refine wpAnyH_take (i := 15) (oi := ⟨some 42, _, _, _, _, _⟩) (v := .slice a l.length cap) rfl (by kernel_rfl) (by kernel_rfl) (by kernel_rfl) (fun _ _ _ h => h) (Or.inl ⟨by rfl, fun w hSw => run_loadCellB _ _ rfl _ 4 rfl _ _ hSw _ Tryd.underlying23 rfl _ (hA_g4 _ _ _ _ _)⟩) hHeld ?_
  refine wpAnyH_take (i := 18) (oi := ⟨some 45, _, _, _, _, _⟩) (v := .slice a l.length cap) rfl (by kernel_rfl) (by kernel_rfl) (by kernel_rfl) (fun _ _ _ h => h) (Or.inl ⟨by rfl, fun w hSw => run_loadCellB _ _ rfl _ 4 rfl _ _ hSw _ Tryd.underlying23 rfl _ (hA_g4 _ _ _ _ _)⟩) hHeld ?_
  simp only [Act.put, List.setIfInBounds_toArray, List.set_cons_zero, List.set_cons_succ]
  refine wpAnyH_ready (rs := [16]) (by kernel_rfl) (by simp) ?_
  refine AllReadyH.cons (o := ⟨some 43, .call ⟨.value (.func 9), #[.tmp 42], #[23]⟩, _, _, _, _⟩) rfl (fun K hK => ?_) AllReadyH.nil
  rw [if_pos (by rfl)]
  go_simp
  refine (HM _ HB).mono ?_
  rintro e wc ⟨rfl, hwc⟩
  have hw2' := hwc.symm
  subst hw2'
  clear hwc
  refine hK.out _ _ hHeld (fun _ => ?_)
  clear hK K
  refine wpAnyH_ready (rs := [19]) (by kernel_rfl) (by simp) ?_
  refine AllReadyH.cons (o := ⟨some 46, .call ⟨.value (.func 10), #[.tmp 45], #[23]⟩, _, _, _, _⟩) rfl (fun K hK => ?_) AllReadyH.nil
  rw [if_pos (by rfl)]
  go_simp
  refine (HRM _ HB).mono ?_
  rintro e wd ⟨rfl, hwd⟩
  have hHx := hHeld.belowSize hwd
  refine hK.out _ _ hHx (fun _ => ?_)
  clear hK K hHeld
  have hHeld := hHx
  clear hHx
  replace HB := HB.trans (hwd.mono HB.size)
  try simp only [Act.put, List.setIfInBounds_toArray, List.set_cons_zero, List.set_cons_succ]
  refine wpAnyH_take (i := 20) (oi := ⟨some 47, _, _, _, _, _⟩) (v := .bool false) rfl (by kernel_rfl) (by kernel_rfl) (by kernel_rfl) (fun _ _ _ h => h) (Or.inl ⟨by rfl, fun w hSw => by go_simp⟩) hHeld ?_
  refine wpAnyH_take (i := 21) (oi := ⟨some 48, _, _, _, _, _⟩) (v := .bool false) rfl (by kernel_rfl) (by kernel_rfl) (by kernel_rfl) (fun _ _ _ h => h) (Or.inl ⟨by rfl, fun w hSw => by go_simp⟩) hHeld ?_
  refine wpAnyH_done (by kernel_rfl) ?_ _
  simp only [Act.put]
  have h1 := hHeld
  clear hHeld HM HRM HC HAw
  go_simp
  go_wp2_with fail
  go_ret
  exact ⟨rfl, HB⟩
set_option maxRecDepth 100000 in
set_option maxHeartbeats 4000000 in
/-- A header of more than forty that take part. -/
theorem hbytes_cut (ht : Nat) (p t s : List UInt8) (L : List Int) (hL : 40 < L.length) (a : Option Addr) (cap : Nat) (hcap : L.length ≤ cap) (w : World) (h' : IA w a L) :
    Calls Tryd.prog 3 #[.agg (hA ht p t s (.slice a L.length cap))] w fun e w' => e = .returned (.bool true) ∧ Below w.heap.size w w' := by
  obtain ⟨l, hl0⟩ : ∃ l, l = L.take 40 := ⟨_, rfl⟩
  have h : IA w a l := fun i x hx => h' i x (by
    rw [hl0, List.getElem?_take] at hx
    split at hx
    · exact hx
    · cases hx)
  have hll : l.length = 40 := by rw [hl0, List.length_take]; omega
  have hbad : ¬ okH ⟨ht, p, t, s, l⟩ = true := fun k => by
    have := (okH_iff.1 k).m.len
    dsimp only at this
    omega
  clear h'
  obtain ⟨g, o, rfl⟩ := h.ex (by omega)
  have HE := fun w' (k : Below w.heap.size w w') => encodeH_any ⟨ht, p, t, s, l⟩ (some ⟨g, o, none⟩) cap w' (h.below k)
  have HC := fun w' (k : Below w.heap.size w w') => checkH_any ⟨ht, p, t, s, l⟩ (some ⟨g, o, none⟩) cap w' (h.below k)
  have HF := fun w => refH_any ht p t s (some ⟨g, o, none⟩) l.length cap w
  have HK := fun w' (k : Below w.heap.size w w') => rcheckH_any ⟨ht, p, t, s, l⟩ (some ⟨g, o, none⟩) cap w' (h.below k)
  have HAw := fun w => awakeH_any w
  obtain ⟨B, hB0⟩ : ∃ B, okM l = B := ⟨_, rfl⟩
  have HM := fun w' (k : Below w.heap.size w w') => members_any l (some ⟨g, o, none⟩) cap w' (h.below k) B hB0
  have HRM := fun w' (k : Below w.heap.size w w') => rmembers_any l (some ⟨g, o, none⟩) cap w' (h.below k) B hB0
  clear hB0
  have hnk : ¬ OkH ⟨ht, p, t, s, l⟩ := fun k => hbad (okH_iff.2 k)
  rw [show encH ⟨ht, p, t, s, l⟩ = [] from if_neg hbad, chkH_not hnk] at HE
  rw [chkH_not hnk] at HC HK
  clear hnk hbad
  change ∀ w', Below w.heap.size w w' → Calls Tryd.prog 4 #[.agg (hA ht p t s (.slice (some ⟨g, o, none⟩) l.length cap))] w' _ at HE
  change ∀ w', Below w.heap.size w w' → Calls Tryd.prog 8 #[.agg (hA ht p t s (.slice (some ⟨g, o, none⟩) l.length cap))] w' _ at HC
  change ∀ w', Below w.heap.size w w' → Calls Tryd.prog 5 #[.agg (hA ht p t s (.slice (some ⟨g, o, none⟩) l.length cap))] w' _ at HK
  obtain ⟨C, hC⟩ : ∃ C : Int, Hid (C = 80) := ⟨80, rfl⟩
  rw [show (80 : Int) = C from hC.out.symm] at HE HC HK
  have hC0 : (C != 0) = true := by rw [hC.out]; decide
  have hd40 : decide (40 < (L.length : Int)) = true := decide_eq_true (by omega)
  have hc1 : (40 : Int) ≤ (cap : Int) := by omega
  have hc2 : 40 ≤ cap := by omega
  have hl40 : Hid (l.length = 40) := hll
  clear h hl0 hll
  go_enter Tryd.func3, Tryd.ntmps3
  go_wp2_with (first
    | (go_at_call 4; refine (HE _ HB).mono ?_; rintro e w2 ⟨rfl, hw2⟩; clear HE; replace h1 := h1.belowSize hw2; replace HB := HB.trans (hw2.mono HB.size); clear hw2)
    | (go_at_call 6; refine (HF _).mono ?_; rintro e w3 ⟨rfl, hw3⟩; replace h1 := h1.belowSize hw3; replace HB := HB.trans (hw3.mono HB.size); clear hw3)
    | (go_at_call 5; refine (HK _ HB).mono ?_; rintro e w4 ⟨rfl, hw4⟩; clear HK; replace h1 := h1.belowSize hw4; replace HB := HB.trans (hw4.mono HB.size); clear hw4)
    | (with_reducible refine at_list ?_; first
      | (refine wpList_boxRow (op := ⟨some 1, _, _, _, _, _⟩) rfl _ _ rfl _ rfl ?_; intro w1 hw1 hs1 h1; replace hs1 := hs1.symm; have HB := hw1; clear hw1; have c4 := (h1.cell 4).trans (hA_g4 _ _ _ _ _))
      | (refine wpList_storeCell (op := ⟨none, .store 23 (.tmp 18) (.tmp 17), _, _, _, _⟩) rfl _ _ _ rfl w.heap.size 4 rfl (.slice (some ⟨g, o, none⟩) 40 cap) rfl _ _ h1 iSlI rfl rfl (by rw [hA_size]; decide) ?_; intro w1' hg1 hs1' hb1; rw [hA_set4] at hb1; clear hs1'; replace HB := HB.trans (below_of_grown hg1 (Nat.le_refl _) HB.size); rw [← hl40.out] at hb1; replace h1 := hb1; clear hg1 c4 hb1)
      | (refine wpList_loadRow (op := ⟨some 20, _, _, _, _, _⟩) rfl _ _ rfl w.heap.size rfl _ _ h1 _ Tryd.underlying25 rfl (by rw [hA_size]; exact zH.2) ?_)
      | (refine wpList_loadRow (op := ⟨some 24, _, _, _, _, _⟩) rfl _ _ rfl w.heap.size rfl _ _ h1 _ Tryd.underlying25 rfl (by rw [hA_size]; exact zH.2) ?_)))
  clear HF
  replace HB := HB.drew
  refine wp_region_held_drew (S := fun w' => Blk w' w.heap.size (hA ht p t s (.slice (some ⟨g, o, none⟩) l.length cap)) 25) (by kernel_rfl) h1.drew (fun hHeld => ?_)
  clear h1
  refine wpAnyH_ready (rs := [0]) (by kernel_rfl) (by simp) ?_
  refine AllReadyH.cons (o := ⟨some 27, .call ⟨.value (.func 7), #[], #[]⟩, _, _, _, _⟩) rfl (fun K hK => ?_) AllReadyH.nil
  rw [if_pos (by rfl)]
  go_simp
  refine (HAw _).mono ?_
  rintro e wa ⟨rfl, hwa⟩
  have hHx := hHeld.belowSize hwa
  refine hK.out _ _ hHx (fun _ => ?_)
  clear hK K hHeld
  have hHeld := hHx
  clear hHx
  replace HB := HB.trans (hwa.mono HB.size)
  try simp only [Act.put, List.setIfInBounds_toArray, List.set_cons_zero, List.set_cons_succ]
  refine wpAnyH_take (i := 1) (oi := ⟨some 28, _, _, _, _, _⟩) (v := .bool false) rfl (by kernel_rfl) (by kernel_rfl) (by kernel_rfl) (fun _ _ _ h => h) (Or.inl ⟨by rfl, fun w hSw => by go_simp⟩) hHeld ?_
  refine wpAnyH_take (i := 2) (oi := ⟨some 29, _, _, _, _, _⟩) (v := .bool false) rfl (by kernel_rfl) (by kernel_rfl) (by kernel_rfl) (fun _ _ _ h => h) (Or.inl ⟨by rfl, fun w hSw => by go_simp⟩) hHeld ?_
  simp only [Act.put, List.setIfInBounds_toArray, List.set_cons_zero, List.set_cons_succ]
  refine wpAnyH_take (i := 3) (oi := ⟨some 30, _, _, _, _, _⟩) (v := .agg (hA ht p t s (.slice (some ⟨g, o, none⟩) l.length cap))) rfl (by kernel_rfl) (by kernel_rfl) (by kernel_rfl) (fun _ _ _ h => h) (Or.inl ⟨by rfl, fun w hSw => run_loadRow _ _ rfl _ rfl _ _ hSw _ Tryd.underlying25 rfl (by rw [hA_size]; exact zH.2)⟩) hHeld ?_
  refine wpAnyH_take (i := 5) (oi := ⟨some 32, _, _, _, _, _⟩) (v := .int .i64 C) rfl (by kernel_rfl) (by kernel_rfl) (by kernel_rfl) (fun _ _ _ h => h) (Or.inl ⟨by rfl, fun w hSw => by go_simp⟩) hHeld ?_
  simp only [Act.put, List.setIfInBounds_toArray, List.set_cons_zero, List.set_cons_succ]
  refine wpAnyH_ready (rs := [4]) (by kernel_rfl) (by simp) ?_
  refine AllReadyH.cons (o := ⟨some 31, .call ⟨.value (.func 8), #[.tmp 30], #[25]⟩, _, _, _, _⟩) rfl (fun K hK => ?_) AllReadyH.nil
  rw [if_pos (by rfl)]
  go_simp
  refine (HC _ HB).mono ?_
  rintro e wb ⟨rfl, hwb⟩
  have hHx := hHeld.belowSize hwb
  refine hK.out _ _ hHx (fun _ => ?_)
  clear hK K hHeld
  have hHeld := hHx
  clear hHx
  replace HB := HB.trans (hwb.mono HB.size)
  try simp only [Act.put, List.setIfInBounds_toArray, List.set_cons_zero, List.set_cons_succ]
  refine wpAnyH_take (i := 6) (oi := ⟨some 33, _, _, _, _, _⟩) (v := .bool false) rfl (by kernel_rfl) (by kernel_rfl) (by kernel_rfl) (fun _ _ _ h => h) (Or.inl ⟨by rfl, fun w hSw => by go_simp⟩) hHeld ?_
  refine wpAnyH_take (i := 7) (oi := ⟨some 34, _, _, _, _, _⟩) (v := .bool false) rfl (by kernel_rfl) (by kernel_rfl) (by kernel_rfl) (fun _ _ _ h => h) (Or.inl ⟨by rfl, fun w hSw => by go_simp⟩) hHeld ?_
  refine wpAnyH_take (i := 8) (oi := ⟨some 35, _, _, _, _, _⟩) (v := .bool false) rfl (by kernel_rfl) (by kernel_rfl) (by kernel_rfl) (fun _ _ _ h => h) (Or.inl ⟨by rfl, fun w hSw => by go_simp⟩) hHeld ?_
  simp only [Act.put, List.setIfInBounds_toArray, List.set_cons_zero, List.set_cons_succ]
  refine wpAnyH_take (i := 9) (oi := ⟨some 36, _, _, _, _, _⟩) (v := .int .i64 C) rfl (by kernel_rfl) (by kernel_rfl) (by kernel_rfl) (fun _ _ _ h => h) (Or.inl ⟨by rfl, fun w hSw => by go_simp⟩) hHeld ?_
  refine wpAnyH_take (i := 10) (oi := ⟨some 37, _, _, _, _, _⟩) (v := .int .i64 C) rfl (by kernel_rfl) (by kernel_rfl) (by kernel_rfl) (fun _ _ _ h => h) (Or.inl ⟨by rfl, fun w hSw => by go_simp⟩) hHeld ?_
  simp only [Act.put, List.setIfInBounds_toArray, List.set_cons_zero, List.set_cons_succ]
  refine wpAnyH_take (i := 11) (oi := ⟨some 38, _, _, _, _, _⟩) (v := .bool false) rfl (by kernel_rfl) (by kernel_rfl) (by kernel_rfl) (fun _ _ _ h => h) (Or.inl ⟨by rfl, fun w hSw => by go_simp⟩) hHeld ?_
  refine wpAnyH_take (i := 12) (oi := ⟨some 39, _, _, _, _, _⟩) (v := .bool false) rfl (by kernel_rfl) (by kernel_rfl) (by kernel_rfl) (fun _ _ _ h => h) (Or.inl ⟨by rfl, fun w hSw => by go_simp⟩) hHeld ?_
  refine wpAnyH_take (i := 13) (oi := ⟨some 40, _, _, _, _, _⟩) (v := .bool false) rfl (by kernel_rfl) (by kernel_rfl) (by kernel_rfl) (fun _ _ _ h => h) (Or.inl ⟨by rfl, fun w hSw => by go_simp⟩) hHeld ?_
  simp only [Act.put, List.setIfInBounds_toArray, List.set_cons_zero, List.set_cons_succ]
  refine wpAnyH_take (i := 14) (oi := ⟨some 41, _, _, _, _, _⟩) (v := .pointer (some ⟨w.heap.size, 4, none⟩)) rfl (by kernel_rfl) (by kernel_rfl) (by kernel_rfl) (fun _ _ _ h => h) (Or.inl ⟨by rfl, fun w hSw => by go_simp⟩) hHeld ?_
  refine wpAnyH_take (i := 17) (oi := ⟨some 44, _, _, _, _, _⟩) (v := .pointer (some ⟨w.heap.size, 4, none⟩)) rfl (by kernel_rfl) (by kernel_rfl) (by kernel_rfl) (fun _ _ _ h => h) (Or.inl ⟨by rfl, fun w hSw => by go_simp⟩) hHeld ?_
  simp only [Act.put, List.setIfInBounds_toArray, List.set_cons_zero, List.set_cons_succ]
  refine wpAnyH_take (i := 15) (oi := ⟨some 42, _, _, _, _, _⟩) (v := .slice (some ⟨g, o, none⟩) l.length cap) rfl (by kernel_rfl) (by kernel_rfl) (by kernel_rfl) (fun _ _ _ h => h) (Or.inl ⟨by rfl, fun w hSw => run_loadCellB _ _ rfl _ 4 rfl _ _ hSw _ Tryd.underlying23 rfl _ (hA_g4 _ _ _ _ _)⟩) hHeld ?_
  refine wpAnyH_take (i := 18) (oi := ⟨some 45, _, _, _, _, _⟩) (v := .slice (some ⟨g, o, none⟩) l.length cap) rfl (by kernel_rfl) (by kernel_rfl) (by kernel_rfl) (fun _ _ _ h => h) (Or.inl ⟨by rfl, fun w hSw => run_loadCellB _ _ rfl _ 4 rfl _ _ hSw _ Tryd.underlying23 rfl _ (hA_g4 _ _ _ _ _)⟩) hHeld ?_
  simp only [Act.put, List.setIfInBounds_toArray, List.set_cons_zero, List.set_cons_succ]
  refine wpAnyH_ready (rs := [16]) (by kernel_rfl) (by simp) ?_
  refine AllReadyH.cons (o := ⟨some 43, .call ⟨.value (.func 9), #[.tmp 42], #[23]⟩, _, _, _, _⟩) rfl (fun K hK => ?_) AllReadyH.nil
  rw [if_pos (by rfl)]
  go_simp
  refine (HM _ HB).mono ?_
  rintro e wc ⟨rfl, hwc⟩
  have hw2' := hwc.symm
  subst hw2'
  clear hwc
  refine hK.out _ _ hHeld (fun _ => ?_)
  clear hK K
  refine wpAnyH_ready (rs := [19]) (by kernel_rfl) (by simp) ?_
  refine AllReadyH.cons (o := ⟨some 46, .call ⟨.value (.func 10), #[.tmp 45], #[23]⟩, _, _, _, _⟩) rfl (fun K hK => ?_) AllReadyH.nil
  rw [if_pos (by rfl)]
  go_simp
  refine (HRM _ HB).mono ?_
  rintro e wd ⟨rfl, hwd⟩
  have hHx := hHeld.belowSize hwd
  refine hK.out _ _ hHx (fun _ => ?_)
  clear hK K hHeld
  have hHeld := hHx
  clear hHx
  replace HB := HB.trans (hwd.mono HB.size)
  try simp only [Act.put, List.setIfInBounds_toArray, List.set_cons_zero, List.set_cons_succ]
  refine wpAnyH_take (i := 20) (oi := ⟨some 47, _, _, _, _, _⟩) (v := .bool false) rfl (by kernel_rfl) (by kernel_rfl) (by kernel_rfl) (fun _ _ _ h => h) (Or.inl ⟨by rfl, fun w hSw => by go_simp⟩) hHeld ?_
  refine wpAnyH_take (i := 21) (oi := ⟨some 48, _, _, _, _, _⟩) (v := .bool false) rfl (by kernel_rfl) (by kernel_rfl) (by kernel_rfl) (fun _ _ _ h => h) (Or.inl ⟨by rfl, fun w hSw => by go_simp⟩) hHeld ?_
  refine wpAnyH_done (by kernel_rfl) ?_ _
  simp only [Act.put]
  have h1 := hHeld
  clear hHeld HM HRM HC HAw
  go_simp
  go_wp2_with fail
  go_ret
  exact ⟨rfl, HB⟩
set_option maxRecDepth 100000 in
set_option maxHeartbeats 8000000 in
theorem hbytes_good (ht : Nat) (p t s : List UInt8) (l : List Int) (hok : OkH ⟨ht, p, t, s, l⟩) (hh : ht < 18446744073709551616) (a : Option Addr) (cap : Nat) (w : World) (h : IA w a l) (hG : Sh.Glob w) :
    Calls Tryd.prog 3 #[.agg (hA ht p t s (.slice a l.length cap))] w fun e w' => e = .returned (.bool true) ∧ Below w.heap.size w w' := by
  have h16 : l.length ≤ 16 := hok.m.len
  have hle : (hB ⟨ht, p, t, s, l⟩).length = 105 + l.length := hB_len hok
  have HE := fun w' (k : Below w.heap.size w w') => encodeH_any ⟨ht, p, t, s, l⟩ a cap w' (h.below k)
  have HC := fun w' (k : Below w.heap.size w w') => checkH_any ⟨ht, p, t, s, l⟩ a cap w' (h.below k)
  have HF := fun w => refH_any ht p t s a l.length cap w
  have HK := fun w' (k : Below w.heap.size w w') => rcheckH_any ⟨ht, p, t, s, l⟩ a cap w' (h.below k)
  have HAw := fun w => awakeH_any w
  obtain ⟨B, hB0⟩ : ∃ B, okM l = B := ⟨_, rfl⟩
  have HM := fun w' (k : Below w.heap.size w w') => members_any l a cap w' (h.below k) B hB0
  have HRM := fun w' (k : Below w.heap.size w w') => rmembers_any l a cap w' (h.below k) B hB0
  clear hB0
  have HD := fun w => decodeH_at ⟨ht, p, t, s, l⟩ hok hh w
  have HN := fun w => neww_any w
  have HP := fun b w' (k : Below w.heap.size w w') (hb : w.heap.size ≤ b) (hW : WR w' b []) => putH_any ⟨ht, p, t, s, l⟩ hok a cap b [] w' w k hb h hW (by simp)
  have HNR := fun w => newr_any (hB ⟨ht, p, t, s, l⟩ ++ [120]) w
  have HT := fun b w (hR : RD w b ⟨hB ⟨ht, p, t, s, l⟩ ++ [120], ([] : List UInt8).length, 0⟩) => takeH_at b ⟨ht, p, t, s, l⟩ hok hh [] [120] (hB ⟨ht, p, t, s, l⟩ ++ [120]) rfl w hR (by rw [List.length_append, hle, List.length_singleton]; omega)
  rw [List.length_nil, Nat.zero_add] at HT
  have HRB := fun w' (k : Below w.heap.size w w') => rbytesH_any ⟨ht, p, t, s, l⟩ a cap w' (h.below k) hok hh
  have HAll := fun b w (hW : WR w b (hB ⟨ht, p, t, s, l⟩)) => wall_any b (hB ⟨ht, p, t, s, l⟩) w hW
  have HSm := fun a2 cap2 w' (k : Below w.heap.size w w') (h2 : IA w' a2 l) => sameH_p True ⟨ht, p, t, s, l⟩ ⟨ht, p, t, s, l⟩ a a2 cap cap2 w' (h.below k) h2 (Nat.le_trans h16 (by decide)) (by show True ↔ _; simp)
  have HLf := fun b w (hR : RD w b ⟨hB ⟨ht, p, t, s, l⟩ ++ [120], (hB ⟨ht, p, t, s, l⟩).length, 0⟩) => left_one b (hB ⟨ht, p, t, s, l⟩) w hR (by omega)
  have HID := fun w' (k : Below w.heap.size w w') => hashH_any ⟨ht, p, t, s, l⟩ hok a cap w' (h.below k) (hG.belowSize k)
  have HRI := fun w' (k : Below w.heap.size w w') => rhashH_any ⟨ht, p, t, s, l⟩ hok hh a cap w' (h.below k)
  rw [show encH ⟨ht, p, t, s, l⟩ = hB ⟨ht, p, t, s, l⟩ from if_pos (okH_iff.2 hok), chkH_zero hok] at HE
  rw [chkH_zero hok] at HC HK
  unfold TakeHP at HT
  unfold DecHP at HD
  dsimp only at HD HT HSm HID HRI
  change ∀ b w', Below w.heap.size w w' → w.heap.size ≤ b → WR w' b [] → Calls Tryd.prog 13 #[.pointer (some ⟨b, 0, none⟩), .agg (hA ht p t s (.slice a l.length cap))] w' _ at HP
  change ∀ w', Below w.heap.size w w' → Calls Tryd.prog 16 #[.agg (hA ht p t s (.slice a l.length cap))] w' _ at HRB
  clear hok hh hG h
  change ∀ w', Below w.heap.size w w' → Calls Tryd.prog 4 #[.agg (hA ht p t s (.slice a l.length cap))] w' _ at HE
  change ∀ w', Below w.heap.size w w' → Calls Tryd.prog 8 #[.agg (hA ht p t s (.slice a l.length cap))] w' _ at HC
  change ∀ w', Below w.heap.size w w' → Calls Tryd.prog 5 #[.agg (hA ht p t s (.slice a l.length cap))] w' _ at HK
  obtain ⟨C, hC⟩ : ∃ C : Int, Hid (C = 0) := ⟨0, rfl⟩
  generalize hB ⟨ht, p, t, s, l⟩ = tb at *
  generalize hD ⟨ht, p, t, s, l⟩ = ib at *
  have hd40 : decide (40 < (l.length : Int)) = false := decide_eq_false (by omega)
  have f120 : ¬ 9223372036854775807 < tb.length + 1 := by omega
  go_enter Tryd.func3, Tryd.ntmps3
  go_wp2_with (first
    | (go_at_call 4; refine (HE _ HB).mono ?_; rintro e w2 ⟨rfl, hw2⟩; clear HE; replace h1 := h1.belowSize hw2; replace HB := HB.trans (hw2.mono HB.size); clear hw2)
    | (go_at_call 6; refine (HF _).mono ?_; rintro e w3 ⟨rfl, hw3⟩; replace h1 := h1.belowSize hw3; replace HB := HB.trans (hw3.mono HB.size); clear hw3)
    | (go_at_call 5; refine (HK _ HB).mono ?_; rintro e w4 ⟨rfl, hw4⟩; clear HK; replace h1 := h1.belowSize hw4; replace HB := HB.trans (hw4.mono HB.size); clear hw4)
    | (with_reducible refine at_list ?_; first
      | (refine wpList_boxRow (op := ⟨some 1, _, _, _, _, _⟩) rfl _ _ rfl _ rfl ?_; intro w1 hw1 hs1 h1; replace hs1 := hs1.symm; have HB := hw1; clear hw1; have c4 := (h1.cell 4).trans (hA_g4 _ _ _ _ _))
      | (refine wpList_loadRow (op := ⟨some 20, _, _, _, _, _⟩) rfl _ _ rfl w.heap.size rfl _ _ h1 _ Tryd.underlying25 rfl (by rw [hA_size]; exact zH.2) ?_)
      | (refine wpList_loadRow (op := ⟨some 24, _, _, _, _, _⟩) rfl _ _ rfl w.heap.size rfl _ _ h1 _ Tryd.underlying25 rfl (by rw [hA_size]; exact zH.2) ?_)))
  replace HB := HB.drew
  refine wp_region_held_drew (S := fun w' => Blk w' w.heap.size (hA ht p t s (.slice a l.length cap)) 25) (by kernel_rfl) h1.drew (fun hHeld => ?_)
  clear h1
  refine wpAnyH_ready (rs := [0]) (by kernel_rfl) (by simp) ?_
  refine AllReadyH.cons (o := ⟨some 27, .call ⟨.value (.func 7), #[], #[]⟩, _, _, _, _⟩) rfl (fun K hK => ?_) AllReadyH.nil
  rw [if_pos (by rfl)]
  go_simp
  refine (HAw _).mono ?_
  rintro e wa ⟨rfl, hwa⟩
  have hHx := hHeld.belowSize hwa
  refine hK.out _ _ hHx (fun _ => ?_)
  clear hK K hHeld
  have hHeld := hHx
  clear hHx
  replace HB := HB.trans (hwa.mono HB.size)
  try simp only [Act.put, List.setIfInBounds_toArray, List.set_cons_zero, List.set_cons_succ]
  refine wpAnyH_take (i := 1) (oi := ⟨some 28, _, _, _, _, _⟩) (v := .bool false) rfl (by kernel_rfl) (by kernel_rfl) (by kernel_rfl) (fun _ _ _ h => h) (Or.inl ⟨by rfl, fun w hSw => by go_simp⟩) hHeld ?_
  refine wpAnyH_take (i := 2) (oi := ⟨some 29, _, _, _, _, _⟩) (v := .bool false) rfl (by kernel_rfl) (by kernel_rfl) (by kernel_rfl) (fun _ _ _ h => h) (Or.inl ⟨by rfl, fun w hSw => by go_simp⟩) hHeld ?_
  simp only [Act.put, List.setIfInBounds_toArray, List.set_cons_zero, List.set_cons_succ]
  refine wpAnyH_take (i := 3) (oi := ⟨some 30, _, _, _, _, _⟩) (v := .agg (hA ht p t s (.slice a l.length cap))) rfl (by kernel_rfl) (by kernel_rfl) (by kernel_rfl) (fun _ _ _ h => h) (Or.inl ⟨by rfl, fun w hSw => run_loadRow _ _ rfl _ rfl _ _ hSw _ Tryd.underlying25 rfl (by rw [hA_size]; exact zH.2)⟩) hHeld ?_
  refine wpAnyH_take (i := 5) (oi := ⟨some 32, _, _, _, _, _⟩) (v := .int .i64 0) rfl (by kernel_rfl) (by kernel_rfl) (by kernel_rfl) (fun _ _ _ h => h) (Or.inl ⟨by rfl, fun w hSw => by go_simp⟩) hHeld ?_
  simp only [Act.put, List.setIfInBounds_toArray, List.set_cons_zero, List.set_cons_succ]
  refine wpAnyH_ready (rs := [4]) (by kernel_rfl) (by simp) ?_
  refine AllReadyH.cons (o := ⟨some 31, .call ⟨.value (.func 8), #[.tmp 30], #[25]⟩, _, _, _, _⟩) rfl (fun K hK => ?_) AllReadyH.nil
  rw [if_pos (by rfl)]
  go_simp
  refine (HC _ HB).mono ?_
  rintro e wb ⟨rfl, hwb⟩
  have hHx := hHeld.belowSize hwb
  refine hK.out _ _ hHx (fun _ => ?_)
  clear hK K hHeld
  have hHeld := hHx
  clear hHx
  replace HB := HB.trans (hwb.mono HB.size)
  try simp only [Act.put, List.setIfInBounds_toArray, List.set_cons_zero, List.set_cons_succ]
  refine wpAnyH_take (i := 6) (oi := ⟨some 33, _, _, _, _, _⟩) (v := .bool false) rfl (by kernel_rfl) (by kernel_rfl) (by kernel_rfl) (fun _ _ _ h => h) (Or.inl ⟨by rfl, fun w hSw => by go_simp⟩) hHeld ?_
  refine wpAnyH_take (i := 7) (oi := ⟨some 34, _, _, _, _, _⟩) (v := .bool false) rfl (by kernel_rfl) (by kernel_rfl) (by kernel_rfl) (fun _ _ _ h => h) (Or.inl ⟨by rfl, fun w hSw => by go_simp⟩) hHeld ?_
  refine wpAnyH_take (i := 8) (oi := ⟨some 35, _, _, _, _, _⟩) (v := .bool false) rfl (by kernel_rfl) (by kernel_rfl) (by kernel_rfl) (fun _ _ _ h => h) (Or.inl ⟨by rfl, fun w hSw => by go_simp⟩) hHeld ?_
  simp only [Act.put, List.setIfInBounds_toArray, List.set_cons_zero, List.set_cons_succ]
  refine wpAnyH_take (i := 9) (oi := ⟨some 36, _, _, _, _, _⟩) (v := .int .i64 0) rfl (by kernel_rfl) (by kernel_rfl) (by kernel_rfl) (fun _ _ _ h => h) (Or.inl ⟨by rfl, fun w hSw => by go_simp⟩) hHeld ?_
  refine wpAnyH_take (i := 10) (oi := ⟨some 37, _, _, _, _, _⟩) (v := .int .i64 0) rfl (by kernel_rfl) (by kernel_rfl) (by kernel_rfl) (fun _ _ _ h => h) (Or.inl ⟨by rfl, fun w hSw => by go_simp⟩) hHeld ?_
  simp only [Act.put, List.setIfInBounds_toArray, List.set_cons_zero, List.set_cons_succ]
  refine wpAnyH_take (i := 11) (oi := ⟨some 38, _, _, _, _, _⟩) (v := .bool false) rfl (by kernel_rfl) (by kernel_rfl) (by kernel_rfl) (fun _ _ _ h => h) (Or.inl ⟨by rfl, fun w hSw => by go_simp⟩) hHeld ?_
  refine wpAnyH_take (i := 12) (oi := ⟨some 39, _, _, _, _, _⟩) (v := .bool false) rfl (by kernel_rfl) (by kernel_rfl) (by kernel_rfl) (fun _ _ _ h => h) (Or.inl ⟨by rfl, fun w hSw => by go_simp⟩) hHeld ?_
  refine wpAnyH_take (i := 13) (oi := ⟨some 40, _, _, _, _, _⟩) (v := .bool false) rfl (by kernel_rfl) (by kernel_rfl) (by kernel_rfl) (fun _ _ _ h => h) (Or.inl ⟨by rfl, fun w hSw => by go_simp⟩) hHeld ?_
  simp only [Act.put, List.setIfInBounds_toArray, List.set_cons_zero, List.set_cons_succ]
  refine wpAnyH_take (i := 14) (oi := ⟨some 41, _, _, _, _, _⟩) (v := .pointer (some ⟨w.heap.size, 4, none⟩)) rfl (by kernel_rfl) (by kernel_rfl) (by kernel_rfl) (fun _ _ _ h => h) (Or.inl ⟨by rfl, fun w hSw => by go_simp⟩) hHeld ?_
  refine wpAnyH_take (i := 17) (oi := ⟨some 44, _, _, _, _, _⟩) (v := .pointer (some ⟨w.heap.size, 4, none⟩)) rfl (by kernel_rfl) (by kernel_rfl) (by kernel_rfl) (fun _ _ _ h => h) (Or.inl ⟨by rfl, fun w hSw => by go_simp⟩) hHeld ?_
  simp only [Act.put, List.setIfInBounds_toArray, List.set_cons_zero, List.set_cons_succ]
  refine wpAnyH_take (i := 15) (oi := ⟨some 42, _, _, _, _, _⟩) (v := .slice a l.length cap) rfl (by kernel_rfl) (by kernel_rfl) (by kernel_rfl) (fun _ _ _ h => h) (Or.inl ⟨by rfl, fun w hSw => run_loadCellB _ _ rfl _ 4 rfl _ _ hSw _ Tryd.underlying23 rfl _ (hA_g4 _ _ _ _ _)⟩) hHeld ?_
  refine wpAnyH_take (i := 18) (oi := ⟨some 45, _, _, _, _, _⟩) (v := .slice a l.length cap) rfl (by kernel_rfl) (by kernel_rfl) (by kernel_rfl) (fun _ _ _ h => h) (Or.inl ⟨by rfl, fun w hSw => run_loadCellB _ _ rfl _ 4 rfl _ _ hSw _ Tryd.underlying23 rfl _ (hA_g4 _ _ _ _ _)⟩) hHeld ?_
  simp only [Act.put, List.setIfInBounds_toArray, List.set_cons_zero, List.set_cons_succ]
  refine wpAnyH_ready (rs := [16]) (by kernel_rfl) (by simp) ?_
  refine AllReadyH.cons (o := ⟨some 43, .call ⟨.value (.func 9), #[.tmp 42], #[23]⟩, _, _, _, _⟩) rfl (fun K hK => ?_) AllReadyH.nil
  rw [if_pos (by rfl)]
  go_simp
  refine (HM _ HB).mono ?_
  rintro e wc ⟨rfl, hwc⟩
  have hw2' := hwc.symm
  subst hw2'
  clear hwc
  refine hK.out _ _ hHeld (fun _ => ?_)
  clear hK K
  refine wpAnyH_ready (rs := [19]) (by kernel_rfl) (by simp) ?_
  refine AllReadyH.cons (o := ⟨some 46, .call ⟨.value (.func 10), #[.tmp 45], #[23]⟩, _, _, _, _⟩) rfl (fun K hK => ?_) AllReadyH.nil
  rw [if_pos (by rfl)]
  go_simp
  refine (HRM _ HB).mono ?_
  rintro e wd ⟨rfl, hwd⟩
  have hHx := hHeld.belowSize hwd
  refine hK.out _ _ hHx (fun _ => ?_)
  clear hK K hHeld
  have hHeld := hHx
  clear hHx
  replace HB := HB.trans (hwd.mono HB.size)
  try simp only [Act.put, List.setIfInBounds_toArray, List.set_cons_zero, List.set_cons_succ]
  refine wpAnyH_take (i := 20) (oi := ⟨some 47, _, _, _, _, _⟩) (v := .bool false) rfl (by kernel_rfl) (by kernel_rfl) (by kernel_rfl) (fun _ _ _ h => h) (Or.inl ⟨by rfl, fun w hSw => by go_simp⟩) hHeld ?_
  refine wpAnyH_take (i := 21) (oi := ⟨some 48, _, _, _, _, _⟩) (v := .bool false) rfl (by kernel_rfl) (by kernel_rfl) (by kernel_rfl) (fun _ _ _ h => h) (Or.inl ⟨by rfl, fun w hSw => by go_simp⟩) hHeld ?_
  refine wpAnyH_done (by kernel_rfl) ?_ _
  simp only [Act.put]
  have h1 := hHeld
  clear hHeld HM HRM HC HAw
  go_simp
  clear c4 hs1
  go_wp2_with (first
    | (go_at_call 11; refine (HD _).mono ?_; rintro e w7 ⟨a6, cap6, rfl, hw7, hV7⟩; clear HD; replace h1 := h1.belowSize hw7; replace HB := HB.trans (hw7.mono HB.size); clear hw7; have hI6 := hV7.ia0; clear hV7)
    | (go_at_call 12; refine (HN _).mono ?_; rintro e w10 ⟨rfl, hw10, hW⟩; clear HN; have hl10 := h6.lt; have hB9 := HB.size; replace h1 := h1.belowSize hw10; replace h6 := h6.belowSize hw10; replace HB := HB.trans (hw10.mono HB.size))
    | (go_at_call 13; refine (HP _ _ HB hB9 hW).mono ?_; rintro e w11 ⟨rfl, hPt⟩; clear HP; replace hW := hPt.wr; replace hI6 := hI6.below (hw10.trans hPt.below); replace h1 := h1.puts hPt (by decide) (by decide); replace h6 := h6.puts hPt (by decide) (by decide); replace HB := HB.trans (hPt.below.mono hB9); clear hPt hw10)
    | (go_at_call 14; refine (HNR _).mono ?_; rintro e w12 ⟨rfl, hw12, hR⟩; clear HNR; have hB11 := HB.size)
    | (go_at_call 15; refine (HT _ _ hR).mono ?_; rintro e w13 ⟨a10, cap10, rfl, hV13, hT13⟩; clear HT hR; have hx := hw12.trans (below_of_grown hT13.grown (Nat.le_refl _) hw12.size); replace hI6 := hI6.below hx; replace hW := hW.below hx; replace h1 := h1.belowSize hx; replace h6 := h6.belowSize hx; replace HB := HB.trans (hx.mono HB.size); have hR := hT13.rd; have hI10 := hV13.ia0; clear hx hT13 hV13 hw12)
    | (with_reducible refine at_list ?_; first
      | (refine wpList_loadRow (op := ⟨some 60, _, _, _, _, _⟩) rfl _ _ rfl w.heap.size rfl _ _ h1 _ Tryd.underlying25 rfl (by rw [hA_size]; exact zH.2) ?_)
      | (refine wpList_allocRow (op := ⟨some 6, _, _, _, _, _⟩) rfl _ rfl _ zH0.1 ?_; intro w8 hw8 hs8 h6; replace hs8 := hs8.symm)
      | (refine wpList_storeRow (op := ⟨none, .store 25 (.tmp 6) (.tmp 56), _, _, _, _⟩) rfl _ _ _ rfl w7.heap.size (hA ht p t s (.slice a6 l.length cap6)) rfl rfl _ _ h6 (by simp only [hA_size]) (by rw [hA_size]; exact zH.2) (hA_one _ _ _ _ _ _ _) ?_; intro w9 hg9 hs9 hb9; clear hs9; have hx := hw8.trans (below_of_grown hg9 (Nat.le_refl _) hw8.size); replace hI6 := hI6.below hx; replace h1 := h1.belowSize hx; replace HB := HB.trans (hx.mono HB.size); replace h6 := hb9; clear hx hg9 hb9 hw8)
      | (refine wpList_allocRow (op := ⟨some 10, _, _, _, _, _⟩) rfl _ rfl _ zH0.1 ?_; intro w14 hw14 hs14 h10; replace hs14 := hs14.symm)
      | (refine wpList_storeRow (op := ⟨none, .store 25 (.tmp 10) (.tmp 66), _, _, _, _⟩) rfl _ _ _ rfl w13.heap.size (hA ht p t s (.slice a10 l.length cap10)) rfl rfl _ _ h10 (by simp only [hA_size]) (by rw [hA_size]; exact zH.2) (hA_one _ _ _ _ _ _ _) ?_; intro w15 hg15 hs15 hb15; clear hs15; have hx := hw14.trans (below_of_grown hg15 (Nat.le_refl _) hw14.size); replace hI6 := hI6.below hx; replace hI10 := hI10.below hx; replace hW := hW.below hx; replace hR := hR.below hx; replace h1 := h1.belowSize hx; replace h6 := h6.belowSize hx; replace HB := HB.trans (hx.mono HB.size); replace h10 := hb15; clear hx hg15 hb15 hw14)))
  obtain ⟨B6, hB60⟩ : ∃ B, B = w7.heap.size := ⟨_, rfl⟩
  obtain ⟨b8, hb80⟩ : ∃ B, B = w9.heap.size := ⟨_, rfl⟩
  obtain ⟨b9, hb90⟩ : ∃ B, B = w11.heap.size := ⟨_, rfl⟩
  obtain ⟨B10, hB100⟩ : ∃ B, B = w13.heap.size := ⟨_, rfl⟩
  rw [← hB60] at h6 ⊢
  rw [← hb80] at hW ⊢
  rw [← hb90] at hR ⊢
  rw [← hB100] at h10 ⊢
  clear hB60 hb80 hb90 hB100
  replace HB := HB.drew
  replace hI6 := hI6.below ((Below.refl _ _).drew)
  replace hI10 := hI10.below ((Below.refl _ _).drew)
  replace hW := hW.below ((Below.refl _ _).drew)
  replace hR := hR.below ((Below.refl _ _).drew)
  refine wp_region_held_drew (S := fun w' => Blk w' w.heap.size (hA ht p t s (.slice a l.length cap)) 25 ∧ Blk w' B6 (hA ht p t s (.slice a6 l.length cap6)) 25 ∧ Blk w' B10 (hA ht p t s (.slice a10 l.length cap10)) 25) (by kernel_rfl) ⟨h1.drew, h6.drew, h10.drew⟩ (fun hHeld => ?_)
  clear h1 h6 h10
  refine wpAnyH_take (i := 0) (oi := ⟨some 67, _, _, _, _, _⟩) (v := .string ⟨tb.toArray⟩) rfl (by kernel_rfl) (by kernel_rfl) (by kernel_rfl) (fun _ _ _ h => h) (Or.inl ⟨by rfl, fun w hSw => by go_simp⟩) hHeld ?_
  refine wpAnyH_take (i := 1) (oi := ⟨some 68, _, _, _, _, _⟩) (v := .agg (hA ht p t s (.slice a l.length cap))) rfl (by kernel_rfl) (by kernel_rfl) (by kernel_rfl) (fun _ _ _ h => h) (Or.inl ⟨by rfl, fun w hSw => run_loadRow _ _ rfl _ rfl _ _ hSw.1 _ Tryd.underlying25 rfl (by rw [hA_size]; exact zH.2)⟩) hHeld ?_
  simp only [Act.put, List.setIfInBounds_toArray, List.set_cons_zero, List.set_cons_succ]
  refine wpAnyH_ready (rs := [2]) (by kernel_rfl) (by simp) ?_
  refine AllReadyH.cons (o := ⟨some 69, .call ⟨.value (.func 6), #[.tmp 68], #[25]⟩, _, _, _, _⟩) rfl (fun K hK => ?_) AllReadyH.nil
  rw [if_pos (by rfl)]
  go_simp
  refine (HF _).mono ?_
  rintro e wA ⟨rfl, hwA⟩
  have hHx : (_ ∧ _ ∧ _) := ⟨hHeld.1.belowSize hwA, hHeld.2.1.belowSize hwA, hHeld.2.2.belowSize hwA⟩
  refine hK.out _ _ hHx (fun _ => ?_)
  clear hK K hHeld
  have hHeld := hHx
  clear hHx
  replace hI6 := hI6.below hwA
  replace hI10 := hI10.below hwA
  replace hW := hW.below hwA
  replace hR := hR.below hwA
  replace HB := HB.trans (hwA.mono HB.size)
  refine wpAnyH_ready (rs := [3]) (by kernel_rfl) (by simp) ?_
  refine AllReadyH.cons (o := ⟨some 70, .call ⟨.value (.func 16), #[.tmp 69], #[30]⟩, _, _, _, _⟩) rfl (fun K hK => ?_) AllReadyH.nil
  rw [if_pos (by rfl)]
  go_simp
  refine (HRB _ HB).mono ?_
  rintro e wB ⟨rfl, hwB⟩
  have hHx : (_ ∧ _ ∧ _) := ⟨hHeld.1.belowSize hwB, hHeld.2.1.belowSize hwB, hHeld.2.2.belowSize hwB⟩
  refine hK.out _ _ hHx (fun _ => ?_)
  clear hK K hHeld
  have hHeld := hHx
  clear hHx
  replace hI6 := hI6.below hwB
  replace hI10 := hI10.below hwB
  replace hW := hW.below hwB
  replace hR := hR.below hwB
  replace HB := HB.trans (hwB.mono HB.size)
  try simp only [Act.put, List.setIfInBounds_toArray, List.set_cons_zero, List.set_cons_succ]
  refine wpAnyH_take (i := 4) (oi := ⟨some 71, _, _, _, _, _⟩) (v := .bool true) rfl (by kernel_rfl) (by kernel_rfl) (by kernel_rfl) (fun _ _ _ h => h) (Or.inl ⟨by rfl, fun w hSw => by go_simp⟩) hHeld ?_
  refine wpAnyH_take (i := 5) (oi := ⟨some 72, _, _, _, _, _⟩) (v := .bool true) rfl (by kernel_rfl) (by kernel_rfl) (by kernel_rfl) (fun _ _ _ h => h) (Or.inl ⟨by rfl, fun w hSw => by go_simp⟩) hHeld ?_
  simp only [Act.put, List.setIfInBounds_toArray, List.set_cons_zero, List.set_cons_succ]
  refine wpAnyH_take (i := 6) (oi := ⟨some 73, _, _, _, _, _⟩) (v := .pointer (some ⟨b8, 0, none⟩)) rfl (by kernel_rfl) (by kernel_rfl) (by kernel_rfl) (fun _ _ _ h => h) (Or.inl ⟨by rfl, fun w hSw => by go_simp⟩) hHeld ?_
  refine wpAnyH_take (i := 8) (oi := ⟨some 75, _, _, _, _, _⟩) (v := .string ⟨tb.toArray⟩) rfl (by kernel_rfl) (by kernel_rfl) (by kernel_rfl) (fun _ _ _ h => h) (Or.inl ⟨by rfl, fun w hSw => by go_simp⟩) hHeld ?_
  simp only [Act.put, List.setIfInBounds_toArray, List.set_cons_zero, List.set_cons_succ]
  refine wpAnyH_ready (rs := [7]) (by kernel_rfl) (by simp) ?_
  refine AllReadyH.cons (o := ⟨some 74, .call ⟨.value (.func 17), #[.tmp 73], #[37]⟩, _, _, _, _⟩) rfl (fun K hK => ?_) AllReadyH.nil
  rw [if_pos (by rfl)]
  go_simp
  refine (HAll _ _ hW).mono ?_
  rintro e wC ⟨rfl, hwC⟩
  have hw2' := hwC.symm
  subst hw2'
  clear hwC
  refine hK.out _ _ hHeld (fun _ => ?_)
  clear hK K
  try simp only [Act.put, List.setIfInBounds_toArray, List.set_cons_zero, List.set_cons_succ]
  refine wpAnyH_take (i := 9) (oi := ⟨some 76, _, _, _, _, _⟩) (v := .bool true) rfl (by kernel_rfl) (by kernel_rfl) (by kernel_rfl) (fun _ _ _ h => h) (Or.inl ⟨by rfl, fun w hSw => by go_simp⟩) hHeld ?_
  refine wpAnyH_take (i := 10) (oi := ⟨some 77, _, _, _, _, _⟩) (v := .bool true) rfl (by kernel_rfl) (by kernel_rfl) (by kernel_rfl) (fun _ _ _ h => h) (Or.inl ⟨by rfl, fun w hSw => by go_simp⟩) hHeld ?_
  simp only [Act.put, List.setIfInBounds_toArray, List.set_cons_zero, List.set_cons_succ]
  refine wpAnyH_take (i := 11) (oi := ⟨some 78, _, _, _, _, _⟩) (v := .bool true) rfl (by kernel_rfl) (by kernel_rfl) (by kernel_rfl) (fun _ _ _ h => h) (Or.inl ⟨by rfl, fun w hSw => by go_simp⟩) hHeld ?_
  refine wpAnyH_take (i := 12) (oi := ⟨some 79, _, _, _, _, _⟩) (v := .int .i64 0) rfl (by kernel_rfl) (by kernel_rfl) (by kernel_rfl) (fun _ _ _ h => h) (Or.inl ⟨by rfl, fun w hSw => by go_simp⟩) hHeld ?_
  simp only [Act.put, List.setIfInBounds_toArray, List.set_cons_zero, List.set_cons_succ]
  refine wpAnyH_take (i := 13) (oi := ⟨some 80, _, _, _, _, _⟩) (v := .bool true) rfl (by kernel_rfl) (by kernel_rfl) (by kernel_rfl) (fun _ _ _ h => h) (Or.inl ⟨by rfl, fun w hSw => by go_simp⟩) hHeld ?_
  refine wpAnyH_take (i := 14) (oi := ⟨some 81, _, _, _, _, _⟩) (v := .bool true) rfl (by kernel_rfl) (by kernel_rfl) (by kernel_rfl) (fun _ _ _ h => h) (Or.inl ⟨by rfl, fun w hSw => by go_simp⟩) hHeld ?_
  refine wpAnyH_take (i := 15) (oi := ⟨some 82, _, _, _, _, _⟩) (v := .bool true) rfl (by kernel_rfl) (by kernel_rfl) (by kernel_rfl) (fun _ _ _ h => h) (Or.inl ⟨by rfl, fun w hSw => by go_simp⟩) hHeld ?_
  simp only [Act.put, List.setIfInBounds_toArray, List.set_cons_zero, List.set_cons_succ]
  refine wpAnyH_take (i := 16) (oi := ⟨some 83, _, _, _, _, _⟩) (v := .agg (hA ht p t s (.slice a l.length cap))) rfl (by kernel_rfl) (by kernel_rfl) (by kernel_rfl) (fun _ _ _ h => h) (Or.inl ⟨by rfl, fun w hSw => run_loadRow _ _ rfl _ rfl _ _ hSw.1 _ Tryd.underlying25 rfl (by rw [hA_size]; exact zH.2)⟩) hHeld ?_
  refine wpAnyH_take (i := 17) (oi := ⟨some 84, _, _, _, _, _⟩) (v := .agg (hA ht p t s (.slice a6 l.length cap6))) rfl (by kernel_rfl) (by kernel_rfl) (by kernel_rfl) (fun _ _ _ h => h) (Or.inl ⟨by rfl, fun w hSw => run_loadRow _ _ rfl _ rfl _ _ hSw.2.1 _ Tryd.underlying25 rfl (by rw [hA_size]; exact zH.2)⟩) hHeld ?_
  simp only [Act.put, List.setIfInBounds_toArray, List.set_cons_zero, List.set_cons_succ]
  refine wpAnyH_ready (rs := [18]) (by kernel_rfl) (by simp) ?_
  refine AllReadyH.cons (o := ⟨some 85, .call ⟨.value (.func 18), #[.tmp 83, .tmp 84], #[25, 25]⟩, _, _, _, _⟩) rfl (fun K hK => ?_) AllReadyH.nil
  rw [if_pos (by rfl)]
  go_simp
  refine (HSm _ _ _ HB hI6).mono ?_
  rintro e wD ⟨yD, rfl, hyD, hwD⟩
  obtain rfl : yD = true := hyD.2 trivial
  have hHx : (_ ∧ _ ∧ _) := ⟨hHeld.1.belowSize hwD, hHeld.2.1.belowSize hwD, hHeld.2.2.belowSize hwD⟩
  refine hK.out _ _ hHx (fun _ => ?_)
  clear hK K hHeld
  have hHeld := hHx
  clear hHx
  replace hI6 := hI6.below hwD
  replace hI10 := hI10.below hwD
  replace hW := hW.below hwD
  replace hR := hR.below hwD
  replace HB := HB.trans (hwD.mono HB.size)
  try simp only [Act.put, List.setIfInBounds_toArray, List.set_cons_zero, List.set_cons_succ]
  refine wpAnyH_take (i := 19) (oi := ⟨some 86, _, _, _, _, _⟩) (v := .bool true) rfl (by kernel_rfl) (by kernel_rfl) (by kernel_rfl) (fun _ _ _ h => h) (Or.inl ⟨by rfl, fun w hSw => by go_simp⟩) hHeld ?_
  refine wpAnyH_take (i := 20) (oi := ⟨some 87, _, _, _, _, _⟩) (v := .bool true) rfl (by kernel_rfl) (by kernel_rfl) (by kernel_rfl) (fun _ _ _ h => h) (Or.inl ⟨by rfl, fun w hSw => by go_simp⟩) hHeld ?_
  simp only [Act.put, List.setIfInBounds_toArray, List.set_cons_zero, List.set_cons_succ]
  refine wpAnyH_take (i := 21) (oi := ⟨some 88, _, _, _, _, _⟩) (v := .agg (hA ht p t s (.slice a l.length cap))) rfl (by kernel_rfl) (by kernel_rfl) (by kernel_rfl) (fun _ _ _ h => h) (Or.inl ⟨by rfl, fun w hSw => run_loadRow _ _ rfl _ rfl _ _ hSw.1 _ Tryd.underlying25 rfl (by rw [hA_size]; exact zH.2)⟩) hHeld ?_
  refine wpAnyH_take (i := 22) (oi := ⟨some 89, _, _, _, _, _⟩) (v := .agg (hA ht p t s (.slice a10 l.length cap10))) rfl (by kernel_rfl) (by kernel_rfl) (by kernel_rfl) (fun _ _ _ h => h) (Or.inl ⟨by rfl, fun w hSw => run_loadRow _ _ rfl _ rfl _ _ hSw.2.2 _ Tryd.underlying25 rfl (by rw [hA_size]; exact zH.2)⟩) hHeld ?_
  simp only [Act.put, List.setIfInBounds_toArray, List.set_cons_zero, List.set_cons_succ]
  refine wpAnyH_ready (rs := [23]) (by kernel_rfl) (by simp) ?_
  refine AllReadyH.cons (o := ⟨some 90, .call ⟨.value (.func 18), #[.tmp 88, .tmp 89], #[25, 25]⟩, _, _, _, _⟩) rfl (fun K hK => ?_) AllReadyH.nil
  rw [if_pos (by rfl)]
  go_simp
  refine (HSm _ _ _ HB hI10).mono ?_
  rintro e wE ⟨yE, rfl, hyE, hwE⟩
  obtain rfl : yE = true := hyE.2 trivial
  have hHx : (_ ∧ _ ∧ _) := ⟨hHeld.1.belowSize hwE, hHeld.2.1.belowSize hwE, hHeld.2.2.belowSize hwE⟩
  refine hK.out _ _ hHx (fun _ => ?_)
  clear hK K hHeld
  have hHeld := hHx
  clear hHx
  replace hI6 := hI6.below hwE
  replace hI10 := hI10.below hwE
  replace hW := hW.below hwE
  replace hR := hR.below hwE
  replace HB := HB.trans (hwE.mono HB.size)
  try simp only [Act.put, List.setIfInBounds_toArray, List.set_cons_zero, List.set_cons_succ]
  refine wpAnyH_take (i := 24) (oi := ⟨some 91, _, _, _, _, _⟩) (v := .bool true) rfl (by kernel_rfl) (by kernel_rfl) (by kernel_rfl) (fun _ _ _ h => h) (Or.inl ⟨by rfl, fun w hSw => by go_simp⟩) hHeld ?_
  refine wpAnyH_take (i := 25) (oi := ⟨some 92, _, _, _, _, _⟩) (v := .bool true) rfl (by kernel_rfl) (by kernel_rfl) (by kernel_rfl) (fun _ _ _ h => h) (Or.inl ⟨by rfl, fun w hSw => by go_simp⟩) hHeld ?_
  refine wpAnyH_take (i := 26) (oi := ⟨some 93, _, _, _, _, _⟩) (v := .pointer (some ⟨b9, 0, none⟩)) rfl (by kernel_rfl) (by kernel_rfl) (by kernel_rfl) (fun _ _ _ h => h) (Or.inl ⟨by rfl, fun w hSw => by go_simp⟩) hHeld ?_
  simp only [Act.put, List.setIfInBounds_toArray, List.set_cons_zero, List.set_cons_succ]
  refine wpAnyH_ready (rs := [27]) (by kernel_rfl) (by simp) ?_
  refine AllReadyH.cons (o := ⟨some 94, .call ⟨.value (.func 19), #[.tmp 93], #[40]⟩, _, _, _, _⟩) rfl (fun K hK => ?_) AllReadyH.nil
  rw [if_pos (by rfl)]
  go_simp
  refine (HLf _ _ hR).mono ?_
  rintro e wF ⟨rfl, hDwF⟩
  have hwF := hDwF.below (B := wE.heap.size)
  have hHx : (_ ∧ _ ∧ _) := ⟨hHeld.1.belowSize hwF, hHeld.2.1.belowSize hwF, hHeld.2.2.belowSize hwF⟩
  refine hK.out _ _ hHx (fun _ => ?_)
  clear hK K hHeld
  have hHeld := hHx
  clear hHx
  replace hI6 := hI6.below hwF
  replace hI10 := hI10.below hwF
  replace hW := hW.below hwF
  replace hR := hR.below hwF
  replace HB := HB.trans (hwF.mono HB.size)
  try simp only [Act.put, List.setIfInBounds_toArray, List.set_cons_zero, List.set_cons_succ]
  refine wpAnyH_take (i := 28) (oi := ⟨some 95, _, _, _, _, _⟩) (v := .bool true) rfl (by kernel_rfl) (by kernel_rfl) (by kernel_rfl) (fun _ _ _ h => h) (Or.inl ⟨by rfl, fun w hSw => by go_simp⟩) hHeld ?_
  refine wpAnyH_take (i := 29) (oi := ⟨some 96, _, _, _, _, _⟩) (v := .bool true) rfl (by kernel_rfl) (by kernel_rfl) (by kernel_rfl) (fun _ _ _ h => h) (Or.inl ⟨by rfl, fun w hSw => by go_simp⟩) hHeld ?_
  refine wpAnyH_take (i := 30) (oi := ⟨some 97, _, _, _, _, _⟩) (v := .bool true) rfl (by kernel_rfl) (by kernel_rfl) (by kernel_rfl) (fun _ _ _ h => h) (Or.inl ⟨by rfl, fun w hSw => by go_simp⟩) hHeld ?_
  simp only [Act.put, List.setIfInBounds_toArray, List.set_cons_zero, List.set_cons_succ]
  refine wpAnyH_take (i := 31) (oi := ⟨some 98, _, _, _, _, _⟩) (v := .agg (hA ht p t s (.slice a l.length cap))) rfl (by kernel_rfl) (by kernel_rfl) (by kernel_rfl) (fun _ _ _ h => h) (Or.inl ⟨by rfl, fun w hSw => run_loadRow _ _ rfl _ rfl _ _ hSw.1 _ Tryd.underlying25 rfl (by rw [hA_size]; exact zH.2)⟩) hHeld ?_
  refine wpAnyH_take (i := 33) (oi := ⟨some 100, _, _, _, _, _⟩) (v := .agg (hA ht p t s (.slice a l.length cap))) rfl (by kernel_rfl) (by kernel_rfl) (by kernel_rfl) (fun _ _ _ h => h) (Or.inl ⟨by rfl, fun w hSw => run_loadRow _ _ rfl _ rfl _ _ hSw.1 _ Tryd.underlying25 rfl (by rw [hA_size]; exact zH.2)⟩) hHeld ?_
  simp only [Act.put, List.setIfInBounds_toArray, List.set_cons_zero, List.set_cons_succ]
  refine wpAnyH_ready (rs := [32]) (by kernel_rfl) (by simp) ?_
  refine AllReadyH.cons (o := ⟨some 99, .call ⟨.value (.func 20), #[.tmp 98], #[25]⟩, _, _, _, _⟩) rfl (fun K hK => ?_) AllReadyH.nil
  rw [if_pos (by rfl)]
  go_simp
  refine (HID _ HB).mono ?_
  rintro e wG ⟨rfl, hwG⟩
  have hHx : (_ ∧ _ ∧ _) := ⟨hHeld.1.belowSize hwG, hHeld.2.1.belowSize hwG, hHeld.2.2.belowSize hwG⟩
  refine hK.out _ _ hHx (fun _ => ?_)
  clear hK K hHeld
  have hHeld := hHx
  clear hHx
  replace hI6 := hI6.below hwG
  replace hI10 := hI10.below hwG
  replace hW := hW.below hwG
  replace hR := hR.below hwG
  replace HB := HB.trans (hwG.mono HB.size)
  refine wpAnyH_ready (rs := [34]) (by kernel_rfl) (by simp) ?_
  refine AllReadyH.cons (o := ⟨some 101, .call ⟨.value (.func 6), #[.tmp 100], #[25]⟩, _, _, _, _⟩) rfl (fun K hK => ?_) AllReadyH.nil
  rw [if_pos (by rfl)]
  go_simp
  refine (HF _).mono ?_
  rintro e wH ⟨rfl, hwH⟩
  have hHx : (_ ∧ _ ∧ _) := ⟨hHeld.1.belowSize hwH, hHeld.2.1.belowSize hwH, hHeld.2.2.belowSize hwH⟩
  refine hK.out _ _ hHx (fun _ => ?_)
  clear hK K hHeld
  have hHeld := hHx
  clear hHx
  replace hI6 := hI6.below hwH
  replace hI10 := hI10.below hwH
  replace hW := hW.below hwH
  replace hR := hR.below hwH
  replace HB := HB.trans (hwH.mono HB.size)
  refine wpAnyH_ready (rs := [35]) (by kernel_rfl) (by simp) ?_
  refine AllReadyH.cons (o := ⟨some 102, .call ⟨.value (.func 21), #[.tmp 101], #[30]⟩, _, _, _, _⟩) rfl (fun K hK => ?_) AllReadyH.nil
  rw [if_pos (by rfl)]
  go_simp
  refine (HRI _ HB).mono ?_
  rintro e wI ⟨rfl, hwI⟩
  have hHx : (_ ∧ _ ∧ _) := ⟨hHeld.1.belowSize hwI, hHeld.2.1.belowSize hwI, hHeld.2.2.belowSize hwI⟩
  refine hK.out _ _ hHx (fun _ => ?_)
  clear hK K hHeld
  have hHeld := hHx
  clear hHx
  replace hI6 := hI6.below hwI
  replace hI10 := hI10.below hwI
  replace hW := hW.below hwI
  replace hR := hR.below hwI
  replace HB := HB.trans (hwI.mono HB.size)
  try simp only [Act.put, List.setIfInBounds_toArray, List.set_cons_zero, List.set_cons_succ]
  refine wpAnyH_take (i := 36) (oi := ⟨some 103, _, _, _, _, _⟩) (v := .bool true) rfl (by kernel_rfl) (by kernel_rfl) (by kernel_rfl) (fun _ _ _ h => h) (Or.inl ⟨by rfl, fun w hSw => by go_simp⟩) hHeld ?_
  refine wpAnyH_take (i := 37) (oi := ⟨some 104, _, _, _, _, _⟩) (v := .bool true) rfl (by kernel_rfl) (by kernel_rfl) (by kernel_rfl) (fun _ _ _ h => h) (Or.inl ⟨by rfl, fun w hSw => by go_simp⟩) hHeld ?_
  refine wpAnyH_take (i := 38) (oi := ⟨some 2, _, _, _, _, _⟩) (v := .bool true) rfl (by kernel_rfl) (by kernel_rfl) (by kernel_rfl) (fun _ _ _ h => h) (Or.inl ⟨by rfl, fun w hSw => by go_simp⟩) hHeld ?_
  refine wpAnyH_done (by kernel_rfl) ?_ _
  simp only [Act.put]
  go_simp
  go_wp2_with fail
  go_ret
  exact ⟨rfl, HB⟩
end
end Go.Proofs.YtdolgkegeomafaaDoor
