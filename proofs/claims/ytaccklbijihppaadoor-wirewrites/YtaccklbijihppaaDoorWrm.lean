/- What WireWrites does with more than forty acts. -/
import Derived.Test.YtaccklbijihppaaDoorWrs
namespace Go.Proofs.YtaccklbijihppaaDoor
open Go Go.RowKit
attribute [local go_sem] mkApp2
set_option maxRecDepth 100000 in
set_option maxHeartbeats 4000000 in
theorem writes_many (g o len cap : Nat) (K N : Nat → Int) (Y : Nat → Nat) (T : Nat → List UInt8) (w : World) (hG : Glob w) (hA : Acts w g o len K N (fun i => (Y i : Nat)) T) (hY : ∀ i, i < len → Y i < 18446744073709551616) (hcap : len ≤ cap) (h40 : 40 < len) :
    Calls Tryd.prog 6 #[.slice (some ⟨g, o, none⟩) len cap] w fun e w' => e = .returned (.bool true) ∧ Below w.heap.size w w' := by
  have HNW := neww_any w
  have HAW := fun w (hG : Glob w) => awake_any w hG
  have hd40 : decide ((40 : Int) < (len : Int)) = true := decide_eq_true (by omega)
  go_enter Tryd.func6, Tryd.ntmps6
  go_wp2_with (first
    | (go_at_call 24; refine HNW.mono ?_; rintro e w1 ⟨rfl, hw1, hW1⟩)
    | (go_at_call 9; refine (HAW _ (hG.belowSize hw1)).mono ?_; rintro e w2 ⟨rfl, hw2⟩))
  have hB2 : Below w.heap.size w w2 := hw1.trans (hw2.mono hw1.size)
  have hW2 := hW1.below hw2
  clear hw1 hw2 hW1 HNW HAW
  go_loopw [4, 5] (fun v4 v5 wl => ∃ i : Nat, i ≤ 40 ∧ v4 = .string ⟨(catP K N Y T i).toArray⟩ ∧ v5 = .int .i64 i ∧ Below w.heap.size w wl ∧ WR wl w.heap.size (catP K N Y T i)) (fun _ v5 _ => 40 - (intOf v5).toNat)
  case atStart => exact ⟨0, by omega, rfl, rfl, hB2, hW2⟩
  case round =>
    obtain ⟨i, hi, rfl, rfl, hBl, hW⟩ := hrel
    clear hB2 hW2
    have hcl := catP_length K N Y T i
    by_cases hlt : i < 40
    · have hact := (hA.below hBl).out i (by omega)
      have HC : Hid (catP K N Y T (i + 1) = catP K N Y T i ++ putL (K i) (N i) (Y i) (T i)) := by exact rfl
      have hpl := putL_length (K i) (N i) (Y i) (T i)
      have HP := put_any w.heap.size (catP K N Y T i) (K i) (N i) (Y i) (T i) wr hW (by omega) (hY i (by omega))
      generalize putL (K i) (N i) (Y i) (T i) = p at *
      generalize catP K N Y T i = A at *
      generalize K i = kk at *
      generalize N i = nn at *
      generalize Y i = yy at *
      generalize T i = tt at *
      go_wp2_with (first
        | (go_at_call 25; refine HP.mono ?_; rintro e w5 ⟨rfl, hP⟩)
        | (go_at_call 26; refine (wlen_any w.heap.size (A ++ p) _ hP.wr).mono ?_; rintro e w' ⟨rfl, hw'⟩; have hw2' := hw'.symm; subst hw2'; clear hw')
        | (with_reducible refine at_list ?_; refine wpList_loadMid (op := ⟨some 33, _, _, _, _, _⟩) rfl _ _ rfl g (o + i * 4) rfl (ac kk nn (yy : Nat) tt) hact _ Tryd.underlying43 rfl (by rw [ac_size]; exact i43) ?_))
      go_roundw
      case rel => exact ⟨i + 1, by omega, by rw [HC.out], by go_num, hBl.trans hP.below, by rw [HC.out]; exact hP.wr⟩
      case measure => simp [intOf]; omega
    · have hcat : catP K N Y T i = catP K N Y T 40 := by rw [show i = 40 from by omega]
      rw [hcat] at hW hcl ⊢
      clear hcat
      have hc40 : (catP K N Y T 40).length ≤ 200000 := by omega
      have hzz := catP_length K N Y T 40
      obtain ⟨Z, hZ⟩ : ∃ Z, Z = catP K N Y T 40 := ⟨_, rfl⟩
      rw [← hZ] at hW hc40 ⊢
      have HZ0 : Hid (Z = catP K N Y T 40) := hZ
      clear hcl hzz hZ
      go_wp2_with (first
        | (go_at_call 27; refine (wall_any w.heap.size Z _ hW).mono ?_; rintro e w' ⟨rfl, hw'⟩; have hw2' := hw'.symm; subst hw2'; clear hw')
        | (go_at_call 19; refine (newr_any Z _).mono ?_; rintro e w6 ⟨rfl, hw6, hR6⟩))
      have hB6 : Below w.heap.size w w6 := hBl.trans (hw6.mono hBl.size)
      have hW6 := hW.wrb.below hw6
      have hl6 := hR6.blk.lt
      have hl7 : w.heap.size ≤ wr.heap.size := hBl.size
      clear hw6 hW
      generalize wr.heap.size = B2 at *
      clear hBl
      go_loopw [7] (fun v7 wl => ∃ j : Nat, j ≤ 40 ∧ v7 = .int .i64 j ∧ Below w.heap.size w wl ∧ WRb wl w.heap.size Z B2 ∧ RD wl B2 ⟨Z, (catP K N Y T j).length, 0⟩) (fun v7 _ => 40 - (intOf v7).toNat)
      case atStart => exact ⟨0, by omega, rfl, hB6, hW6, hR6⟩
      case round =>
        obtain ⟨j, hj, rfl, hBl, hW, hR⟩ := hrel
        clear hB6 hW6 hR6 hl6 hlt
        by_cases hjl : j < 40
        · have hact := (hA.below hBl).out j (by omega)
          have hgl : g < w.heap.size := World.block_lt_of_cell? _ _ ((act_cell (hA.out j (by omega))).1)
          have hBB : w.heap.size ≤ B2 := hl7
          have hBs : B2 ≤ wr.heap.size := Nat.le_of_lt hR.blk.lt
          obtain ⟨c0, c1, c2, c3⟩ := act_cell hact
          obtain ⟨c, hsplit⟩ := catP_split K N Y T j (40 - (j + 1))
          rw [show j + 1 + (40 - (j + 1)) = 40 from by omega, ← HZ0.out] at hsplit
          have hyy := hY j (by omega)
          have HJ : Hid (catP K N Y T (j + 1) = catP K N Y T j ++ putL (K j) (N j) (Y j) (T j)) := by exact rfl
          have HPP : Hid (putL (K j) (N j) (Y j) (T j) = putL (K j) (N j) (Y j) (T j)) := by exact rfl
          have HF := fun w' => few_any (T j) w'
          generalize hpe : putL (K j) (N j) (Y j) (T j) = p at hsplit HJ
          generalize catP K N Y T j = A at *
          replace HPP : Hid (p = putL (K j) (N j) (Y j) (T j)) := by rw [← hpe]; exact rfl
          clear hpe
          generalize K j = kk at *
          generalize N j = nn at *
          generalize Y j = yy at *
          generalize T j = tt at *
          have HZ : Hid (Z = A ++ (p ++ c)) := hsplit
          have hok : (⟨Z, A.length, 0⟩ : R).ok := by
            show A.length ≤ Z.length
            rw [hsplit, List.length_append]; omega
          have hzl : Z.length ≤ 1099511627776 := by omega
          clear hsplit hact
          by_cases hk0 : kk = 0
          · subst hk0
            have hp : p = fewL tt := by rw [HPP.out]; exact rfl
            have HP := fun w' (h' : RD w' B2 ⟨Z, A.length, 0⟩) => bytes_any B2 ⟨Z, A.length, 0⟩ (p.length : Nat) w' h' hok hzl
            rw [HZ.out, R.bytes_at A p c, ← HZ.out, ← List.length_append] at HP
            rw [← hp] at HF
            clear HPP hp
            go_wp2_with (first
              | (go_at_call 13; refine (HF _).mono ?_; rintro e w' ⟨rfl, hw'⟩; have hw2' := hw'.symm; subst hw2'; clear hw')
              | (go_at_call 28; refine (HP _ hR).mono ?_; rintro e w9 ⟨rfl, hT⟩))
            have hBn : Below w.heap.size w w9 := hBl.trans (below_of_grown hT.grown hBB hBl.size)
            have hWn : WRb w9 w.heap.size Z B2 := hW.below (below_of_grown hT.grown (Nat.le_refl _) hBs)
            have hRn : RD w9 B2 ⟨Z, (A ++ p).length, 0⟩ := hT.rd
            go_roundw
            case rel => exact ⟨j + 1, by omega, by go_num, hBn, hWn, by rw [HJ.out]; exact hRn⟩
            case measure => simp [intOf]; omega
          by_cases hk1 : kk = 1
          · subst hk1
            have hp : p = num yy 8 := by rw [HPP.out]; exact rfl
            have hpl : p.length = 8 := by rw [hp, num_length]
            have HP := fun w' (h' : RD w' B2 ⟨Z, A.length, 0⟩) => number_r B2 ⟨Z, A.length, 0⟩ 8 w' h' hok hzl
            have hat := R.number_at A p c 8 (by rw [hpl]; rfl) (by omega)
            rw [← HZ.out] at hat
            rw [hat, ← List.length_append, show val p = yy from by rw [hp, num_eight _ hyy]] at HP
            clear HPP hp hat
            go_wp2_with (go_at_call 13; refine (HF _).mono ?_; rintro e w' ⟨rfl, hw'⟩; have hw2' := hw'.symm; subst hw2'; clear hw')
            refine wp_region_held_drew (S := fun w' => w'.cell? ⟨g, o + j * 4 + 2, none⟩ = some (.int .u64 (yy : Nat))) (by kernel_rfl) c2 (fun hS => ?_)
            refine wpAnyH_take (i := 0) (oi := ⟨some 81, _, _, _, _, _⟩) (v := .pointer (some ⟨B2, 0, none⟩)) rfl (by kernel_rfl) (by kernel_rfl) (by kernel_rfl) (fun _ _ _ h => h) (Or.inl ⟨by rfl, fun w' hSw => by go_simp⟩) hS ?_
            refine wpAnyH_take (i := 2) (oi := ⟨some 83, _, _, _, _, _⟩) (v := .slice (some ⟨g, o, none⟩) 40 cap) rfl (by kernel_rfl) (by kernel_rfl) (by kernel_rfl) (fun _ _ _ h => h) (Or.inl ⟨by rfl, fun w' hSw => by go_simp⟩) hS ?_
            refine wpAnyH_take (i := 3) (oi := ⟨some 84, _, _, _, _, _⟩) (v := .int .i64 (j : Nat)) rfl (by kernel_rfl) (by kernel_rfl) (by kernel_rfl) (fun _ _ _ h => h) (Or.inl ⟨by rfl, fun w' hSw => by go_simp⟩) hS ?_
            simp only [Act.put, List.setIfInBounds_toArray, List.set_cons_zero, List.set_cons_succ]
            refine wpAnyH_take (i := 4) (oi := ⟨some 85, _, _, _, _, _⟩) (v := .pointer (some ⟨g, o + j * 4, none⟩)) rfl (by kernel_rfl) (by kernel_rfl) (by kernel_rfl) (fun _ _ _ h => h) (Or.inl ⟨by rfl, fun w' hSw => by go_simp⟩) hS ?_
            refine wpAnyH_take (i := 5) (oi := ⟨some 86, _, _, _, _, _⟩) (v := .pointer (some ⟨g, o + j * 4 + 2, none⟩)) rfl (by kernel_rfl) (by kernel_rfl) (by kernel_rfl) (fun _ _ _ h => h) (Or.inl ⟨by rfl, fun w' hSw => by go_simp⟩) hS ?_
            refine wpAnyH_take (i := 6) (oi := ⟨some 87, _, _, _, _, _⟩) (v := .int .u64 (yy : Nat)) rfl (by kernel_rfl) (by kernel_rfl) (by kernel_rfl) (fun _ _ _ h => h) (Or.inl ⟨by rfl, fun w' hSw => by go_simp⟩) hS ?_
            simp only [Act.put, List.setIfInBounds_toArray, List.set_cons_zero, List.set_cons_succ]
            refine wpAnyH_ready (rs := [1]) (by kernel_rfl) (by simp) ?_
            refine AllReadyH.cons (o := ⟨some 82, .call ⟨.value (.func 29), #[.tmp 81, .const (.int .i64 8)], #[36, 3]⟩, _, _, _, _⟩) rfl (fun K hK => ?_) AllReadyH.nil
            rw [if_pos (by rfl)]
            go_simp
            refine (HP _ (hR.drew ⟨1, rfl⟩)).mono ?_
            rintro e w9 ⟨rfl, hT0⟩
            have hT : To wr w9 B2 ⟨Z, (A ++ p).length, 0⟩ := (To.of_draws hR ⟨1, rfl⟩).trans hT0
            have hS9 : w9.cell? ⟨g, o + j * 4 + 2, none⟩ = some (.int .u64 (yy : Nat)) := by
              rw [← c2]
              exact (below_of_grown hT.grown (Nat.le_refl _) hBs).cell (by show g < B2; omega)
            refine hK.out _ _ hS9 (fun hS2 => ?_)
            clear hK K hS
            have hS := hS2
            clear hS2 hS9
            refine wpAnyH_take (i := 7) (oi := ⟨some 88, _, _, _, _, _⟩) (v := .bool true) rfl (by kernel_rfl) (by kernel_rfl) (by kernel_rfl) (fun _ _ _ h => h) (Or.inl ⟨by rfl, fun w' hSw => by go_simp⟩) hS ?_
            refine wpAnyH_take (i := 8) (oi := ⟨some 8, _, _, _, _, _⟩) (v := .bool true) rfl (by kernel_rfl) (by kernel_rfl) (by kernel_rfl) (fun _ _ _ h => h) (Or.inl ⟨by rfl, fun w' hSw => by go_simp⟩) hS ?_
            refine wpAnyH_done (by kernel_rfl) ?_ _
            simp only [Act.put, List.setIfInBounds_toArray, List.set_cons_zero, List.set_cons_succ]
            go_simp
            go_wp2_with fail
            have hBn : Below w.heap.size w w9 := hBl.trans (below_of_grown hT.grown hBB hBl.size)
            have hWn : WRb w9 w.heap.size Z B2 := hW.below (below_of_grown hT.grown (Nat.le_refl _) hBs)
            have hRn : RD w9 B2 ⟨Z, (A ++ p).length, 0⟩ := hT.rd
            go_roundw
            case rel => exact ⟨j + 1, by omega, by go_num, hBn, hWn, by rw [HJ.out]; exact hRn⟩
            case measure => simp [intOf]; omega
          by_cases hk2 : kk = 2
          · subst hk2
            have hp : p = num (nn.tmod 65536).toNat 4 := by rw [HPP.out]; exact rfl
            have htb := tmod_bound nn
            have hpl : p.length = 4 := by rw [hp, num_length]
            have HP := fun w' (h' : RD w' B2 ⟨Z, A.length, 0⟩) => count_any B2 ⟨Z, A.length, 0⟩ 65536 w' h' hok hzl (by omega)
            have hat := R.count_at A c (nn.tmod 65536).toNat 65536 (by omega) (by omega)
            rw [← hp, ← HZ.out] at hat
            rw [hat, show A.length + 4 = (A ++ p).length from by rw [List.length_append, hpl]] at HP
            obtain ⟨m, hm⟩ : ∃ m : Int, m = nn.tmod 65536 := ⟨_, rfl⟩
            have HM : Hid (nn.tmod 65536 = m) := hm.symm
            rw [← hm] at HP htb
            have HX : Hid ((m.toNat : Int) = max m 0) := by
              have : (m.toNat : Int) = max m 0 := by omega
              exact this
            clear HPP hp hat hm
            go_wp2_with (go_at_call 13; refine (HF _).mono ?_; rintro e w' ⟨rfl, hw'⟩; have hw2' := hw'.symm; subst hw2'; clear hw')
            refine wp_region_held_drew (S := fun w' => w'.cell? ⟨g, o + j * 4 + 1, none⟩ = some (.int .i64 nn)) (by kernel_rfl) c1 (fun hS => ?_)
            refine wpAnyH_take (i := 0) (oi := ⟨some 91, _, _, _, _, _⟩) (v := .pointer (some ⟨B2, 0, none⟩)) rfl (by kernel_rfl) (by kernel_rfl) (by kernel_rfl) (fun _ _ _ h => h) (Or.inl ⟨by rfl, fun w' hSw => by go_simp⟩) hS ?_
            refine wpAnyH_take (i := 2) (oi := ⟨some 93, _, _, _, _, _⟩) (v := .slice (some ⟨g, o, none⟩) 40 cap) rfl (by kernel_rfl) (by kernel_rfl) (by kernel_rfl) (fun _ _ _ h => h) (Or.inl ⟨by rfl, fun w' hSw => by go_simp⟩) hS ?_
            refine wpAnyH_take (i := 3) (oi := ⟨some 94, _, _, _, _, _⟩) (v := .int .i64 (j : Nat)) rfl (by kernel_rfl) (by kernel_rfl) (by kernel_rfl) (fun _ _ _ h => h) (Or.inl ⟨by rfl, fun w' hSw => by go_simp⟩) hS ?_
            simp only [Act.put, List.setIfInBounds_toArray, List.set_cons_zero, List.set_cons_succ]
            refine wpAnyH_take (i := 4) (oi := ⟨some 95, _, _, _, _, _⟩) (v := .pointer (some ⟨g, o + j * 4, none⟩)) rfl (by kernel_rfl) (by kernel_rfl) (by kernel_rfl) (fun _ _ _ h => h) (Or.inl ⟨by rfl, fun w' hSw => by go_simp⟩) hS ?_
            refine wpAnyH_take (i := 5) (oi := ⟨some 96, _, _, _, _, _⟩) (v := .pointer (some ⟨g, o + j * 4 + 1, none⟩)) rfl (by kernel_rfl) (by kernel_rfl) (by kernel_rfl) (fun _ _ _ h => h) (Or.inl ⟨by rfl, fun w' hSw => by go_simp⟩) hS ?_
            refine wpAnyH_take (i := 6) (oi := ⟨some 97, _, _, _, _, _⟩) (v := .int .i64 nn) rfl (by kernel_rfl) (by kernel_rfl) (by kernel_rfl) (fun _ _ _ h => h) (Or.inl ⟨by rfl, fun w' hSw => by go_simp⟩) hS ?_
            simp only [Act.put, List.setIfInBounds_toArray, List.set_cons_zero, List.set_cons_succ]
            refine wpAnyH_take (i := 7) (oi := ⟨some 98, _, _, _, _, _⟩) (v := .int .i64 m) rfl (by kernel_rfl) (by kernel_rfl) (by kernel_rfl) (fun _ _ _ h => h) (Or.inl ⟨by rfl, fun w' hSw => by go_simp; exact HM.out⟩) hS ?_
            refine wpAnyH_take (i := 8) (oi := ⟨some 99, _, _, _, _, _⟩) (v := .int .i64 (m.toNat : Nat)) rfl (by kernel_rfl) (by kernel_rfl) (by kernel_rfl) (fun _ _ _ h => h) (Or.inl ⟨by rfl, fun w' hSw => by go_simp; split <;> omega⟩) hS ?_
            simp only [Act.put, List.setIfInBounds_toArray, List.set_cons_zero, List.set_cons_succ]
            refine wpAnyH_ready (rs := [1]) (by kernel_rfl) (by simp) ?_
            refine AllReadyH.cons (o := ⟨some 92, .call ⟨.value (.func 30), #[.tmp 91, .const (.int .i64 65536)], #[36, 3]⟩, _, _, _, _⟩) rfl (fun K hK => ?_) AllReadyH.nil
            rw [if_pos (by rfl)]
            go_simp
            refine (HP _ (hR.drew ⟨1, rfl⟩)).mono ?_
            rintro e w9 ⟨rfl, hT0⟩
            have hT : To wr w9 B2 ⟨Z, (A ++ p).length, 0⟩ := (To.of_draws hR ⟨1, rfl⟩).trans hT0
            have hS9 : w9.cell? ⟨g, o + j * 4 + 1, none⟩ = some (.int .i64 nn) := by
              rw [← c1]
              exact (below_of_grown hT.grown (Nat.le_refl _) hBs).cell (by show g < B2; omega)
            refine hK.out _ _ hS9 (fun hS2 => ?_)
            clear hK K hS
            have hS := hS2
            clear hS2 hS9
            refine wpAnyH_take (i := 9) (oi := ⟨some 100, _, _, _, _, _⟩) (v := .bool true) rfl (by kernel_rfl) (by kernel_rfl) (by kernel_rfl) (fun _ _ _ h => h) (Or.inl ⟨by rfl, fun w' hSw => by go_simp⟩) hS ?_
            refine wpAnyH_take (i := 10) (oi := ⟨some 8, _, _, _, _, _⟩) (v := .bool true) rfl (by kernel_rfl) (by kernel_rfl) (by kernel_rfl) (fun _ _ _ h => h) (Or.inl ⟨by rfl, fun w' hSw => by go_simp⟩) hS ?_
            refine wpAnyH_done (by kernel_rfl) ?_ _
            simp only [Act.put, List.setIfInBounds_toArray, List.set_cons_zero, List.set_cons_succ]
            go_simp
            go_wp2_with fail
            have hBn : Below w.heap.size w w9 := hBl.trans (below_of_grown hT.grown hBB hBl.size)
            have hWn : WRb w9 w.heap.size Z B2 := hW.below (below_of_grown hT.grown (Nat.le_refl _) hBs)
            have hRn : RD w9 B2 ⟨Z, (A ++ p).length, 0⟩ := hT.rd
            go_roundw
            case rel => exact ⟨j + 1, by omega, by go_num, hBn, hWn, by rw [HJ.out]; exact hRn⟩
            case measure => simp [intOf]; omega
          by_cases hk3 : kk = 3
          · subst hk3
            have hp : p = num (fewL tt).length 4 ++ fewL tt := by rw [HPP.out]; exact rfl
            have hfl := fewL_length tt
            have HP := fun w' (h' : RD w' B2 ⟨Z, A.length, 0⟩) => text_any B2 ⟨Z, A.length, 0⟩ 3000 w' h' hok hzl (by omega)
            have hat := R.text_at A (fewL tt) c 3000 (by omega) (by omega)
            rw [← hp, ← HZ.out] at hat
            rw [hat, show A.length + (4 + (fewL tt).length) = (A ++ p).length from by rw [hp, List.length_append, List.length_append, num_length]] at HP
            clear HPP hp hat hfl
            generalize fewL tt = s at *
            go_wp2_with (first
              | (go_at_call 13; refine (HF _).mono ?_; rintro e w' ⟨rfl, hw'⟩; have hw2' := hw'.symm; subst hw2'; clear hw')
              | (go_at_call 31; refine (HP _ hR).mono ?_; rintro e w9 ⟨rfl, hT⟩))
            have hBn : Below w.heap.size w w9 := hBl.trans (below_of_grown hT.grown hBB hBl.size)
            have hWn : WRb w9 w.heap.size Z B2 := hW.below (below_of_grown hT.grown (Nat.le_refl _) hBs)
            have hRn : RD w9 B2 ⟨Z, (A ++ p).length, 0⟩ := hT.rd
            go_roundw
            case rel => exact ⟨j + 1, by omega, by go_num, hBn, hWn, by rw [HJ.out]; exact hRn⟩
            case measure => simp [intOf]; omega
          by_cases hk4 : kk = 4
          · subst hk4
            have hp : p = hash32 (fewL tt) := by rw [HPP.out]; exact rfl
            have hpl : p.length = 32 := by rw [hp, hash32_length]
            have hfl := fewL_length tt
            have HP := fun w' (h' : RD w' B2 ⟨Z, A.length, 0⟩) => hash_any B2 ⟨Z, A.length, 0⟩ w' h' hok hzl
            have hat := R.bytes_at A p c
            rw [hpl, ← HZ.out] at hat
            replace hat : (⟨Z, A.length, 0⟩ : R).bytes 32 = (⟨Z, A.length + 32, 0⟩, p) := hat
            rw [hat, show A.length + 32 = (A ++ p).length from by rw [List.length_append, hpl]] at HP
            have HH := fun w' => rhash_any (fewL tt) w' (by omega)
            rw [← hp] at HH
            clear HPP hp hat hfl
            generalize fewL tt = s at *
            go_wp2_with (first
              | (go_at_call 13; refine (HF _).mono ?_; rintro e w' ⟨rfl, hw'⟩; have hw2' := hw'.symm; subst hw2'; clear hw')
              | (go_at_call 32; refine (HP _ hR).mono ?_; rintro e w9 ⟨rfl, hT⟩)
              | (go_at_call 33; refine (HH _).mono ?_; rintro e w' ⟨rfl, hw'⟩; have hw2' := hw'.symm; subst hw2'; clear hw'))
            have hBn : Below w.heap.size w w9 := hBl.trans (below_of_grown hT.grown hBB hBl.size)
            have hWn : WRb w9 w.heap.size Z B2 := hW.below (below_of_grown hT.grown (Nat.le_refl _) hBs)
            have hRn : RD w9 B2 ⟨Z, (A ++ p).length, 0⟩ := hT.rd
            go_roundw
            case rel => exact ⟨j + 1, by omega, by go_num, hBn, hWn, by rw [HJ.out]; exact hRn⟩
            case measure => simp [intOf]; omega
          · have hp : p = num (yy % 2) 1 := by
              rw [HPP.out]
              unfold putL
              rw [if_neg hk0, if_neg hk1, if_neg hk2, if_neg hk3, if_neg hk4]
            have hd0 : decide (kk = 0) = false := decide_eq_false hk0
            have hd1 : decide (kk = 1) = false := decide_eq_false hk1
            have hd2 : decide (kk = 2) = false := decide_eq_false hk2
            have hd3 : decide (kk = 3) = false := decide_eq_false hk3
            have hd4 : decide (kk = 4) = false := decide_eq_false hk4
            have hp1 : p = [UInt8.ofNat (yy % 2)] := by
              rw [hp, num, num, Nat.mod_eq_of_lt (by omega)]; rfl
            have hpb : (UInt8.ofNat (yy % 2)).toNat = yy % 2 := by rw [UInt8.toNat_ofNat', Nat.mod_eq_of_lt (by omega)]
            have hpl : p.length = 1 := by rw [hp, num_length]
            have HP := fun w' (h' : RD w' B2 ⟨Z, A.length, 0⟩) => bool_any B2 ⟨Z, A.length, 0⟩ w' h' hok hzl
            have hat := R.bool_at A c (UInt8.ofNat (yy % 2)) (by rw [hpb]; omega)
            rw [← hp1, ← HZ.out, hpb] at hat
            rw [hat, show A.length + 1 = (A ++ p).length from by rw [List.length_append, hpl]] at HP
            obtain ⟨z, hz⟩ : ∃ z : Nat, z = yy % 2 := ⟨_, rfl⟩
            rw [← hz] at HP
            have HM : Hid ((yy : Int).tmod 2 = (z : Int)) := by
              have : (yy : Int).tmod 2 = (z : Int) := by rw [Int.tmod_eq_emod_of_nonneg (by omega)]; omega
              exact this
            have hz2 : z = 0 ∨ z = 1 := by omega
            clear HPP hp hp1 hat hpb hz
            rcases hz2 with rfl | rfl
            · skip
              go_wp2_with (go_at_call 13; refine (HF _).mono ?_; rintro e w' ⟨rfl, hw'⟩; have hw2' := hw'.symm; subst hw2'; clear hw')
              refine wp_region_held_drew (S := fun w' => w'.cell? ⟨g, o + j * 4 + 2, none⟩ = some (.int .u64 (yy : Nat))) (by kernel_rfl) c2 (fun hS => ?_)
              refine wpAnyH_take (i := 0) (oi := ⟨some 61, _, _, _, _, _⟩) (v := .pointer (some ⟨B2, 0, none⟩)) rfl (by kernel_rfl) (by kernel_rfl) (by kernel_rfl) (fun _ _ _ h => h) (Or.inl ⟨by rfl, fun w' hSw => by go_simp⟩) hS ?_
              refine wpAnyH_take (i := 2) (oi := ⟨some 63, _, _, _, _, _⟩) (v := .slice (some ⟨g, o, none⟩) 40 cap) rfl (by kernel_rfl) (by kernel_rfl) (by kernel_rfl) (fun _ _ _ h => h) (Or.inl ⟨by rfl, fun w' hSw => by go_simp⟩) hS ?_
              refine wpAnyH_take (i := 3) (oi := ⟨some 64, _, _, _, _, _⟩) (v := .int .i64 (j : Nat)) rfl (by kernel_rfl) (by kernel_rfl) (by kernel_rfl) (fun _ _ _ h => h) (Or.inl ⟨by rfl, fun w' hSw => by go_simp⟩) hS ?_
              simp only [Act.put, List.setIfInBounds_toArray, List.set_cons_zero, List.set_cons_succ]
              refine wpAnyH_take (i := 4) (oi := ⟨some 65, _, _, _, _, _⟩) (v := .pointer (some ⟨g, o + j * 4, none⟩)) rfl (by kernel_rfl) (by kernel_rfl) (by kernel_rfl) (fun _ _ _ h => h) (Or.inl ⟨by rfl, fun w' hSw => by go_simp⟩) hS ?_
              refine wpAnyH_take (i := 5) (oi := ⟨some 66, _, _, _, _, _⟩) (v := .pointer (some ⟨g, o + j * 4 + 2, none⟩)) rfl (by kernel_rfl) (by kernel_rfl) (by kernel_rfl) (fun _ _ _ h => h) (Or.inl ⟨by rfl, fun w' hSw => by go_simp⟩) hS ?_
              refine wpAnyH_take (i := 6) (oi := ⟨some 67, _, _, _, _, _⟩) (v := .int .u64 (yy : Nat)) rfl (by kernel_rfl) (by kernel_rfl) (by kernel_rfl) (fun _ _ _ h => h) (Or.inl ⟨by rfl, fun w' hSw => by go_simp⟩) hS ?_
              simp only [Act.put, List.setIfInBounds_toArray, List.set_cons_zero, List.set_cons_succ]
              refine wpAnyH_take (i := 7) (oi := ⟨some 68, _, _, _, _, _⟩) (v := .int .u64 0) rfl (by kernel_rfl) (by kernel_rfl) (by kernel_rfl) (fun _ _ _ h => h) (Or.inl ⟨by rfl, fun w' hSw => by go_simp; exact HM.out⟩) hS ?_
              refine wpAnyH_take (i := 8) (oi := ⟨some 69, _, _, _, _, _⟩) (v := .bool false) rfl (by kernel_rfl) (by kernel_rfl) (by kernel_rfl) (fun _ _ _ h => h) (Or.inl ⟨by rfl, fun w' hSw => by go_simp⟩) hS ?_
              simp only [Act.put, List.setIfInBounds_toArray, List.set_cons_zero, List.set_cons_succ]
              refine wpAnyH_ready (rs := [1]) (by kernel_rfl) (by simp) ?_
              refine AllReadyH.cons (o := ⟨some 62, .call ⟨.value (.func 34), #[.tmp 61], #[36]⟩, _, _, _, _⟩) rfl (fun K hK => ?_) AllReadyH.nil
              rw [if_pos (by rfl)]
              go_simp
              refine (HP _ (hR.drew ⟨1, rfl⟩)).mono ?_
              rintro e w9 ⟨rfl, hT0⟩
              have hT : To wr w9 B2 ⟨Z, (A ++ p).length, 0⟩ := (To.of_draws hR ⟨1, rfl⟩).trans hT0
              have hS9 : w9.cell? ⟨g, o + j * 4 + 2, none⟩ = some (.int .u64 (yy : Nat)) := by
                rw [← c2]
                exact (below_of_grown hT.grown (Nat.le_refl _) hBs).cell (by show g < B2; omega)
              refine hK.out _ _ hS9 (fun hS2 => ?_)
              clear hK K hS
              have hS := hS2
              clear hS2 hS9
              refine wpAnyH_take (i := 9) (oi := ⟨some 70, _, _, _, _, _⟩) (v := .bool true) rfl (by kernel_rfl) (by kernel_rfl) (by kernel_rfl) (fun _ _ _ h => h) (Or.inl ⟨by rfl, fun w' hSw => by go_simp⟩) hS ?_
              refine wpAnyH_take (i := 10) (oi := ⟨some 8, _, _, _, _, _⟩) (v := .bool true) rfl (by kernel_rfl) (by kernel_rfl) (by kernel_rfl) (fun _ _ _ h => h) (Or.inl ⟨by rfl, fun w' hSw => by go_simp⟩) hS ?_
              refine wpAnyH_done (by kernel_rfl) ?_ _
              simp only [Act.put, List.setIfInBounds_toArray, List.set_cons_zero, List.set_cons_succ]
              go_simp
              go_wp2_with fail
              have hBn : Below w.heap.size w w9 := hBl.trans (below_of_grown hT.grown hBB hBl.size)
              have hWn : WRb w9 w.heap.size Z B2 := hW.below (below_of_grown hT.grown (Nat.le_refl _) hBs)
              have hRn : RD w9 B2 ⟨Z, (A ++ p).length, 0⟩ := hT.rd
              go_roundw
              case rel => exact ⟨j + 1, by omega, by go_num, hBn, hWn, by rw [HJ.out]; exact hRn⟩
              case measure => simp [intOf]; omega
            · skip
              go_wp2_with (go_at_call 13; refine (HF _).mono ?_; rintro e w' ⟨rfl, hw'⟩; have hw2' := hw'.symm; subst hw2'; clear hw')
              refine wp_region_held_drew (S := fun w' => w'.cell? ⟨g, o + j * 4 + 2, none⟩ = some (.int .u64 (yy : Nat))) (by kernel_rfl) c2 (fun hS => ?_)
              refine wpAnyH_take (i := 0) (oi := ⟨some 61, _, _, _, _, _⟩) (v := .pointer (some ⟨B2, 0, none⟩)) rfl (by kernel_rfl) (by kernel_rfl) (by kernel_rfl) (fun _ _ _ h => h) (Or.inl ⟨by rfl, fun w' hSw => by go_simp⟩) hS ?_
              refine wpAnyH_take (i := 2) (oi := ⟨some 63, _, _, _, _, _⟩) (v := .slice (some ⟨g, o, none⟩) 40 cap) rfl (by kernel_rfl) (by kernel_rfl) (by kernel_rfl) (fun _ _ _ h => h) (Or.inl ⟨by rfl, fun w' hSw => by go_simp⟩) hS ?_
              refine wpAnyH_take (i := 3) (oi := ⟨some 64, _, _, _, _, _⟩) (v := .int .i64 (j : Nat)) rfl (by kernel_rfl) (by kernel_rfl) (by kernel_rfl) (fun _ _ _ h => h) (Or.inl ⟨by rfl, fun w' hSw => by go_simp⟩) hS ?_
              simp only [Act.put, List.setIfInBounds_toArray, List.set_cons_zero, List.set_cons_succ]
              refine wpAnyH_take (i := 4) (oi := ⟨some 65, _, _, _, _, _⟩) (v := .pointer (some ⟨g, o + j * 4, none⟩)) rfl (by kernel_rfl) (by kernel_rfl) (by kernel_rfl) (fun _ _ _ h => h) (Or.inl ⟨by rfl, fun w' hSw => by go_simp⟩) hS ?_
              refine wpAnyH_take (i := 5) (oi := ⟨some 66, _, _, _, _, _⟩) (v := .pointer (some ⟨g, o + j * 4 + 2, none⟩)) rfl (by kernel_rfl) (by kernel_rfl) (by kernel_rfl) (fun _ _ _ h => h) (Or.inl ⟨by rfl, fun w' hSw => by go_simp⟩) hS ?_
              refine wpAnyH_take (i := 6) (oi := ⟨some 67, _, _, _, _, _⟩) (v := .int .u64 (yy : Nat)) rfl (by kernel_rfl) (by kernel_rfl) (by kernel_rfl) (fun _ _ _ h => h) (Or.inl ⟨by rfl, fun w' hSw => by go_simp⟩) hS ?_
              simp only [Act.put, List.setIfInBounds_toArray, List.set_cons_zero, List.set_cons_succ]
              refine wpAnyH_take (i := 7) (oi := ⟨some 68, _, _, _, _, _⟩) (v := .int .u64 1) rfl (by kernel_rfl) (by kernel_rfl) (by kernel_rfl) (fun _ _ _ h => h) (Or.inl ⟨by rfl, fun w' hSw => by go_simp; exact HM.out⟩) hS ?_
              refine wpAnyH_take (i := 8) (oi := ⟨some 69, _, _, _, _, _⟩) (v := .bool true) rfl (by kernel_rfl) (by kernel_rfl) (by kernel_rfl) (fun _ _ _ h => h) (Or.inl ⟨by rfl, fun w' hSw => by go_simp⟩) hS ?_
              simp only [Act.put, List.setIfInBounds_toArray, List.set_cons_zero, List.set_cons_succ]
              refine wpAnyH_ready (rs := [1]) (by kernel_rfl) (by simp) ?_
              refine AllReadyH.cons (o := ⟨some 62, .call ⟨.value (.func 34), #[.tmp 61], #[36]⟩, _, _, _, _⟩) rfl (fun K hK => ?_) AllReadyH.nil
              rw [if_pos (by rfl)]
              go_simp
              refine (HP _ (hR.drew ⟨1, rfl⟩)).mono ?_
              rintro e w9 ⟨rfl, hT0⟩
              have hT : To wr w9 B2 ⟨Z, (A ++ p).length, 0⟩ := (To.of_draws hR ⟨1, rfl⟩).trans hT0
              have hS9 : w9.cell? ⟨g, o + j * 4 + 2, none⟩ = some (.int .u64 (yy : Nat)) := by
                rw [← c2]
                exact (below_of_grown hT.grown (Nat.le_refl _) hBs).cell (by show g < B2; omega)
              refine hK.out _ _ hS9 (fun hS2 => ?_)
              clear hK K hS
              have hS := hS2
              clear hS2 hS9
              refine wpAnyH_take (i := 9) (oi := ⟨some 70, _, _, _, _, _⟩) (v := .bool true) rfl (by kernel_rfl) (by kernel_rfl) (by kernel_rfl) (fun _ _ _ h => h) (Or.inl ⟨by rfl, fun w' hSw => by go_simp⟩) hS ?_
              refine wpAnyH_take (i := 10) (oi := ⟨some 8, _, _, _, _, _⟩) (v := .bool true) rfl (by kernel_rfl) (by kernel_rfl) (by kernel_rfl) (fun _ _ _ h => h) (Or.inl ⟨by rfl, fun w' hSw => by go_simp⟩) hS ?_
              refine wpAnyH_done (by kernel_rfl) ?_ _
              simp only [Act.put, List.setIfInBounds_toArray, List.set_cons_zero, List.set_cons_succ]
              go_simp
              go_wp2_with fail
              have hBn : Below w.heap.size w w9 := hBl.trans (below_of_grown hT.grown hBB hBl.size)
              have hWn : WRb w9 w.heap.size Z B2 := hW.below (below_of_grown hT.grown (Nat.le_refl _) hBs)
              have hRn : RD w9 B2 ⟨Z, (A ++ p).length, 0⟩ := hT.rd
              go_roundw
              case rel => exact ⟨j + 1, by omega, by go_num, hBn, hWn, by rw [HJ.out]; exact hRn⟩
              case measure => simp [intOf]; omega
        · have hcat : catP K N Y T j = Z := by rw [HZ0.out, show j = 40 from by omega]
          rw [hcat] at hR
          clear hcat
          have hok : (⟨Z, Z.length, 0⟩ : R).ok := Nat.le_refl _
          have hzl : Z.length ≤ 1099511627776 := by omega
          have HE := fun w' (h' : RD w' B2 ⟨Z, Z.length, 0⟩) => end_any B2 ⟨Z, Z.length, 0⟩ w' h' hok hzl
          rw [show (⟨Z, Z.length, 0⟩ : R).fin = ⟨Z, Z.length, 0⟩ from if_neg (by simp)] at HE
          go_wp2_with (first
            | (go_at_call 27; refine (wall_any w.heap.size Z _ hW.wr).mono ?_; rintro e w' ⟨rfl, hw'⟩; have hw2' := hw'.symm; subst hw2'; clear hw')
            | (go_at_call 35; refine (HE _ hR).mono ?_; rintro e w9 ⟨rfl, hT⟩))
          go_ret
          exact ⟨rfl, hBl.trans (below_of_grown hT.grown hl7 hBl.size)⟩
theorem writes_zero (a0 : Option Addr) (cap : Nat) (w : World) (hG : Glob w) :
    Calls Tryd.prog 6 #[.slice a0 0 cap] w fun e w' => e = .returned (.bool true) ∧ Below w.heap.size w w' := by
  have HNW := neww_any w
  have HAW := fun w (hG : Glob w) => awake_any w hG
  go_enter Tryd.func6, Tryd.ntmps6
  go_wp2_with (first
    | (go_at_call 24; refine HNW.mono ?_; rintro e w1 ⟨rfl, hw1, hW1⟩)
    | (go_at_call 9; refine (HAW _ (hG.belowSize hw1)).mono ?_; rintro e w2 ⟨rfl, hw2⟩))
  have hB2 : Below w.heap.size w w2 := hw1.trans (hw2.mono hw1.size)
  have hW2 := hW1.below hw2
  clear hw1 hw2 hW1 HNW HAW
  go_loopw [4, 5] (fun v4 v5 wl => v4 = .string ⟨#[]⟩ ∧ v5 = .int .i64 0 ∧ Below w.heap.size w wl ∧ WR wl w.heap.size []) (fun _ _ _ => 0)
  case atStart => exact ⟨rfl, rfl, hB2, hW2⟩
  case round =>
    obtain ⟨rfl, rfl, hBl, hW⟩ := hrel
    clear hB2 hW2
    go_wp2_with (first
      | (go_at_call 27; refine (wall_any w.heap.size [] _ hW).mono ?_; rintro e w' ⟨rfl, hw'⟩; have hw2' := hw'.symm; subst hw2'; clear hw')
      | (go_at_call 19; refine (newr_any [] _).mono ?_; rintro e w6 ⟨rfl, hw6, hR6⟩))
    have hB6 : Below w.heap.size w w6 := hBl.trans (hw6.mono hBl.size)
    have hW6 := hW.wrb.below hw6
    have hl7 : w.heap.size ≤ wr.heap.size := hBl.size
    clear hw6 hW
    generalize wr.heap.size = B2 at *
    clear hBl
    go_loopw [7] (fun v7 wl => v7 = .int .i64 0 ∧ Below w.heap.size w wl ∧ WRb wl w.heap.size [] B2 ∧ RD wl B2 ⟨[], 0, 0⟩) (fun _ _ => 0)
    case atStart => exact ⟨rfl, hB6, hW6, hR6⟩
    case round =>
      obtain ⟨rfl, hBl, hW, hR⟩ := hrel
      clear hB6 hW6 hR6
      have HE := fun w' (h' : RD w' B2 ⟨[], 0, 0⟩) => end_any B2 ⟨[], 0, 0⟩ w' h' (Nat.le_refl _) (by simp)
      rw [show (⟨[], 0, 0⟩ : R).fin = ⟨[], 0, 0⟩ from rfl] at HE
      go_wp2_with (first
        | (go_at_call 27; refine (wall_any w.heap.size [] _ hW.wr).mono ?_; rintro e w' ⟨rfl, hw'⟩; have hw2' := hw'.symm; subst hw2'; clear hw')
        | (go_at_call 35; refine (HE _ hR).mono ?_; rintro e w9 ⟨rfl, hT⟩))
      go_ret
      exact ⟨rfl, hBl.trans (below_of_grown hT.grown hl7 hBl.size)⟩
end Go.Proofs.YtaccklbijihppaaDoor
