/- What spreadOut does: the words of the rounds. -/
import Derived.Test.YtdolgkegeomafaaDoorSWa
import Derived.Test.YtdolgkegeomafaaDoorSSpec
namespace Go.Proofs.YtdolgkegeomafaaDoor.Sh
open Go.RowKit
attribute [local go_sem] n32_add n32_wadd bits_xor32 bits_and32 bits_or32 bits_not32 sub_not32 n32_shr n32_shl n8_wrap n32_shl8 n32_shl16 n32_shl24 n32_shr3 n32_shr10
theorem z39 : (∀ w, (zeroValue 86).run Tryd.prog w = .ok (.agg (row32 (fun _ => 0) 64)) w) ∧ (Tryd.prog.info? 86).map (·.size) = some 64 := zero_of_info (by kernel_rfl)
theorem i47 : (Tryd.prog.info? 81).map (·.size) = some 64 := by kernel_rfl

theorem i5 : (Tryd.prog.info? 5).map (·.size) = some 1 := by kernel_rfl
theorem i38 : (Tryd.prog.info? 79).map (·.size) = some 1 := by kernel_rfl
set_option maxRecDepth 100000 in
set_option maxHeartbeats 400000 in
theorem spread_any (f : Nat → UInt8) (w : World)  :
    Calls Tryd.prog 56 #[.agg (row8 f 64)] w fun e w' => e = .returned (.agg (row32 (wt f) 64)) ∧ Below w.heap.size w w' := by
  go_enter Tryd.func56, Tryd.ntmps56
  go_wp2_with (first
    | (refine wpList_boxRow rfl _ _ rfl _ rfl ?_; intro w1 hw1 hs1 hb1)
    | (refine wpList_allocRow (op := ⟨some 2, _, _, _, _, _⟩) rfl _ rfl _ z39.1 ?_; intro w2 hw2 hs2 hb2)
    | (refine wpList_allocRow (op := ⟨some 3, _, _, _, _, _⟩) rfl _ rfl _ z39.1 ?_; intro w3 hw3 hs3 hb3)
    | (refine wpList_loadRow rfl _ _ rfl _ rfl _ _ ((hb1.belowSize hw2).belowSize hw3) _ Tryd.underlying81 rfl (by rw [row8_size]; exact i47) ?_))
  have hB : Below w.heap.size w w3 := (hw1.trans (hw2.mono (by omega))).trans (hw3.mono (by omega))
  replace hb2 := hb2.belowSize hw3
  rw [hs2] at hb3
  rw [hs1] at hb2 hb3
  have hs : w3.heap.size = w.heap.size + 3 := by omega
  clear hb1 hw1 hw2 hw3 hs1 hs2 hs3
  go_loopw [10] (fun i wl => ∃ k : Nat, k ≤ 64 ∧ i = .int .i64 k ∧ Below w.heap.size w wl ∧ wl.heap.size = w.heap.size + 3 ∧ Blk wl (w.heap.size + 1) (row32 (fun _ => 0) 64) 86 ∧ Blk wl (w.heap.size + 1 + 1) (row32 (partsTo f k) 64) 86) (fun i _ => 64 - (intOf i).toNat)
  case atStart => exact ⟨0, by omega, rfl, hB, hs, hb2, by rw [row32_congr (g := fun _ => 0) (fun j _ => partsTo_zero f j)]; exact hb3⟩
  case round =>
    obtain ⟨k, hk, rfl, hB', hs', hb2', hb3'⟩ := hrel
    clear hB hs hb2 hb3
    by_cases hlt : k < 64
    · go_wp2_with (first
       | (refine wpList_indexB rfl _ _ _ rfl f 64 rfl k rfl _ Tryd.underlying81 _ Tryd.underlying5 rfl i5 hlt ?_)
       | (refine wpList_addrW rfl _ _ _ rfl (w.heap.size + 1 + 1) rfl .i64 _ rfl (k / 4) _ _ Tryd.underlying86 i38 (by omega) (by omega) ?_)
       | (refine wpList_loadW rfl _ _ rfl (w.heap.size + 1 + 1) (k / 4) rfl _ _ _ hb3' _ Tryd.underlying79 rfl (by omega) ?_)
       | (refine wpList_storeW rfl _ _ _ rfl (w.heap.size + 1 + 1) (k / 4) rfl _ rfl _ _ _ hb3' i38 (by omega) ?_; intro w4 hg4 hs4 hb4; rw [partsTo_succ] at hb4))
      go_roundw
      case rel => exact ⟨k + 1, by omega, by go_num, hB'.trans (below_of_grown hg4 (by omega) (by omega)), by omega, hb2'.grown hg4 (by simp), hb4⟩
      case measure => simp [intOf]; omega
    · have hb4' : Blk wr (w.heap.size + 1 + 1) (row32 (schedF f 0) 64) 86 := by
        rw [show k = 64 from by omega, sched_zero_parts] at hb3'
        exact hb3'
      clear hb3'
      go_wp2_with fail
      go_loopw [26] (fun i wl => ∃ m : Nat, m ≤ 48 ∧ i = .int .i64 m ∧ Below w.heap.size w wl ∧ wl.heap.size = w.heap.size + 3 ∧ Blk wl (w.heap.size + 1) (row32 (fun _ => 0) 64) 86 ∧ Blk wl (w.heap.size + 1 + 1) (row32 (schedF f m) 64) 86) (fun i _ => 48 - (intOf i).toNat)
      case atStart => exact ⟨0, by omega, rfl, hB', hs', hb2', hb4'⟩
      case round =>
        obtain ⟨m, hm, rfl, hB, hs, hb2, hb3⟩ := hrel
        clear hB' hs' hb2' hb4'
        by_cases hlt' : m < 48
        · have c1 := (hb3.cell (m + 1)).trans (row32_get _ _ _ (by omega))
          have c14 := (hb3.cell (m + 14)).trans (row32_get _ _ _ (by omega))
          go_wp2_with fail
          go_quiet (fail)
          go_wp2_with (go_at_call 59; refine (rot_any _ _ _ (by omega) (by omega)).mono ?_; rintro e w' ⟨rfl, rfl⟩)
          clear c1 c14
          have c0 := (hb3.cell m).trans (row32_get _ _ _ (by omega))
          have c9 := (hb3.cell (m + 9)).trans (row32_get _ _ _ (by omega))
          have c16 := (hb3.cell (m + 16)).trans (row32_get _ _ _ (by omega))
          have f16 := hb3.frozen (m + 16)
          go_region
          clear c0 c9 c16 f16
          go_wp2_with fail
          go_roundw
          case rel =>
            refine ⟨m + 1, by omega, by go_num, (below_draws hB _).trans (below_of_grown (grown_setCell _ _ _ _) (by omega) (by show _ ≤ wr.heap.size; omega)), ?_, (hb2.drewN _).setCell_other _ (by simp) _, ?_⟩
            · rw [show ∀ (x : World) (p : Addr) (v : Value), (x.setCell p v).heap.size = x.heap.size from fun x p v => by simp [World.setCell]]; exact hs
            · rw [schedF_succ, nxt_sched, ← row32_set]
              exact (hb3.drewN _).setCell _ _
          case measure => simp [intOf]; omega
        · have hb4 : Blk wr (w.heap.size + 1 + 1) (row32 (wt f) 64) 86 := by
            rw [show m = 48 from by omega] at hb3
            exact hb3
          clear hb3
          go_wp2_with (first
            | (refine wpList_loadRow rfl _ _ rfl (w.heap.size + 1 + 1) rfl _ _ hb4 _ Tryd.underlying86 rfl (by rw [row32_size]; exact z39.2) ?_)
            | (refine wpList_storeRow rfl _ _ _ rfl (w.heap.size + 1) _ rfl rfl _ _ hb2 (by rw [row32_size, row32_size]) (by rw [row32_size]; exact z39.2) (row32_one _ _) ?_; intro w4 hg4 hs4 hb5))
          refine bodyPost_ret (v := .agg (row32 (wt f) 64)) ?_ rfl ⟨rfl, hB.trans (below_of_grown hg4 (by omega) (by omega))⟩
          exact results_cell_row rfl _ _ (w.heap.size + 1) _ _ _ _ rfl hb5.out Tryd.underlying86 rfl (by rw [row32_size]; exact z39.2)
end Go.Proofs.YtdolgkegeomafaaDoor.Sh
