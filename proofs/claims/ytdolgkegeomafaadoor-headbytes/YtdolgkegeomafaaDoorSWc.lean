/- What mix does: the words behind a block more. -/
import Derived.Test.YtdolgkegeomafaaDoorSWb
namespace Go.Proofs.YtdolgkegeomafaaDoor.Sh
open Go.RowKit
attribute [local go_sem] n32_add n32_wadd bits_xor32 bits_and32 bits_or32 bits_not32 bits_notmax sub_not32 n32_shr n32_shl n8_wrap n32_shl8 n32_shl16 n32_shl24 n32_shr3 n32_shr10
/-- Only draws lie between two worlds. -/
structure Draws (w w' : World) : Prop where
  out : ∃ n, w' = w.drewN n
theorem Draws.drewN {w w' : World} (h : Draws w w') (n : Nat) : Draws w (w'.drewN n) := by
  obtain ⟨m, rfl⟩ := h.out
  exact ⟨_, World.drewN_drewN _ _ _⟩
theorem Draws.glob {w w' : World} (h : Draws w w') (hG : Glob w) : Glob w' := by
  obtain ⟨m, rfl⟩ := h.out
  exact hG.drewN m
theorem Draws.blk {w w' : World} (h : Draws w w') {b : Nat} {c : Array Value} {t : TypeId} (hb : Blk w b c t) : Blk w' b c t := by
  obtain ⟨m, rfl⟩ := h.out
  exact hb.drewN m
theorem Draws.below {w w' a : World} (h : Draws w w') {B : Nat} (hb : Below B a w) : Below B a w' := by
  obtain ⟨m, rfl⟩ := h.out
  exact below_draws hb m
theorem Draws.size {w w' : World} (h : Draws w w') : w'.heap.size = w.heap.size := by
  obtain ⟨m, rfl⟩ := h.out
  rfl
theorem z40 : (∀ w, (zeroValue 80).run Tryd.prog w = .ok (.agg (row32 (fun _ => 0) 8)) w) ∧ (Tryd.prog.info? 80).map (·.size) = some 8 := zero_of_info (by kernel_rfl)
set_option maxRecDepth 100000 in
set_option maxHeartbeats 400000 in
theorem mix_any (H : S8) (fb : Nat → UInt8) (w : World) (hG : Glob w) :
    Calls Tryd.prog 52 #[.agg (row32 H.at 8), .agg (row8 fb 64)] w fun e w' => e = .returned (.agg (row32 (mixS H fb).at 8)) ∧ Below w.heap.size w w' := by
  go_enter Tryd.func52, Tryd.ntmps52
  go_wp2_with (first
    | (go_at_call 56; refine (spread_any _ _).mono ?_; rintro e w4 ⟨rfl, hw4⟩)
    | (with_reducible refine at_list ?_; first
      | (refine wpList_boxRow (op := ⟨some 2, _, _, _, _, _⟩) rfl _ _ rfl _ rfl ?_; intro w1 hw1 hs1 hb1)
      | (refine wpList_boxRow (op := ⟨some 3, _, _, _, _, _⟩) rfl _ _ rfl _ rfl ?_; intro w2 hw2 hs2 hb2)
      | (refine wpList_allocRow (op := ⟨some 4, _, _, _, _, _⟩) rfl _ rfl _ z40.1 ?_; intro w3 hw3 hs3 hb3)
      | (refine wpList_loadRow rfl _ _ rfl _ rfl _ _ (hb2.belowSize hw3) _ Tryd.underlying81 rfl (by rw [row8_size]; exact i47) ?_)
      | (refine wpList_allocRow (op := ⟨some 5, _, _, _, _, _⟩) rfl _ rfl _ z39.1 ?_; intro w5 hw5 hs5 hb5)
      | (refine wpList_storeRow rfl _ _ _ rfl w4.heap.size _ rfl rfl _ _ hb5 (by rw [row32_size, row32_size]) (by rw [row32_size]; exact z39.2) (row32_one _ _) ?_; intro w6 hg6 hs6 hb6)))
  go_simp
  have hM : w.heap.size + 3 ≤ w4.heap.size := by have := hw4.size; omega
  have hB5 : Below w.heap.size w w5 := (((hw1.trans (hw2.mono (by omega))).trans (hw3.mono (by omega))).trans (hw4.mono (by omega))).trans (hw5.mono (by omega))
  have hB6 : Below w.heap.size w w6 := hB5.trans (below_of_grown hg6 (by omega) (by omega))
  have hbw : Blk w6 w.heap.size (row32 H.at 8) 80 := ((((hb1.belowSize hw2).belowSize hw3).belowSize hw4).belowSize hw5).grown hg6 (by simp; omega)
  have hbr : Blk w6 (w.heap.size + 1 + 1) (row32 (fun _ => 0) 8) 80 := by
    have := ((hb3.belowSize hw4).belowSize hw5).grown hg6 (by simp; omega)
    rw [hs2, hs1] at this
    exact this
  have hG6 : Glob w6 := hG.belowSize hB6
  have hL : w4.heap.size < w6.heap.size := by omega
  generalize w4.heap.size = M at *
  clear hb1 hb2 hb3 hb5 hB5 hw1 hw2 hw3 hw4 hw5 hg6 hs1 hs2 hs3 hs5 hs6 hG
  have c0 : w6.cell? ⟨w.heap.size, 0, none⟩ = some (.int .u32 (n32 H.a)) := (hbw.cell 0).trans (row32_get _ _ _ (by omega))
  have c1 : w6.cell? ⟨w.heap.size, 1, none⟩ = some (.int .u32 (n32 H.b)) := (hbw.cell 1).trans (row32_get _ _ _ (by omega))
  have c2 : w6.cell? ⟨w.heap.size, 2, none⟩ = some (.int .u32 (n32 H.c)) := (hbw.cell 2).trans (row32_get _ _ _ (by omega))
  have c3 : w6.cell? ⟨w.heap.size, 3, none⟩ = some (.int .u32 (n32 H.d)) := (hbw.cell 3).trans (row32_get _ _ _ (by omega))
  have c4 : w6.cell? ⟨w.heap.size, 4, none⟩ = some (.int .u32 (n32 H.e)) := (hbw.cell 4).trans (row32_get _ _ _ (by omega))
  have c5 : w6.cell? ⟨w.heap.size, 5, none⟩ = some (.int .u32 (n32 H.f)) := (hbw.cell 5).trans (row32_get _ _ _ (by omega))
  have c6 : w6.cell? ⟨w.heap.size, 6, none⟩ = some (.int .u32 (n32 H.g)) := (hbw.cell 6).trans (row32_get _ _ _ (by omega))
  have c7 : w6.cell? ⟨w.heap.size, 7, none⟩ = some (.int .u32 (n32 H.h)) := (hbw.cell 7).trans (row32_get _ _ _ (by omega))
  go_quiet (fail)
  go_wp2_with fail
  go_quiet (fail)
  go_wp2_with fail
  clear c0 c1 c2 c3 c4 c5 c6 c7
  go_loopw [6, 7, 8, 9, 10, 11, 12, 13, 39] (fun va vb vc vd ve vf vg vh vt wl => ∃ (k : Nat) (s : S8), k ≤ 64 ∧ vt = .int .i64 k ∧ s = rnds Kt (wt fb) H k ∧ va = .int .u32 (n32 s.a) ∧ vb = .int .u32 (n32 s.b) ∧ vc = .int .u32 (n32 s.c) ∧ vd = .int .u32 (n32 s.d) ∧ ve = .int .u32 (n32 s.e) ∧ vf = .int .u32 (n32 s.f) ∧ vg = .int .u32 (n32 s.g) ∧ vh = .int .u32 (n32 s.h) ∧ Draws w6 wl) (fun _ _ _ _ _ _ _ _ vt _ => 64 - (intOf vt).toNat)
  case atStart => exact ⟨0, H, by omega, rfl, rfl, rfl, rfl, rfl, rfl, rfl, rfl, rfl, rfl, (Draws.drewN ⟨_, rfl⟩ _)⟩
  case round =>
    obtain ⟨k, s, hk, rfl, hs, rfl, rfl, rfl, rfl, rfl, rfl, rfl, rfl, hD⟩ := hrel
    have HS : Hid (s = rnds Kt (wt fb) H k) := hs
    clear hs
    by_cases hlt : k < 64
    · have ck := (hD.glob hG6).k k hlt
      have cw := ((hD.blk hb6).cell k).trans (row32_get _ _ _ hlt)
      go_wp2_with fail
      go_quiet ((go_at_call 57; exact Calls.quiet_of_same (turned_any _ _ _ _ _ (by omega) (by omega) (by omega) (by omega) (by omega) (by omega))))
      clear ck cw
      go_wp2_with (go_at_call 57; refine (turned_any _ _ _ _ _ (by omega) (by omega) (by omega) (by omega) (by omega) (by omega)).mono ?_; rintro e w' ⟨rfl, rfl⟩)
      go_roundw
      case rel =>
        exact ⟨k + 1, step (Kt k) (wt fb k) s, by omega, by go_num, by rw [rnds, ← HS.out], rfl, rfl, rfl, rfl, rfl, rfl, rfl, rfl, hD.drewN _⟩
      case measure => simp [intOf]; omega
    · have HS2 : Hid (mixS H fb = H.add s) := by
        have := HS.out
        rw [show k = 64 from by omega] at this
        unfold mixS
        rw [← this]
        rfl
      clear HS
      have hB7 := hD.below hB6
      have hbw7 := hD.blk hbw
      have hbr7 := hD.blk hbr
      have hz7 := hD.size
      have hsz : w.heap.size + 3 < w6.heap.size := by omega
      have hsz7 : w.heap.size + 3 < wr.heap.size := by omega
      clear hD hB6 hbw hbr hb6 hG6 hz7 hM hL
      have hdk : decide ((k : Int) < 64) = false := by simp; omega
      go_wp2_with fail
      rw [row32_eight s]
      clear hdk
      go_loopw [101] (fun v wl => ∃ i : Nat, i ≤ 8 ∧ v = .int .i64 i ∧ Below w.heap.size w wl ∧ w.heap.size + 3 < wl.heap.size ∧ Blk wl w.heap.size (row32 (addTo H s i) 8) 80 ∧ Blk wl (w.heap.size + 1 + 1) (row32 (fun _ => 0) 8) 80) (fun v _ => 8 - (intOf v).toNat)
      case atStart => exact ⟨0, by omega, rfl, hB7, hsz7, by rw [addTo_zero]; exact hbw7, hbr7⟩
      case round =>
        obtain ⟨i, hi, rfl, hB, hz, hbw, hbr⟩ := hrel
        clear hB7 hsz7 hbw7 hbr7 hsz
        by_cases hlt' : i < 8
        · go_wp2_with (with_reducible refine at_list ?_; first
            | (refine wpList_indexW rfl _ _ _ rfl s.at 8 rfl i rfl _ Tryd.underlying80 _ Tryd.underlying79 rfl i38 hlt' ?_)
            | (refine wpList_addrW rfl _ _ _ rfl (w.heap.size) rfl .i64 _ rfl i _ _ Tryd.underlying80 i38 rfl hlt' ?_)
            | (refine wpList_loadW rfl _ _ rfl (w.heap.size) i rfl _ _ _ hbw _ Tryd.underlying79 rfl hlt' ?_)
            | (refine wpList_storeW rfl _ _ _ rfl (w.heap.size) i rfl _ rfl _ _ _ hbw i38 hlt' ?_; intro w8 hg8 hs8 hb8; rw [addTo_succ] at hb8))
          go_roundw
          case rel => exact ⟨i + 1, by omega, by go_num, hB.trans (below_of_grown hg8 (by omega) (by omega)), by omega, hb8, hbr.grown hg8 (by simp; omega)⟩
          case measure => simp [intOf]; omega
        · have hbw2 : Blk wr (w.heap.size) (row32 (mixS H fb).at 8) 80 := by
            rw [show i = 8 from by omega, addTo_all, ← HS2.out] at hbw
            exact hbw
          clear hbw
          go_wp2_with (with_reducible refine at_list ?_; first
            | (refine wpList_loadRow rfl _ _ rfl (w.heap.size) rfl _ _ hbw2 _ Tryd.underlying80 rfl (by rw [row32_size]; exact z40.2) ?_)
            | (refine wpList_storeRow rfl _ _ _ rfl (w.heap.size + 1 + 1) _ rfl rfl _ _ hbr (by rw [row32_size, row32_size]) (by rw [row32_size]; exact z40.2) (row32_one _ _) ?_; intro w9 hg9 hs9 hb9))
          refine bodyPost_ret (v := .agg (row32 (mixS H fb).at 8)) ?_ rfl ⟨rfl, hB.trans (below_of_grown hg9 (by omega) (by omega))⟩
          exact results_cell_row rfl _ _ (w.heap.size + 1 + 1) _ _ _ _ rfl hb9.out Tryd.underlying80 rfl (by rw [row32_size]; exact z40.2)
end Go.Proofs.YtdolgkegeomafaaDoor.Sh
