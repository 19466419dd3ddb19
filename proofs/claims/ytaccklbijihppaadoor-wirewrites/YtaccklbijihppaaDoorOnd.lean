/- What one does, at last. -/
import Derived.Test.YtaccklbijihppaaDoorOnb
import Derived.Test.YtaccklbijihppaaDoorOnc
namespace Go.Proofs.YtaccklbijihppaaDoor
open Go Go.RowKit
set_option maxRecDepth 100000 in
set_option maxHeartbeats 400000 in
theorem one_6 (b : Nat) (s : List UInt8) (pos : Nat) (err n x : Int) (t : List UInt8) (w : World) (h : RD w b ⟨s, pos, err⟩) :
    Calls Tryd.prog 20 #[.pointer (some ⟨b, 0, none⟩), .agg (rc s pos err), .agg (ac 6 n x t)] w fun e w' => e = .returned (.tuple #[.agg (rc s pos (if err = 0 then n else err)), .bool true]) ∧ To w w' b ⟨s, pos, if err = 0 then n else err⟩ := by
  have hbl := h.blk.lt
  by_cases he : err = 0
  · subst he
    rw [if_pos rfl]
    have HP : ∀ w, RD w b ⟨s, pos, 0⟩ → Calls Tryd.prog 36 #[.pointer (some ⟨b, 0, none⟩), .int .i64 n] w fun e w' => e = .returned (.tuple #[]) ∧ To w w' b ⟨s, pos, n⟩ := fun w h => fail_any b ⟨s, pos, 0⟩ n w h
    go_enter Tryd.func20, Tryd.ntmps20
    go_wp2_with (first
      | (go_at_call 36; refine (HP _ hR3).mono ?_; rintro e w4 ⟨rfl, hT4⟩; replace hb1 := hb1.grown hT4.grown (by simp; omega); replace ha2 := ha2.grown hT4.grown (by simp; omega); replace hz3 := hz3.grown hT4.grown (by simp; omega); have hl4 := hT4.grown.size)
      | (with_reducible refine at_list ?_; first
        | (refine wpList_boxRow (op := ⟨some 4, _, _, _, _, _⟩) rfl _ _ rfl _ rfl ?_; intro w1 hw1 hs1 hb1; replace hs1 := hs1.symm)
        | (refine wpList_boxRow (op := ⟨some 5, _, _, _, _, _⟩) rfl _ _ rfl _ rfl ?_; intro w2 hw2 hs2 ha2; replace hs2 := hs2.symm; replace hb1 := hb1.belowSize hw2)
        | (refine wpList_allocRow (op := ⟨some 6, _, _, _, _, _⟩) rfl _ rfl _ z39.1 ?_; intro w3 hw3 hs3 hz3; replace hs3 := hs3.symm; replace hb1 := hb1.belowSize hw3; replace ha2 := ha2.belowSize hw3; have hR3 := h.below (hw1.trans ((hw2.mono hw1.size).trans (hw3.mono (Nat.le_trans hw1.size hw2.size)))))
        | (refine wpList_loadCell (op := ⟨some 29, _, _, _, _, _⟩) rfl _ _ rfl w1.heap.size 0 rfl _ _ ha2 _ Tryd.underlying3 rfl _ (ac_g0 _ _ _ _) ?_)
        | (refine wpList_loadCell (op := ⟨some 128, _, _, _, _, _⟩) rfl _ _ rfl w1.heap.size 1 rfl _ _ ha2 _ Tryd.underlying3 rfl _ (ac_g1 _ _ _ _) ?_)
        | (refine wpList_loadCell (op := ⟨some 131, _, _, _, _, _⟩) rfl _ _ rfl w.heap.size 2 rfl _ _ hb1 _ Tryd.underlying3 rfl (.int .i64 0) rfl ?_)
        | (refine wpList_loadCell (op := ⟨some 134, _, _, _, _, _⟩) rfl _ _ rfl w1.heap.size 1 rfl _ _ ha2 _ Tryd.underlying3 rfl _ (ac_g1 _ _ _ _) ?_)
        | (refine wpList_storeCell (op := ⟨none, .store 3 (.tmp 135) _, _, _, _, _⟩) rfl _ _ _ rfl w.heap.size 2 rfl (.int .i64 n) rfl _ _ hb1 i3 rfl rfl (by simp [rc]) ?_; intro w5 hg5 hs5 hb5; rw [rc_err] at hb5; replace hz3 := hz3.grown hg5 (by simp; omega))
        | (refine wpList_loadRow (op := ⟨some 136, _, _, _, _, _⟩) rfl _ _ rfl w.heap.size rfl _ _ hb5 _ Tryd.underlying39 rfl (by rw [rc_size]; exact z39.2) ?_)
        | (refine wpList_storeRow (op := ⟨none, .store 39 (.tmp 6) (.tmp 136), _, _, _, _⟩) rfl _ _ _ rfl w2.heap.size (rc s pos n) rfl rfl _ _ hz3 (by rw [rc_size, rc_size]) (by rw [rc_size]; exact z39.2) (rc_one _ _ _) ?_; intro w8 hg8 hs8 hz8)))
    have hB2 : Below w.heap.size w w2 := hw1.trans (hw2.mono hw1.size)
    have hB3 : Below w.heap.size w w3 := hB2.trans (hw3.mono hB2.size)
    have hs14 : w.heap.size ≤ w4.heap.size := by omega
    have hC5 : Below w.heap.size w4 w5 := below_of_grown hg5 (Nat.le_refl _) hs14
    refine bodyPost_ret (res_rc rfl _ _ w2.heap.size s pos n _ rfl rfl hz8) rfl ⟨rfl, ?_⟩
    exact To.wrap hB3 hT4 (hC5.trans (below_of_grown hg8 (by omega) (by omega))) hbl
  · rw [if_neg he]
    have hd : decide (err = 0) = false := decide_eq_false he
    have HP : ∀ w, RD w b ⟨s, pos, err⟩ → Calls Tryd.prog 36 #[.pointer (some ⟨b, 0, none⟩), .int .i64 n] w fun e w' => e = .returned (.tuple #[]) ∧ To w w' b ⟨s, pos, err⟩ := fun w h => by
      have := fail_any b ⟨s, pos, err⟩ n w h
      rw [show R.fail ⟨s, pos, err⟩ n = ⟨s, pos, err⟩ from if_neg he] at this
      exact this
    go_enter Tryd.func20, Tryd.ntmps20
    go_wp2_with (first
      | (go_at_call 36; refine (HP _ hR3).mono ?_; rintro e w4 ⟨rfl, hT4⟩; replace hb1 := hb1.grown hT4.grown (by simp; omega); replace ha2 := ha2.grown hT4.grown (by simp; omega); replace hz3 := hz3.grown hT4.grown (by simp; omega); have hl4 := hT4.grown.size)
      | (with_reducible refine at_list ?_; first
        | (refine wpList_boxRow (op := ⟨some 4, _, _, _, _, _⟩) rfl _ _ rfl _ rfl ?_; intro w1 hw1 hs1 hb1; replace hs1 := hs1.symm)
        | (refine wpList_boxRow (op := ⟨some 5, _, _, _, _, _⟩) rfl _ _ rfl _ rfl ?_; intro w2 hw2 hs2 ha2; replace hs2 := hs2.symm; replace hb1 := hb1.belowSize hw2)
        | (refine wpList_allocRow (op := ⟨some 6, _, _, _, _, _⟩) rfl _ rfl _ z39.1 ?_; intro w3 hw3 hs3 hz3; replace hs3 := hs3.symm; replace hb1 := hb1.belowSize hw3; replace ha2 := ha2.belowSize hw3; have hR3 := h.below (hw1.trans ((hw2.mono hw1.size).trans (hw3.mono (Nat.le_trans hw1.size hw2.size)))))
        | (refine wpList_loadCell (op := ⟨some 29, _, _, _, _, _⟩) rfl _ _ rfl w1.heap.size 0 rfl _ _ ha2 _ Tryd.underlying3 rfl _ (ac_g0 _ _ _ _) ?_)
        | (refine wpList_loadCell (op := ⟨some 128, _, _, _, _, _⟩) rfl _ _ rfl w1.heap.size 1 rfl _ _ ha2 _ Tryd.underlying3 rfl _ (ac_g1 _ _ _ _) ?_)
        | (refine wpList_loadCell (op := ⟨some 131, _, _, _, _, _⟩) rfl _ _ rfl w.heap.size 2 rfl _ _ hb1 _ Tryd.underlying3 rfl (.int .i64 err) rfl ?_)
        | (refine wpList_loadRow (op := ⟨some 136, _, _, _, _, _⟩) rfl _ _ rfl w.heap.size rfl _ _ hb1 _ Tryd.underlying39 rfl (by rw [rc_size]; exact z39.2) ?_)
        | (refine wpList_storeRow (op := ⟨none, .store 39 (.tmp 6) (.tmp 136), _, _, _, _⟩) rfl _ _ _ rfl w2.heap.size (rc s pos err) rfl rfl _ _ hz3 (by rw [rc_size, rc_size]) (by rw [rc_size]; exact z39.2) (rc_one _ _ _) ?_; intro w8 hg8 hs8 hz8)))
    have hB2 : Below w.heap.size w w2 := hw1.trans (hw2.mono hw1.size)
    have hB3 : Below w.heap.size w w3 := hB2.trans (hw3.mono hB2.size)
    have hs14 : w.heap.size ≤ w4.heap.size := by omega
    refine bodyPost_ret (res_rc rfl _ _ w2.heap.size s pos err _ rfl rfl hz8) rfl ⟨rfl, ?_⟩
    exact To.wrap hB3 hT4 (below_of_grown hg8 (by omega) hs14) hbl
set_option maxRecDepth 100000 in
set_option maxHeartbeats 400000 in
theorem one_7 (b : Nat) (s : List UInt8) (pos : Nat) (err kind n x : Int) (t : List UInt8) (us : List UInt8) (up : Nat) (ue : Int) (w : World) (h : RD w b ⟨s, pos, err⟩) (hk : ¬ (0 ≤ kind ∧ kind ≤ 6))
    (HP : ∀ w, RD w b ⟨s, pos, err⟩ → Calls Tryd.prog 35 #[.pointer (some ⟨b, 0, none⟩)] w fun e w' => e = .returned (.int .i64 ue) ∧ To w w' b ⟨us, up, ue⟩)
    (HQ : ∀ w, Calls Tryd.prog 44 #[.agg (rc s pos err)] w fun e w' => e = .returned (.agg (rc us up ue)) ∧ Below w.heap.size w w') :
    Calls Tryd.prog 20 #[.pointer (some ⟨b, 0, none⟩), .agg (rc s pos err), .agg (ac kind n x t)] w fun e w' => e = .returned (.tuple #[.agg (rc us up ue), .bool true]) ∧ To w w' b ⟨us, up, ue⟩ := by
  have hbl := h.blk.lt
  have hd0 : decide (kind = 0) = false := decide_eq_false (by omega)
  have hd1 : decide (kind = 1) = false := decide_eq_false (by omega)
  have hd2 : decide (kind = 2) = false := decide_eq_false (by omega)
  have hd3 : decide (kind = 3) = false := decide_eq_false (by omega)
  have hd4 : decide (kind = 4) = false := decide_eq_false (by omega)
  have hd5 : decide (kind = 5) = false := decide_eq_false (by omega)
  have hd6 : decide (kind = 6) = false := decide_eq_false (by omega)
  go_enter Tryd.func20, Tryd.ntmps20
  go_wp2_with (first
    | (go_at_call 35; refine (HP _ hR3).mono ?_; rintro e w4 ⟨rfl, hT4⟩; replace hb1 := hb1.grown hT4.grown (by simp; omega); replace ha2 := ha2.grown hT4.grown (by simp; omega); replace hz3 := hz3.grown hT4.grown (by simp; omega); have hl4 := hT4.grown.size)
    | (go_at_call 44; refine (HQ _).mono ?_; rintro e w5 ⟨rfl, hw5⟩; replace hz3 := hz3.belowSize hw5; have hl5 := hw5.size)
    | (with_reducible refine at_list ?_; first
      | (refine wpList_boxRow (op := ⟨some 4, _, _, _, _, _⟩) rfl _ _ rfl _ rfl ?_; intro w1 hw1 hs1 hb1; replace hs1 := hs1.symm)
      | (refine wpList_boxRow (op := ⟨some 5, _, _, _, _, _⟩) rfl _ _ rfl _ rfl ?_; intro w2 hw2 hs2 ha2; replace hs2 := hs2.symm; replace hb1 := hb1.belowSize hw2)
      | (refine wpList_allocRow (op := ⟨some 6, _, _, _, _, _⟩) rfl _ rfl _ z39.1 ?_; intro w3 hw3 hs3 hz3; replace hs3 := hs3.symm; replace hb1 := hb1.belowSize hw3; replace ha2 := ha2.belowSize hw3; have hR3 := h.below (hw1.trans ((hw2.mono hw1.size).trans (hw3.mono (Nat.le_trans hw1.size hw2.size)))))
      | (refine wpList_loadCell (op := ⟨some 29, _, _, _, _, _⟩) rfl _ _ rfl w1.heap.size 0 rfl _ _ ha2 _ Tryd.underlying3 rfl _ (ac_g0 _ _ _ _) ?_)
      | (refine wpList_loadRow (op := ⟨some 139, _, _, _, _, _⟩) rfl _ _ rfl w.heap.size rfl _ _ hb1 _ Tryd.underlying39 rfl (by rw [rc_size]; exact z39.2) ?_)
      | (refine wpList_allocRow (op := ⟨some 27, _, _, _, _, _⟩) rfl _ rfl _ z39.1 ?_; intro w6 hw6 hs6 hk6; replace hs6 := hs6.symm; replace hz3 := hz3.belowSize hw6)
      | (refine wpList_storeRow (op := ⟨none, .store 39 (.tmp 27) (.tmp 140), _, _, _, _⟩) rfl _ _ _ rfl w5.heap.size (rc us up ue) rfl rfl _ _ hk6 (by rw [rc_size, rc_size]) (by rw [rc_size]; exact z39.2) (rc_one _ _ _) ?_; intro w7 hg7 hs7 hz7; have hk7 := hz7; clear hz7; replace hz3 := hz3.grown hg7 (by simp; omega))))
  clear hd0 hd1 hd2 hd3 hd4 hd5 hd6
  refine wp_region_held_drew (S := fun w' => Blk w' w5.heap.size (rc us up ue) 39) (by kernel_rfl) hk7.drew (fun hS => ?_)
  refine wpAnyH_take (i := 0) (oi := ⟨some 141, _, _, _, _, _⟩) (v := .agg (rc us up ue)) rfl (by kernel_rfl) (by kernel_rfl) (by kernel_rfl) (fun _ _ _ h => h) (Or.inl ⟨by rfl, fun w' hSw => run_loadRow _ _ rfl w5.heap.size rfl _ _ hSw _ Tryd.underlying39 rfl (by rw [rc_size]; exact z39.2)⟩) hS ?_
  refine wpAnyH_take (i := 1) (oi := ⟨some 142, _, _, _, _, _⟩) (v := .int .i64 ue) rfl (by kernel_rfl) (by kernel_rfl) (by kernel_rfl) (fun _ _ _ h => h) (Or.inl ⟨by rfl, fun w' hSw => by go_simp⟩) hS ?_
  simp only [Act.put, List.setIfInBounds_toArray, List.set_cons_zero, List.set_cons_succ]
  refine wpAnyH_take (i := 2) (oi := ⟨some 143, _, _, _, _, _⟩) (v := .pointer (some ⟨w5.heap.size, 2, none⟩)) rfl (by kernel_rfl) (by kernel_rfl) (by kernel_rfl) (fun _ _ _ h => h) (Or.inl ⟨by rfl, fun w' hSw => by go_simp⟩) hS ?_
  refine wpAnyH_take (i := 3) (oi := ⟨some 144, _, _, _, _, _⟩) (v := .int .i64 ue) rfl (by kernel_rfl) (by kernel_rfl) (by kernel_rfl) (fun _ _ _ h => h) (Or.inl ⟨by rfl, fun w' hSw => run_loadCell _ _ rfl w5.heap.size 2 rfl _ _ hSw _ Tryd.underlying3 rfl _ (rc_g2 _ _ _)⟩) hS ?_
  simp only [Act.put, List.setIfInBounds_toArray, List.set_cons_zero, List.set_cons_succ]
  refine wpAnyH_take (i := 4) (oi := ⟨some 145, _, _, _, _, _⟩) (v := .bool true) rfl (by kernel_rfl) (by kernel_rfl) (by kernel_rfl) (fun _ _ _ h => h) (Or.inl ⟨by rfl, fun w' hSw => by go_simp⟩) hS ?_
  simp only [Act.put, List.setIfInBounds_toArray, List.set_cons_zero, List.set_cons_succ]
  refine wpAnyH_ready (rs := [5]) (by kernel_rfl) (by simp) ?_
  refine AllReadyH.cons (o := ⟨none, .store 39 (.tmp 6) (.tmp 141), _, _, _, _⟩) rfl (fun K hK => ?_) AllReadyH.nil
  rw [if_pos (by rfl)]
  refine wp_storeRow _ _ _ rfl w2.heap.size (rc us up ue) rfl rfl _ _ hz3.drew (by rw [rc_size, rc_size]) (by rw [rc_size]; exact z39.2) (rc_one _ _ _) ?_
  intro w8 hg8 hs8 hz8
  refine hK.out _ _ (hS.grown hg8 (by simp; omega)) (fun hS2 => ?_)
  clear hK K hS
  have hS := hS2
  clear hS2
  simp only [Act.put]
  refine wpAnyH_take (i := 6) (oi := ⟨some 7, _, _, _, _, _⟩) (v := .bool true) rfl (by kernel_rfl) (by kernel_rfl) (by kernel_rfl) (fun _ _ _ h => h) (Or.inl ⟨by rfl, fun w' hSw => by go_simp⟩) hS ?_
  refine wpAnyH_done (by kernel_rfl) ?_ _
  simp only [Act.put, List.setIfInBounds_toArray, List.set_cons_zero, List.set_cons_succ]
  go_simp
  go_wp2_with fail
  have hB2 : Below w.heap.size w w2 := hw1.trans (hw2.mono hw1.size)
  have hB3 : Below w.heap.size w w3 := hB2.trans (hw3.mono hB2.size)
  have hs14 : w.heap.size ≤ w4.heap.size := by omega
  have hs15 : w.heap.size ≤ w5.heap.size := by omega
  have hs17 : w.heap.size ≤ w7.heap.size := by omega
  have hC5 : Below w.heap.size w4 w5 := hw5.mono hs14
  have hC6 : Below w.heap.size w4 w6 := hC5.trans (hw6.mono hs15)
  have hC7 : Below w.heap.size w4 w7 := hC6.trans (below_of_grown hg7 hs15 (by omega))
  refine bodyPost_ret (res_rc rfl _ _ w2.heap.size us up ue _ rfl rfl hz8) rfl ⟨rfl, ?_⟩
  exact To.wrap hB3 hT4 ((hC7.drew).trans (below_of_grown hg8 (by omega) hs17)) hbl
/-- What a step leaves of a reader. -/
def R.act (r : R) (kind n : Int) : R :=
  if kind = 0 then (r.bytes n).1 else if kind = 1 then (r.number n).1 else if kind = 2 then (r.count n).1 else if kind = 3 then (r.text n).1 else if kind = 4 then (r.bytes 32).1 else if kind = 5 then r.bool.1 else if kind = 6 then r.fail n else r.fin
theorem R.act_ok {r : R} (h : r.ok) (kind n : Int) : (r.act kind n).ok := by
  unfold R.act
  repeat' split
  · exact R.ok_bytes h n
  · exact R.ok_number h n
  · exact R.ok_count h n
  · exact R.ok_text h n
  · exact R.ok_bytes h 32
  · exact R.ok_bool h
  · exact R.ok_fail h n
  · exact R.ok_fin h
theorem R.act_s (r : R) (kind n : Int) : (r.act kind n).s = r.s := by
  unfold R.act
  repeat' split
  · exact R.bytes_s r n
  · exact R.number_s r n
  · exact R.count_s r n
  · exact R.text_s r n
  · exact R.bytes_s r 32
  · exact R.bool_s r
  · exact R.fail_s r n
  · exact R.fin_s r
theorem one_any (b : Nat) (r : R) (kind n x : Int) (t : List UInt8) (w : World) (h : RD w b r) (hk : r.ok) (hl : r.s.length ≤ 1099511627776) (hn : n ≤ 9223372036854775807) :
    Calls Tryd.prog 20 #[.pointer (some ⟨b, 0, none⟩), .agg (rc r.s r.pos r.err), .agg (ac kind n x t)] w fun e w' => e = .returned (.tuple #[.agg (rc (r.act kind n).s (r.act kind n).pos (r.act kind n).err), .bool true]) ∧ To w w' b (r.act kind n) := by
  by_cases h0 : kind = 0
  · subst h0
    exact one_0 b r.s r.pos r.err n x t _ _ _ _ w h (fun w h => bytes_any b r n w h hk hl) (fun w => rbytes_any r n w hk hl)
  by_cases h1 : kind = 1
  · subst h1
    exact one_1 b r.s r.pos r.err n x t _ _ _ _ w h (fun w h => number_r b r n w h hk hl) (fun w => rnumber_any r n w hk hl)
  by_cases h2 : kind = 2
  · subst h2
    exact one_2 b r.s r.pos r.err n x t _ _ _ _ w h (fun w h => count_any b r n w h hk hl hn) (fun w => rcount_any r n w hk hl hn)
  by_cases h3 : kind = 3
  · subst h3
    exact one_3 b r.s r.pos r.err n x t _ _ _ _ w h (fun w h => text_any b r n w h hk hl hn) (fun w => rtext_any r n w hk hl hn)
  by_cases h4 : kind = 4
  · subst h4
    exact one_4 b r.s r.pos r.err n x t _ _ _ _ w h (fun w h => hash_any b r w h hk hl) (fun w => rbytes_any r 32 w hk hl)
  by_cases h5 : kind = 5
  · subst h5
    exact one_5 b r.s r.pos r.err n x t _ _ _ _ w h (fun w h => bool_any b r w h hk hl) (fun w => rbool_any r w hk hl)
  by_cases h6 : kind = 6
  · subst h6
    have := one_6 b r.s r.pos r.err n x t w h
    have e : r.act 6 n = ⟨r.s, r.pos, if r.err = 0 then n else r.err⟩ := by
      show r.fail n = _
      unfold R.fail
      by_cases he : r.err = 0
      · rw [if_pos he, if_pos he]
      · rw [if_neg he, if_neg he]
    rw [e]
    exact this
  · have e : r.act kind n = r.fin := by unfold R.act; rw [if_neg h0, if_neg h1, if_neg h2, if_neg h3, if_neg h4, if_neg h5, if_neg h6]
    rw [e]
    exact one_7 b r.s r.pos r.err kind n x t _ _ _ w h (by omega) (fun w h => end_any b r w h hk hl) (fun w => rend_any r w)
end Go.Proofs.YtaccklbijihppaaDoor
