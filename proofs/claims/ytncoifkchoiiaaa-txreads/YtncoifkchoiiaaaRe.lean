/- The plain reader's Number. -/
import Derived.Test.YtncoifkchoiiaaaRd
namespace Go.Proofs.Ytncoifkchoiiaaa
open Go Go.RowKit
attribute [local go_sem] idx8
set_option maxRecDepth 100000 in
set_option maxHeartbeats 400000 in
theorem rnumber_plain (s : List UInt8) (pos : Nat) (err k : Int) (us : List UInt8) (up : Nat) (ue : Int) (v : List UInt8) (w : World) (h : ¬ (err = 0 ∧ 8 < k)) (hv8 : v.length ≤ 8)
    (HB : ∀ w, Calls Try.prog 27 #[.agg (rc s pos err), .int .i64 k] w fun e w' => e = .returned (.tuple #[.agg (rc us up ue), .string ⟨v.toArray⟩]) ∧ Below w.heap.size w w') :
    Calls Try.prog 13 #[.agg (rc s pos err), .int .i64 k] w fun e w' => e = .returned (.tuple #[.agg (rc us up ue), .int .u64 (val v)]) ∧ Below w.heap.size w w' := by
  by_cases he : err = 0
  · subst he
    have hd8 : decide (8 < k) = false := decide_eq_false (fun x => h ⟨rfl, x⟩)
    clear h
    go_enter Try.func13, Try.ntmps13
    go_wp2_with (first
      | (go_at_call 27; refine (HB _).mono ?_; rintro e w4 ⟨rfl, hw4⟩; replace hb1 := hb1.belowSize hw4; replace hz2 := hz2.belowSize hw4)
      | (with_reducible refine at_list ?_; first
        | (refine wpList_boxRow (op := ⟨some 2, _, _, _, _, _⟩) rfl _ _ rfl _ rfl ?_; intro w1 hw1 hs1 hb1; replace hs1 := hs1.symm)
        | (refine wpList_allocRow (op := ⟨some 4, _, _, _, _, _⟩) rfl _ rfl _ z39.1 ?_; intro w2 hw2 hs2 hz2; replace hs2 := hs2.symm; replace hb1 := hb1.belowSize hw2)
        | (refine wpList_loadCell (op := ⟨some 10, _, _, _, _, _⟩) rfl _ _ rfl w.heap.size 2 rfl _ _ hb1 _ Try.underlying3 rfl (.int .i64 0) rfl ?_)
        | (refine wpList_loadRow (op := ⟨some 18, _, _, _, _, _⟩) rfl _ _ rfl w.heap.size rfl _ _ hb1 _ Try.underlying30 rfl (by rw [rc_size]; exact z39.2) ?_)
        | (refine wpList_storeRow (op := ⟨none, .store 30 (.tmp 2) (.tmp 21), _, _, _, _⟩) rfl _ _ _ rfl w.heap.size (rc us up ue) rfl rfl _ _ hb1 (by rw [rc_size, rc_size]) (by rw [rc_size]; exact z39.2) (rc_one _ _ _) ?_; intro w5 hg5 hs5 hz5; have hb5 := hz5; clear hz5; have hz5 := hz2.grown hg5 (by simp; omega))))
    have hB2 : Below w.heap.size w w2 := hw1.trans (hw2.mono hw1.size)
    have hB4 : Below w.heap.size w w4 := hB2.trans (hw4.mono hB2.size)
    have hB5 : Below w.heap.size w w5 := hB4.trans (below_of_grown hg5 (Nat.le_refl _) hB4.size)
    clear hB2 hB4 hg5 hw4 hw2 hs2 hs5 hz2 hd8 HB
    go_loopw [7, 8] (fun v7 v8 wl => ∃ n : Nat, n ≤ v.length ∧ v7 = .int .u64 (val (v.take n)) ∧ v8 = .int .i64 n ∧ wl = w5) (fun _ v8 _ => v.length - (intOf v8).toNat)
    case atStart => exact ⟨0, by omega, rfl, rfl, rfl⟩
    case round =>
      obtain ⟨n, hn, rfl, rfl, hw⟩ := hrel
      have hw2 := hw.symm
      subst hw2
      clear hw
      by_cases hlt : n < v.length
      · have hv := val_lt n (v.take n) (by rw [List.length_take]; omega)
        have h7 : 256 ^ n ≤ 256 ^ 7 := Nat.pow_le_pow_right (by decide) (by omega)
        have h77 : 256 ^ 7 = 72057594037927936 := by decide
        have hv2 : val (v.take n) * 256 + 255 < 18446744073709551616 := by omega
        have hb : (byteOf v n).toNat < 256 := (byteOf v n).toNat_lt
        have hb2 : IntKind.u64.wrap (n8 (byteOf v n)) = ((byteOf v n).toNat : Int) := by rw [IntKind.wrap_u64]; unfold n8; omega
        have HN : Hid (val (v.take (n + 1)) = val (v.take n) * 256 + (byteOf v n).toNat) := val_take v n hlt
        clear h7 h77 hv
        generalize val (v.take n) = z at *
        generalize (byteOf v n).toNat = y at *
        go_wp2_with fail
        go_roundw
        case rel => exact ⟨n + 1, by omega, by rw [HN.out]; simp, by go_num, trivial⟩
        case measure => simp [intOf]; omega
      · have e1 : v.take n = v := List.take_of_length_le (by omega)
        rw [e1]
        go_wp2_with (with_reducible refine at_list ?_; first
          | (refine wpList_loadRow (op := ⟨some 36, _, _, _, _, _⟩) rfl _ _ rfl w.heap.size rfl _ _ hb5 _ Try.underlying30 rfl (by rw [rc_size]; exact z39.2) ?_)
          | (refine wpList_storeRow (op := ⟨none, .store 30 (.tmp 4) (.tmp 36), _, _, _, _⟩) rfl _ _ _ rfl w1.heap.size (rc us up ue) rfl rfl _ _ hz5 (by rw [rc_size, rc_size]) (by rw [rc_size]; exact z39.2) (rc_one _ _ _) ?_; intro w6 hg6 hs6 hz6))
        refine bodyPost_ret (res_rc rfl _ _ w1.heap.size us up ue _ rfl rfl hz6) rfl ⟨rfl, ?_⟩
        exact hB5.trans (below_of_grown hg6 hw1.size hB5.size)
  · have hd0 : decide (err = 0) = false := decide_eq_false he
    clear h
    go_enter Try.func13, Try.ntmps13
    go_wp2_with (first
      | (go_at_call 27; refine (HB _).mono ?_; rintro e w4 ⟨rfl, hw4⟩; replace hb1 := hb1.belowSize hw4; replace hz2 := hz2.belowSize hw4)
      | (with_reducible refine at_list ?_; first
        | (refine wpList_boxRow (op := ⟨some 2, _, _, _, _, _⟩) rfl _ _ rfl _ rfl ?_; intro w1 hw1 hs1 hb1; replace hs1 := hs1.symm)
        | (refine wpList_allocRow (op := ⟨some 4, _, _, _, _, _⟩) rfl _ rfl _ z39.1 ?_; intro w2 hw2 hs2 hz2; replace hs2 := hs2.symm; replace hb1 := hb1.belowSize hw2)
        | (refine wpList_loadCell (op := ⟨some 10, _, _, _, _, _⟩) rfl _ _ rfl w.heap.size 2 rfl _ _ hb1 _ Try.underlying3 rfl (.int .i64 err) rfl ?_)
        | (refine wpList_loadRow (op := ⟨some 18, _, _, _, _, _⟩) rfl _ _ rfl w.heap.size rfl _ _ hb1 _ Try.underlying30 rfl (by rw [rc_size]; exact z39.2) ?_)
        | (refine wpList_storeRow (op := ⟨none, .store 30 (.tmp 2) (.tmp 21), _, _, _, _⟩) rfl _ _ _ rfl w.heap.size (rc us up ue) rfl rfl _ _ hb1 (by rw [rc_size, rc_size]) (by rw [rc_size]; exact z39.2) (rc_one _ _ _) ?_; intro w5 hg5 hs5 hz5; have hb5 := hz5; clear hz5; have hz5 := hz2.grown hg5 (by simp; omega))))
    have hB2 : Below w.heap.size w w2 := hw1.trans (hw2.mono hw1.size)
    have hB4 : Below w.heap.size w w4 := hB2.trans (hw4.mono hB2.size)
    have hB5 : Below w.heap.size w w5 := hB4.trans (below_of_grown hg5 (Nat.le_refl _) hB4.size)
    clear hB2 hB4 hg5 hw4 hw2 hs2 hs5 hz2 hd0 HB
    go_loopw [7, 8] (fun v7 v8 wl => ∃ n : Nat, n ≤ v.length ∧ v7 = .int .u64 (val (v.take n)) ∧ v8 = .int .i64 n ∧ wl = w5) (fun _ v8 _ => v.length - (intOf v8).toNat)
    case atStart => exact ⟨0, by omega, rfl, rfl, rfl⟩
    case round =>
      obtain ⟨n, hn, rfl, rfl, hw⟩ := hrel
      have hw2 := hw.symm
      subst hw2
      clear hw
      by_cases hlt : n < v.length
      · have hv := val_lt n (v.take n) (by rw [List.length_take]; omega)
        have h7 : 256 ^ n ≤ 256 ^ 7 := Nat.pow_le_pow_right (by decide) (by omega)
        have h77 : 256 ^ 7 = 72057594037927936 := by decide
        have hv2 : val (v.take n) * 256 + 255 < 18446744073709551616 := by omega
        have hb : (byteOf v n).toNat < 256 := (byteOf v n).toNat_lt
        have hb2 : IntKind.u64.wrap (n8 (byteOf v n)) = ((byteOf v n).toNat : Int) := by rw [IntKind.wrap_u64]; unfold n8; omega
        have HN : Hid (val (v.take (n + 1)) = val (v.take n) * 256 + (byteOf v n).toNat) := val_take v n hlt
        clear h7 h77 hv
        generalize val (v.take n) = z at *
        generalize (byteOf v n).toNat = y at *
        go_wp2_with fail
        go_roundw
        case rel => exact ⟨n + 1, by omega, by rw [HN.out]; simp, by go_num, trivial⟩
        case measure => simp [intOf]; omega
      · have e1 : v.take n = v := List.take_of_length_le (by omega)
        rw [e1]
        go_wp2_with (with_reducible refine at_list ?_; first
          | (refine wpList_loadRow (op := ⟨some 36, _, _, _, _, _⟩) rfl _ _ rfl w.heap.size rfl _ _ hb5 _ Try.underlying30 rfl (by rw [rc_size]; exact z39.2) ?_)
          | (refine wpList_storeRow (op := ⟨none, .store 30 (.tmp 4) (.tmp 36), _, _, _, _⟩) rfl _ _ _ rfl w1.heap.size (rc us up ue) rfl rfl _ _ hz5 (by rw [rc_size, rc_size]) (by rw [rc_size]; exact z39.2) (rc_one _ _ _) ?_; intro w6 hg6 hs6 hz6))
        refine bodyPost_ret (res_rc rfl _ _ w1.heap.size us up ue _ rfl rfl hz6) rfl ⟨rfl, ?_⟩
        exact hB5.trans (below_of_grown hg6 hw1.size hB5.size)
set_option maxRecDepth 100000 in
set_option maxHeartbeats 400000 in
theorem rnumber_early (s : List UInt8) (pos : Nat) (k : Int) (w : World) (h : 8 < k) :
    Calls Try.prog 13 #[.agg (rc s pos 0), .int .i64 k] w fun e w' => e = .returned (.tuple #[.agg (rc s pos 1), .int .u64 (val [])]) ∧ Below w.heap.size w w' := by
  obtain ⟨us, hus⟩ : ∃ us, us = s := ⟨_, rfl⟩
  obtain ⟨up, hup⟩ : ∃ up, up = pos := ⟨_, rfl⟩
  obtain ⟨ue, hue⟩ : ∃ ue : Int, ue = 1 := ⟨_, rfl⟩
  obtain ⟨v, hv⟩ : ∃ v : List UInt8, v = [] := ⟨_, rfl⟩
  have hv8 : v.length ≤ 8 := by rw [hv]; simp
  have HB : ∀ w, Calls Try.prog 27 #[.agg (rc s pos 1), .int .i64 k] w fun e w' => e = .returned (.tuple #[.agg (rc us up ue), .string ⟨v.toArray⟩]) ∧ Below w.heap.size w w' := fun w => by
    rw [hus, hup, hue, hv]; exact rbytes_err s pos 1 k w (by decide)
  rw [show rc s pos 1 = rc us up ue from by rw [hus, hup, hue], show val [] = val v from by rw [hv]]
  clear hus hup hue hv
  have hd8 : decide (8 < k) = true := decide_eq_true h
  go_enter Try.func13, Try.ntmps13
  go_wp2_with (first
    | (go_at_call 27; refine (HB _).mono ?_; rintro e w4 ⟨rfl, hw4⟩; replace hb1 := hb1.belowSize hw4; replace hz2 := hz2.belowSize hw4)
    | (with_reducible refine at_list ?_; first
      | (refine wpList_boxRow (op := ⟨some 2, _, _, _, _, _⟩) rfl _ _ rfl _ rfl ?_; intro w1 hw1 hs1 hb1; replace hs1 := hs1.symm)
      | (refine wpList_allocRow (op := ⟨some 4, _, _, _, _, _⟩) rfl _ rfl _ z39.1 ?_; intro w2 hw2 hs2 hz2; replace hs2 := hs2.symm; replace hb1 := hb1.belowSize hw2)
      | (refine wpList_loadCell (op := ⟨some 10, _, _, _, _, _⟩) rfl _ _ rfl w.heap.size 2 rfl _ _ hb1 _ Try.underlying3 rfl (.int .i64 0) rfl ?_)
      | (refine wpList_storeCell (op := ⟨none, .store 3 (.tmp 16) _, _, _, _, _⟩) rfl _ _ _ rfl w.heap.size 2 rfl (.int .i64 1) rfl _ _ hb1 i3 rfl rfl (by simp [rc]) ?_; intro w3 hg3 hs3 hb3; replace hz2 := hz2.grown hg3 (by simp; omega); rw [rc_err] at hb3; replace hb1 := hb3; clear hb3)
      | (refine wpList_loadRow (op := ⟨some 18, _, _, _, _, _⟩) rfl _ _ rfl w.heap.size rfl _ _ hb1 _ Try.underlying30 rfl (by rw [rc_size]; exact z39.2) ?_)
      | (refine wpList_storeRow (op := ⟨none, .store 30 (.tmp 2) (.tmp 21), _, _, _, _⟩) rfl _ _ _ rfl w.heap.size (rc us up ue) rfl rfl _ _ hb1 (by rw [rc_size, rc_size]) (by rw [rc_size]; exact z39.2) (rc_one _ _ _) ?_; intro w5 hg5 hs5 hz5; have hb5 := hz5; clear hz5; have hz5 := hz2.grown hg5 (by simp; omega))))
  have hB2 : Below w.heap.size w w2 := hw1.trans (hw2.mono hw1.size)
  have hB3 : Below w.heap.size w w3 := hB2.trans (below_of_grown hg3 (Nat.le_refl _) hB2.size)
  have hB4 : Below w.heap.size w w4 := hB3.trans (hw4.mono hB3.size)
  have hB5 : Below w.heap.size w w5 := hB4.trans (below_of_grown hg5 (Nat.le_refl _) hB4.size)
  clear hB2 hB3 hB4 hg3 hg5 hw4 hw2 hs2 hs3 hs5 hz2 hd8 HB
  go_loopw [7, 8] (fun v7 v8 wl => ∃ n : Nat, n ≤ v.length ∧ v7 = .int .u64 (val (v.take n)) ∧ v8 = .int .i64 n ∧ wl = w5) (fun _ v8 _ => v.length - (intOf v8).toNat)
  case atStart => exact ⟨0, by omega, rfl, rfl, rfl⟩
  case round =>
    obtain ⟨n, hn, rfl, rfl, hw⟩ := hrel
    have hw2 := hw.symm
    subst hw2
    clear hw
    by_cases hlt : n < v.length
    · have hv := val_lt n (v.take n) (by rw [List.length_take]; omega)
      have h7 : 256 ^ n ≤ 256 ^ 7 := Nat.pow_le_pow_right (by decide) (by omega)
      have h77 : 256 ^ 7 = 72057594037927936 := by decide
      have hv2 : val (v.take n) * 256 + 255 < 18446744073709551616 := by omega
      have hb : (byteOf v n).toNat < 256 := (byteOf v n).toNat_lt
      have hb2 : IntKind.u64.wrap (n8 (byteOf v n)) = ((byteOf v n).toNat : Int) := by rw [IntKind.wrap_u64]; unfold n8; omega
      have HN : Hid (val (v.take (n + 1)) = val (v.take n) * 256 + (byteOf v n).toNat) := val_take v n hlt
      clear h7 h77 hv
      generalize val (v.take n) = z at *
      generalize (byteOf v n).toNat = y at *
      go_wp2_with fail
      go_roundw
      case rel => exact ⟨n + 1, by omega, by rw [HN.out]; simp, by go_num, trivial⟩
      case measure => simp [intOf]; omega
    · have e1 : v.take n = v := List.take_of_length_le (by omega)
      rw [e1]
      go_wp2_with (with_reducible refine at_list ?_; first
        | (refine wpList_loadRow (op := ⟨some 36, _, _, _, _, _⟩) rfl _ _ rfl w.heap.size rfl _ _ hb5 _ Try.underlying30 rfl (by rw [rc_size]; exact z39.2) ?_)
        | (refine wpList_storeRow (op := ⟨none, .store 30 (.tmp 4) (.tmp 36), _, _, _, _⟩) rfl _ _ _ rfl w1.heap.size (rc us up ue) rfl rfl _ _ hz5 (by rw [rc_size, rc_size]) (by rw [rc_size]; exact z39.2) (rc_one _ _ _) ?_; intro w6 hg6 hs6 hz6))
      refine bodyPost_ret (res_rc rfl _ _ w1.heap.size us up ue _ rfl rfl hz6) rfl ⟨rfl, ?_⟩
      exact hB5.trans (below_of_grown hg6 hw1.size hB5.size)
theorem rnumber_any (r : R) (k : Int) (w : World) (hk : r.ok) (hl : r.s.length ≤ 140737488355328) :
    Calls Try.prog 13 #[.agg (rc r.s r.pos r.err), .int .i64 k] w fun e w' => e = .returned (.tuple #[.agg (rc (r.number k).1.s (r.number k).1.pos (r.number k).1.err), .int .u64 ((r.number k).2 : Nat)]) ∧ Below w.heap.size w w' := by
  by_cases h : r.err = 0 ∧ 8 < k
  · obtain ⟨s, pos, err⟩ := r
    obtain ⟨h0, h1⟩ := h
    have h0 : err = 0 := h0
    subst h0
    have e : R.number ⟨s, pos, 0⟩ k = (⟨s, pos, 1⟩, val []) := by
      unfold R.number R.early
      rw [if_pos ⟨rfl, h1⟩]
      unfold R.bytes
      rw [if_pos (by simp)]
    rw [e]
    exact rnumber_early s pos k w h1
  · have e : r.early k = r := if_neg h
    have h8 := r.early_len k
    unfold R.number
    rw [e] at h8 ⊢
    exact rnumber_plain r.s r.pos r.err k _ _ _ _ w h h8 (fun w => rbytes_any r k w hk hl)
end Go.Proofs.Ytncoifkchoiiaaa
