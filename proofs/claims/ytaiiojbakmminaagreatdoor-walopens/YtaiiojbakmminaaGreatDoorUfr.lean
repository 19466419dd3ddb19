/- Checks and frames: what Crc, Frame and the plain ones do. What Unframe does. -/
import Derived.Test.YtaiiojbakmminaaGreatDoorAt
namespace Go.Proofs.YtaiiojbakmminaaGreatDoor
open Go.RowKit
/-- The table of the program lies where its variable lies. -/
structure Glob (w : World) : Prop where
  one : 1 ≤ w.heap.size
  k : ∀ j, j < 16 → w.cell? ⟨0, j, none⟩ = some (.int .u32 (n32 (tab j)))
theorem Glob.below {w w' : World} {B : Nat} (h : Glob w) (hb : Go.RowKit.Below B w w') (h2 : 1 ≤ B) : Glob w' :=
  ⟨Nat.le_trans h.one hb.size, fun j hj => by rw [hb.cell (p := ⟨0, j, none⟩) (by show 0 < B; omega)]; exact h.k j hj⟩
theorem Glob.belowSize {w w' : World} (h : Glob w) (hb : Go.RowKit.Below w.heap.size w w') : Glob w' := h.below hb h.one
theorem Glob.grown {w w' : World} {b : Nat} (h : Glob w) (hb : w.grownBy w' (some b)) (h2 : 1 ≤ b) : Glob w' := h.below (below_of_grown hb h2 h.one) (Nat.le_refl _)
section
attribute [local go_sem] idx8 n8_mod and15 nib n32_add n32_wadd bits_xor32 bits_or32 bits_not32 bits_notmax sub_not32 n32_shr n32_shl n8_wrap n32_shr4
set_option maxRecDepth 100000 in
set_option maxHeartbeats 400000 in
theorem checkOn_any (c : BitVec 32) (l : List UInt8) (w : World) (hG : Glob w) (hl : l.length ≤ 1099511627776) :
    Calls Tryz.prog 120 #[.int .u32 (n32 c), .string ⟨l.toArray⟩] w fun e w' => e = .returned (.int .u32 (n32 (not32 (crcF (not32 c) l)))) ∧ w' = w := by
  go_enter Tryz.func120, Tryz.ntmps120
  go_wp2_with fail
  go_loopw [0, 10] (fun v0 v10 wl => ∃ n : Nat, n ≤ l.length ∧ v0 = .int .u32 (n32 (crcF (not32 c) (l.take n))) ∧ v10 = .int .i64 n ∧ wl = w) (fun _ v10 _ => l.length - (intOf v10).toNat)
  case atStart => exact ⟨0, by omega, rfl, rfl, rfl⟩
  case round =>
    obtain ⟨n, hn, rfl, rfl, hw⟩ := hrel
    have hw2 := hw.symm
    subst hw2
    clear hw
    by_cases hlt : n < l.length
    · obtain ⟨r, hr⟩ : ∃ r, r = crcF (not32 c) (l.take n) := ⟨_, rfl⟩
      have HN : Hid (crcF (not32 c) (l.take (n + 1)) = stp4 (stp4 (xor32 r (w8 (byteOf l n))))) := by rw [crcF_take _ _ _ hlt, ← hr]; exact rfl
      rw [← hr]
      clear hr
      have b1 := low4_lt (xor32 r (w8 (byteOf l n)))
      have b2 := low4_lt (stp4 (xor32 r (w8 (byteOf l n))))
      have c1 := hG.k _ b1
      have c2 := hG.k _ b2
      go_wp2_with fail
      go_roundw
      case rel => exact ⟨n + 1, by omega, by rw [HN.out], by go_num, trivial⟩
      case measure => simp [intOf]; omega
    · have e1 : l.take n = l := List.take_of_length_le (by omega)
      rw [e1]
      go_wp2_with fail
      go_ret
      exact ⟨rfl, rfl⟩
theorem crc_any (l : List UInt8) (w : World) (hG : Glob w) (hl : l.length ≤ 1099511627776) :
    Calls Tryz.prog 121 #[.string ⟨l.toArray⟩] w fun e w' => e = .returned (.int .u32 (n32 (crc l))) ∧ w' = w := by
  have h := checkOn_any (BitVec.ofNat 32 0) l w hG hl
  rw [show n32 (not32 (crcF (not32 (BitVec.ofNat 32 0)) l)) = n32 (crc l) from rfl] at h
  have H := h
  clear h
  go_enter Tryz.func121, Tryz.ntmps121
  go_wp2_with (go_at_call 120; refine H.mono ?_; rintro e w' ⟨rfl, hw'⟩; have hw2 := hw'.symm; subst hw2; clear hw')
  go_ret
  exact ⟨rfl, rfl⟩
end
section
attribute [local go_sem] n32_tdiv2 n32_tmod2 idx8 n8_mod n8_wrap n32_mod bits_xor32 sub_not32 n32_shr1 bits_poly
set_option maxRecDepth 100000 in
set_option maxHeartbeats 400000 in
theorem rcrc_any (l : List UInt8) (w : World) (hl : l.length ≤ 1099511627776) :
    Calls Tryz.prog 56 #[.string ⟨l.toArray⟩] w fun e w' => e = .returned (.int .u32 (n32 (crc l))) ∧ w' = w := by
  go_enter Tryz.func56, Tryz.ntmps56
  go_wp2_with fail
  go_loopw [3, 4] (fun v3 v4 wl => ∃ n : Nat, n ≤ l.length ∧ v3 = .int .u32 (n32 (crcF ones (l.take n))) ∧ v4 = .int .i64 n ∧ wl = w) (fun _ v4 _ => l.length - (intOf v4).toNat)
  case atStart => exact ⟨0, by omega, rfl, rfl, rfl⟩
  case round =>
    obtain ⟨n, hn, rfl, rfl, hw⟩ := hrel
    have hw2 := hw.symm
    subst hw2
    clear hw
    by_cases hlt : n < l.length
    · obtain ⟨r, hr⟩ : ∃ r, r = crcF ones (l.take n) := ⟨_, rfl⟩
      have HN : Hid (crcF ones (l.take (n + 1)) = stpN (xor32 r (w8 (byteOf l n))) 8) := by rw [crcF_take _ _ _ hlt, ← hr]; exact rfl
      rw [← hr]
      clear hr
      go_wp2_with fail
      go_loopw [3, 5] (fun v3 v5 wl => ∃ k : Nat, k ≤ 8 ∧ v3 = .int .u32 (n32 (stpN (xor32 r (w8 (byteOf l n))) k)) ∧ v5 = .int .i64 k ∧ wl = w) (fun _ v5 _ => 8 - (intOf v5).toNat)
      case atStart => exact ⟨0, by omega, rfl, rfl, rfl⟩
      case round =>
        obtain ⟨k, hk, rfl, rfl, hw⟩ := hrel
        have hw2 := hw.symm
        subst hw2
        clear hw
        by_cases hlt8 : k < 8
        · obtain ⟨x, hx⟩ : ∃ x, x = stpN (xor32 r (w8 (byteOf l n))) k := ⟨_, rfl⟩
          have HX : Hid (stpN (xor32 r (w8 (byteOf l n))) (k + 1) = stp x) := by rw [hx]; exact rfl
          rw [← hx]
          clear hx
          by_cases h1 : n32 x % 2 = 1
          · have HL : Hid (n32 (xor32 (shr32 x 1) (BitVec.ofNat 32 2197175160)) = n32 (stp x)) := low_one x h1
            replace h1 : lowI x = 1 := h1
            go_wp2_with fail
            go_roundw
            case rel => exact ⟨k + 1, by omega, by rw [HX.out, ← HL.out], by go_num, trivial⟩
            case measure => simp [intOf]; omega
          · have HL : Hid (n32 (shr32 x 1) = n32 (stp x)) := low_zero x h1
            replace h1 : lowI x = 0 := by unfold lowI; omega
            go_wp2_with fail
            go_roundw
            case rel => exact ⟨k + 1, by omega, by rw [HX.out, ← HL.out, n32_mod], by go_num, trivial⟩
            case measure => simp [intOf]; omega
        · have e8 : stpN (xor32 r (w8 (byteOf l n))) k = stpN (xor32 r (w8 (byteOf l n))) 8 := by rw [show k = 8 from by omega]
          rw [e8, ← HN.out]
          clear e8
          go_wp2_with fail
          go_roundw
          case rel => exact ⟨n + 1, by omega, rfl, by go_num, trivial⟩
          case measure => simp [intOf]; omega
    · have e1 : l.take n = l := List.take_of_length_le (by omega)
      rw [e1]
      have HC : Hid (n32 (crc l) = n32 (not32 (crcF ones l))) := by exact rfl
      go_wp2_with fail
      go_ret
      refine ⟨?_, rfl⟩
      show Ending.returned (.int .u32 (n32 (not32 (crcF ones l)) % 4294967296)) = _
      rw [HC.out, n32_mod]
end
section
/-- The check of a text and its count. -/
def fcheck (s : List UInt8) : BitVec 32 := crc (num s.length 4 ++ s)
theorem fcheck_eq (s : List UInt8) : not32 (crcF (not32 (crc (num s.length 4))) s) = fcheck s := by
  unfold fcheck crc
  rw [not_not32, crcF_append]
set_option maxRecDepth 100000 in
set_option maxHeartbeats 400000 in
theorem frameCheck_any (s : List UInt8) (w : World) (hG : Glob w) (hl : s.length ≤ 1099511627776) :
    Calls Tryz.prog 99 #[.string ⟨s.toArray⟩] w fun e w' => e = .returned (.int .u32 (n32 (fcheck s))) ∧ Below w.heap.size w w' := by
  have HN := number_any s.length 4 w
  rw [cut8_4] at HN
  have hnl := num_length 4 s.length
  have HF := fcheck_eq s
  generalize num s.length 4 = t at *
  go_enter Tryz.func99, Tryz.ntmps99
  go_wp2_with (first
    | (go_at_call 98; refine HN.mono ?_; rintro e w1 ⟨rfl, hw1⟩)
    | (go_at_call 121; refine (crc_any t _ (hG.belowSize hw1) (by omega)).mono ?_; rintro e w' ⟨rfl, hw'⟩; have hw2 := hw'.symm; subst hw2; clear hw')
    | (go_at_call 120; refine (checkOn_any (crc t) s _ (hG.belowSize hw1) hl).mono ?_; rintro e w' ⟨rfl, hw'⟩; have hw2 := hw'.symm; subst hw2; clear hw'))
  go_ret
  exact ⟨by rw [← HF]; rfl, hw1⟩
end
section
attribute [local go_sem] mkApp2 n32_wrap64 n32_mod64
set_option maxRecDepth 100000 in
set_option maxHeartbeats 400000 in
theorem frame_any (s : List UInt8) (w : World) (hG : Glob w) (hl : s.length ≤ 549755813888) :
    Calls Tryz.prog 70 #[.string ⟨s.toArray⟩] w fun e w' => e = .returned (.string ⟨(frame s).toArray⟩) ∧ Below w.heap.size w w' := by
  have HN := number_any s.length 4 w
  rw [cut8_4] at HN
  have HM := fun w => number_any (fcheck s).toNat 4 w
  rw [cut8_4] at HM
  have hnl := num_length 4 s.length
  have hml := num_length 4 (fcheck s).toNat
  have HF : Hid (frame s = num s.length 4 ++ (num (fcheck s).toNat 4 ++ s)) := by exact rfl
  have HC := fun w (hG : Glob w) => frameCheck_any s w hG (by omega)
  generalize num s.length 4 = t at *
  generalize num (fcheck s).toNat 4 = u at *
  generalize fcheck s = c at *
  go_enter Tryz.func70, Tryz.ntmps70
  go_wp2_with (go_at_call 98; refine HN.mono ?_; rintro e w1 ⟨rfl, hw1⟩; clear HN)
  refine (HC _ (hG.belowSize hw1)).mono ?_
  rintro e w2 ⟨rfl, hw2⟩
  go_wp2_with fail
  refine (HM _).mono ?_
  rintro e w3 ⟨rfl, hw3⟩
  go_wp2_with fail
  go_ret
  refine ⟨?_, (hw1.trans (hw2.mono hw1.size)).trans (hw3.mono (Nat.le_trans hw1.size hw2.size))⟩
  rw [HF.out, ← List.append_assoc]
  rfl
set_option maxRecDepth 100000 in
set_option maxHeartbeats 400000 in
theorem rframe_any (s : List UInt8) (w : World) (hl : s.length ≤ 549755813888) :
    Calls Tryz.prog 24 #[.string ⟨s.toArray⟩] w fun e w' => e = .returned (.string ⟨(frame s).toArray⟩) ∧ Below w.heap.size w w' := by
  have HN := rnum_any s.length 4 w (by omega)
  rw [cut8_4] at HN
  have HM := fun w => rnum_any (fcheck s).toNat 4 w (by have := (fcheck s).isLt; omega)
  rw [cut8_4] at HM
  have hnl := num_length 4 s.length
  have hml := num_length 4 (fcheck s).toNat
  have HF : Hid (frame s = num s.length 4 ++ (num (fcheck s).toNat 4 ++ s)) := by exact rfl
  have HC := fun w (h : (num s.length 4 ++ s).length ≤ 1099511627776) => rcrc_any (num s.length 4 ++ s) w h
  rw [show crc (num s.length 4 ++ s) = fcheck s from rfl] at HC
  generalize num s.length 4 = t at *
  generalize num (fcheck s).toNat 4 = u at *
  generalize fcheck s = c at *
  go_enter Tryz.func24, Tryz.ntmps24
  go_wp2_with (go_at_call 55; refine HN.mono ?_; rintro e w1 ⟨rfl, hw1⟩; clear HN)
  refine (HC _ (by rw [List.length_append]; omega)).mono ?_
  rintro e w' ⟨rfl, hw'⟩
  have hw2 := hw'.symm
  subst hw2
  clear hw'
  go_wp2_with fail
  refine (HM _).mono ?_
  rintro e w3 ⟨rfl, hw3⟩
  go_wp2_with fail
  go_ret
  refine ⟨?_, hw1.trans (hw3.mono hw1.size)⟩
  rw [HF.out, ← List.append_assoc]
  rfl
end
end Go.Proofs.YtaiiojbakmminaaGreatDoor
namespace Go.Proofs.YtaiiojbakmminaaGreatDoor
open Go.RowKit
theorem wat_any (b : Nat) (r : R) (w : World) (h : RD w b r) : Calls Tryz.prog 150 #[.pointer (some ⟨b, 0, none⟩)] w fun e w' => e = .returned (.int .i64 (r.pos : Nat)) ∧ w' = w := by
  obtain ⟨s, pos, err⟩ := r
  have c1 := h.c1
  go_enter Tryz.func150, Tryz.ntmps150
  go_wp2_with fail
  go_ret
  exact ⟨rfl, rfl⟩
set_option maxHeartbeats 400000 in
theorem refuse_any (b : Nat) (r : R) (n : Nat) (x : Int) (w : World) (h : RD w b r) : Calls Tryz.prog 167 #[.pointer (some ⟨b, 0, none⟩), .int .i64 (n : Nat), .int .i64 x] w fun e w' => e = .returned (.tuple #[]) ∧ To w w' b (r.refuse n x) := by
  have hs := r.fail_s x
  have HF := fail_any b r x w h
  have HR : Hid (r.refuse n x = ⟨(r.fail x).s, n, (r.fail x).err⟩) := by rw [hs]; exact rfl
  clear hs
  generalize r.fail x = q at *
  obtain ⟨s, pos, err⟩ := q
  go_enter Tryz.func167, Tryz.ntmps167
  go_wp2_with (first
    | (go_at_call 168; refine HF.mono ?_; rintro e w1 ⟨rfl, hT⟩)
    | (with_reducible refine at_list ?_; refine wpList_storeCell rfl _ _ _ rfl b 1 rfl (.int .i64 (n : Nat)) rfl _ _ hT.rd.blk i3 rfl rfl (by simp [rc]) ?_; intro w2 hg2 hs2 hb2))
  refine bodyPost_end (results_none rfl _ _ _) rfl ⟨rfl, ?_⟩
  rw [HR.out]
  exact ⟨grown_trans hT.grown hg2, ⟨hb2⟩⟩
set_option maxRecDepth 100000 in
set_option maxHeartbeats 400000 in
theorem count_any (b : Nat) (r : R) (m : Int) (w : World) (h : RD w b r) (hk : r.ok) (hl : r.s.length ≤ 1099511627776) (hm : m ≤ 9223372036854775807) :
    Calls Tryz.prog 146 #[.pointer (some ⟨b, 0, none⟩), .int .i64 m] w fun e w' => e = .returned (.int .i64 ((r.count m).2 : Nat)) ∧ To w w' b (r.count m).1 := by
  have HN := fun w (h : RD w b r) => number_r b r 4 w h hk (by omega)
  have hn := r.number4_lt
  have HA := wat_any b r w h
  have HC1 := @R.count_out r m
  have HC2 := @R.count_in r m
  obtain ⟨qn, hq⟩ : ∃ qn, qn = r.number 4 := ⟨_, rfl⟩
  rw [← hq] at HN hn HC1 HC2
  clear hq
  obtain ⟨q, n⟩ := qn
  simp only at HN hn HC1 HC2
  have HR := fun w (h : RD w b q) => refuse_any b q r.pos 3 w h
  have hn64 := wrap_u64_nat n (by omega)
  by_cases h0 : m < 0
  · have hd : decide (m < 0) = true := decide_eq_true h0
    have HE := HC1 (.inl h0)
    rw [HE]
    clear HC1 HC2 HE
    generalize q.refuse r.pos 3 = z at *
    generalize r.pos = p at *
    go_enter Tryz.func146, Tryz.ntmps146
    go_wp2_with (first
      | (go_at_call 150; refine HA.mono ?_; rintro e w' ⟨rfl, hw'⟩; have hw2 := hw'.symm; subst hw2; clear hw')
      | (go_at_call 147; refine (HN _ h).mono ?_; rintro e w1 ⟨rfl, hT⟩)
      | (go_at_call 167; refine (HR _ hT.rd).mono ?_; rintro e w2 ⟨rfl, hU⟩))
    go_ret
    exact ⟨rfl, hT.trans hU⟩
  · have hd : decide (m < 0) = false := decide_eq_false h0
    obtain ⟨k, rfl⟩ : ∃ k : Nat, m = k := ⟨m.toNat, by omega⟩
    have hk64 := wrap_u64_nat k (by omega)
    by_cases h1 : k < n
    · have hd1 : decide ((k : Int) < (n : Int)) = true := decide_eq_true (by omega)
      have HE := HC1 (.inr (by omega))
      rw [HE]
      clear HC1 HC2 HE
      generalize q.refuse r.pos 3 = z at *
      generalize r.pos = p at *
      go_enter Tryz.func146, Tryz.ntmps146
      go_wp2_with (first
        | (go_at_call 150; refine HA.mono ?_; rintro e w' ⟨rfl, hw'⟩; have hw2 := hw'.symm; subst hw2; clear hw')
        | (go_at_call 147; refine (HN _ h).mono ?_; rintro e w1 ⟨rfl, hT⟩)
        | (go_at_call 167; refine (HR _ hT.rd).mono ?_; rintro e w2 ⟨rfl, hU⟩))
      go_ret
      exact ⟨rfl, hT.trans hU⟩
    · have hd1 : decide ((k : Int) < (n : Int)) = false := decide_eq_false (by omega)
      have HE := HC2 (by omega)
      rw [HE]
      clear HC1 HC2 HE HR
      generalize r.pos = p at *
      go_enter Tryz.func146, Tryz.ntmps146
      go_wp2_with (first
        | (go_at_call 150; refine HA.mono ?_; rintro e w' ⟨rfl, hw'⟩; have hw2 := hw'.symm; subst hw2; clear hw')
        | (go_at_call 147; refine (HN _ h).mono ?_; rintro e w1 ⟨rfl, hT⟩))
      go_ret
      exact ⟨rfl, hT⟩
/-- What Unframe tells behind the reads. -/
def unfR (p : Nat) (u : Nat) (b : R × List UInt8) : List UInt8 × Int × Int :=
  if b.1.err ≠ 0 then ([], 0, b.1.err) else if u ≠ (fcheck b.2).toNat then ([], 0, 6) else (b.2, (p : Int) + b.1.pos, 0)
def rdA (s : List UInt8) : R × Nat := (⟨s, 0, 0⟩ : R).count 2147483647
def rdB (s : List UInt8) : R × Nat := (rdA s).1.number 4
def rdC (s : List UInt8) : R × List UInt8 := (rdB s).1.bytes ((rdA s).2 : Nat)
def unframe (s : List UInt8) (p : Int) : List UInt8 × Int × Int :=
  if p < 0 ∨ (s.length : Int) < p then ([], 0, 1) else unfR p.toNat (rdB (s.drop p.toNat)).2 (rdC (s.drop p.toNat))
theorem rdA_ok (s : List UInt8) : (rdA s).1.ok := R.ok_count (Nat.zero_le _) _
theorem rdB_ok (s : List UInt8) : (rdB s).1.ok := R.ok_number (rdA_ok s) _
theorem rdC_ok (s : List UInt8) : (rdC s).1.ok := R.ok_bytes (rdB_ok s) _
theorem rdA_s (s : List UInt8) : (rdA s).1.s = s := R.count_s _ _
theorem rdB_s (s : List UInt8) : (rdB s).1.s = s := (R.number_s _ _).trans (rdA_s s)
theorem rdC_s (s : List UInt8) : (rdC s).1.s = s := (R.bytes_s _ _).trans (rdB_s s)
theorem glob_to {w w1 w2 : World} {q : R} (hG : Glob w) (h : Below w.heap.size w w1) (k : To w1 w2 w.heap.size q) : Glob w2 :=
  (hG.belowSize h).grown k.grown hG.one
set_option maxRecDepth 100000 in
set_option maxHeartbeats 400000 in
theorem unframe_out (s : List UInt8) (p : Int) (w : World) (h : p < 0 ∨ (s.length : Int) < p) :
    Calls Tryz.prog 113 #[.string ⟨s.toArray⟩, .int .i64 p] w fun e w' => e = .returned (.tuple #[.string ⟨#[]⟩, .int .i64 0, .int .i64 1]) ∧ w' = w := by
  by_cases h0 : p < 0
  · have hd : decide (p < 0) = true := decide_eq_true h0
    go_enter Tryz.func113, Tryz.ntmps113
    go_wp2_with fail
    go_ret3
    exact ⟨rfl, rfl⟩
  · have hd : decide (p < 0) = false := decide_eq_false h0
    have hd1 : decide ((s.length : Int) < p) = true := decide_eq_true (by omega)
    go_enter Tryz.func113, Tryz.ntmps113
    go_wp2_with fail
    go_ret3
    exact ⟨rfl, rfl⟩
attribute [local go_sem] extract_drop n32_wrap64
set_option maxRecDepth 100000 in
set_option maxHeartbeats 400000 in
theorem unframe_in (s : List UInt8) (p : Nat) (w : World) (hG : Glob w) (hl : s.length ≤ 549755813888) (h : p ≤ s.length) :
    Calls Tryz.prog 113 #[.string ⟨s.toArray⟩, .int .i64 (p : Nat)] w fun e w' => e = .returned (.tuple #[.string ⟨(unfR p (rdB (s.drop p)).2 (rdC (s.drop p))).1.toArray⟩, .int .i64 (unfR p (rdB (s.drop p)).2 (rdC (s.drop p))).2.1, .int .i64 (unfR p (rdB (s.drop p)).2 (rdC (s.drop p))).2.2]) ∧ Below w.heap.size w w' := by
  have hsl : (s.drop p).length ≤ s.length := by rw [List.length_drop]; omega
  have hsl2 : (s.drop p).length = s.length - p := by rw [List.length_drop]
  have HW := newr_any (s.drop p) w
  have HA : ∀ w' , RD w' w.heap.size ⟨s.drop p, 0, 0⟩ → Calls Tryz.prog 146 #[.pointer (some ⟨w.heap.size, 0, none⟩), .int .i64 2147483647] w' fun e w2 => e = .returned (.int .i64 ((rdA (s.drop p)).2 : Nat)) ∧ To w' w2 w.heap.size (rdA (s.drop p)).1 :=
    fun w' h' => count_any _ _ 2147483647 w' h' (Nat.zero_le _) (by show (s.drop p).length ≤ _; omega) (by omega)
  have HB : ∀ w' , RD w' w.heap.size (rdA (s.drop p)).1 → Calls Tryz.prog 147 #[.pointer (some ⟨w.heap.size, 0, none⟩), .int .i64 4] w' fun e w2 => e = .returned (.int .u64 ((rdB (s.drop p)).2 : Nat)) ∧ To w' w2 w.heap.size (rdB (s.drop p)).1 :=
    fun w' h' => number_r _ _ 4 w' h' (rdA_ok _) (by rw [rdA_s]; omega)
  have HC : ∀ w' , RD w' w.heap.size (rdB (s.drop p)).1 → Calls Tryz.prog 148 #[.pointer (some ⟨w.heap.size, 0, none⟩), .int .i64 ((rdA (s.drop p)).2 : Nat)] w' fun e w2 => e = .returned (.string ⟨(rdC (s.drop p)).2.toArray⟩) ∧ To w' w2 w.heap.size (rdC (s.drop p)).1 :=
    fun w' h' => bytes_any _ _ _ w' h' (rdB_ok _) (by rw [rdB_s]; omega)
  have hok := rdC_ok (s.drop p)
  have hcs := rdC_s (s.drop p)
  have hlen : (rdC (s.drop p)).1.err = 0 → (rdC (s.drop p)).2.length ≤ s.length := fun he => by
    obtain ⟨_, h2, _, h4⟩ := R.bytes_good (rdB_ok (s.drop p)) he
    rw [rdB_s] at h2
    have : (rdC (s.drop p)).2.length = (rdA (s.drop p)).2 := h4
    omega
  generalize rdC (s.drop p) = C at *
  generalize rdB (s.drop p) = B at *
  generalize rdA (s.drop p) = A at *
  obtain ⟨q1, n⟩ := A
  obtain ⟨q2, u⟩ := B
  obtain ⟨q3, v⟩ := C
  simp only at HA HB HC hlen
  have HE := fun w' (h' : RD w' w.heap.size q3) => err_any w.heap.size q3 w' h'
  have HP := fun w' (h' : RD w' w.heap.size q3) => wat_any w.heap.size q3 w' h'
  have hpos : q3.pos ≤ s.length := by have : q3.ok := hok; unfold R.ok at this; rw [show q3.s = s.drop p from hcs] at this; omega
  clear hsl hsl2
  unfold unfR
  simp only
  by_cases he : q3.err = 0
  · have hlv := hlen he
    have HK := fun w' (hG' : Glob w') => frameCheck_any v w' hG' (by omega)
    rw [he] at HE
    rw [if_neg (by simpa using he)]
    clear hlen hok hcs
    generalize fcheck v = c at *
    generalize q3.pos = y at *
    by_cases hc : u = c.toNat
    · rw [if_neg (by simpa using hc)]
      have hcu : (((u : Nat) : Int) != (c.toNat : Int)) = false := by rw [bne_eq_false_iff_eq, hc]
      have hcd : decide (((u : Nat) : Int) = (c.toNat : Int)) = true := decide_eq_true (by omega)
      have hcd2 : decide (u = c.toNat) = true := decide_eq_true hc
      clear hc
      go_enter Tryz.func113, Tryz.ntmps113
      go_wp2_with (first
        | (go_at_call 145; refine HW.mono ?_; rintro e w1 ⟨rfl, hw1, hR1⟩)
        | (go_at_call 146; refine (HA _ hR1).mono ?_; rintro e w2 ⟨rfl, hT2⟩)
        | (go_at_call 147; refine (HB _ hT2.rd).mono ?_; rintro e w3 ⟨rfl, hT3⟩)
        | (go_at_call 148; refine (HC _ hT3.rd).mono ?_; rintro e w4 ⟨rfl, hT4⟩)
        | (go_at_call 149; refine (HE _ hT4.rd).mono ?_; rintro e w' ⟨rfl, hw'⟩; have hw2' := hw'.symm; subst hw2'; clear hw')
        | (go_at_call 99; refine (HK _ (glob_to hG hw1 ((hT2.trans hT3).trans hT4))).mono ?_; rintro e w5 ⟨rfl, hw5⟩)
        | (go_at_call 150; refine (HP _ (hT4.rd.below hw5)).mono ?_; rintro e w' ⟨rfl, hw'⟩; have hw2' := hw'.symm; subst hw2'; clear hw'))
      go_ret3
      refine ⟨rfl, ?_⟩
      have hT : To w1 w4 w.heap.size q3 := (hT2.trans hT3).trans hT4
      have hB4 : Below w.heap.size w w4 := hw1.trans (below_of_grown hT.grown (Nat.le_refl _) hw1.size)
      exact hB4.trans (hw5.mono hB4.size)
    · rw [if_pos (by simpa using hc)]
      have hcu : (((u : Nat) : Int) != (c.toNat : Int)) = true := by rw [bne_iff_ne]; omega
      have hcd : decide (((u : Nat) : Int) = (c.toNat : Int)) = false := decide_eq_false (by omega)
      have hcd2 : decide (u = c.toNat) = false := decide_eq_false hc
      clear hc
      go_enter Tryz.func113, Tryz.ntmps113
      go_wp2_with (first
        | (go_at_call 145; refine HW.mono ?_; rintro e w1 ⟨rfl, hw1, hR1⟩)
        | (go_at_call 146; refine (HA _ hR1).mono ?_; rintro e w2 ⟨rfl, hT2⟩)
        | (go_at_call 147; refine (HB _ hT2.rd).mono ?_; rintro e w3 ⟨rfl, hT3⟩)
        | (go_at_call 148; refine (HC _ hT3.rd).mono ?_; rintro e w4 ⟨rfl, hT4⟩)
        | (go_at_call 149; refine (HE _ hT4.rd).mono ?_; rintro e w' ⟨rfl, hw'⟩; have hw2' := hw'.symm; subst hw2'; clear hw')
        | (go_at_call 99; refine (HK _ (glob_to hG hw1 ((hT2.trans hT3).trans hT4))).mono ?_; rintro e w5 ⟨rfl, hw5⟩))
      go_ret3
      refine ⟨rfl, ?_⟩
      have hT : To w1 w4 w.heap.size q3 := (hT2.trans hT3).trans hT4
      have hB4 : Below w.heap.size w w4 := hw1.trans (below_of_grown hT.grown (Nat.le_refl _) hw1.size)
      exact hB4.trans (hw5.mono hB4.size)
  · have hne : (q3.err != 0) = true := by simpa using he
    have hd : decide (q3.err = 0) = false := decide_eq_false he
    rw [if_pos he]
    clear hlen hok hcs
    generalize q3.err = z at *
    go_enter Tryz.func113, Tryz.ntmps113
    go_wp2_with (first
      | (go_at_call 145; refine HW.mono ?_; rintro e w1 ⟨rfl, hw1, hR1⟩)
      | (go_at_call 146; refine (HA _ hR1).mono ?_; rintro e w2 ⟨rfl, hT2⟩)
      | (go_at_call 147; refine (HB _ hT2.rd).mono ?_; rintro e w3 ⟨rfl, hT3⟩)
      | (go_at_call 148; refine (HC _ hT3.rd).mono ?_; rintro e w4 ⟨rfl, hT4⟩)
      | (go_at_call 149; refine (HE _ hT4.rd).mono ?_; rintro e w' ⟨rfl, hw'⟩; have hw2' := hw'.symm; subst hw2'; clear hw'))
    go_ret3
    refine ⟨rfl, ?_⟩
    have hT : To w1 w4 w.heap.size q3 := (hT2.trans hT3).trans hT4
    have hB4 : Below w.heap.size w w4 := hw1.trans (below_of_grown hT.grown (Nat.le_refl _) hw1.size)
    exact hB4
theorem unframe_any (s : List UInt8) (p : Int) (w : World) (hG : Glob w) (hl : s.length ≤ 549755813888) :
    Calls Tryz.prog 113 #[.string ⟨s.toArray⟩, .int .i64 p] w fun e w' => e = .returned (.tuple #[.string ⟨(unframe s p).1.toArray⟩, .int .i64 (unframe s p).2.1, .int .i64 (unframe s p).2.2]) ∧ Below w.heap.size w w' := by
  unfold unframe
  by_cases h : p < 0 ∨ (s.length : Int) < p
  · rw [if_pos h]
    exact (unframe_out s p w h).mono fun e w' ⟨h1, h2⟩ => by subst h2; exact ⟨h1, Below.refl _ _⟩
  · rw [if_neg h]
    obtain ⟨q, rfl⟩ : ∃ q : Nat, p = q := ⟨p.toNat, by omega⟩
    exact unframe_in s q w hG hl (by omega)
theorem unframe_frame (x m : List UInt8) (h : x.length ≤ 2147483647) : unframe (frame x ++ m) 0 = (x, (x.length : Int) + 8, 0) := by
  obtain ⟨F, hF⟩ : ∃ F, F = frame x ++ m := ⟨_, rfl⟩
  have hn := num_length 4 x.length
  have hc := num_length 4 (fcheck x).toNat
  have hlt : (fcheck x).toNat < 4294967296 := (fcheck x).isLt
  have f1 : F = [] ++ (num x.length 4 ++ (num (fcheck x).toNat 4 ++ (x ++ m))) := by rw [hF]; unfold frame fcheck; simp
  have f2 : F = num x.length 4 ++ (num (fcheck x).toNat 4 ++ (x ++ m)) := by rw [f1]; rfl
  have f3 : F = (num x.length 4 ++ num (fcheck x).toNat 4) ++ (x ++ m) := by rw [f2, List.append_assoc]
  have hA : rdA F = (⟨F, 4, 0⟩, x.length) := by
    unfold rdA
    have := R.count_at [] (num (fcheck x).toNat 4 ++ (x ++ m)) x.length 2147483647 (by omega) (by omega)
    rw [← f1] at this
    exact this
  have hB : rdB F = (⟨F, 8, 0⟩, (fcheck x).toNat) := by
    unfold rdB
    rw [hA]
    have := R.number_at (num x.length 4) (num (fcheck x).toNat 4) (x ++ m) 4 (by rw [hc]; rfl) (by omega)
    rw [← f2, num_four _ hlt, hn, hc] at this
    exact this
  have hC : rdC F = (⟨F, 8 + x.length, 0⟩, x) := by
    unfold rdC
    rw [hA, hB]
    have := R.bytes_at (num x.length 4 ++ num (fcheck x).toNat 4) x m
    rw [← f3, List.length_append, hn, hc] at this
    exact this
  rw [← hF]
  unfold unframe
  rw [if_neg (by omega)]
  show unfR 0 (rdB F).2 (rdC F) = _
  rw [hB, hC]
  unfold unfR
  rw [if_neg (by simp), if_neg (by simp)]
  simp only [Prod.mk.injEq, true_and, and_true]
  omega
end Go.Proofs.YtaiiojbakmminaaGreatDoor
