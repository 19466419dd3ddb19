/- What awake of the statements does, change of a nil disk, and the plain Name. -/
import Derived.Test.YtgkkpmliociieaaLaw
namespace Go.Proofs.Ytgkkpmliociieaa
open Go Go.RowKit
theorem change_nil (a : AC) (w : World) : Calls Try.prog 27 #[.pointer none, .agg (aC a)] w fun e w' => ∃ v, e = .returned v ∧ (v = .int .i64 7 ∧ Below w.heap.size w w') :=
  change_gen (.pointer none) ⟨none, rfl⟩ a (fun v w' => v = .int .i64 7 ∧ Below w.heap.size w w') w
    (fun _ w1 hB hb => (write_nil _ _ w1).mono fun _ _ ⟨he, h⟩ => ⟨_, he, ⟨rfl, hB.trans (h.mono hB.size)⟩, hb.belowSize h⟩)
    (fun _ w1 hB hb => (move_nil _ _ w1).mono fun _ _ ⟨he, h⟩ => ⟨_, he, ⟨rfl, hB.trans (h.mono hB.size)⟩, hb.belowSize h⟩)
    (fun _ w1 hB hb => (remove_nil _ w1).mono fun _ _ ⟨he, h⟩ => ⟨_, he, ⟨rfl, hB.trans (h.mono hB.size)⟩, hb.belowSize h⟩)
    (fun _ w1 hB hb => (truncate_nil _ _ w1).mono fun _ _ ⟨he, h⟩ => ⟨_, he, ⟨rfl, hB.trans (h.mono hB.size)⟩, hb.belowSize h⟩)
    (fun _ _ _ _ w1 hB hb => (append_nil _ _ w1).mono fun _ _ ⟨he, h⟩ => ⟨_, he, ⟨rfl, hB.trans (h.mono hB.size)⟩, hb.belowSize h⟩)
def m0 : DM := ⟨[], false, false, 0, 0⟩
theorem okd0 : Okd m0 := ⟨⟨List.Pairwise.nil, fun _ h => (by cases h), fun _ h => (by cases h)⟩, by decide, by decide, by decide, fun h => (by cases h)⟩
def mA : DM := ⟨[⟨[97], some [120], none, 1⟩], false, false, 0, 1⟩
def mB : DM := ⟨[⟨[97], some [120], none, 1⟩, ⟨[98], some [121], none, 1⟩], false, false, 0, 2⟩
def mC : DM := ⟨[⟨[98], some [121], some [121], 0⟩], true, false, 0, 2⟩
theorem app1 : appD m0 [97] [120] = (mA, 0) := by kernel_rfl
theorem app2 : appD mA [98] [121] = (mB, 0) := by kernel_rfl
theorem cra1 : craD mB 2 0 = mC := by kernel_rfl
theorem okdA : Okd mA := ⟨⟨List.pairwise_singleton .., fun f h => by rw [List.mem_singleton.1 h]; decide, fun f h => by rw [List.mem_singleton.1 h]; decide⟩, by decide, by decide, by decide, fun h => (by cases h)⟩
theorem nam1 : namesL { mC with dead := false }.l = [[98]] := by kernel_rfl
set_option maxRecDepth 100000 in
set_option maxHeartbeats 1000000 in
theorem awake_any (w : World) : Calls Try.prog 10 #[] w fun e w' => e = .returned (.bool true) ∧ Below w.heap.size w w' := by
  have H1 := fun w1 p (h : DK w1 p none m0) => append_any p none m0 [97] [120] w1 h okd0 (by decide) (by decide)
  rw [app1] at H1
  have H2 := fun w1 p b (h : DK w1 p b mA) => append_any p b mA [98] [121] w1 h okdA (by decide) (by decide)
  rw [app2] at H2
  have H3 := fun w1 p b (h : DK w1 p b mB) => crash_any p b mB 2 0 w1 h (by decide) (fun f hf => by
    rcases List.mem_cons.1 hf with rfl | hf
    · exact ⟨by decide, by decide⟩
    · rw [List.mem_singleton.1 hf]
      exact ⟨by decide, by decide⟩)
  rw [cra1] at H3
  have H4 := fun w1 p b (h : DK w1 p b mC) => up_any p b mC w1 h
  have H5 := fun w1 p b (h : DK w1 p b { mC with dead := false }) => names_any p b _ w1 h (by decide)
  rw [nam1] at H5
  have HN : Calls Try.prog 21 #[] w fun e w' => e = .returned (.pointer (some ⟨w.heap.size, 0, none⟩)) ∧ Below w.heap.size w w' ∧ DK w' w.heap.size none m0 := new_any w
  have HB : Hid (∀ w1 w2 w3 w4 w5 w6 b2 b3 b4, Below w.heap.size w w1 → DK w1 w.heap.size none m0 → Chg w1 w2 w.heap.size none b2 → Chg w2 w3 w.heap.size b2 b3 → Chg w3 w4 w.heap.size b3 b4 → Chg w4 w5 w.heap.size b4 b4 → Below w5.heap.size w5 w6 → Below w.heap.size w w6) := fun w1 w2 w3 w4 w5 w6 b2 b3 b4 h1 h2 h3 h4 h5 h6 h7 => by
    have hc := ((h3.trans h4).trans h5).trans h6
    have hb := h1.trans (hc.to (Nat.le_refl _) (fun r e => by cases e) h1.size)
    exact hb.trans (h7.mono hb.size)
  generalize m0 = x0 at *
  generalize mA = xA at *
  generalize mB = xB at *
  generalize mC = xC at *
  go_enter Try.func10, Try.ntmps10
  go_wp2_with (first
    | (go_at_call 21; refine HN.mono ?_; rintro e w1 ⟨rfl, hw1, hD1⟩)
    | (go_at_call 35; refine (H1 _ _ hD1).mono ?_; rintro e w2 ⟨rfl, b2, hC2, hD2⟩; clear H1)
    | (go_at_call 35; refine (H2 _ _ _ hD2).mono ?_; rintro e w3 ⟨rfl, b3, hC3, hD3⟩; clear H2)
    | (go_at_call 14; refine (H3 _ _ _ hD3).mono ?_; rintro e w4 ⟨rfl, b4, hC4, hD4⟩)
    | (go_at_call 15; refine (H4 _ _ _ hD4).mono ?_; rintro e w5 ⟨rfl, hC5, hD5⟩)
    | (go_at_call 28; refine (H5 _ _ _ hD5).mono ?_; rintro e w6 ⟨sl6, rfl, hw6, hX6⟩; obtain ⟨a6, cap6, rfl⟩ := hX6.sl; obtain ⟨g6, rfl, c6⟩ := hX6.at 0 [98] rfl))
  go_ret
  exact ⟨rfl, HB.out w1 w2 w3 w4 w5 w6 b2 b3 b4 hw1 hD1 hC2 hC3 hC4 hC5 hw6⟩
theorem okB_yes {b : UInt8} (h : okB b = true) : (97 ≤ (b.toNat : Int) ∧ (b.toNat : Int) ≤ 122) ∨ (48 ≤ (b.toNat : Int) ∧ (b.toNat : Int) ≤ 57) ∨ (b.toNat : Int) = 46 ∨ (b.toNat : Int) = 45 := by
  have e : ∀ b : UInt8, okB b = true → (97 ≤ b.toNat ∧ b.toNat ≤ 122) ∨ (48 ≤ b.toNat ∧ b.toNat ≤ 57) ∨ b.toNat = 46 ∨ b.toNat = 45 := by
    intro b hb
    unfold okB at hb
    simp only [Bool.or_eq_true, Bool.and_eq_true, decide_eq_true_eq, UInt8.le_iff_toNat_le, beq_iff_eq, ← UInt8.toNat_inj] at hb
    have h1 : (97 : UInt8).toNat = 97 := rfl
    have h2 : (122 : UInt8).toNat = 122 := rfl
    have h3 : (48 : UInt8).toNat = 48 := rfl
    have h4 : (57 : UInt8).toNat = 57 := rfl
    have h5 : (46 : UInt8).toNat = 46 := rfl
    have h6 : (45 : UInt8).toNat = 45 := rfl
    omega
  have := e b h
  omega
theorem okB_no {b : UInt8} (h : okB b = false) : (b.toNat : Int) < 45 ∨ (b.toNat : Int) = 47 ∨ (58 ≤ (b.toNat : Int) ∧ (b.toNat : Int) ≤ 96) ∨ 123 ≤ (b.toNat : Int) := by
  have e : ∀ b : UInt8, okB b = false → b.toNat < 45 ∨ b.toNat = 47 ∨ (58 ≤ b.toNat ∧ b.toNat ≤ 96) ∨ 123 ≤ b.toNat := by
    intro b hb
    rw [Bool.eq_false_iff] at hb
    unfold okB at hb
    simp only [ne_eq, Bool.or_eq_true, Bool.and_eq_true, decide_eq_true_eq, UInt8.le_iff_toNat_le, beq_iff_eq, ← UInt8.toNat_inj] at hb
    have h1 : (97 : UInt8).toNat = 97 := rfl
    have h2 : (122 : UInt8).toNat = 122 := rfl
    have h3 : (48 : UInt8).toNat = 48 := rfl
    have h4 : (57 : UInt8).toNat = 57 := rfl
    have h5 : (46 : UInt8).toNat = 46 := rfl
    have h6 : (45 : UInt8).toNat = 45 := rfl
    omega
  have := e b h
  omega
section
attribute [local go_sem] idx8
set_option maxRecDepth 100000 in
set_option maxHeartbeats 2000000 in
theorem rname_any (s : B) (w : World) (hs : s.length ≤ 9223372036854775807) : Calls Try.prog 25 #[.string ⟨s.toArray⟩] w fun e w' => e = .returned (.bool (okN s)) ∧ w' = w := by
  obtain ⟨R, hR⟩ : ∃ R, Hid (R = okN s) := ⟨_, rfl⟩
  rw [← hR.out]
  go_enter Try.func25, Try.ntmps25
  go_wp2_with fail
  go_loopw [3, 4, 5, 6] (fun v3 _ _ _ wl => ∃ n : Nat, n ≤ s.length ∧ v3 = .int .i64 n ∧ Hid ((s.take n).all okB = true) ∧ wl = w) (fun v3 _ _ _ _ => s.length - (intOf v3).toNat)
  case atStart => exact ⟨0, by omega, rfl, rfl, rfl⟩
  case round =>
    obtain ⟨n, hn, rfl, hI, hw⟩ := hrel
    have hw2 := hw.symm
    subst hw2
    clear hw
    by_cases hlt : n < s.length
    · have hd : decide ((n : Int) < (s.length : Int)) = true := decide_eq_true (by omega)
      cases hb : okB (byteOf s n)
      · have hRf : R = false := by
          rw [hR.out]
          unfold okN
          rw [all_no hlt hb]
          rfl
        subst hRf
        have hc := okB_no hb
        clear hI hR hb
        rcases hc with hc | hc | hc | hc
        · have d1 : decide ((97 : Int) ≤ ((byteOf s n).toNat : Int)) = false := decide_eq_false (by omega)
          have d2 : decide (((byteOf s n).toNat : Int) ≤ 122) = true := decide_eq_true (by omega)
          have d3 : decide ((48 : Int) ≤ ((byteOf s n).toNat : Int)) = false := decide_eq_false (by omega)
          have d4 : decide (((byteOf s n).toNat : Int) ≤ 57) = true := decide_eq_true (by omega)
          have n5 : (((byteOf s n).toNat : Int) != 46) = true := bne_iff_ne.2 (by omega)
          have n6 : (((byteOf s n).toNat : Int) != 45) = true := bne_iff_ne.2 (by omega)
          clear hc
          go_wp2_with fail
          go_ret
          exact ⟨rfl, rfl⟩
        · have d1 : decide ((97 : Int) ≤ ((byteOf s n).toNat : Int)) = false := decide_eq_false (by omega)
          have d2 : decide (((byteOf s n).toNat : Int) ≤ 122) = true := decide_eq_true (by omega)
          have d3 : decide ((48 : Int) ≤ ((byteOf s n).toNat : Int)) = false := decide_eq_false (by omega)
          have d4 : decide (((byteOf s n).toNat : Int) ≤ 57) = true := decide_eq_true (by omega)
          have n5 : (((byteOf s n).toNat : Int) != 46) = true := bne_iff_ne.2 (by omega)
          have n6 : (((byteOf s n).toNat : Int) != 45) = true := bne_iff_ne.2 (by omega)
          clear hc
          go_wp2_with fail
          go_ret
          exact ⟨rfl, rfl⟩
        · have d1 : decide ((97 : Int) ≤ ((byteOf s n).toNat : Int)) = false := decide_eq_false (by omega)
          have d2 : decide (((byteOf s n).toNat : Int) ≤ 122) = true := decide_eq_true (by omega)
          have d3 : decide ((48 : Int) ≤ ((byteOf s n).toNat : Int)) = true := decide_eq_true (by omega)
          have d4 : decide (((byteOf s n).toNat : Int) ≤ 57) = false := decide_eq_false (by omega)
          have n5 : (((byteOf s n).toNat : Int) != 46) = true := bne_iff_ne.2 (by omega)
          have n6 : (((byteOf s n).toNat : Int) != 45) = true := bne_iff_ne.2 (by omega)
          clear hc
          go_wp2_with fail
          go_ret
          exact ⟨rfl, rfl⟩
        · have d1 : decide ((97 : Int) ≤ ((byteOf s n).toNat : Int)) = true := decide_eq_true (by omega)
          have d2 : decide (((byteOf s n).toNat : Int) ≤ 122) = false := decide_eq_false (by omega)
          have d3 : decide ((48 : Int) ≤ ((byteOf s n).toNat : Int)) = true := decide_eq_true (by omega)
          have d4 : decide (((byteOf s n).toNat : Int) ≤ 57) = false := decide_eq_false (by omega)
          have n5 : (((byteOf s n).toNat : Int) != 46) = true := bne_iff_ne.2 (by omega)
          have n6 : (((byteOf s n).toNat : Int) != 45) = true := bne_iff_ne.2 (by omega)
          clear hc
          go_wp2_with fail
          go_ret
          exact ⟨rfl, rfl⟩
      · have hI2 : Hid ((s.take (n + 1)).all okB = true) := by
          show _ = _
          rw [all_take hlt, hI.out, hb]
          rfl
        have hc := okB_yes hb
        clear hI hb
        rcases hc with hc | hc | hc | hc
        · have d1 : decide ((97 : Int) ≤ ((byteOf s n).toNat : Int)) = true := decide_eq_true (by omega)
          have d2 : decide (((byteOf s n).toNat : Int) ≤ 122) = true := decide_eq_true (by omega)
          have d3 : decide ((48 : Int) ≤ ((byteOf s n).toNat : Int)) = true := decide_eq_true (by omega)
          have d4 : decide (((byteOf s n).toNat : Int) ≤ 57) = false := decide_eq_false (by omega)
          have n5 : (((byteOf s n).toNat : Int) != 46) = true := bne_iff_ne.2 (by omega)
          have n6 : (((byteOf s n).toNat : Int) != 45) = true := bne_iff_ne.2 (by omega)
          clear hc
          go_wp2_with fail
          go_roundw
          case rel => exact ⟨n + 1, by omega, by go_num, hI2, trivial⟩
          case measure => simp [intOf]; omega
        · have d1 : decide ((97 : Int) ≤ ((byteOf s n).toNat : Int)) = false := decide_eq_false (by omega)
          have d2 : decide (((byteOf s n).toNat : Int) ≤ 122) = true := decide_eq_true (by omega)
          have d3 : decide ((48 : Int) ≤ ((byteOf s n).toNat : Int)) = true := decide_eq_true (by omega)
          have d4 : decide (((byteOf s n).toNat : Int) ≤ 57) = true := decide_eq_true (by omega)
          have n5 : (((byteOf s n).toNat : Int) != 46) = true := bne_iff_ne.2 (by omega)
          have n6 : (((byteOf s n).toNat : Int) != 45) = true := bne_iff_ne.2 (by omega)
          clear hc
          go_wp2_with fail
          go_roundw
          case rel => exact ⟨n + 1, by omega, by go_num, hI2, trivial⟩
          case measure => simp [intOf]; omega
        · have d1 : decide ((97 : Int) ≤ ((byteOf s n).toNat : Int)) = false := decide_eq_false (by omega)
          have d2 : decide (((byteOf s n).toNat : Int) ≤ 122) = true := decide_eq_true (by omega)
          have d3 : decide ((48 : Int) ≤ ((byteOf s n).toNat : Int)) = false := decide_eq_false (by omega)
          have d4 : decide (((byteOf s n).toNat : Int) ≤ 57) = true := decide_eq_true (by omega)
          have n5 : (((byteOf s n).toNat : Int) != 46) = false := by rw [hc]; rfl
          have n6 : (((byteOf s n).toNat : Int) != 45) = true := bne_iff_ne.2 (by omega)
          clear hc
          go_wp2_with fail
          go_roundw
          case rel => exact ⟨n + 1, by omega, by go_num, hI2, trivial⟩
          case measure => simp [intOf]; omega
        · have d1 : decide ((97 : Int) ≤ ((byteOf s n).toNat : Int)) = false := decide_eq_false (by omega)
          have d2 : decide (((byteOf s n).toNat : Int) ≤ 122) = true := decide_eq_true (by omega)
          have d3 : decide ((48 : Int) ≤ ((byteOf s n).toNat : Int)) = false := decide_eq_false (by omega)
          have d4 : decide (((byteOf s n).toNat : Int) ≤ 57) = true := decide_eq_true (by omega)
          have n5 : (((byteOf s n).toNat : Int) != 46) = true := bne_iff_ne.2 (by omega)
          have n6 : (((byteOf s n).toNat : Int) != 45) = false := by rw [hc]; rfl
          clear hc
          go_wp2_with fail
          go_roundw
          case rel => exact ⟨n + 1, by omega, by go_num, hI2, trivial⟩
          case measure => simp [intOf]; omega
    · have hRl : Hid (R = (decide (0 < s.length) && decide (s.length ≤ 32))) := by
        have := hI.out
        rw [List.take_of_length_le (by omega)] at this
        show _ = _
        rw [hR.out, okN, this, Bool.true_and]
      have hz2 : ¬ (n : Int) < (s.length : Int) := by omega
      clear hI hR
      have hRm : Hid (R = (decide ((0 : Int) < (s.length : Int)) && decide ((s.length : Int) < 33))) := by
        show _ = _
        rw [hRl.out, Bool.eq_iff_iff]
        simp
        omega
      clear hRl
      by_cases h0 : (0 : Int) < (s.length : Int)
      · have hRx : R = decide ((s.length : Int) < 33) := by rw [hRm.out, decide_eq_true h0, Bool.true_and]
        subst hRx
        clear hRm
        go_wp2_with fail
        go_ret
        exact ⟨rfl, rfl⟩
      · have hRx : R = false := by rw [hRm.out, decide_eq_false h0, Bool.false_and]
        subst hRx
        clear hRm
        go_wp2_with fail
        go_ret
        exact ⟨rfl, rfl⟩
end
end Go.Proofs.Ytgkkpmliociieaa
