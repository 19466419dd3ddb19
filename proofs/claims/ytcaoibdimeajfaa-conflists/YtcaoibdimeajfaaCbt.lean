/- The bits of small whole numbers. -/
import Derived.Laws.BitsLemmas
import Derived.Test.YtcaoibdimeajfaaCmm
namespace Go.Proofs.Ytcaoibdimeajfaa
open Go Go.RowKit
theorem wraps_i64 (n : Int) (h₀ : 0 ≤ n) (h₁ : n < 2 ^ 63) : IntKind.i64.wrap n = n := by rw [IntKind.wrap_i64]; omega
/-- Any number, masked by a small one. -/
theorem and_small (x : Int) (a : Nat) (ha : a < 65536) : ∃ X : Nat, bits .and .i64 x (a : Int) = ((X &&& a : Nat) : Int) ∧ X &&& a < 65536 := by
  refine ⟨(BitVec.ofInt 64 x).toNat, ?_, ?_⟩
  · have ha2 : a % 2 ^ 64 = a := Nat.mod_eq_of_lt (Nat.lt_of_lt_of_le ha (by decide))
    have hle : (BitVec.ofInt 64 x).toNat &&& a ≤ a := Nat.and_le_right
    show IntKind.i64.wrap ((BitVec.ofInt 64 x &&& BitVec.ofInt 64 (a : Int)).toNat : Int) = _
    rw [BitVec.toNat_and, BitVec.ofInt_natCast, BitVec.toNat_ofNat, ha2]
    exact wraps_i64 _ (Int.natCast_nonneg _) (by have : (2 : Int) ^ 63 = 9223372036854775808 := by decide
                                                 omega)
  · have : (BitVec.ofInt 64 x).toNat &&& a ≤ a := Nat.and_le_right
    omega
theorem and_low (x : Int) : ∃ m : Nat, bits .and .i64 x 65535 = (m : Int) ∧ m < 65536 := by
  obtain ⟨X, h1, h2⟩ := and_small x 65535 (by decide)
  exact ⟨_, h1, h2⟩
theorem and_15 (x : Int) : ∃ k : Nat, bits .and .i64 x 15 = (k : Int) ∧ k < 16 := by
  obtain ⟨X, h1, _⟩ := and_small x 15 (by decide)
  exact ⟨_, h1, by have : X &&& 15 ≤ 15 := Nat.and_le_right
                   omega⟩
theorem two_pow_63 : (2 : Nat) ^ 63 = 9223372036854775808 := by decide
theorem and_i (a b : Nat) (ha : a < 65536) (hb : b < 65536) : bits .and .i64 (a : Int) (b : Int) = ((a &&& b : Nat) : Int) := (bits_nat .i64 63 (by decide) wraps_i64 a b (by omega) (by omega)).1
theorem or_i (a b : Nat) (ha : a < 65536) (hb : b < 65536) : bits .or .i64 (a : Int) (b : Int) = ((a ||| b : Nat) : Int) := (bits_nat .i64 63 (by decide) wraps_i64 a b (by omega) (by omega)).2
theorem xor_i (a b : Nat) (ha : a < 65536) (hb : b < 65536) : bits .xor .i64 (a : Int) (b : Int) = ((a ^^^ b : Nat) : Int) := by
  have ha2 : a % 2 ^ 64 = a := Nat.mod_eq_of_lt (Nat.lt_of_lt_of_le ha (by decide))
  have hb2 : b % 2 ^ 64 = b := Nat.mod_eq_of_lt (Nat.lt_of_lt_of_le hb (by decide))
  have hle : a ^^^ b < 2 ^ 16 := Nat.xor_lt_two_pow ha hb
  show IntKind.i64.wrap ((BitVec.ofInt 64 (a : Int) ^^^ BitVec.ofInt 64 (b : Int)).toNat : Int) = _
  rw [BitVec.toNat_xor, BitVec.ofInt_natCast, BitVec.ofInt_natCast, BitVec.toNat_ofNat, BitVec.toNat_ofNat, ha2, hb2]
  exact wraps_i64 _ (Int.natCast_nonneg _) (by have : (2 : Int) ^ 63 = 9223372036854775808 := by decide
                                               omega)
/-- Bit i of a, as Go asks for it. -/
theorem bit_eq (a i : Nat) (ha : a < 65536) : (bits .and .i64 ((a : Int) / 2 ^ i) 1 == 1) = a.testBit i := by
  have e : (a : Int) / 2 ^ i = ((a / 2 ^ i : Nat) : Int) := by simp
  have hd : a / 2 ^ i < 65536 := Nat.lt_of_le_of_lt (Nat.div_le_self ..) ha
  have h1 : bits .and .i64 ((a : Int) / 2 ^ i) 1 = ((a / 2 ^ i % 2 : Nat) : Int) := by
    rw [e]
    have := and_i (a / 2 ^ i) 1 hd (by decide)
    rw [Nat.and_one_is_mod] at this
    exact this
  rw [h1, Nat.testBit_eq_decide_div_mod_eq]
  by_cases h : a / 2 ^ i % 2 = 1
  · rw [decide_eq_true h, beq_iff_eq]; omega
  · rw [decide_eq_false h, beq_eq_false_iff_ne]; omega
/-- Without bit k. -/
def nob (a k : Nat) : Nat := a &&& (65535 ^^^ 2 ^ k)
theorem nob_lt (a k : Nat) (ha : a < 65536) : nob a k < 65536 := Nat.lt_of_le_of_lt Nat.and_le_left ha
theorem nob_bit (a k i : Nat) (ha : a < 65536) : (nob a k).testBit i = (a.testBit i && !decide (k = i)) := by
  unfold nob
  rw [Nat.testBit_and, testBit_flip]
  by_cases hi : i < 16
  · have : (65535 : Nat).testBit i = true := by
      have : ∀ j : Fin 16, (65535 : Nat).testBit j.1 = true := by decide
      exact this ⟨i, hi⟩
    rw [this, Bool.true_xor]
  · have : a.testBit i = false := Nat.testBit_lt_two_pow (Nat.lt_of_lt_of_le ha (Nat.pow_le_pow_right (n := 2) (by decide) (show 16 ≤ i by omega)))
    rw [this, Bool.false_and, Bool.false_and]
theorem or_bit (a k i : Nat) : (a ||| 2 ^ k).testBit i = (a.testBit i || decide (k = i)) := by rw [Nat.testBit_or, Nat.testBit_two_pow]
theorem pow_lt16 {k : Nat} (hk : k < 16) : 2 ^ k < 65536 := Nat.lt_of_lt_of_le (Nat.pow_lt_pow_right (by decide) hk) (by decide)
theorem shl_1 (k : Nat) (hk : k < 16) : IntKind.i64.wrap (1 * 2 ^ k) = ((2 ^ k : Nat) : Int) := by
  have := pow_lt16 hk
  have e : (1 : Int) * 2 ^ k = ((2 ^ k : Nat) : Int) := by simp
  rw [e]
  exact wraps_i64 _ (Int.natCast_nonneg _) (by have : (2 : Int) ^ 63 = 9223372036854775808 := by decide
                                               omega)
theorem andNot_i (a k : Nat) (ha : a < 65536) (hk : k < 16) : bits .andNot .i64 (a : Int) ((2 ^ k : Nat) : Int) = ((nob a k : Nat) : Int) := by
  have ha2 : a % 2 ^ 64 = a := Nat.mod_eq_of_lt (Nat.lt_of_lt_of_le ha (by decide))
  have hp := pow_lt16 hk
  have hb2 : 2 ^ k % 2 ^ 64 = 2 ^ k := Nat.mod_eq_of_lt (Nat.lt_of_lt_of_le hp (by decide))
  have hn := nob_lt a k ha
  show IntKind.i64.wrap ((BitVec.ofInt 64 (a : Int) &&& ~~~ BitVec.ofInt 64 ((2 ^ k : Nat) : Int)).toNat : Int) = _
  have e : (BitVec.ofInt 64 (a : Int) &&& ~~~ BitVec.ofInt 64 ((2 ^ k : Nat) : Int)).toNat = nob a k := by
    refine Nat.eq_of_testBit_eq fun i => ?_
    rw [nob_bit a k i ha, BitVec.ofInt_natCast, BitVec.ofInt_natCast, BitVec.testBit_toNat, BitVec.getLsbD_and, BitVec.getLsbD_not, BitVec.getLsbD_ofNat, BitVec.getLsbD_ofNat, Nat.testBit_two_pow]
    by_cases hi : i < 64
    · simp [hi]
    · have : a.testBit i = false := Nat.testBit_lt_two_pow (Nat.lt_of_lt_of_le ha (Nat.pow_le_pow_right (n := 2) (by decide) (show 16 ≤ i by omega)))
      simp [hi, this]
  rw [e]
  exact wraps_i64 _ (Int.natCast_nonneg _) (by have : (2 : Int) ^ 63 = 9223372036854775808 := by decide
                                               omega)
end Go.Proofs.Ytcaoibdimeajfaa
