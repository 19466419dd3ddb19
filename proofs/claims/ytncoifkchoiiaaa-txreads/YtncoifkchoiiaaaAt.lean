/- What a reader takes where it is known what stands there. -/
import Derived.Test.YtncoifkchoiiaaaUf
namespace Go.Proofs.Ytncoifkchoiiaaa
open Go Go.RowKit
theorem mid_take (a b c : List UInt8) : ((a ++ (b ++ c)).drop a.length).take b.length = b := by
  rw [List.drop_left, List.take_left]
theorem R.bytes_at (a b c : List UInt8) : (⟨a ++ (b ++ c), a.length, 0⟩ : R).bytes (b.length : Nat) = (⟨a ++ (b ++ c), a.length + b.length, 0⟩, b) := by
  unfold R.bytes
  rw [if_neg (by simp), if_neg (by omega), if_neg (by simp only [List.length_append]; omega)]
  simp only [Int.toNat_natCast]
  rw [mid_take]
theorem R.number_at (a b c : List UInt8) (n : Int) (hn : n = (b.length : Nat)) (h : b.length ≤ 8) : (⟨a ++ (b ++ c), a.length, 0⟩ : R).number n = (⟨a ++ (b ++ c), a.length + b.length, 0⟩, val b) := by
  subst hn
  unfold R.number
  rw [show (⟨a ++ (b ++ c), a.length, 0⟩ : R).early (b.length : Nat) = ⟨a ++ (b ++ c), a.length, 0⟩ from if_neg (by omega), R.bytes_at]
theorem R.count_at (a c : List UInt8) (n : Nat) (m : Int) (hn : n < 4294967296) (hm : (n : Int) ≤ m) : (⟨a ++ (num n 4 ++ c), a.length, 0⟩ : R).count m = (⟨a ++ (num n 4 ++ c), a.length + 4, 0⟩, n) := by
  have hN := R.number_at a (num n 4) c 4 (by rw [num_length]; rfl) (by rw [num_length]; omega)
  rw [num_length, num_four n hn] at hN
  rw [R.count_in (by rw [hN]; omega), hN]
theorem R.text_at (a t c : List UInt8) (m : Int) (ht : t.length < 4294967296) (hm : (t.length : Int) ≤ m) : (⟨a ++ ((num t.length 4 ++ t) ++ c), a.length, 0⟩ : R).text m = (⟨a ++ ((num t.length 4 ++ t) ++ c), a.length + (4 + t.length), 0⟩, t) := by
  have hC := R.count_at a (t ++ c) t.length m ht hm
  rw [← List.append_assoc (num t.length 4) t c] at hC
  have hB := R.bytes_at (a ++ num t.length 4) t c
  rw [List.append_assoc a, ← List.append_assoc (num t.length 4) t c, List.length_append, num_length] at hB
  rw [R.text_good (by rw [hC, hB]), hC, hB, Nat.add_assoc]
theorem R.bool_at (a c : List UInt8) (b : UInt8) (h : b.toNat ≤ 1) : (⟨a ++ ([b] ++ c), a.length, 0⟩ : R).bool = (⟨a ++ ([b] ++ c), a.length + 1, 0⟩, decide (b.toNat = 1)) := by
  have hN := R.number_at a [b] c 1 rfl (by simp)
  have hv : val [b] = b.toNat := by simp [val]
  rw [hv] at hN
  rw [R.bool_in (by rw [hN]; simp; omega), hN]
  rfl
end Go.Proofs.Ytncoifkchoiiaaa
