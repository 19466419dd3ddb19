/- What a reader takes where it is known what stands there. -/
import Derived.Test.YtaccklbijihppaaDoorUf
namespace Go.Proofs.YtaccklbijihppaaDoor
open Go Go.RowKit
theorem mid_take (a b c : List UInt8) : ((a ++ (b ++ c)).drop a.length).take b.length = b := by
  rw [List.drop_left, List.take_left]
theorem R.bytes_at (a b c : List UInt8) : (⟨a ++ (b ++ c), a.length, 0⟩ : R).bytes (b.length : Nat) = (⟨a ++ (b ++ c), a.length + b.length, 0⟩, b) := by
  unfold R.bytes
  rw [if_neg (by simp), if_neg (by omega), if_neg (by simp only [List.length_append]; omega)]
  simp only [Int.toNat_natCast]
  rw [mid_take]
theorem R.number_at (a b c : List UInt8) (n : Int) (hn : n = (b.length : Nat)) (h : b.length ≤ 8) : (⟨a ++ (b ++ c), a.length, 0⟩ : R).number n = (⟨a ++ (b ++ c), a.length + b.length, 0⟩, val b) := by
  subst hn
  unfold R.number
  rw [show (⟨a ++ (b ++ c), a.length, 0⟩ : R).early (b.length : Nat) = ⟨a ++ (b ++ c), a.length, 0⟩ from if_neg (by omega), R.bytes_at]
theorem R.count_at (a c : List UInt8) (n : Nat) (m : Int) (hn : n < 4294967296) (hm : (n : Int) ≤ m) : (⟨a ++ (num n 4 ++ c), a.length, 0⟩ : R).count m = (⟨a ++ (num n 4 ++ c), a.length + 4, 0⟩, n) := by
  have hN := R.number_at a (num n 4) c 4 (by rw [num_length]; rfl) (by rw [num_length]; omega)
  rw [num_length, num_four n hn] at hN
  rw [R.count_in (by rw [hN]; omega), hN]
theorem R.text_at (a t c : List UInt8) (m : Int) (ht : t.length < 4294967296) (hm : (t.length : Int) ≤ m) : (⟨a ++ ((num t.length 4 ++ t) ++ c), a.length, 0⟩ : R).text m = (⟨a ++ ((num t.length 4 ++ t) ++ c), a.length + (4 + t.length), 0⟩, t) := by
  have hC := R.count_at a (t ++ c) t.length m ht hm
  rw [← List.append_assoc (num t.length 4) t c] at hC
  have hB := R.bytes_at (a ++ num t.length 4) t c
  rw [List.append_assoc a, ← List.append_assoc (num t.length 4) t c, List.length_append, num_length] at hB
  rw [R.text_good (by rw [hC, hB]), hC, hB, Nat.add_assoc]
theorem R.bool_at (a c : List UInt8) (b : UInt8) (h : b.toNat ≤ 1) : (⟨a ++ ([b] ++ c), a.length, 0⟩ : R).bool = (⟨a ++ ([b] ++ c), a.length + 1, 0⟩, decide (b.toNat = 1)) := by
  have hN := R.number_at a [b] c 1 rfl (by simp)
  have hv : val [b] = b.toNat := by simp [val]
  rw [hv] at hN
  rw [R.bool_in (by rw [hN]; simp; omega), hN]
  rfl
theorem unframe_frame (x m : List UInt8) (h : x.length ≤ 2147483647) : unframe (frame x ++ m) 0 = (x, (x.length : Int) + 8, 0) := by
  obtain ⟨F, hF⟩ : ∃ F, F = frame x ++ m := ⟨_, rfl⟩
  have hn := num_length 4 x.length
  have hc := num_length 4 (fcheck x).toNat
  have hlt : (fcheck x).toNat < 4294967296 := (fcheck x).isLt
  have f1 : F = [] ++ (num x.length 4 ++ (num (fcheck x).toNat 4 ++ (x ++ m))) := by rw [hF]; unfold frame fcheck; simp
  have f2 : F = num x.length 4 ++ (num (fcheck x).toNat 4 ++ (x ++ m)) := by rw [f1]; rfl
  have f3 : F = (num x.length 4 ++ num (fcheck x).toNat 4) ++ (x ++ m) := by rw [f2, List.append_assoc]
  have hA : rdA F = (⟨F, 4, 0⟩, x.length) := by
    unfold rdA
    have := R.count_at [] (num (fcheck x).toNat 4 ++ (x ++ m)) x.length 2147483647 (by omega) (by omega)
    rw [← f1] at this
    exact this
  have hB : rdB F = (⟨F, 8, 0⟩, (fcheck x).toNat) := by
    unfold rdB
    rw [hA]
    have := R.number_at (num x.length 4) (num (fcheck x).toNat 4) (x ++ m) 4 (by rw [hc]; rfl) (by omega)
    rw [← f2, num_four _ hlt, hn, hc] at this
    exact this
  have hC : rdC F = (⟨F, 8 + x.length, 0⟩, x) := by
    unfold rdC
    rw [hA, hB]
    have := R.bytes_at (num x.length 4 ++ num (fcheck x).toNat 4) x m
    rw [← f3, List.length_append, hn, hc] at this
    exact this
  rw [← hF]
  unfold unframe
  rw [if_neg (by omega)]
  show unfR 0 (rdB F).2 (rdC F) = _
  rw [hB, hC]
  unfold unfR
  rw [if_neg (by simp), if_neg (by simp)]
  simp only [Prod.mk.injEq, true_and, and_true]
  omega
end Go.Proofs.YtaccklbijihppaaDoor
