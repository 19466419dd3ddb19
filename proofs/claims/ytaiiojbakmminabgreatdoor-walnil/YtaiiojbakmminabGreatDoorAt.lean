/- What NewReader, Unframe and the plain Unframe do. What a reader takes where it is known what stands there. -/
import Derived.Test.YtaiiojbakmminabGreatDoorWf
namespace Go.Proofs.YtaiiojbakmminabGreatDoor
open Go Go.RowKit
theorem R.bytes_good {r : R} {n : Nat} (hk : r.ok) (h : (r.bytes (n : Nat)).1.err = 0) : r.err = 0 ∧ r.pos + n ≤ r.s.length ∧ r.bytes (n : Nat) = (⟨r.s, r.pos + n, 0⟩, (r.s.drop r.pos).take n) ∧ (r.bytes (n : Nat)).2.length = n := by
  unfold R.ok at hk
  by_cases he : r.err = 0
  · unfold R.bytes at *
    rw [if_neg (by simpa using he)] at *
    have h0 : ¬ ((n : Nat) : Int) < 0 := by omega
    rw [if_neg h0] at *
    by_cases h1 : (r.s.length : Int) - r.pos < (n : Nat)
    · rw [if_pos h1] at h
      simp at h
    · rw [if_neg h1]
      refine ⟨he, by omega, ?_, ?_⟩
      · rw [he]; rfl
      · simp only [List.length_take, List.length_drop]; omega
  · rw [R.bytes_keep _ he] at h
    exact absurd h he
theorem built69 (s : List UInt8) : Tryz.prog.built 159 [(0, .string ⟨s.toArray⟩)] = some (rc s 0 0) := by kernel_rfl
set_option maxRecDepth 100000 in
set_option maxHeartbeats 400000 in
theorem newr_any (s : List UInt8) (w : World) : Calls Tryz.prog 117 #[.string ⟨s.toArray⟩] w fun e w' => e = .returned (.pointer (some ⟨w.heap.size, 0, none⟩)) ∧ Below w.heap.size w w' ∧ RD w' w.heap.size ⟨s, 0, 0⟩ := by
  go_enter Tryz.func117, Tryz.ntmps117
  go_wp2_with (with_reducible refine at_list ?_; first
    | (refine wpList_build (o := ⟨some 4, _, _, _, _, _⟩) rfl _ _ rfl (built69 s) ?_)
    | (refine wpList_boxRow (op := ⟨some 5, _, _, _, _, _⟩) rfl _ _ rfl (rc s 0 0) rfl ?_; intro w1 hw1 hs1 hb1; replace hs1 := hs1.symm))
  go_ret
  exact ⟨rfl, hw1, ⟨hb1⟩⟩
theorem extract_dropTo (l : List UInt8) (n m : Nat) (h : m = l.length) : (ByteArray.mk l.toArray).extract n m = ⟨(l.drop n).toArray⟩ := by
  subst h
  have : ((ByteArray.mk l.toArray).extract n l.length).data = (l.drop n).toArray := by
    apply Array.ext'
    simp [ByteArray.extract, ByteArray.copySlice]
    rw [List.take_of_length_le (by simp)]
  rw [show (ByteArray.mk l.toArray).extract n l.length = ⟨((ByteArray.mk l.toArray).extract n l.length).data⟩ from rfl, this]
theorem extract_drop (l : List UInt8) (n : Nat) : (ByteArray.mk l.toArray).extract n l.length = ⟨(l.drop n).toArray⟩ := extract_dropTo l n _ rfl
attribute [local go_sem] extract_drop n32_wrap64
end Go.Proofs.YtaiiojbakmminabGreatDoor
namespace Go.Proofs.YtaiiojbakmminabGreatDoor
open Go Go.RowKit
theorem mid_take (a b c : List UInt8) : ((a ++ (b ++ c)).drop a.length).take b.length = b := by
  rw [List.drop_left, List.take_left]
theorem R.bytes_at (a b c : List UInt8) : (⟨a ++ (b ++ c), a.length, 0⟩ : R).bytes (b.length : Nat) = (⟨a ++ (b ++ c), a.length + b.length, 0⟩, b) := by
  unfold R.bytes
  rw [if_neg (by simp), if_neg (by omega), if_neg (by simp only [List.length_append]; omega)]
  simp only [Int.toNat_natCast]
  rw [mid_take]
theorem R.number_at (a b c : List UInt8) (n : Int) (hn : n = (b.length : Nat)) (h : b.length ≤ 8) : (⟨a ++ (b ++ c), a.length, 0⟩ : R).number n = (⟨a ++ (b ++ c), a.length + b.length, 0⟩, val b) := by
  subst hn
  unfold R.number
  rw [show (⟨a ++ (b ++ c), a.length, 0⟩ : R).early (b.length : Nat) = ⟨a ++ (b ++ c), a.length, 0⟩ from if_neg (by omega), R.bytes_at]
theorem R.count_at (a c : List UInt8) (n : Nat) (m : Int) (hn : n < 4294967296) (hm : (n : Int) ≤ m) : (⟨a ++ (num n 4 ++ c), a.length, 0⟩ : R).count m = (⟨a ++ (num n 4 ++ c), a.length + 4, 0⟩, n) := by
  have hN := R.number_at a (num n 4) c 4 (by rw [num_length]; rfl) (by rw [num_length]; omega)
  rw [num_length, num_four n hn] at hN
  rw [R.count_in (by rw [hN]; omega), hN]
end Go.Proofs.YtaiiojbakmminabGreatDoor
