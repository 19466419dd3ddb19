/- What cut, isPlace, halves, top, Leaf and Root do. -/
import Derived.Test.YtmbdhngoldganaaGreatDoorRtr
import Derived.Test.YtmbdhngoldganaaGreatDoorSSm
import Derived.Test.YtmbdhngoldganaaGreatDoorTre
namespace Go.Proofs.YtmbdhngoldganaaGreatDoor.Sh
open Go Go.RowKit
/-- The library's table: how many bits a byte has. -/
def len8 : List UInt8 := [0, 1, 2, 2, 3, 3, 3, 3, 4, 4, 4, 4, 4, 4, 4, 4, 5, 5, 5, 5, 5, 5, 5, 5, 5, 5, 5, 5, 5, 5, 5, 5, 6, 6, 6, 6, 6, 6, 6, 6, 6, 6, 6, 6, 6, 6, 6, 6, 6, 6, 6, 6, 6, 6, 6, 6, 6, 6, 6, 6, 6, 6, 6, 6, 7, 7, 7, 7, 7, 7, 7, 7, 7, 7, 7, 7, 7, 7, 7, 7, 7, 7, 7, 7, 7, 7, 7, 7, 7, 7, 7, 7, 7, 7, 7, 7, 7, 7, 7, 7, 7, 7, 7, 7, 7, 7, 7, 7, 7, 7, 7, 7, 7, 7, 7, 7, 7, 7, 7, 7, 7, 7, 7, 7, 7, 7, 7, 7, 8, 8, 8, 8, 8, 8, 8, 8, 8, 8, 8, 8, 8, 8, 8, 8, 8, 8, 8, 8, 8, 8, 8, 8, 8, 8, 8, 8, 8, 8, 8, 8, 8, 8, 8, 8, 8, 8, 8, 8, 8, 8, 8, 8, 8, 8, 8, 8, 8, 8, 8, 8, 8, 8, 8, 8, 8, 8, 8, 8, 8, 8, 8, 8, 8, 8, 8, 8, 8, 8, 8, 8, 8, 8, 8, 8, 8, 8, 8, 8, 8, 8, 8, 8, 8, 8, 8, 8, 8, 8, 8, 8, 8, 8, 8, 8, 8, 8, 8, 8, 8, 8, 8, 8, 8, 8, 8, 8, 8, 8, 8, 8, 8, 8, 8, 8, 8, 8, 8, 8, 8, 8, 8, 8, 8, 8, 8, 8]
theorem len8_val (k : Nat) (h : k < 128) (h1 : 1 ≤ k) : n8 (byteOf len8 k) = ((k.log2 + 1 : Nat) : Int) := by
  have key : ∀ k : Fin 128, 1 ≤ k.val → (byteOf len8 k.val).toNat = k.val.log2 + 1 := by decide +kernel
  show (((byteOf len8 k).toNat : Nat) : Int) = _
  rw [key ⟨k, h⟩ h1]
section
attribute [local go_sem] idx8
set_option maxRecDepth 100000 in
set_option maxHeartbeats 1000000 in
theorem len64_any (x : Nat) (hx : x < 128) (w : World) : Calls Tryz.prog 214 #[.int .u64 x] w fun e w' => e = .returned (.int .i64 (n8 (byteOf len8 x))) ∧ w' = w := by
  have h1 : ¬ ((4294967296 : Int) ≤ x) := by omega
  have h2 : ¬ ((65536 : Int) ≤ x) := by omega
  have h3 : ¬ ((256 : Int) ≤ x) := by omega
  have h4 : IntKind.u8.wrap (x : Int) = x := by rw [IntKind.wrap_u8']; omega
  have h5 : x < 256 := by omega
  go_enter Tryz.func214, Tryz.ntmps214
  go_wp2_with fail
  go_ret
  refine ⟨?_, rfl⟩
  have hw : ∀ u : UInt8, wrap64 (n8 u) = n8 u := fun u => by
    have h0 := n8_nonneg u
    have h1 := n8_le u
    unfold wrap64
    omega
  show Ending.returned (.int .i64 (wrap64 (wrap64 (n8 (byteOf len8 x))))) = _
  rw [hw, hw]
end
set_option maxRecDepth 100000 in
set_option maxHeartbeats 1000000 in
theorem len_any (x : Nat) (hx : x < 128) (hx1 : 1 ≤ x) (w : World) : Calls Tryz.prog 194 #[.int .u64 x] w fun e w' => e = .returned (.int .i64 ((x.log2 + 1 : Nat) : Int)) ∧ w' = w := by
  have HL := len64_any x hx w
  rw [len8_val x hx hx1] at HL
  go_enter Tryz.func194, Tryz.ntmps194
  go_wp2_with (go_at_call 214; refine HL.mono ?_; rintro e w1 ⟨rfl, rfl⟩)
  go_ret
  exact ⟨rfl, rfl⟩
set_option maxRecDepth 100000 in
set_option maxHeartbeats 1000000 in
theorem cut_any (n : Nat) (h2 : 2 ≤ n) (hn : n ≤ 100) (w : World) : Calls Tryz.prog 181 #[.int .i64 n] w fun e w' => e = .returned (.int .i64 (cutN n : Int)) ∧ w' = w := by
  have HL := len_any (n - 1) (by omega) (by omega) w
  have hk : (n - 1).log2 < 7 := (Nat.log2_lt (by omega)).2 (by omega)
  have hc : ((n - 1 : Nat) : Int) = (n : Int) - 1 := by omega
  rw [hc] at HL
  have hw : IntKind.i64.wrap ((n : Int) - 1) = (n : Int) - 1 := by rw [IntKind.wrap_i64]; omega
  have hw2 : IntKind.u64.wrap ((n : Int) - 1) = (n : Int) - 1 := by rw [IntKind.wrap_u64]; omega
  have hR : Hid (cutN n = 2 ^ (n - 1).log2) := rfl
  generalize (n - 1).log2 = k at *
  go_enter Tryz.func181, Tryz.ntmps181
  go_wp2_with (go_at_call 194; refine HL.mono ?_; rintro e w1 ⟨rfl, rfl⟩)
  go_ret
  refine ⟨?_, rfl⟩
  rw [hR.out]
  have hp : (2 : Int) ^ k = ((2 ^ k : Nat) : Int) := by simp
  have hb : 2 ^ k ≤ 2 ^ 6 := Nat.pow_le_pow_right (by decide) (by omega)
  show Ending.returned (.int .i64 (wrap64 ((2 : Int) ^ k))) = _
  have hq : ∀ z : Nat, z ≤ 64 → wrap64 (z : Int) = z := by intro z hz; unfold wrap64; omega
  rw [hp, hq _ hb]
section
attribute [local go_sem] mkApp_nat mkApp0 mkApp1
set_option maxRecDepth 100000 in
set_option maxHeartbeats 1000000 in
theorem halves_any (a b : List UInt8) (ha : a.length ≤ 1000000) (hb : b.length ≤ 1000000) (w : World) : Calls Tryz.prog 182 #[.string ⟨a.toArray⟩, .string ⟨b.toArray⟩] w fun e w' => e = .returned (.string ⟨(1 :: (a ++ b)).toArray⟩) ∧ w' = w := by
  have f1 : ¬ 9223372036854775807 < 1 + a.length := by omega
  have f2 : ¬ 9223372036854775807 < 1 + a.length + b.length := by omega
  have f3 : ¬ 9223372036854775807 < a.length + 1 := by omega
  have f4 : ¬ 9223372036854775807 < a.length + 1 + b.length := by omega
  go_enter Tryz.func182, Tryz.ntmps182
  go_wp2_with fail
  go_ret
  exact ⟨rfl, rfl⟩
set_option maxRecDepth 100000 in
set_option maxHeartbeats 1000000 in
theorem leaf_any (s : List UInt8) (hs : s.length ≤ 1000000) (w : World) (hG : Glob w) : Calls Tryz.prog 180 #[.string ⟨s.toArray⟩] w fun e w' => e = .returned (.string ⟨(digest (0 :: s)).toArray⟩) ∧ Below w.heap.size w w' := by
  have HS := sum_any (0 :: s) w hG (by simp; omega)
  have f1 : ¬ 9223372036854775807 < 1 + s.length := by omega
  have f3 : ¬ 9223372036854775807 < s.length + 1 := by omega
  go_enter Tryz.func180, Tryz.ntmps180
  go_wp2_with (go_at_call 179; refine HS.mono ?_; rintro e w1 ⟨rfl, hw1⟩)
  go_ret
  exact ⟨rfl, hw1⟩
set_option maxRecDepth 100000 in
set_option maxHeartbeats 1000000 in
theorem troot_of : ∀ (n : Nat) (l : List (List UInt8)) (a : Option Addr) (cap : Nat) (w : World) (_ : l.length = n) (_ : XA w a l) (_ : l.length ≤ cap) (_ : l.length ≤ 100) (_ : ∀ x ∈ l, x.length ≤ 1000) (_ : Glob w),
    Calls Tryz.prog 146 #[.slice a l.length cap] w fun e w' => e = .returned (.string ⟨(rootD digest l).toArray⟩) ∧ Below w.heap.size w w' := by
  intro n
  induction n using Nat.strongRecOn with
  | ind n ih =>
    intro l a cap w hn hX hc hl hs hG
    subst hn
    by_cases h0 : l.length = 0
    · obtain rfl : l = [] := List.length_eq_zero_iff.1 h0
      have HS := sum_any [] w hG (by simp)
      rw [rootD_nil]
      clear ih
      go_enter Tryz.func146, Tryz.ntmps146
      go_wp2_with (go_at_call 179; refine HS.mono ?_; rintro e w1 ⟨rfl, hw1⟩)
      go_ret
      exact ⟨rfl, hw1⟩
    · by_cases h1 : l.length = 1
      · obtain ⟨x, rfl⟩ := List.length_eq_one_iff.1 h1
        obtain ⟨g, o, rfl, hr⟩ := hX 0 (by simp)
        have hx := hs x (by simp)
        have HS := leaf_any x (by omega) w hG
        have hc0 : w.cell? ⟨g, o, none⟩ = some (.string ⟨x.toArray⟩) := hr
        rw [rootD_one]
        unfold leafD
        clear ih
        go_enter Tryz.func146, Tryz.ntmps146
        go_wp2_with (go_at_call 180; refine HS.mono ?_; rintro e w1 ⟨rfl, hw1⟩)
        go_ret
        exact ⟨rfl, hw1⟩
      · have h2 : 2 ≤ l.length := by omega
        obtain ⟨g, o, rfl⟩ := hX.ex (by omega)
        have hb0 : ((l.length : Int) == 0) = false := by rw [beq_eq_false_iff_ne]; omega
        have hb1 : ((l.length : Int) == 1) = false := by rw [beq_eq_false_iff_ne]; omega
        clear h0 h1
        obtain ⟨R, hR⟩ : ∃ R, R = rootD digest l := ⟨_, rfl⟩
        rw [← hR]
        replace hR : Hid (R = rootD digest l) := hR
        have HC := cut_any l.length h2 hl w
        have hk0 := cutN_pos l.length
        have hkl := cutN_lt h2
        have hRt : Hid (rootD digest l = digest (1 :: (rootD digest (l.take (cutN l.length)) ++ rootD digest (l.drop (cutN l.length))))) := by rw [rootD_cut digest h2]; exact rfl
        generalize cutN l.length = k at *
        have hl1 : (l.take k).length = k := by rw [List.length_take]; omega
        have HR1 := fun w1 (hB : Below w.heap.size w w1) => ih k (by omega) (l.take k) (some ⟨g, o, none⟩) cap w1 hl1 ((hX.below hB).take k) (by omega) (by omega) (fun x hx => hs x (List.mem_of_mem_take hx)) (hG.belowSize hB)
        have hl2 : (l.drop k).length = l.length - k := List.length_drop
        have HR2 := fun w1 (hB : Below w.heap.size w w1) => ih (l.length - k) (by omega) (l.drop k) (some ⟨g, o + k, none⟩) (cap - k) w1 hl2 ((hX.below hB).drop k) (by omega) (by omega) (fun x hx => hs x (List.mem_of_mem_drop hx)) (hG.belowSize hB)
        rw [hl1] at HR1
        rw [hl2] at HR2
        have d1 := root_len digest digest_length (l.take k)
        have d2 := root_len digest digest_length (l.drop k)
        have HV := fun w1 => halves_any (rootD digest (l.take k)) (rootD digest (l.drop k)) (by omega) (by omega) w1
        have HS := fun w1 (hB : Below w.heap.size w w1) => sum_any (1 :: (rootD digest (l.take k) ++ rootD digest (l.drop k))) w1 (hG.belowSize hB) (by simp [d1, d2])
        replace hR : Hid (R = digest (1 :: (rootD digest (l.take k) ++ rootD digest (l.drop k)))) := hR.out.trans hRt.out
        rw [← hR.out] at HS
        clear hRt hl1 hl2 ih d1 d2
        generalize rootD digest (l.take k) = x1 at *
        generalize rootD digest (l.drop k) = x2 at *
        have hk1 : (k : Int) ≤ (l.length : Int) := by omega
        have hk2 : (k : Int) ≤ (cap : Int) := by omega
        have hk3 : (0 : Int) ≤ (k : Int) := by omega
        have hk4 : (l.length : Int) ≤ (cap : Int) := by omega
        have hk5 : ¬ cap = k := by omega
        have hB : Below w.heap.size w w := Below.refl _ _
        go_enter Tryz.func146, Tryz.ntmps146
        go_wp2_with (go_at_call 181; refine HC.mono ?_; rintro e w1 ⟨rfl, rfl⟩)
        go_region_held3 (fun _ => True) (trivial) (first
          | (go_at_call 146; refine (HR1 _ hB.drew).mono ?_; clear HR1; rintro e w2 ⟨rfl, hw2⟩; have hB2 := hB.drew.trans (hw2.mono hB.size))
          | (go_at_call 146; refine (HR2 _ hB2).mono ?_; clear HR2; rintro e w3 ⟨rfl, hw3⟩; have hB3 := hB2.trans (hw3.mono hB2.size))
          | (go_at_call 182; refine (HV _).mono ?_; rintro e w4 ⟨rfl, rfl⟩)
          | (go_at_call 179; refine (HS _ hB3).mono ?_; rintro e w5 ⟨rfl, hw5⟩; have hB5 := hB3.trans (hw5.mono hB3.size)))
        go_wp2_with fail
        go_ret
        exact ⟨rfl, hB5⟩
end
end Go.Proofs.YtmbdhngoldganaaGreatDoor.Sh
