/- What the plain Root and Path do. -/
import Derived.Test.YtjfpfkiccbcedaaGreatDoorSSl
import Derived.Test.YtjfpfkiccbcedaaGreatDoorTre
import Derived.Deep.RegionHeld3
namespace Go.Proofs.YtjfpfkiccbcedaaGreatDoor.Sh
open Go Go.RowKit
theorem mkApp_nat (x y : List UInt8) : (ByteArray.mk x.toArray ++ ByteArray.mk y.toArray) = ByteArray.mk (x ++ y).toArray := by
  apply ByteArray.ext
  simp
theorem mkApp0 (y : List UInt8) : (ByteArray.mk #[0] ++ ByteArray.mk y.toArray) = ByteArray.mk (0 :: y).toArray := mkApp_nat [0] y
theorem mkApp1 (y : List UInt8) : (ByteArray.mk #[1] ++ ByteArray.mk y.toArray) = ByteArray.mk (1 :: y).toArray := mkApp_nat [1] y
section
attribute [local go_sem] mkApp_nat mkApp0 mkApp1
set_option maxRecDepth 100000 in
set_option maxHeartbeats 1000000 in
theorem rroot_of (rsum_any : ∀ (s : List UInt8) (w : World), s.length ≤ 549755813888 → Calls Tryz.prog 105 #[.string ⟨s.toArray⟩] w fun e w' => e = .returned (.string ⟨(digest s).toArray⟩) ∧ Below w.heap.size w w') : ∀ (n : Nat) (l : List (List UInt8)) (a : Option Addr) (cap : Nat) (w : World) (_ : l.length = n) (_ : XA w a l) (_ : l.length ≤ cap) (_ : l.length ≤ 1000) (_ : ∀ x ∈ l, x.length ≤ 1000),
    Calls Tryz.prog 65 #[.slice a l.length cap] w fun e w' => e = .returned (.string ⟨(rootD digest l).toArray⟩) ∧ Below w.heap.size w w' := by
  intro n
  induction n using Nat.strongRecOn with
  | ind n ih =>
    intro l a cap w hn hX hc hl hs
    subst hn
    by_cases h0 : l.length = 0
    · obtain rfl : l = [] := List.length_eq_zero_iff.1 h0
      have HS := rsum_any [] w (by simp)
      rw [rootD_nil]
      clear ih
      go_enter Tryz.func65, Tryz.ntmps65
      go_wp2_with (go_at_call 105; refine HS.mono ?_; rintro e w1 ⟨rfl, hw1⟩)
      go_ret
      exact ⟨rfl, hw1⟩
    · by_cases h1 : l.length = 1
      · obtain ⟨x, rfl⟩ := List.length_eq_one_iff.1 h1
        obtain ⟨g, o, rfl, hr⟩ := hX 0 (by simp)
        have hx := hs x (by simp)
        have HS := rsum_any (0 :: x) w (by simp; omega)
        have hc0 : w.cell? ⟨g, o, none⟩ = some (.string ⟨x.toArray⟩) := hr
        rw [rootD_one]
        unfold leafD
        clear ih
        go_enter Tryz.func65, Tryz.ntmps65
        go_wp2_with (go_at_call 105; refine HS.mono ?_; rintro e w1 ⟨rfl, hw1⟩)
        go_ret
        exact ⟨rfl, hw1⟩
      · have h2 : 2 ≤ l.length := by omega
        obtain ⟨g, o, rfl⟩ := hX.ex (by omega)
        have hb0 : ((l.length : Int) == 0) = false := by rw [beq_eq_false_iff_ne]; omega
        have hb1 : ((l.length : Int) == 1) = false := by rw [beq_eq_false_iff_ne]; omega
        clear h0 h1
        obtain ⟨R, hR⟩ : ∃ R, R = rootD digest l := ⟨_, rfl⟩
        rw [← hR]
        replace hR : Hid (R = rootD digest l) := hR
        go_enter Tryz.func65, Tryz.ntmps65
        go_wp2_with fail
        go_loopw [3] (fun v3 wl => ∃ e : Nat, 2 ^ e < l.length ∧ v3 = .int .i64 ((2 ^ e : Nat) : Int) ∧ Below w.heap.size w wl) (fun v3 _ => l.length - (intOf v3).toNat)
        case atStart => exact ⟨0, by show 1 < _; omega, rfl, Below.refl _ _⟩
        case round =>
          obtain ⟨e, he, rfl, hB⟩ := hrel
          have hp : 0 < 2 ^ e := Nat.pow_pos (by decide)
          have hps : Hid (2 ^ (e + 1) = 2 ^ e * 2) := Nat.pow_succ 2 e
          have hsp : Hid (l.length ≤ 2 ^ e * 2 → cutN l.length = 2 ^ e) := fun h => cutN_eq he (by omega)
          generalize hk : 2 ^ e = k at *
          replace hk : Hid (2 ^ e = k) := hk
          by_cases hlt : k * 2 < l.length
          · go_wp2_with fail
            go_roundw
            case rel => exact ⟨e + 1, by rw [hps.out]; exact hlt, by rw [hps.out]; go_num, hB⟩
            case measure => simp [intOf]; omega
          · have hse := hsp.out (by omega)
            have HR1 := ih k (by omega) (l.take k) (some ⟨g, o, none⟩) cap
            have hl1 : (l.take k).length = k := by rw [List.length_take]; omega
            have HR1 := fun w1 (hB : Below w.heap.size w w1) => ih k (by omega) (l.take k) (some ⟨g, o, none⟩) cap w1 hl1 ((hX.below hB).take k) (by omega) (by omega) (fun x hx => hs x (List.mem_of_mem_take hx))
            have hl2 : (l.drop k).length = l.length - k := List.length_drop
            have HR2 := fun w1 (hB : Below w.heap.size w w1) => ih (l.length - k) (by omega) (l.drop k) (some ⟨g, o + k, none⟩) (cap - k) w1 hl2 ((hX.below hB).drop k) (by omega) (by omega) (fun x hx => hs x (List.mem_of_mem_drop hx))
            rw [hl1] at HR1
            rw [hl2] at HR2
            have d1 := root_len digest digest_length (l.take k)
            have d2 := root_len digest digest_length (l.drop k)
            have hRt : Hid (rootD digest l = digest (1 :: (rootD digest (l.take k) ++ rootD digest (l.drop k)))) := by rw [rootD_cut digest h2, hse]; exact rfl
            have HS := fun w1 => rsum_any (1 :: (rootD digest (l.take k) ++ rootD digest (l.drop k))) w1 (by simp [d1, d2])
            replace hR : Hid (R = digest (1 :: (rootD digest (l.take k) ++ rootD digest (l.drop k)))) := hR.out.trans hRt.out
            rw [← hR.out] at HS
            clear hRt hl1 hl2 hse hsp ih
            generalize rootD digest (l.take k) = x1 at *
            generalize rootD digest (l.drop k) = x2 at *
            have hk1 : (k : Int) ≤ (l.length : Int) := by omega
            have hk2 : (k : Int) ≤ (cap : Int) := by omega
            have hk3 : (0 : Int) ≤ (k : Int) := by omega
            have hk4 : (l.length : Int) ≤ (cap : Int) := by omega
            have hk5 : ¬ cap = k := by omega
            have f1 : ¬ 9223372036854775807 < 1 + x1.length := by omega
            have f2 : ¬ 9223372036854775807 < 1 + x1.length + x2.length := by omega
            have f3 : ¬ 9223372036854775807 < x1.length + 1 := by omega
            have f4 : ¬ 9223372036854775807 < x1.length + 1 + x2.length := by omega
            have f5 : ¬ 9223372036854775807 < x1.length + x2.length + 1 := by omega
            clear d1 d2
            go_wp2_with fail
            go_region_held3 (fun _ => True) (trivial) (first
              | (go_at_call 65; refine (HR1 _ hB.drew).mono ?_; clear HR1; rintro e w2 ⟨rfl, hw2⟩; have hB2 := hB.drew.trans (hw2.mono hB.size))
              | (go_at_call 65; refine (HR2 _ hB2).mono ?_; clear HR2; rintro e w3 ⟨rfl, hw3⟩; have hB3 := hB2.trans (hw3.mono hB2.size))
              | (go_at_call 105; refine (HS _).mono ?_; rintro e w4 ⟨rfl, hw4⟩; have hB4 := hB3.trans (hw4.mono hB3.size)))
            go_wp2_with fail
            go_ret
            exact ⟨rfl, hB4⟩
end
end Go.Proofs.YtjfpfkiccbcedaaGreatDoor.Sh
