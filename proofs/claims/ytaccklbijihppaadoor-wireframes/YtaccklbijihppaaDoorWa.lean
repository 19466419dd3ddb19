/- What checkOn and Crc do. -/
import Derived.Test.YtaccklbijihppaaDoorProg
import Derived.Test.YtaccklbijihppaaDoorRow
import Derived.Test.YtaccklbijihppaaDoorNum
import Derived.WalkKit
import Derived.WalkSpells
import Derived.WalkLawsBesides
namespace Go.Proofs.YtaccklbijihppaaDoor
open Go.RowKit
/-- The table of the program lies where its variable lies. -/
structure Glob (w : World) : Prop where
  one : 1 ≤ w.heap.size
  k : ∀ j, j < 16 → w.cell? ⟨0, j, none⟩ = some (.int .u32 (n32 (tab j)))
theorem Glob.below {w w' : World} {B : Nat} (h : Glob w) (hb : Go.RowKit.Below B w w') (h2 : 1 ≤ B) : Glob w' :=
  ⟨Nat.le_trans h.one hb.size, fun j hj => by rw [hb.cell (p := ⟨0, j, none⟩) (by show 0 < B; omega)]; exact h.k j hj⟩
theorem Glob.belowSize {w w' : World} (h : Glob w) (hb : Go.RowKit.Below w.heap.size w w') : Glob w' := h.below hb h.one
theorem Glob.grown {w w' : World} {b : Nat} (h : Glob w) (hb : w.grownBy w' (some b)) (h2 : 1 ≤ b) : Glob w' := h.below (below_of_grown hb h2 h.one) (Nat.le_refl _)
theorem Glob.drewN {w : World} (h : Glob w) (n : Nat) : Glob (w.drewN n) := ⟨h.one, h.k⟩
theorem Glob.drew {w : World} (h : Glob w) : Glob w.drew := ⟨h.one, h.k⟩
theorem low4_n (x : BitVec 32) : n32 (low4 x) = ((low4 x).toNat : Int) := rfl
theorem and15 (x : BitVec 32) : bits .and .u32 (n32 x) 15 = ((low4 x).toNat : Int) := bits_and32 x (BitVec.ofNat 32 15)
theorem n32_shr4 (x : BitVec 32) : n32 x / 16 = n32 (shr32 x 4) := n32_shr x 4
theorem nibz (x : BitVec 32) : n32 (xor32 (tab (low4 x).toNat) (shr32 x 4)) = n32 (stp4 x) := by rw [nib]
theorem idx8 (l : List UInt8) (k : Nat) (h : k < (ByteArray.mk l.toArray).size) : (((ByteArray.mk l.toArray)[k]'h).toNat : Int) = n8 (byteOf l k) := by
  have hk : k < l.length := h
  have e : (ByteArray.mk l.toArray)[k]'h = byteOf l k := by
    show l.toArray[k] = _
    rw [byteOf, List.getD_eq_getElem?_getD, List.getElem?_eq_getElem hk]
    simp
  rw [e]; rfl
theorem n8_mod (x : UInt8) : n8 x % 4294967296 = n32 (w8 x) := by rw [← n8_wrap, IntKind.wrap_u32]
attribute [local go_sem] idx8 n8_mod and15 nib n32_add n32_wadd bits_xor32 bits_or32 bits_not32 bits_notmax sub_not32 n32_shr n32_shl n8_wrap n32_shr4
set_option maxRecDepth 100000 in
set_option maxHeartbeats 400000 in
theorem checkOn_any (c : BitVec 32) (l : List UInt8) (w : World) (hG : Glob w) (hl : l.length ≤ 1099511627776) :
    Calls Tryd.prog 37 #[.int .u32 (n32 c), .string ⟨l.toArray⟩] w fun e w' => e = .returned (.int .u32 (n32 (not32 (crcF (not32 c) l)))) ∧ w' = w := by
  go_enter Tryd.func37, Tryd.ntmps37
  go_wp2_with fail
  go_loopw [0, 10] (fun v0 v10 wl => ∃ n : Nat, n ≤ l.length ∧ v0 = .int .u32 (n32 (crcF (not32 c) (l.take n))) ∧ v10 = .int .i64 n ∧ wl = w) (fun _ v10 _ => l.length - (intOf v10).toNat)
  case atStart => exact ⟨0, by omega, rfl, rfl, rfl⟩
  case round =>
    obtain ⟨n, hn, rfl, rfl, hw⟩ := hrel
    have hw2 := hw.symm
    subst hw2
    clear hw
    by_cases hlt : n < l.length
    · obtain ⟨r, hr⟩ : ∃ r, r = crcF (not32 c) (l.take n) := ⟨_, rfl⟩
      have HN : Hid (crcF (not32 c) (l.take (n + 1)) = stp4 (stp4 (xor32 r (w8 (byteOf l n))))) := by rw [crcF_take _ _ _ hlt, ← hr]; exact rfl
      rw [← hr]
      clear hr
      have b1 := low4_lt (xor32 r (w8 (byteOf l n)))
      have b2 := low4_lt (stp4 (xor32 r (w8 (byteOf l n))))
      have c1 := hG.k _ b1
      have c2 := hG.k _ b2
      go_wp2_with fail
      go_roundw
      case rel => exact ⟨n + 1, by omega, by rw [HN.out], by go_num, trivial⟩
      case measure => simp [intOf]; omega
    · have e1 : l.take n = l := List.take_of_length_le (by omega)
      rw [e1]
      go_wp2_with fail
      go_ret
      exact ⟨rfl, rfl⟩
theorem crc_any (l : List UInt8) (w : World) (hG : Glob w) (hl : l.length ≤ 1099511627776) :
    Calls Tryd.prog 12 #[.string ⟨l.toArray⟩] w fun e w' => e = .returned (.int .u32 (n32 (crc l))) ∧ w' = w := by
  have h := checkOn_any (BitVec.ofNat 32 0) l w hG hl
  rw [show n32 (not32 (crcF (not32 (BitVec.ofNat 32 0)) l)) = n32 (crc l) from rfl] at h
  have H := h
  clear h
  go_enter Tryd.func12, Tryd.ntmps12
  go_wp2_with (go_at_call 37; refine H.mono ?_; rintro e w' ⟨rfl, hw'⟩; have hw2 := hw'.symm; subst hw2; clear hw')
  go_ret
  exact ⟨rfl, rfl⟩
end Go.Proofs.YtaccklbijihppaaDoor
