/- What value, the plain Crc, few and awake do. -/
import Derived.Test.YtncoifkchoiiaaaWb
namespace Go.Proofs.Ytncoifkchoiiaaa
open Go.RowKit
theorem or_low (a b : Nat) (hb : b < 256) : a * 256 ||| b = a * 256 + b := by
  have := Nat.shiftLeft_add_eq_or_of_lt (b := b) (i := 8) (by omega) a
  simp only [Nat.shiftLeft_eq] at this
  exact this.symm
theorem bits_or64 (a b : Nat) (ha : a * 256 < 18446744073709551616) (hb : b < 256) : bits .or .u64 ((a : Int) * 256) (b : Int) = ((a * 256 + b : Nat) : Int) := by
  show IntKind.u64.wrap ((BitVec.ofInt 64 ((a : Int) * 256) ||| BitVec.ofInt 64 (b : Int)).toNat : Int) = _
  have e1 : BitVec.ofInt 64 ((a : Int) * 256) = BitVec.ofNat 64 (a * 256) := by
    rw [show ((a : Int) * 256) = ((a * 256 : Nat) : Int) from by omega]; exact BitVec.ofInt_natCast 64 (a * 256)
  have e2 : BitVec.ofInt 64 (b : Int) = BitVec.ofNat 64 b := BitVec.ofInt_natCast 64 b
  rw [e1, e2, BitVec.toNat_or, BitVec.toNat_ofNat, BitVec.toNat_ofNat, Nat.mod_eq_of_lt (by simpa using ha), Nat.mod_eq_of_lt (by omega : b < 2 ^ 64), or_low a b hb, IntKind.wrap_u64]
  omega
attribute [local go_sem] idx8
set_option maxRecDepth 100000 in
set_option maxHeartbeats 400000 in
theorem value_any (l : List UInt8) (w : World) (hl : l.length ≤ 8) :
    Calls Try.prog 29 #[.string ⟨l.toArray⟩] w fun e w' => e = .returned (.int .u64 (val l)) ∧ w' = w := by
  go_enter Try.func29, Try.ntmps29
  go_wp2_with fail
  go_loopw [3, 7] (fun v3 v7 wl => ∃ n : Nat, n ≤ l.length ∧ v3 = .int .u64 (val (l.take n)) ∧ v7 = .int .i64 n ∧ wl = w) (fun _ v7 _ => l.length - (intOf v7).toNat)
  case atStart => exact ⟨0, by omega, rfl, rfl, rfl⟩
  case round =>
    obtain ⟨n, hn, rfl, rfl, hw⟩ := hrel
    have hw2 := hw.symm
    subst hw2
    clear hw
    by_cases hlt : n < l.length
    · have hv := val_lt n (l.take n) (by rw [List.length_take]; omega)
      have h7 : 256 ^ n ≤ 256 ^ 7 := Nat.pow_le_pow_right (by decide) (by omega)
      have h77 : 256 ^ 7 = 72057594037927936 := by decide
      have hv2 : val (l.take n) * 256 < 18446744073709551616 := by omega
      have hb : (byteOf l n).toNat < 256 := (byteOf l n).toNat_lt
      have hb2 : IntKind.u64.wrap (n8 (byteOf l n)) = ((byteOf l n).toNat : Int) := by rw [IntKind.wrap_u64]; unfold n8; omega
      have HN : Hid (val (l.take (n + 1)) = val (l.take n) * 256 + (byteOf l n).toNat) := val_take l n hlt
      have hor := bits_or64 _ _ hv2 hb
      clear h7 h77 hv
      generalize val (l.take n) = v at *
      generalize (byteOf l n).toNat = b at *
      go_wp2_with fail
      go_roundw
      case rel => exact ⟨n + 1, by omega, by rw [HN.out]; simp, by go_num, trivial⟩
      case measure => simp [intOf]; omega
    · have e1 : l.take n = l := List.take_of_length_le (by omega)
      rw [e1]
      go_wp2_with fail
      go_ret
      exact ⟨rfl, rfl⟩
theorem extract_take (l : List UInt8) (n : Nat) : (ByteArray.mk l.toArray).extract 0 n = ⟨(l.take n).toArray⟩ := by
  have : ((ByteArray.mk l.toArray).extract 0 n).data = (l.take n).toArray := by
    apply Array.ext'
    simp [ByteArray.extract, ByteArray.copySlice]
  rw [show (ByteArray.mk l.toArray).extract 0 n = ⟨((ByteArray.mk l.toArray).extract 0 n).data⟩ from rfl, this]
section
attribute [local go_sem] extract_take
end
/-- The remainder behind k bits more. -/
def stpN (x : BitVec 32) : Nat → BitVec 32
  | 0 => x
  | k + 1 => stp (stpN x k)
theorem stpN8 (x : BitVec 32) : stpN x 8 = stp4 (stp4 x) := rfl
theorem low_one (x : BitVec 32) (h : n32 x % 2 = 1) : n32 (xor32 (shr32 x 1) (BitVec.ofNat 32 2197175160)) = n32 (stp x) := by
  unfold stp
  have : x.getLsbD 0 = true := by
    unfold n32 at h
    rw [BitVec.getLsbD, Nat.testBit_zero]
    simp
    omega
  rw [this]
  rfl
theorem low_zero (x : BitVec 32) (h : ¬ n32 x % 2 = 1) : n32 (shr32 x 1) = n32 (stp x) := by
  unfold stp
  have : x.getLsbD 0 = false := by
    unfold n32 at h
    rw [BitVec.getLsbD, Nat.testBit_zero]
    simp
    omega
  rw [this]
  show _ = n32 (shr32 x 1 ^^^ (BitVec.ofNat 32 0))
  rw [BitVec.xor_zero]
theorem n32_mod (x : BitVec 32) : n32 x % 4294967296 = n32 x := by have := n32_nonneg x; have := n32_lt x; omega
theorem n32_shr1 (x : BitVec 32) : n32 x / 2 = n32 (shr32 x 1) := n32_shr x 1
theorem bits_poly (x : BitVec 32) : bits .xor .u32 (n32 x) 2197175160 = n32 (xor32 x (BitVec.ofNat 32 2197175160)) := bits_xor32 x (BitVec.ofNat 32 2197175160)
def lowI (x : BitVec 32) : Int := n32 x % 2
theorem n32_tdiv2 (x : BitVec 32) : (n32 x).tdiv 2 = n32 (shr32 x 1) := by
  have := n32_nonneg x
  rw [Int.tdiv_eq_ediv_of_nonneg this, n32_shr1]
theorem n32_tmod2 (x : BitVec 32) : (n32 x).tmod 2 = lowI x := by
  have := n32_nonneg x
  rw [Int.tmod_eq_emod_of_nonneg this]; rfl
section
attribute [local go_sem] n32_tdiv2 n32_tmod2 idx8 n8_mod n8_wrap n32_mod bits_xor32 sub_not32 n32_shr1 bits_poly
end
end Go.Proofs.Ytncoifkchoiiaaa
