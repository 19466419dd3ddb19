/- What Same does. -/
import Derived.Test.YtminjelnbnajhaaDoorWg
namespace Go.Proofs.YtminjelnbnajhaaDoor
open Go.RowKit
theorem ofInt_n8 (x : UInt8) : BitVec.ofInt 8 (n8 x) = x.toBitVec := by
  unfold n8
  apply BitVec.eq_of_toNat_eq
  simp
theorem n8_bv (x : UInt8) : ((x.toBitVec.toNat : Int)) = n8 x := rfl
theorem wrap_n8 (x : UInt8) : IntKind.u8.wrap (n8 x) = n8 x := by
  rw [IntKind.wrap_u8']; have := n8_nonneg x; have := n8_le x; omega
theorem bits_xor8 (x y : UInt8) : bits .xor .u8 (n8 x) (n8 y) = n8 (x ^^^ y) := by
  show IntKind.u8.wrap ((BitVec.ofInt 8 (n8 x) ^^^ BitVec.ofInt 8 (n8 y)).toNat : Int) = _
  rw [ofInt_n8, ofInt_n8]; exact wrap_n8 (x ^^^ y)
theorem bits_or8 (x y : UInt8) : bits .or .u8 (n8 x) (n8 y) = n8 (x ||| y) := by
  show IntKind.u8.wrap ((BitVec.ofInt 8 (n8 x) ||| BitVec.ofInt 8 (n8 y)).toNat : Int) = _
  rw [ofInt_n8, ofInt_n8]; exact wrap_n8 (x ||| y)
def byteOf (l : List UInt8) (k : Nat) : UInt8 := l.getD k 0
theorem idx8 (l : List UInt8) (k : Nat) (h : k < (ByteArray.mk l.toArray).size) : (((ByteArray.mk l.toArray)[k]'h).toNat : Int) = n8 (byteOf l k) := by
  have hk : k < l.length := by rw [mk_size] at h; exact h
  have e : (ByteArray.mk l.toArray)[k]'h = byteOf l k := by
    show l.toArray[k] = _
    unfold byteOf
    rw [List.getD_eq_getElem?_getD, List.getElem?_eq_getElem hk]
    simp
  rw [e]; rfl
attribute [local go_sem] bits_xor8 bits_or8 idx8
theorem same_step (a b : List UInt8) (k : Nat) (u : UInt8) (ha : k < a.length) (hb : k < b.length) (h : u = 0 ↔ a.take k = b.take k) : (u ||| (byteOf a k ^^^ byteOf b k)) = 0 ↔ a.take (k + 1) = b.take (k + 1) := by
  have ea : byteOf a k = a[k] := by unfold byteOf; rw [List.getD_eq_getElem?_getD, List.getElem?_eq_getElem ha]; rfl
  have eb : byteOf b k = b[k] := by unfold byteOf; rw [List.getD_eq_getElem?_getD, List.getElem?_eq_getElem hb]; rfl
  rw [List.take_succ_eq_append_getElem ha, List.take_succ_eq_append_getElem hb, UInt8.or_eq_zero_iff, UInt8.xor_eq_zero_iff, h, ea, eb]
  constructor
  · rintro ⟨h1, h2⟩; rw [h1, h2]
  · intro h1
    have := List.append_inj' h1 rfl
    exact ⟨this.1, by simpa using this.2⟩
set_option maxRecDepth 100000 in
set_option maxHeartbeats 400000 in
theorem same_any (a b : List UInt8) (w : World) (ha : a.length ≤ 1099511627776) : Calls Tryd.prog 35 #[.string ⟨a.toArray⟩, .string ⟨b.toArray⟩] w fun e w' => e = .returned (.bool (decide (a = b))) ∧ Draws w w' := by
  by_cases hl : a.length = b.length
  · have hne : ((a.length : Int) != (b.length : Int)) = false := by rw [bne_eq_false_iff_eq]; omega
    have hba : b.length ≤ a.length := by omega
    have hab : a.length ≤ b.length := by omega
    have HL : Hid (a.length = b.length) := hl
    clear hl
    go_enter Tryd.func35, Tryd.ntmps35
    go_wp2_with fail
    clear hne
    go_loopw [5, 14] (fun v5 v14 wl => ∃ (k : Nat) (u : UInt8), k ≤ a.length ∧ v14 = .int .i64 k ∧ v5 = .int .u8 (n8 u) ∧ (u = 0 ↔ a.take k = b.take k) ∧ Draws w wl) (fun _ v14 _ => a.length - (intOf v14).toNat)
    case atStart => exact ⟨0, 0, by omega, rfl, rfl, by simp, ⟨0, rfl⟩⟩
    case round =>
      obtain ⟨k, u, hk, rfl, rfl, hu, hD⟩ := hrel
      have HU : Hid (u = 0 ↔ a.take k = b.take k) := hu
      clear hu
      by_cases hlt : k < a.length
      · have hkb : k < b.length := by omega
        go_wp2_with fail
        go_quiet (fail)
        go_wp2_with fail
        go_roundw
        case rel => exact ⟨k + 1, _, by omega, by go_num, rfl, same_step a b k u hlt hkb HU.out, hD.drewN _⟩
        case measure => simp [intOf]; omega
      · have e1 : decide (a = b) = (n8 u == 0) := by
          have h := HU.out
          rw [List.take_of_length_le (by omega), List.take_of_length_le (by omega)] at h
          have h2 : (n8 u = 0) ↔ u = 0 := by
            unfold n8
            rw [← UInt8.toNat_inj]
            simp
          rw [Bool.eq_iff_iff, decide_eq_true_iff, beq_iff_eq, h2, h]
        have HE : Hid (decide (a = b) = (n8 u == 0)) := e1
        clear e1
        go_wp2_with fail
        go_ret
        refine ⟨?_, hD⟩
        rw [HE.out]
        rfl
  · have hne : ((a.length : Int) != (b.length : Int)) = true := by rw [bne_iff_ne]; omega
    go_enter Tryd.func35, Tryd.ntmps35
    go_wp2
    go_ret
    refine ⟨?_, ⟨0, rfl⟩⟩
    rw [show decide (a = b) = false from by simp; intro h; exact hl (by rw [h])]
    rfl
end Go.Proofs.YtminjelnbnajhaaDoor
