/- What sha.Sum, Same and Collide do. -/
import Derived.Test.YtfohcgjkihaepaaDoorSWg
import Derived.Deep.RegionHeld3
namespace Go.Proofs.YtfohcgjkihaepaaDoor.Sh
open Go.RowKit
set_option maxRecDepth 100000 in
set_option maxHeartbeats 400000 in
theorem sum_any (s : List UInt8) (w : World) (hG : Glob w) (hs : s.length ≤ 549755813888) :
    Calls Tryd.prog 20 #[.string ⟨s.toArray⟩] w fun e w' => e = .returned (.string ⟨(digest s).toArray⟩) ∧ Below w.heap.size w w' := by
  go_enter Tryd.func20, Tryd.ntmps20
  go_wp2_with (first
    | (go_at_call 30; refine (new_any _).mono ?_; rintro e w1 ⟨rfl, hw1, hs1, hb1⟩)
    | (go_at_call 31; refine (write_any w.heap.size [] s S0 (fun _ => 0) _ (hG.belowSize hw1) hG.two (by simp; omega) hb1 (.inl rfl) (fun j hj => by simp at hj)).mono ?_; rintro e w2 ⟨rfl, ⟨H', fb', hD⟩, hg2⟩)
    | (go_at_call 32; refine (dsum_any w.heap.size s H' fb' _ ((hG.belowSize hw1).grown hg2 hG.two) hs hD.blk (.inr hD.words) hD.tail).mono ?_; rintro e w3 ⟨rfl, hw3⟩))
  go_ret
  have hB2 : Below w.heap.size w w2 := hw1.trans (below_of_grown hg2 (Nat.le_refl _) (by omega))
  exact ⟨rfl, hB2.trans (hw3.mono hB2.size)⟩
theorem ofInt_n8 (x : UInt8) : BitVec.ofInt 8 (n8 x) = x.toBitVec := by
  unfold n8
  apply BitVec.eq_of_toNat_eq
  simp
theorem n8_bv (x : UInt8) : ((x.toBitVec.toNat : Int)) = n8 x := rfl
theorem wrap_n8 (x : UInt8) : IntKind.u8.wrap (n8 x) = n8 x := by
  rw [IntKind.wrap_u8']; have := n8_nonneg x; have := n8_le x; omega
theorem bits_xor8 (x y : UInt8) : bits .xor .u8 (n8 x) (n8 y) = n8 (x ^^^ y) := by
  show IntKind.u8.wrap ((BitVec.ofInt 8 (n8 x) ^^^ BitVec.ofInt 8 (n8 y)).toNat : Int) = _
  rw [ofInt_n8, ofInt_n8]; exact wrap_n8 (x ^^^ y)
theorem bits_or8 (x y : UInt8) : bits .or .u8 (n8 x) (n8 y) = n8 (x ||| y) := by
  show IntKind.u8.wrap ((BitVec.ofInt 8 (n8 x) ||| BitVec.ofInt 8 (n8 y)).toNat : Int) = _
  rw [ofInt_n8, ofInt_n8]; exact wrap_n8 (x ||| y)
def byteOf (l : List UInt8) (k : Nat) : UInt8 := l.getD k 0
theorem idx8 (l : List UInt8) (k : Nat) (h : k < (ByteArray.mk l.toArray).size) : (((ByteArray.mk l.toArray)[k]'h).toNat : Int) = n8 (byteOf l k) := by
  have hk : k < l.length := by rw [mk_size] at h; exact h
  have e : (ByteArray.mk l.toArray)[k]'h = byteOf l k := by
    show l.toArray[k] = _
    unfold byteOf
    rw [List.getD_eq_getElem?_getD, List.getElem?_eq_getElem hk]
    simp
  rw [e]; rfl
attribute [local go_sem] bits_xor8 bits_or8 idx8
theorem same_step (a b : List UInt8) (k : Nat) (u : UInt8) (ha : k < a.length) (hb : k < b.length) (h : u = 0 ↔ a.take k = b.take k) : (u ||| (byteOf a k ^^^ byteOf b k)) = 0 ↔ a.take (k + 1) = b.take (k + 1) := by
  have ea : byteOf a k = a[k] := by unfold byteOf; rw [List.getD_eq_getElem?_getD, List.getElem?_eq_getElem ha]; rfl
  have eb : byteOf b k = b[k] := by unfold byteOf; rw [List.getD_eq_getElem?_getD, List.getElem?_eq_getElem hb]; rfl
  rw [List.take_succ_eq_append_getElem ha, List.take_succ_eq_append_getElem hb, UInt8.or_eq_zero_iff, UInt8.xor_eq_zero_iff, h, ea, eb]
  constructor
  · rintro ⟨h1, h2⟩; rw [h1, h2]
  · intro h1
    have := List.append_inj' h1 rfl
    exact ⟨this.1, by simpa using this.2⟩
set_option maxRecDepth 100000 in
set_option maxHeartbeats 400000 in
theorem same_any (a b : List UInt8) (w : World) (ha : a.length ≤ 1099511627776) : Calls Tryd.prog 29 #[.string ⟨a.toArray⟩, .string ⟨b.toArray⟩] w fun e w' => e = .returned (.bool (decide (a = b))) ∧ Draws w w' := by
  by_cases hl : a.length = b.length
  · have hne : ((a.length : Int) != (b.length : Int)) = false := by rw [bne_eq_false_iff_eq]; omega
    have hba : b.length ≤ a.length := by omega
    have hab : a.length ≤ b.length := by omega
    have HL : Hid (a.length = b.length) := hl
    clear hl
    go_enter Tryd.func29, Tryd.ntmps29
    go_wp2_with fail
    clear hne
    go_loopw [5, 14] (fun v5 v14 wl => ∃ (k : Nat) (u : UInt8), k ≤ a.length ∧ v14 = .int .i64 k ∧ v5 = .int .u8 (n8 u) ∧ (u = 0 ↔ a.take k = b.take k) ∧ Draws w wl) (fun _ v14 _ => a.length - (intOf v14).toNat)
    case atStart => exact ⟨0, 0, by omega, rfl, rfl, by simp, ⟨0, rfl⟩⟩
    case round =>
      obtain ⟨k, u, hk, rfl, rfl, hu, hD⟩ := hrel
      have HU : Hid (u = 0 ↔ a.take k = b.take k) := hu
      clear hu
      by_cases hlt : k < a.length
      · have hkb : k < b.length := by omega
        go_wp2_with fail
        go_quiet (fail)
        go_wp2_with fail
        go_roundw
        case rel => exact ⟨k + 1, _, by omega, by go_num, rfl, same_step a b k u hlt hkb HU.out, hD.drewN _⟩
        case measure => simp [intOf]; omega
      · have e1 : decide (a = b) = (n8 u == 0) := by
          have h := HU.out
          rw [List.take_of_length_le (by omega), List.take_of_length_le (by omega)] at h
          have h2 : (n8 u = 0) ↔ u = 0 := by
            unfold n8
            rw [← UInt8.toNat_inj]
            simp
          rw [Bool.eq_iff_iff, decide_eq_true_iff, beq_iff_eq, h2, h]
        have HE : Hid (decide (a = b) = (n8 u == 0)) := e1
        clear e1
        go_wp2_with fail
        go_ret
        refine ⟨?_, hD⟩
        rw [HE.out]
        rfl
  · have hne : ((a.length : Int) != (b.length : Int)) = true := by rw [bne_iff_ne]; omega
    go_enter Tryd.func29, Tryd.ntmps29
    go_wp2
    go_ret
    refine ⟨?_, ⟨0, rfl⟩⟩
    rw [show decide (a = b) = false from by simp; intro h; exact hl (by rw [h])]
    rfl
set_option maxRecDepth 100000 in
set_option maxHeartbeats 1000000 in
theorem collide_diff (A B : List UInt8) (w : World) (hG : Glob w) (hA : A.length ≤ 549755813888) (hB : B.length ≤ 549755813888) (hne : A ≠ B) :
    Calls Tryd.prog 19 #[.agg #[.string ⟨A.toArray⟩, .string ⟨B.toArray⟩]] w fun e w' => e = .returned (.bool (decide (digest A = digest B))) ∧ Below w.heap.size w w' := by
  have hnb : (A == B) = false := beq_eq_false_iff_ne.2 hne
  clear hne
  go_enter Tryd.func19, Tryd.ntmps19
  go_wp2_with (with_reducible refine at_list ?_; first
    | (refine wpList_boxRow (op := ⟨some 1, _, _, _, _, _⟩) rfl _ _ rfl _ rfl ?_; intro w1 hw1 hs1 hb1; replace hs1 := hs1.symm))
  have q0 : w1.cell? ⟨w.heap.size, 0, none⟩ = some (.string ⟨A.toArray⟩) := hb1.cell 0
  have q1 : w1.cell? ⟨w.heap.size, 1, none⟩ = some (.string ⟨B.toArray⟩) := hb1.cell 1
  have hG1 := hG.belowSize hw1
  go_region_held3 (fun w' => w'.cell? ⟨w.heap.size, 0, none⟩ = some (.string ⟨A.toArray⟩) ∧ w'.cell? ⟨w.heap.size, 1, none⟩ = some (.string ⟨B.toArray⟩) ∧ Glob w' ∧ Below w1.heap.size w1 w')
    (first | assumption | exact ⟨q0, q1, hG1.drew, (Below.refl _ _).drew⟩)
    (first
      | (go_at_call_of 20 (Value.string ⟨A.toArray⟩)
         refine (sum_any A _ hG1.drew hA).mono ?_
         rintro e w2 ⟨rfl, hw2⟩
         have hS2 : w2.cell? ⟨w.heap.size, 0, none⟩ = some (.string ⟨A.toArray⟩) ∧ w2.cell? ⟨w.heap.size, 1, none⟩ = some (.string ⟨B.toArray⟩) ∧ Glob w2 ∧ Below w1.heap.size w1 w2 :=
           ⟨(((hb1.drew).belowSize hw2).cell 0), (((hb1.drew).belowSize hw2).cell 1), hG1.drew.belowSize hw2, (Below.refl w1.heap.size w1).drew.trans hw2⟩)
      | (go_at_call_of 20 (Value.string ⟨B.toArray⟩)
         refine (sum_any B _ hS2.2.2.1 hB).mono ?_
         rintro e w3 ⟨rfl, hw3⟩
         have hB3 : Below w1.heap.size w1 w3 := hS2.2.2.2.trans (hw3.mono hS2.2.2.2.size)
         have hS3 : w3.cell? ⟨w.heap.size, 0, none⟩ = some (.string ⟨A.toArray⟩) ∧ w3.cell? ⟨w.heap.size, 1, none⟩ = some (.string ⟨B.toArray⟩) ∧ Glob w3 ∧ Below w1.heap.size w1 w3 :=
           ⟨(hb1.belowSize hB3).cell 0, (hb1.belowSize hB3).cell 1, hG1.belowSize hB3, hB3⟩)
      | (go_at_call 29
         refine (same_any (digest A) (digest B) _ (by rw [digest_length]; omega)).mono ?_
         rintro e w4 ⟨rfl, hD4⟩
         have hB4 : Below w1.heap.size w1 w4 := hD4.below hB3
         have hS4 : w4.cell? ⟨w.heap.size, 0, none⟩ = some (.string ⟨A.toArray⟩) ∧ w4.cell? ⟨w.heap.size, 1, none⟩ = some (.string ⟨B.toArray⟩) ∧ Glob w4 ∧ Below w1.heap.size w1 w4 :=
           ⟨(hb1.belowSize hB4).cell 0, (hb1.belowSize hB4).cell 1, hG1.belowSize hB4, hB4⟩))
  go_wp2_with fail
  go_ret
  exact ⟨rfl, hw1.trans (hB4.mono hw1.size)⟩
set_option maxRecDepth 100000 in
set_option maxHeartbeats 1000000 in
theorem collide_same (A : List UInt8) (w : World) :
    Calls Tryd.prog 19 #[.agg #[.string ⟨A.toArray⟩, .string ⟨A.toArray⟩]] w fun e w' => e = .returned (.bool false) ∧ Below w.heap.size w w' := by
  go_enter Tryd.func19, Tryd.ntmps19
  go_wp2_with (with_reducible refine at_list ?_; first
    | (refine wpList_boxRow (op := ⟨some 1, _, _, _, _, _⟩) rfl _ _ rfl _ rfl ?_; intro w1 hw1 hs1 hb1; replace hs1 := hs1.symm))
  have q0 : w1.cell? ⟨w.heap.size, 0, none⟩ = some (.string ⟨A.toArray⟩) := hb1.cell 0
  have q1 : w1.cell? ⟨w.heap.size, 1, none⟩ = some (.string ⟨A.toArray⟩) := hb1.cell 1
  go_quiet (fail)
  go_wp2_with fail
  go_ret
  exact ⟨rfl, below_draws hw1 _⟩
end Go.Proofs.YtfohcgjkihaepaaDoor.Sh
