/- What sha.Sum, Same and Collide do. -/
import Derived.Test.YtmbdhngoldganaaGreatDoorSWg
import Derived.Deep.RegionHeld3
namespace Go.Proofs.YtmbdhngoldganaaGreatDoor.Sh
open Go.RowKit
set_option maxRecDepth 100000 in
set_option maxHeartbeats 400000 in
theorem sum_any (s : List UInt8) (w : World) (hG : Glob w) (hs : s.length ≤ 549755813888) :
    Calls Tryz.prog 179 #[.string ⟨s.toArray⟩] w fun e w' => e = .returned (.string ⟨(digest s).toArray⟩) ∧ Below w.heap.size w w' := by
  go_enter Tryz.func179, Tryz.ntmps179
  go_wp2_with (first
    | (go_at_call 152; refine (new_any _).mono ?_; rintro e w1 ⟨rfl, hw1, hs1, hb1⟩)
    | (go_at_call 153; refine (write_any w.heap.size [] s S0 (fun _ => 0) _ (hG.belowSize hw1) hG.two (by simp; omega) hb1 (.inl rfl) (fun j hj => by simp at hj)).mono ?_; rintro e w2 ⟨rfl, ⟨H', fb', hD⟩, hg2⟩)
    | (go_at_call 155; refine (dsum_any w.heap.size s H' fb' _ ((hG.belowSize hw1).grown hg2 hG.two) hs hD.blk (.inr hD.words) hD.tail).mono ?_; rintro e w3 ⟨rfl, hw3⟩))
  go_ret
  have hB2 : Below w.heap.size w w2 := hw1.trans (below_of_grown hg2 (Nat.le_refl _) (by omega))
  exact ⟨rfl, hB2.trans (hw3.mono hB2.size)⟩
theorem ofInt_n8 (x : UInt8) : BitVec.ofInt 8 (n8 x) = x.toBitVec := by
  unfold n8
  apply BitVec.eq_of_toNat_eq
  simp
theorem wrap_n8 (x : UInt8) : IntKind.u8.wrap (n8 x) = n8 x := by
  rw [IntKind.wrap_u8']; have := n8_nonneg x; have := n8_le x; omega
theorem bits_xor8 (x y : UInt8) : bits .xor .u8 (n8 x) (n8 y) = n8 (x ^^^ y) := by
  show IntKind.u8.wrap ((BitVec.ofInt 8 (n8 x) ^^^ BitVec.ofInt 8 (n8 y)).toNat : Int) = _
  rw [ofInt_n8, ofInt_n8]; exact wrap_n8 (x ^^^ y)
theorem bits_or8 (x y : UInt8) : bits .or .u8 (n8 x) (n8 y) = n8 (x ||| y) := by
  show IntKind.u8.wrap ((BitVec.ofInt 8 (n8 x) ||| BitVec.ofInt 8 (n8 y)).toNat : Int) = _
  rw [ofInt_n8, ofInt_n8]; exact wrap_n8 (x ||| y)
def byteOf (l : List UInt8) (k : Nat) : UInt8 := l.getD k 0
theorem idx8 (l : List UInt8) (k : Nat) (h : k < (ByteArray.mk l.toArray).size) : (((ByteArray.mk l.toArray)[k]'h).toNat : Int) = n8 (byteOf l k) := by
  have hk : k < l.length := by rw [mk_size] at h; exact h
  have e : (ByteArray.mk l.toArray)[k]'h = byteOf l k := by
    show l.toArray[k] = _
    unfold byteOf
    rw [List.getD_eq_getElem?_getD, List.getElem?_eq_getElem hk]
    simp
  rw [e]; rfl
attribute [local go_sem] bits_xor8 bits_or8 idx8
end Go.Proofs.YtmbdhngoldganaaGreatDoor.Sh
