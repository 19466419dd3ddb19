/- What number does. -/
import Derived.Test.YtdolgkegeomafaaDoorSWc
import Derived.Test.YtdolgkegeomafaaDoorSByt
namespace Go.Proofs.YtdolgkegeomafaaDoor.Sh
open Go.RowKit

def byteAt (n m j : Nat) : UInt8 := UInt8.ofNat (n / 2 ^ (8 * (m - 1 - j)) % 256)
def numTo (n m i : Nat) : Nat → UInt8 := fun j => if m ≤ j + i then byteAt n m j else 0
theorem numTo_zero (n m : Nat) : row8 (numTo n m 0) m = row8 (fun _ => 0) m := row8_congr fun j hj => by unfold numTo; rw [if_neg (by omega)]
theorem numTo_succ (n m i : Nat) (h : i < m) : row8 (upd (numTo n m i) (m - 1 - i) (UInt8.ofNat (n / 2 ^ (8 * i) % 256))) m = row8 (numTo n m (i + 1)) m := row8_congr fun j hj => by
  unfold upd numTo byteAt
  by_cases h1 : j = m - 1 - i
  · rw [if_pos h1, if_pos (by omega), show m - 1 - j = i from by omega]
  · rw [if_neg h1]
    by_cases h2 : m ≤ j + i
    · rw [if_pos h2, if_pos (by omega)]
    · rw [if_neg h2, if_neg (by omega)]
theorem numTo_all (n m : Nat) : row8 (numTo n m m) m = row8 (byteAt n m) m := row8_congr fun j _ => by unfold numTo; rw [if_pos (by omega)]
/-- The bytes of a number, the highest first. -/
def be (n m : Nat) : List UInt8 := (List.range m).map (byteAt n m)

theorem num_byte (n i : Nat) : ((n : Int) / 2 ^ (8 * i) % 256) = n8 (UInt8.ofNat (n / 2 ^ (8 * i) % 256)) := by
  unfold n8
  rw [UInt8.toNat_ofNat', Nat.mod_eq_of_lt (by omega : n / 2 ^ (8 * i) % 256 < 2 ^ 8)]
  rw [show ((2 : Int) ^ (8 * i)) = ((2 ^ (8 * i) : Nat) : Int) from by simp]
  omega
attribute [local go_sem] num_byte
theorem info5 : ∃ i, Tryd.prog.info? 5 = some i ∧ i.zero = some (.int .u8 0) ∧ i.size = 1 ∧ i.bytes = 1 := by
  have h : (Tryd.prog.info? 5).map (fun i => (i.zero, i.size, i.bytes)) = some (some (.int .u8 0), 1, 1) := by kernel_rfl
  cases hq : Tryd.prog.info? 5 with
  | none => rw [hq] at h; cases h
  | some i => rw [hq] at h; simp at h; exact ⟨i, rfl, h.1, h.2.1, h.2.2⟩

set_option maxRecDepth 100000 in
set_option maxHeartbeats 400000 in
theorem number_any (n m : Nat) (w : World) (hm : m ≤ 8) (hm0 : 1 ≤ m) :
    Calls Tryd.prog 48 #[.int .u64 n, .int .i64 m] w fun e w' => e = .returned (.string ⟨(be n m).toArray⟩) ∧ Below w.heap.size w w' := by
  obtain ⟨i5', hi5, hz5, hs5, hb5⟩ := info5
  go_enter Tryd.func48, Tryd.ntmps48
  go_wp2_with (with_reducible refine at_list ?_; first
    | (refine wpList_makeB rfl _ _ _ rfl m m rfl rfl (Nat.le_refl _) (by omega) _ _ Tryd.underlying51 hi5 hz5 hs5 hb5 ?_; intro w1 hw1 hs1 hb1))
  clear hi5 hz5 hs5 hb5
  go_loopw [10] (fun v wl => ∃ i : Nat, i ≤ m ∧ v = .int .i64 i ∧ Below w.heap.size w wl ∧ wl.heap.size = w.heap.size + 1 ∧ Blk wl w.heap.size (row8 (numTo n m i) m) 5) (fun v _ => m - (intOf v).toNat)
  case atStart => exact ⟨0, by omega, rfl, hw1, hs1, by rw [numTo_zero]; exact hb1⟩
  case round =>
    obtain ⟨i, hi, rfl, hB, hz, hb⟩ := hrel
    clear hw1 hs1 hb1
    by_cases hlt : i < m
    · go_wp2_with (with_reducible refine at_list ?_; first
        | (refine wpList_addrS rfl _ _ _ rfl w.heap.size 0 m m rfl .i64 _ rfl (m - 1 - i) _ Tryd.underlying51 i5 (by omega) (by omega) ?_; rw [Nat.zero_add])
        | (go_simp; refine wpList_storeB rfl _ _ _ rfl w.heap.size (m - 1 - i) rfl _ rfl _ _ _ hb i5 (by omega) ?_; intro w2 hg2 hs2 hb2; rw [numTo_succ n m i hlt] at hb2))
      go_roundw
      case rel => exact ⟨i + 1, by omega, by go_num, hB.trans (below_of_grown hg2 (by omega) (by omega)), by omega, hb2⟩
      case measure => simp [intOf]; omega
    · have hb3 : Blk wr w.heap.size (row8 (byteAt n m) m) 5 := by
        rw [show i = m from by omega, numTo_all] at hb
        exact hb
      clear hb
      go_wp2_with (with_reducible refine at_list ?_; first
        | (refine wpList_bytesString rfl _ _ _ rfl w.heap.size m m rfl _ Tryd.underlying51 Tryd.underlying5 Tryd.underlying9 _ _ _ hb3 (Nat.le_refl _) ?_))
      go_ret
      exact ⟨rfl, hB⟩
end Go.Proofs.YtdolgkegeomafaaDoor.Sh
