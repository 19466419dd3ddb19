/- What Frame and the plain Frame do. -/
import Derived.Test.YtaccklbijihppaaDoorWe
namespace Go.Proofs.YtaccklbijihppaaDoor
open Go.RowKit
theorem n32_nat (x : BitVec 32) : n32 x = (x.toNat : Int) := rfl
theorem n32_wrap64 (x : BitVec 32) : IntKind.u64.wrap (n32 x) = (x.toNat : Int) := by
  rw [IntKind.wrap_u64]; have := n32_nonneg x; have := n32_lt x; rw [← n32_nat]; omega
theorem n32_mod64 (x : BitVec 32) : n32 x % 18446744073709551616 = (x.toNat : Int) := by
  have := n32_nonneg x; have := n32_lt x; rw [← n32_nat]; omega
attribute [local go_sem] mkApp2 n32_wrap64 n32_mod64
set_option maxRecDepth 100000 in
set_option maxHeartbeats 400000 in
theorem frame_any (s : List UInt8) (w : World) (hG : Glob w) (hl : s.length ≤ 549755813888) :
    Calls Tryd.prog 17 #[.string ⟨s.toArray⟩] w fun e w' => e = .returned (.string ⟨(frame s).toArray⟩) ∧ Below w.heap.size w w' := by
  have HN := number_any s.length 4 w
  rw [cut8_4] at HN
  have HM := fun w => number_any (fcheck s).toNat 4 w
  rw [cut8_4] at HM
  have hnl := num_length 4 s.length
  have hml := num_length 4 (fcheck s).toNat
  have HF : Hid (frame s = num s.length 4 ++ (num (fcheck s).toNat 4 ++ s)) := by exact rfl
  have HC := fun w (hG : Glob w) => frameCheck_any s w hG (by omega)
  generalize num s.length 4 = t at *
  generalize num (fcheck s).toNat 4 = u at *
  generalize fcheck s = c at *
  go_enter Tryd.func17, Tryd.ntmps17
  go_wp2_with (go_at_call 10; refine HN.mono ?_; rintro e w1 ⟨rfl, hw1⟩; clear HN)
  refine (HC _ (hG.belowSize hw1)).mono ?_
  rintro e w2 ⟨rfl, hw2⟩
  go_wp2_with fail
  refine (HM _).mono ?_
  rintro e w3 ⟨rfl, hw3⟩
  go_wp2_with fail
  go_ret
  refine ⟨?_, (hw1.trans (hw2.mono hw1.size)).trans (hw3.mono (Nat.le_trans hw1.size hw2.size))⟩
  rw [HF.out, ← List.append_assoc]
  rfl
set_option maxRecDepth 100000 in
set_option maxHeartbeats 400000 in
theorem rframe_any (s : List UInt8) (w : World) (hl : s.length ≤ 549755813888) :
    Calls Tryd.prog 18 #[.string ⟨s.toArray⟩] w fun e w' => e = .returned (.string ⟨(frame s).toArray⟩) ∧ Below w.heap.size w w' := by
  have HN := rnum_any s.length 4 w (by omega)
  rw [cut8_4] at HN
  have HM := fun w => rnum_any (fcheck s).toNat 4 w (by have := (fcheck s).isLt; omega)
  rw [cut8_4] at HM
  have hnl := num_length 4 s.length
  have hml := num_length 4 (fcheck s).toNat
  have HF : Hid (frame s = num s.length 4 ++ (num (fcheck s).toNat 4 ++ s)) := by exact rfl
  have HC := fun w (h : (num s.length 4 ++ s).length ≤ 1099511627776) => rcrc_any (num s.length 4 ++ s) w h
  rw [show crc (num s.length 4 ++ s) = fcheck s from rfl] at HC
  generalize num s.length 4 = t at *
  generalize num (fcheck s).toNat 4 = u at *
  generalize fcheck s = c at *
  go_enter Tryd.func18, Tryd.ntmps18
  go_wp2_with (go_at_call 11; refine HN.mono ?_; rintro e w1 ⟨rfl, hw1⟩; clear HN)
  refine (HC _ (by rw [List.length_append]; omega)).mono ?_
  rintro e w' ⟨rfl, hw'⟩
  have hw2 := hw'.symm
  subst hw2
  clear hw'
  go_wp2_with fail
  refine (HM _).mono ?_
  rintro e w3 ⟨rfl, hw3⟩
  go_wp2_with fail
  go_ret
  refine ⟨?_, hw1.trans (hw3.mono hw1.size)⟩
  rw [HF.out, ← List.append_assoc]
  rfl
end Go.Proofs.YtaccklbijihppaaDoor
