/- What Frame, the plain Frame, and WireNumbers do. -/
import Derived.Test.YtaccklbijihppaaDoorWd
namespace Go.Proofs.YtaccklbijihppaaDoor
open Go.RowKit
theorem mkApp2 (x y : List UInt8) : (ByteArray.mk x.toArray ++ ByteArray.mk y.toArray) = ByteArray.mk (x ++ y).toArray := ByteArray.mk_append_mk x y
/-- The check of a text and its count. -/
def fcheck (s : List UInt8) : BitVec 32 := crc (num s.length 4 ++ s)
theorem fcheck_eq (s : List UInt8) : not32 (crcF (not32 (crc (num s.length 4))) s) = fcheck s := by
  unfold fcheck crc
  rw [not_not32, crcF_append]
theorem cut8_4 : cut8 4 = 4 := rfl
set_option maxRecDepth 100000 in
set_option maxHeartbeats 400000 in
theorem frameCheck_any (s : List UInt8) (w : World) (hG : Glob w) (hl : s.length ≤ 1099511627776) :
    Calls Tryd.prog 38 #[.string ⟨s.toArray⟩] w fun e w' => e = .returned (.int .u32 (n32 (fcheck s))) ∧ Below w.heap.size w w' := by
  have HN := number_any s.length 4 w
  rw [cut8_4] at HN
  have hnl := num_length 4 s.length
  have HF := fcheck_eq s
  generalize num s.length 4 = t at *
  go_enter Tryd.func38, Tryd.ntmps38
  go_wp2_with (first
    | (go_at_call 10; refine HN.mono ?_; rintro e w1 ⟨rfl, hw1⟩)
    | (go_at_call 12; refine (crc_any t _ (hG.belowSize hw1) (by omega)).mono ?_; rintro e w' ⟨rfl, hw'⟩; have hw2 := hw'.symm; subst hw2; clear hw')
    | (go_at_call 37; refine (checkOn_any (crc t) s _ (hG.belowSize hw1) hl).mono ?_; rintro e w' ⟨rfl, hw'⟩; have hw2 := hw'.symm; subst hw2; clear hw'))
  go_ret
  exact ⟨by rw [← HF]; rfl, hw1⟩
end Go.Proofs.YtaccklbijihppaaDoor
