/- What WireNumbers does. -/
import Derived.Test.YtaccklbijihppaaDoorWd
namespace Go.Proofs.YtaccklbijihppaaDoor
open Go.RowKit
set_option maxRecDepth 100000 in
set_option maxHeartbeats 400000 in
theorem wireNumbers_any (n : Nat) (k : Int) (l : List UInt8) (w : World) (hG : Glob w) (hn : n < 18446744073709551616) :
    Calls Tryd.prog 3 #[.int .u64 n, .int .i64 k, .string ⟨l.toArray⟩] w fun e w' => e = .returned (.bool true) ∧ Below w.heap.size w w' := by
  have hl := fewL_length l
  go_enter Tryd.func3, Tryd.ntmps3
  go_wp2_with (first
    | (go_at_call 9; refine (awake_any _ hG).mono ?_; rintro e w1 ⟨rfl, hw1⟩)
    | (go_at_call 10; refine (number_any n k _).mono ?_; rintro e w2 ⟨rfl, hw2⟩)
    | (go_at_call 11; refine (rnum_any n k _ hn).mono ?_; rintro e w3 ⟨rfl, hw3⟩)
    | (go_at_call 13; refine (few_any _ _).mono ?_; rintro e w' ⟨rfl, hw'⟩; have hw2' := hw'.symm; subst hw2'; clear hw')
    | (go_at_call 12; refine (crc_any (fewL l) _ (((hG.belowSize hw1).belowSize hw2).belowSize hw3) (by omega)).mono ?_; rintro e w' ⟨rfl, hw'⟩; have hw2' := hw'.symm; subst hw2'; clear hw')
    | (go_at_call 14; refine (rcrc_any (fewL l) _ (by omega)).mono ?_; rintro e w' ⟨rfl, hw'⟩; have hw2' := hw'.symm; subst hw2'; clear hw'))
  go_ret
  exact ⟨rfl, (hw1.trans (hw2.mono hw1.size)).trans (hw3.mono (Nat.le_trans hw1.size hw2.size))⟩
end Go.Proofs.YtaccklbijihppaaDoor
