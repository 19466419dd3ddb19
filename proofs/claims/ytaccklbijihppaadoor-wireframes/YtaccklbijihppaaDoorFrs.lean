/- What WireFrames does. -/
import Derived.Test.YtaccklbijihppaaDoorUg
import Derived.Test.YtaccklbijihppaaDoorAt
namespace Go.Proofs.YtaccklbijihppaaDoor
open Go Go.RowKit
attribute [local go_sem] mkApp2
set_option maxRecDepth 100000 in
set_option maxHeartbeats 1000000 in
theorem wireFrames_any (l : List UInt8) (p : Int) (w : World) (hG : Glob w) :
    Calls Tryd.prog 4 #[.string ⟨l.toArray⟩, .int .i64 p] w fun e w' => e = .returned (.bool true) ∧ Below w.heap.size w w' := by
  have hl := fewL_length l
  have HFEW := few_any l w
  generalize fewL l = x at *
  have HU1 := unframe_any x p w hG (by omega)
  have HV1 := fun w => runframe_any x p w (by omega)
  have HA := fun w (hG : Glob w) => awake_any w hG
  have HF1 := fun w (hG : Glob w) => frame_any x w hG (by omega)
  have HF2 := HF1
  have HG1 := fun w => rframe_any x w (by omega)
  have hfl := frame_length x
  have HU2 := fun w (hG : Glob w) => unframe_any (frame x ++ [109, 111, 114, 101]) 0 w hG (by rw [List.length_append, hfl]; simp; omega)
  rw [unframe_frame x [109, 111, 114, 101] (by omega)] at HU2
  generalize unframe x p = U at *
  generalize frame x = F at *
  obtain ⟨t, z, y⟩ := U
  simp only at HU1 HV1
  go_enter Tryd.func4, Tryd.ntmps4
  go_wp2_with (first
    | (go_at_call 13; refine HFEW.mono ?_; rintro e w' ⟨rfl, hw'⟩; have hw2' := hw'.symm; subst hw2'; clear hw')
    | (go_at_call 15; refine HU1.mono ?_; rintro e w1 ⟨rfl, hw1⟩; have hG1 := hG.belowSize hw1; clear HU1)
    | (go_at_call 16; refine (HV1 _).mono ?_; rintro e w2 ⟨rfl, hw2⟩; have hG2 := hG1.belowSize hw2)
    | (go_at_call 9; refine (HA _ hG2).mono ?_; rintro e w3 ⟨rfl, hw3⟩; have hG3 := hG2.belowSize hw3)
    | (go_at_call 17; refine (HF1 _ hG3).mono ?_; rintro e w4 ⟨rfl, hw4⟩; have hG4 := hG3.belowSize hw4; clear HF1)
    | (go_at_call 18; refine (HG1 _).mono ?_; rintro e w5 ⟨rfl, hw5⟩; have hG5 := hG4.belowSize hw5)
    | (go_at_call 17; refine (HF2 _ hG5).mono ?_; rintro e w6 ⟨rfl, hw6⟩; have hG6 := hG5.belowSize hw6)
    | (go_at_call 15; refine (HU2 _ hG6).mono ?_; rintro e w7 ⟨rfl, hw7⟩))
  go_ret
  have hB2 := hw1.trans (hw2.mono hw1.size)
  have hB3 := hB2.trans (hw3.mono hB2.size)
  have hB4 := hB3.trans (hw4.mono hB3.size)
  have hB5 := hB4.trans (hw5.mono hB4.size)
  have hB6 := hB5.trans (hw6.mono hB5.size)
  exact ⟨rfl, hB6.trans (hw7.mono hB6.size)⟩
end Go.Proofs.YtaccklbijihppaaDoor
