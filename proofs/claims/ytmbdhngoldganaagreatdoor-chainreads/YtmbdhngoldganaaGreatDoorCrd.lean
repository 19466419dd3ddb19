/- What ChainReads does. -/
import Derived.Test.YtmbdhngoldganaaGreatDoorCdc
import Derived.Test.YtmbdhngoldganaaGreatDoorCarg
namespace Go.Proofs.YtmbdhngoldganaaGreatDoor
open Go Go.RowKit
section
attribute [local go_sem] Oper.semAt_some
set_option maxRecDepth 100000 in
set_option maxHeartbeats 4000000 in
theorem chainReads_any (s : List UInt8) (w : World) (hG : Sh.Glob w) (hl : s.length ≤ 140737488355328) :
    Calls Tryz.prog 4 #[.string ⟨s.toArray⟩] w fun e w' => e = .returned (.bool true) ∧ Below w.heap.size w w' := by
  have HD := decCh_any s w hG hl
  have HW := fun w1 (hb : Below w.heap.size w w1) => awakeC_any w1 (hG.belowSize hb)
  unfold DcP at HD
  by_cases he : decE s = 0
  · obtain ⟨hok, henc, hcnt⟩ := dec_good he
    have hk0 : (decC s).kept = [] := rfl
    rw [he] at HD
    have HE := fun cb bs bt w1 (h : CH w1 w.heap.size cb bs bt (.slice none 0 0) (decC s)) => encC_any _ _ _ _ _ _ w1 h hok
    rw [henc] at HE
    have HB := fun cb bs bt w1 (h : CH w1 w.heap.size cb bs bt (.slice none 0 0) (decC s)) => baseC_any _ _ _ _ _ _ w1 h hok (by rw [hk0]; exact Nat.zero_le _)
    have HT := fun cb bs bt w1 (h : CH w1 w.heap.size cb bs bt (.slice none 0 0) (decC s)) => tipC_any _ _ _ _ _ _ w1 h hok
    rw [hk0, List.length_nil, Nat.sub_zero] at HB
    clear hok henc hcnt hk0 he
    generalize decC s = c at *
    have hf0 := run_fieldT0
    go_enter Tryz.func4, Tryz.ntmps4
    go_wp2_with (first
      | (go_at_call 12; refine HD.mono ?_; rintro e w1 ⟨p, rfl, hw1, _, hp⟩; clear HD; obtain ⟨cb, bs, bt, rfl, hCH⟩ := hp rfl; clear hp)
      | (go_at_call 13; refine (HW _ hw1).mono ?_; rintro e w2 ⟨rfl, hw2⟩; clear HW; replace hCH := hCH.below hw2; have hB2 := hw1.trans (hw2.mono hw1.size))
      | (go_at_call 14; refine (HE _ _ _ _ hCH).mono ?_; rintro e w3 ⟨rfl, hw3⟩; clear HE; replace hCH := hCH.below hw3; have hB3 := hB2.trans (hw3.mono hB2.size))
      | (go_at_call 15; refine (HB _ _ _ _ hCH).mono ?_; rintro e w4 ⟨rfl, hw4⟩; clear HB; replace hCH := hCH.below hw4; have hB4 := hB3.trans (hw4.mono hB3.size))
      | (go_at_call 16; refine (HT _ _ _ _ hCH).mono ?_; rintro e w5 ⟨g, cap, rfl, _, hw5⟩; clear HT; have hB5 := hB4.trans (hw5.mono hB4.size)))
    go_ret
    exact ⟨rfl, hB5⟩
  · have hb1 : (decE s != 0) = true := by simpa using he
    have hd1 : (decE s == 0) = false := by simpa using he
    replace he : Hid (¬ decE s = 0) := he
    generalize decE s = er at *
    go_enter Tryz.func4, Tryz.ntmps4
    go_wp2_with (first
      | (go_at_call 12; refine HD.mono ?_; rintro e w1 ⟨p, rfl, hw1, hp, _⟩; clear HD; replace hp := hp he.out; subst hp)
      | (go_at_call 13; refine (HW _ hw1).mono ?_; rintro e w2 ⟨rfl, hw2⟩; clear HW; have hB2 := hw1.trans (hw2.mono hw1.size)))
    go_ret
    exact ⟨rfl, hB2⟩
end
end Go.Proofs.YtmbdhngoldganaaGreatDoor
