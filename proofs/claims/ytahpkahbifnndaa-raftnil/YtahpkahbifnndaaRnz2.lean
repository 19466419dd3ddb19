/- RaftNil where New is refused: a number below all. RaftNil where New is refused: a number above all. -/
import Derived.Test.YtahpkahbifnndaaRnz
namespace Go.Proofs.Ytahpkahbifnndaa
open Go Go.RowKit Go.Maps
section
attribute [local go_sem] run_fieldH
variable (w : World) (m : MSG) (ea : Option Addr) (ec : Nat) (ma : Option Addr) (mc : Nat) (me : Int)
set_option maxRecDepth 100000 in
set_option maxHeartbeats 2000000 in
theorem raftNil_low (hm : me < 0) : Calls Try.prog 3 #[.agg #[.int .i64 m.kind, .int .i64 m.frm, .int .i64 m.dst, .int .i64 m.term, .int .i64 m.index, .int .i64 m.logTerm, .int .i64 m.commit, .bool m.yes, .slice ea m.ents.length ec, .int .i64 m.off, .string ⟨m.piece.toArray⟩, .bool m.done, .slice ma m.mems.length mc], .int .i64 me] w fun e w' => e = .returned (.bool true) ∧ Below w.heap.size w w' := by
  have hm1 : ¬ (0 ≤ me) := by omega
  have HN := fun W => new_none W me (fun h => by omega)
  clear hm
  go_enter Try.func3, Try.ntmps3
  go_upto_region 1 with fail
  have hb1 := bl_al (Below.refl w.heap.size w) (.cells #[.int .i64 m.kind, .int .i64 m.frm, .int .i64 m.dst, .int .i64 m.term, .int .i64 m.index, .int .i64 m.logTerm, .int .i64 m.commit, .bool m.yes, .slice ea m.ents.length ec, .int .i64 m.off, .string ⟨m.piece.toArray⟩, .bool m.done, .slice ma m.mems.length mc] 25)
  have hX1 := Blk.new w #[.int .i64 m.kind, .int .i64 m.frm, .int .i64 m.dst, .int .i64 m.term, .int .i64 m.index, .int .i64 m.logTerm, .int .i64 m.commit, .bool m.yes, .slice ea m.ents.length ec, .int .i64 m.off, .string ⟨m.piece.toArray⟩, .bool m.done, .slice ma m.mems.length mc] 25
  generalize w.alloc (.cells #[.int .i64 m.kind, .int .i64 m.frm, .int .i64 m.dst, .int .i64 m.term, .int .i64 m.index, .int .i64 m.logTerm, .int .i64 m.commit, .bool m.yes, .slice ea m.ents.length ec, .int .i64 m.off, .string ⟨m.piece.toArray⟩, .bool m.done, .slice ma m.mems.length mc] 25) = w1 at *
  have e4 := hX1.cell 4
  have e10 := hX1.cell 10
  go_upto_region 4 with (first
    | (go_at_call 6; refine (propose_nil _ _).mono ?_; rintro e w2 ⟨rfl, hw2⟩; replace hw2 := hw2.symm; subst hw2)
    | (go_at_call 7; refine (entry_nil _ _).mono ?_; rintro e w2 ⟨rfl, hw2⟩))
  have hb3 := bl_al (hb1.trans (hw2.mono hb1.size)) (.cells #[.int .i64 0, .string ⟨#[]⟩, .bool false, .slice none 0 0] 31)
  have hX3 := (hX1.belowSize hw2).alloc (.cells #[.int .i64 0, .string ⟨#[]⟩, .bool false, .slice none 0 0] 31)
  generalize w2.alloc (.cells #[.int .i64 0, .string ⟨#[]⟩, .bool false, .slice none 0 0] 31) = w3 at *
  have e12 := hX3.cell 12
  clear e4 e10 hX1 hb1
  go_wp2_with (first
    | (go_at_call 8; refine (change_nil _ _ _ _).mono ?_; rintro e w4 ⟨rfl, hw4⟩; have hb4 := hb3.trans (hw4.mono hb3.size); have hX4 := hX3.belowSize hw4)
    | (go_at_call 9; refine (HN _).mono ?_; rintro e w5 hN; obtain ⟨rfl, hw5⟩ := hN; clear HN; have hb5 := hb4.trans (hw5.mono hb4.size); have hX5 := hX4.belowSize hw5)
    | (go_at_call 10; refine (awake_any _).mono ?_; rintro e w6 ⟨rfl, hw6⟩; have hb6 := hb5.trans (hw6.mono hb5.size); have hX6 := hX5.belowSize hw6; clear e12; have e0 := hX6.cell 0; have e1 := hX6.cell 1; have e2 := hX6.cell 2; have e3 := hX6.cell 3; have e4 := hX6.cell 4; have e5 := hX6.cell 5; have e6 := hX6.cell 6; have e7 := hX6.cell 7; have e8 := hX6.cell 8; have e9 := hX6.cell 9; have e10 := hX6.cell 10; have e11 := hX6.cell 11; have e12 := hX6.cell 12)
    | (go_at_call 11; refine (tick_nil _).mono ?_; rintro e w7 ⟨rfl, hw7⟩; replace hw7 := hw7.symm; subst hw7)
    | (go_at_call 12; refine (step_nil _ m ea ec ma mc).mono ?_; rintro e w8 ⟨rfl, hw8⟩; have hb8 := hb6.trans (hw8.mono hb6.size); have hX8 := hX6.belowSize hw8; clear e0 e1 e2 e3 e4 e5 e6 e7 e8 e9 e10 e11 e12; have e4 := hX8.cell 4; have e10 := hX8.cell 10)
    | (go_at_call 13; refine (compact_nil _ _ _).mono ?_; rintro e w9 ⟨rfl, hw9⟩; replace hw9 := hw9.symm; subst hw9)
    | (go_at_call 14; refine (members_nil _).mono ?_; rintro e w9 ⟨rfl, hw9⟩; replace hw9 := hw9.symm; subst hw9)
    | (go_at_call 15; refine (hard_nil _).mono ?_; rintro e w10 ⟨rfl, hw10⟩; have hb10 := hb8.trans (hw10.mono hb8.size))
    | (go_at_call 16; refine (role_nil _).mono ?_; rintro e w9 ⟨rfl, hw9⟩; replace hw9 := hw9.symm; subst hw9)
    | (go_at_call 17; refine (leader_nil _).mono ?_; rintro e w9 ⟨rfl, hw9⟩; replace hw9 := hw9.symm; subst hw9)
    | (go_at_call 18; refine (commit_nil _).mono ?_; rintro e w9 ⟨rfl, hw9⟩; replace hw9 := hw9.symm; subst hw9)
    | (go_at_call 19; refine (term_nil _).mono ?_; rintro e w9 ⟨rfl, hw9⟩; replace hw9 := hw9.symm; subst hw9))
  go_ret
  exact ⟨rfl, hb10⟩
end
end Go.Proofs.Ytahpkahbifnndaa
namespace Go.Proofs.Ytahpkahbifnndaa
open Go Go.RowKit Go.Maps
section
attribute [local go_sem] run_fieldH
variable (w : World) (m : MSG) (ea : Option Addr) (ec : Nat) (ma : Option Addr) (mc : Nat) (me : Int)
set_option maxRecDepth 100000 in
set_option maxHeartbeats 2000000 in
theorem raftNil_high (hm : 16 ≤ me) : Calls Try.prog 3 #[.agg #[.int .i64 m.kind, .int .i64 m.frm, .int .i64 m.dst, .int .i64 m.term, .int .i64 m.index, .int .i64 m.logTerm, .int .i64 m.commit, .bool m.yes, .slice ea m.ents.length ec, .int .i64 m.off, .string ⟨m.piece.toArray⟩, .bool m.done, .slice ma m.mems.length mc], .int .i64 me] w fun e w' => e = .returned (.bool true) ∧ Below w.heap.size w w' := by
  have hm1 : 0 ≤ me := by omega
  have hm2 : decide (me < 16) = false := decide_eq_false (by omega)
  have HN := fun W => new_none W me (fun h => by omega)
  clear hm
  go_enter Try.func3, Try.ntmps3
  go_upto_region 1 with fail
  have hb1 := bl_al (Below.refl w.heap.size w) (.cells #[.int .i64 m.kind, .int .i64 m.frm, .int .i64 m.dst, .int .i64 m.term, .int .i64 m.index, .int .i64 m.logTerm, .int .i64 m.commit, .bool m.yes, .slice ea m.ents.length ec, .int .i64 m.off, .string ⟨m.piece.toArray⟩, .bool m.done, .slice ma m.mems.length mc] 25)
  have hX1 := Blk.new w #[.int .i64 m.kind, .int .i64 m.frm, .int .i64 m.dst, .int .i64 m.term, .int .i64 m.index, .int .i64 m.logTerm, .int .i64 m.commit, .bool m.yes, .slice ea m.ents.length ec, .int .i64 m.off, .string ⟨m.piece.toArray⟩, .bool m.done, .slice ma m.mems.length mc] 25
  generalize w.alloc (.cells #[.int .i64 m.kind, .int .i64 m.frm, .int .i64 m.dst, .int .i64 m.term, .int .i64 m.index, .int .i64 m.logTerm, .int .i64 m.commit, .bool m.yes, .slice ea m.ents.length ec, .int .i64 m.off, .string ⟨m.piece.toArray⟩, .bool m.done, .slice ma m.mems.length mc] 25) = w1 at *
  have e4 := hX1.cell 4
  have e10 := hX1.cell 10
  go_upto_region 4 with (first
    | (go_at_call 6; refine (propose_nil _ _).mono ?_; rintro e w2 ⟨rfl, hw2⟩; replace hw2 := hw2.symm; subst hw2)
    | (go_at_call 7; refine (entry_nil _ _).mono ?_; rintro e w2 ⟨rfl, hw2⟩))
  have hb3 := bl_al (hb1.trans (hw2.mono hb1.size)) (.cells #[.int .i64 0, .string ⟨#[]⟩, .bool false, .slice none 0 0] 31)
  have hX3 := (hX1.belowSize hw2).alloc (.cells #[.int .i64 0, .string ⟨#[]⟩, .bool false, .slice none 0 0] 31)
  generalize w2.alloc (.cells #[.int .i64 0, .string ⟨#[]⟩, .bool false, .slice none 0 0] 31) = w3 at *
  have e12 := hX3.cell 12
  clear e4 e10 hX1 hb1
  go_wp2_with (first
    | (go_at_call 8; refine (change_nil _ _ _ _).mono ?_; rintro e w4 ⟨rfl, hw4⟩; have hb4 := hb3.trans (hw4.mono hb3.size); have hX4 := hX3.belowSize hw4)
    | (go_at_call 9; refine (HN _).mono ?_; rintro e w5 hN; obtain ⟨rfl, hw5⟩ := hN; clear HN; have hb5 := hb4.trans (hw5.mono hb4.size); have hX5 := hX4.belowSize hw5)
    | (go_at_call 10; refine (awake_any _).mono ?_; rintro e w6 ⟨rfl, hw6⟩; have hb6 := hb5.trans (hw6.mono hb5.size); have hX6 := hX5.belowSize hw6; clear e12; have e0 := hX6.cell 0; have e1 := hX6.cell 1; have e2 := hX6.cell 2; have e3 := hX6.cell 3; have e4 := hX6.cell 4; have e5 := hX6.cell 5; have e6 := hX6.cell 6; have e7 := hX6.cell 7; have e8 := hX6.cell 8; have e9 := hX6.cell 9; have e10 := hX6.cell 10; have e11 := hX6.cell 11; have e12 := hX6.cell 12)
    | (go_at_call 11; refine (tick_nil _).mono ?_; rintro e w7 ⟨rfl, hw7⟩; replace hw7 := hw7.symm; subst hw7)
    | (go_at_call 12; refine (step_nil _ m ea ec ma mc).mono ?_; rintro e w8 ⟨rfl, hw8⟩; have hb8 := hb6.trans (hw8.mono hb6.size); have hX8 := hX6.belowSize hw8; clear e0 e1 e2 e3 e4 e5 e6 e7 e8 e9 e10 e11 e12; have e4 := hX8.cell 4; have e10 := hX8.cell 10)
    | (go_at_call 13; refine (compact_nil _ _ _).mono ?_; rintro e w9 ⟨rfl, hw9⟩; replace hw9 := hw9.symm; subst hw9)
    | (go_at_call 14; refine (members_nil _).mono ?_; rintro e w9 ⟨rfl, hw9⟩; replace hw9 := hw9.symm; subst hw9)
    | (go_at_call 15; refine (hard_nil _).mono ?_; rintro e w10 ⟨rfl, hw10⟩; have hb10 := hb8.trans (hw10.mono hb8.size))
    | (go_at_call 16; refine (role_nil _).mono ?_; rintro e w9 ⟨rfl, hw9⟩; replace hw9 := hw9.symm; subst hw9)
    | (go_at_call 17; refine (leader_nil _).mono ?_; rintro e w9 ⟨rfl, hw9⟩; replace hw9 := hw9.symm; subst hw9)
    | (go_at_call 18; refine (commit_nil _).mono ?_; rintro e w9 ⟨rfl, hw9⟩; replace hw9 := hw9.symm; subst hw9)
    | (go_at_call 19; refine (term_nil _).mono ?_; rintro e w9 ⟨rfl, hw9⟩; replace hw9 := hw9.symm; subst hw9))
  go_ret
  exact ⟨rfl, hb10⟩
end
end Go.Proofs.Ytahpkahbifnndaa
