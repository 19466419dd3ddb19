/- A message, out of what its argument reads as. RaftNil's function: a nil node answers as the document says. -/
import Derived.Test.YtahpkahbifnndaaRld
import Derived.Test.YtahpkahbifnndaaRaw
import Derived.Test.YtahpkahbifnndaaRnn
import Derived.Test.YtahpkahbifnndaaRax
namespace Go.Proofs.Ytahpkahbifnndaa
open Go Go.ChangeShapes Go.WideShapes Go.ChangeAt Go.WideMaps Go.WideElems Go.RowKit
theorem clMsg : Try.prog.cellsOf 25 = 13 := by kernel_rfl
theorem clSlE : Try.prog.cellsOf 22 = 1 := by kernel_rfl
/-- The numbers of a message are such as there are. -/
structure MsgI (m : MSG) : Prop where
  kind : (Lit.int .i64 m.kind).wf = true
  frm : (Lit.int .i64 m.frm).wf = true
  dst : (Lit.int .i64 m.dst).wf = true
  term : (Lit.int .i64 m.term).wf = true
  index : (Lit.int .i64 m.index).wf = true
  logTerm : (Lit.int .i64 m.logTerm).wf = true
  commit : (Lit.int .i64 m.commit).wf = true
  off : (Lit.int .i64 m.off).wf = true
/-- The entries and the members of a message lie in memory. -/
structure MsgA (w : World) (m : MSG) (ea : Option Addr) (ec : Nat) (ma : Option Addr) (mc : Nat) : Prop where
  ints : MsgI m
  ents : EA w ea m.ents
  entc : m.ents.length ≤ ec
  entl : m.ents.length ≤ 17592186044416
  mems : IA w ma m.mems
  memc : m.mems.length ≤ mc
  meml : m.mems.length ≤ 17592186044416
  piece : m.piece.length ≤ maxLen
set_option maxRecDepth 100000 in
theorem ents_len {H : Type} {enc : TypeId × Value → H} {W : World} {n : Nat} {a0 : Option Addr} {len cap : Nat} {x : DataW H × List MemPlace} (hf : DataW.trod enc Try.prog W 0 (fun _ => true) true n 22 [.slice a0 len cap] = some x) (hlg : Lgt 22 x.1) : len ≤ 17592186044416 := by
  rcases DataW.trod_slice Try.underlying22 hf with ⟨hcs, _⟩ | ⟨a, l, c, elems, rest, n, _, hcs, hx, _, hl, hm, hel, hc, _, _⟩
  · simp at hcs
    obtain ⟨_, rfl, _⟩ := hcs
    exact Nat.zero_le _
  · simp at hcs
    obtain ⟨rfl, rfl, rfl⟩ := hcs
    have hbe : 8 ≤ Try.prog.bytesOf 31 := by
      have : Try.prog.bytesOf 31 = 56 := by kernel_rfl
      omega
    unfold Lgt at hlg
    rw [hx] at hlg
    have h2 := List.all_eq_true.1 hlg ((elems.length + rest.length) * Try.prog.bytesOf 31) (by simp [DataW.weights, Try.underlying22])
    have h3 := of_decide_eq_true h2
    unfold reachBytes at h3
    have h4 : (elems.length + rest.length) * 8 ≤ (elems.length + rest.length) * Try.prog.bytesOf 31 := Nat.mul_le_mul (Nat.le_refl _) hbe
    omega
set_option maxRecDepth 100000 in
/-- The cells of a message. -/
theorem msg_cs {H : Type} {enc : TypeId × Value → H} {W : World} {n : Nat} {cs : List Value} {x : DataW H × List MemPlace} (hf : DataW.trod enc Try.prog W 0 (fun _ => true) true n 25 cs = some x) (hlg : Lgt 25 x.1) :
    ∃ (m : MSG) (ea : Option Addr) (ec : Nat) (ma : Option Addr) (mc : Nat), cs = (mcells m (.slice ea m.ents.length ec) (.slice ma m.mems.length mc)).toList ∧ MsgA W m ea ec ma mc := by
  obtain ⟨xs, f, _, hx, hl, hxl, hfd⟩ := DataW.trod_struct Try.underlying25 hf
  rw [clMsg] at hl
  match xs, hxl, cs, hl with
  | [y0, y1, y2, y3, y4, y5, y6, y7, y8, y9, y10, y11, y12], _, [v0, v1, v2, v3, v4, v5, v6, v7, v8, v9, v10, v11, v12], _ =>
    have g0 := hfd 0 _ rfl
    have g1 := hfd 1 _ rfl
    have g2 := hfd 2 _ rfl
    have g3 := hfd 3 _ rfl
    have g4 := hfd 4 _ rfl
    have g5 := hfd 5 _ rfl
    have g6 := hfd 6 _ rfl
    have g7 := hfd 7 _ rfl
    have g8 := hfd 8 _ rfl
    have g9 := hfd 9 _ rfl
    have g10 := hfd 10 _ rfl
    have g11 := hfd 11 _ rfl
    have g12 := hfd 12 _ rfl
    simp [cl3, cl9, clBool, clSlI, clSlE] at g0 g1 g2 g3 g4 g5 g6 g7 g8 g9 g10 g11 g12
    obtain ⟨c0, e0, _, w0⟩ := DataW.trod_int Try.underlying3 g0
    obtain ⟨c1, e1, _, w1⟩ := DataW.trod_int Try.underlying3 g1
    obtain ⟨c2, e2, _, w2⟩ := DataW.trod_int Try.underlying3 g2
    obtain ⟨c3, e3, _, w3⟩ := DataW.trod_int Try.underlying3 g3
    obtain ⟨c4, e4, _, w4⟩ := DataW.trod_int Try.underlying3 g4
    obtain ⟨c5, e5, _, w5⟩ := DataW.trod_int Try.underlying3 g5
    obtain ⟨c6, e6, _, w6⟩ := DataW.trod_int Try.underlying3 g6
    obtain ⟨c7, e7, _⟩ := DataW.trod_bool Try.underlying4 g7
    obtain ⟨c9, e9, _, w9⟩ := DataW.trod_int Try.underlying3 g9
    obtain ⟨c10, e10, _, w10⟩ := DataW.trod_string Try.underlying9 g10
    obtain ⟨c11, e11, _⟩ := DataW.trod_bool Try.underlying4 g11
    simp at e0 e1 e2 e3 e4 e5 e6 e7 e9 e10 e11
    subst e0 e1 e2 e3 e4 e5 e6 e7 e9 e10 e11
    have hs8 : ∃ a len cap, v8 = .slice a len cap := by
      rcases DataW.trod_slice Try.underlying22 g8 with ⟨hcs, _⟩ | ⟨a, l, c, elems, rest, n, _, hcs, _⟩
      · simp at hcs; exact ⟨_, _, _, hcs⟩
      · simp at hcs; exact ⟨_, _, _, hcs⟩
    have hs12 : ∃ a len cap, v12 = .slice a len cap := by
      rcases DataW.trod_slice Try.underlying23 g12 with ⟨hcs, _⟩ | ⟨a, l, c, elems, rest, n, _, hcs, _⟩
      · simp at hcs; exact ⟨_, _, _, hcs⟩
      · simp at hcs; exact ⟨_, _, _, hcs⟩
    obtain ⟨a8, len8, cap8, rfl⟩ := hs8
    obtain ⟨a12, len12, cap12, rfl⟩ := hs12
    have hwts : ∀ (j : Nat) (t : TypeId) (d : DataW H), ([3, 3, 3, 3, 3, 3, 3, 4, 22, 3, 9, 4, 23] : List TypeId)[j]? = some t → [y0.1, y1.1, y2.1, y3.1, y4.1, y5.1, y6.1, y7.1, y8.1, y9.1, y10.1, y11.1, y12.1][j]? = some d → Lgt t d := fun j t d h1 h2 => by
      unfold Lgt at hlg ⊢
      rw [List.all_eq_true] at hlg ⊢
      intro z hz
      refine hlg z ?_
      rw [hx]
      show z ∈ DataW.weights Try.prog 25 (DataW.agg [y0.1, y1.1, y2.1, y3.1, y4.1, y5.1, y6.1, y7.1, y8.1, y9.1, y10.1, y11.1, y12.1])
      unfold DataW.weights
      rw [Try.underlying25]
      exact DataW.weights_mem_each (j := j) (t := t) (d := d) h1 h2 z hz
    obtain ⟨l12, hl12, hI12, hc12, hw12⟩ := ints_of g12
    have hlg8 : Lgt 22 y8.1 := hwts 8 _ _ rfl rfl
    obtain ⟨l8, hl8, hE8, hc8⟩ := ents_of g8 hlg8
    have hn8 := ents_len g8 hlg8
    refine ⟨⟨c0, c1, c2, c3, c4, c5, c6, c7, l8, c9, c10.data.toList, c11, l12⟩, a8, cap8, a12, cap12, ?_, ⟨⟨w0, w1, w2, w3, w4, w5, w6, w9⟩, hE8, ?_, ?_, hI12, ?_, ?_, ?_⟩⟩
    · unfold mcells
      dsimp only
      rw [hl8, hl12]
    · show l8.length ≤ _; omega
    · show l8.length ≤ _; omega
    · show l12.length ≤ _; omega
    · have h12 := hw12 (hwts 12 _ _ rfl rfl)
      show l12.length ≤ _
      omega
    · show c10.data.toList.length ≤ _
      have : c10.size = c10.data.toList.length := rfl
      omega
set_option maxRecDepth 100000 in
/-- A message out of its argument. -/
theorem msg_of {H : Type} {enc : TypeId × Value → H} {W : World} {r : Reach} {base : Nat} {v : Value} {d : DataW H} {p : List MemPlace} (hv : Value.okWide Try.prog W r base 25 v) (h : DataW.Trod enc Try.prog W 0 (fun _ => true) true 25 v d p) (hlg : Lgt 25 d) :
    ∃ (m : MSG) (ea : Option Addr) (ec : Nat) (ma : Option Addr) (mc : Nat), v = .agg (mcells m (.slice ea m.ents.length ec) (.slice ma m.mems.length mc)) ∧ MsgA W m ea ec ma mc := by
  obtain ⟨cs, rfl, hsz⟩ := okWide_struct Try.underlying25 hv
  obtain ⟨fuel, hf⟩ := h
  obtain ⟨m, ea, ec, ma, mc, h1, h2⟩ := msg_cs hf hlg
  refine ⟨m, ea, ec, ma, mc, ?_, h2⟩
  obtain ⟨cl⟩ := cs
  have h1 : cl = _ := h1
  rw [h1]
end Go.Proofs.Ytahpkahbifnndaa
namespace Go.Proofs.Ytahpkahbifnndaa
open Go Go.RowKit Go.Maps
/-- New of one that is alone in nothing: no term, no log, no members. -/
theorem new_bare (w : World) (me : Int) (hm : 0 ≤ me ∧ me < 16) : Calls Try.prog 9 #[.int .i64 me, .agg #[.int .i64 0, .int .i64 (-1), .int .i64 0, .int .i64 0, .string ⟨#[]⟩, .slice none 0 0, .slice none 0 0], .slice none 0 0] w fun e w' => ∃ p, e = .returned (.tuple #[.pointer p, .int .i64 0]) ∧ Below w.heap.size w w' := by
  have h : Calls Try.prog 9 #[.int .i64 me, .agg #[.int .i64 0, .int .i64 (-1), .int .i64 0, .int .i64 0, .string ⟨#[]⟩, .slice none 0 0, .slice none 0 0], .slice none 0 0] w (NewP w me ⟨0, -1, 0, 0, [], [], []⟩ []) := by
    refine new_any w me ⟨0, -1, 0, 0, [], [], []⟩ [] none none none 0 0 0 ?_ ?_ (fun i x hx => by simp at hx) (fun i hi => absurd hi (Nat.not_lt_zero _)) rfl
    · unfold RN.newOk
      rw [decide_eq_true hm]
      rfl
    · refine ⟨hm, ?_, ?_, ?_, ?_, ?_, ?_, ?_, ?_, ?_, ?_, ?_, ?_⟩
      · show (0 : Int) ≤ 0 ∧ (0 : Int) ≤ _; omega
      · exact Int.le_refl 0
      · show (0 : Int) + ((0 : Nat) : Int) ≤ _; omega
      · show -9223372036854775808 ≤ (0 : Int) ∧ (0 : Int) ≤ _; omega
      · exact Nat.zero_le _
      · exact Nat.zero_le _
      · exact Nat.zero_le _
      · exact Nat.zero_le _
      · show (0 : Int) ≤ 0 ∧ (0 : Int) ≤ 0 + ((0 : Nat) : Int); omega
      · intro x; show (0 : Int) ≤ 0 ∧ (0 : Int) ≤ _; omega
      · intro x; show (0 : Int) ≤ 0 ∧ (0 : Int) ≤ _; omega
      · intro x; show (0 : Int) ≤ 0 ∧ (0 : Int) ≤ _; omega
  refine h.mono ?_
  rintro e w' ⟨F, nb, M, lb, rfl, hb, _⟩
  exact ⟨_, rfl, hb⟩
theorem new_none (w : World) (me : Int) (hm : ¬ (0 ≤ me ∧ me < 16)) : Calls Try.prog 9 #[.int .i64 me, .agg #[.int .i64 0, .int .i64 (-1), .int .i64 0, .int .i64 0, .string ⟨#[]⟩, .slice none 0 0, .slice none 0 0], .slice none 0 0] w fun e w' => e = .returned (.tuple #[.pointer none, .int .i64 1]) ∧ Below w.heap.size w w' := by
  refine new_bad w me ⟨0, -1, 0, 0, [], [], []⟩ none none none 0 0 0 0 ?_
  unfold RN.newOk
  rw [decide_eq_false hm]
  rfl
theorem run_fieldH (w : World) : (Instr.field 39 (.agg #[.int .i64 0, .int .i64 (-1), .int .i64 0, .int .i64 0, .string ⟨#[]⟩, .slice none 0 0, .slice none 0 0]) 1).run Try.prog w = .ok (.int .i64 (-1)) w := by kernel_rfl
section
attribute [local go_sem] run_fieldH
variable (w : World) (m : MSG) (ea : Option Addr) (ec : Nat) (ma : Option Addr) (mc : Nat) (me : Int)
set_option maxRecDepth 100000 in
set_option maxHeartbeats 2000000 in
theorem raftNil_yes (hm : 0 ≤ me ∧ me < 16) : Calls Try.prog 3 #[.agg #[.int .i64 m.kind, .int .i64 m.frm, .int .i64 m.dst, .int .i64 m.term, .int .i64 m.index, .int .i64 m.logTerm, .int .i64 m.commit, .bool m.yes, .slice ea m.ents.length ec, .int .i64 m.off, .string ⟨m.piece.toArray⟩, .bool m.done, .slice ma m.mems.length mc], .int .i64 me] w fun e w' => e = .returned (.bool true) ∧ Below w.heap.size w w' := by
  have hm1 := hm.1
  have hm2 := hm.2
  have HN := fun W => new_bare W me hm
  clear hm
  go_enter Try.func3, Try.ntmps3
  go_upto_region 1 with fail
  have hb1 := bl_al (Below.refl w.heap.size w) (.cells #[.int .i64 m.kind, .int .i64 m.frm, .int .i64 m.dst, .int .i64 m.term, .int .i64 m.index, .int .i64 m.logTerm, .int .i64 m.commit, .bool m.yes, .slice ea m.ents.length ec, .int .i64 m.off, .string ⟨m.piece.toArray⟩, .bool m.done, .slice ma m.mems.length mc] 25)
  have hX1 := Blk.new w #[.int .i64 m.kind, .int .i64 m.frm, .int .i64 m.dst, .int .i64 m.term, .int .i64 m.index, .int .i64 m.logTerm, .int .i64 m.commit, .bool m.yes, .slice ea m.ents.length ec, .int .i64 m.off, .string ⟨m.piece.toArray⟩, .bool m.done, .slice ma m.mems.length mc] 25
  generalize w.alloc (.cells #[.int .i64 m.kind, .int .i64 m.frm, .int .i64 m.dst, .int .i64 m.term, .int .i64 m.index, .int .i64 m.logTerm, .int .i64 m.commit, .bool m.yes, .slice ea m.ents.length ec, .int .i64 m.off, .string ⟨m.piece.toArray⟩, .bool m.done, .slice ma m.mems.length mc] 25) = w1 at *
  have e4 := hX1.cell 4
  have e10 := hX1.cell 10
  go_upto_region 4 with (first
    | (go_at_call 6; refine (propose_nil _ _).mono ?_; rintro e w2 ⟨rfl, hw2⟩; replace hw2 := hw2.symm; subst hw2)
    | (go_at_call 7; refine (entry_nil _ _).mono ?_; rintro e w2 ⟨rfl, hw2⟩))
  have hb3 := bl_al (hb1.trans (hw2.mono hb1.size)) (.cells #[.int .i64 0, .string ⟨#[]⟩, .bool false, .slice none 0 0] 31)
  have hX3 := (hX1.belowSize hw2).alloc (.cells #[.int .i64 0, .string ⟨#[]⟩, .bool false, .slice none 0 0] 31)
  generalize w2.alloc (.cells #[.int .i64 0, .string ⟨#[]⟩, .bool false, .slice none 0 0] 31) = w3 at *
  have e12 := hX3.cell 12
  clear e4 e10 hX1 hb1
  go_wp2_with (first
    | (go_at_call 8; refine (change_nil _ _ _ _).mono ?_; rintro e w4 ⟨rfl, hw4⟩; have hb4 := hb3.trans (hw4.mono hb3.size); have hX4 := hX3.belowSize hw4)
    | (go_at_call 9; refine (HN _).mono ?_; rintro e w5 hN; obtain ⟨p5, rfl, hw5⟩ := hN; clear HN; have hb5 := hb4.trans (hw5.mono hb4.size); have hX5 := hX4.belowSize hw5)
    | (go_at_call 10; refine (awake_any _).mono ?_; rintro e w6 ⟨rfl, hw6⟩; have hb6 := hb5.trans (hw6.mono hb5.size); have hX6 := hX5.belowSize hw6; clear e12; have e0 := hX6.cell 0; have e1 := hX6.cell 1; have e2 := hX6.cell 2; have e3 := hX6.cell 3; have e4 := hX6.cell 4; have e5 := hX6.cell 5; have e6 := hX6.cell 6; have e7 := hX6.cell 7; have e8 := hX6.cell 8; have e9 := hX6.cell 9; have e10 := hX6.cell 10; have e11 := hX6.cell 11; have e12 := hX6.cell 12)
    | (go_at_call 11; refine (tick_nil _).mono ?_; rintro e w7 ⟨rfl, hw7⟩; replace hw7 := hw7.symm; subst hw7)
    | (go_at_call 12; refine (step_nil _ m ea ec ma mc).mono ?_; rintro e w8 ⟨rfl, hw8⟩; have hb8 := hb6.trans (hw8.mono hb6.size); have hX8 := hX6.belowSize hw8; clear e0 e1 e2 e3 e4 e5 e6 e7 e8 e9 e10 e11 e12; have e4 := hX8.cell 4; have e10 := hX8.cell 10)
    | (go_at_call 13; refine (compact_nil _ _ _).mono ?_; rintro e w9 ⟨rfl, hw9⟩; replace hw9 := hw9.symm; subst hw9)
    | (go_at_call 14; refine (members_nil _).mono ?_; rintro e w9 ⟨rfl, hw9⟩; replace hw9 := hw9.symm; subst hw9)
    | (go_at_call 15; refine (hard_nil _).mono ?_; rintro e w10 ⟨rfl, hw10⟩; have hb10 := hb8.trans (hw10.mono hb8.size))
    | (go_at_call 16; refine (role_nil _).mono ?_; rintro e w9 ⟨rfl, hw9⟩; replace hw9 := hw9.symm; subst hw9)
    | (go_at_call 17; refine (leader_nil _).mono ?_; rintro e w9 ⟨rfl, hw9⟩; replace hw9 := hw9.symm; subst hw9)
    | (go_at_call 18; refine (commit_nil _).mono ?_; rintro e w9 ⟨rfl, hw9⟩; replace hw9 := hw9.symm; subst hw9)
    | (go_at_call 19; refine (term_nil _).mono ?_; rintro e w9 ⟨rfl, hw9⟩; replace hw9 := hw9.symm; subst hw9))
  go_ret
  exact ⟨rfl, hb10⟩
end
end Go.Proofs.Ytahpkahbifnndaa
