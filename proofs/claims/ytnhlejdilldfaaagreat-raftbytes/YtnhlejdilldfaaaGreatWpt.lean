/- What Put does: a message as bytes. -/
import Derived.Test.YtnhlejdilldfaaaGreatWpe
import Derived.Test.YtnhlejdilldfaaaGreatRhd
import Derived.Test.YtnhlejdilldfaaaGreatTkm
namespace Go.Proofs.YtnhlejdilldfaaaGreat
open Go Go.RowKit Go.Maps
/-- The eight counts of a message. -/
def m8 (m : MSG) : Nat → Int
  | 0 => m.kind
  | 1 => m.frm
  | 2 => m.dst
  | 3 => m.term
  | 4 => m.index
  | 5 => m.logTerm
  | 6 => m.commit
  | _ => m.off
def cB (m : MSG) (i : Nat) : List UInt8 := (List.range i).flatMap fun j => num (m8 m j).toNat 4
theorem cB_succ (m : MSG) (i : Nat) : cB m (i + 1) = cB m i ++ num (m8 m i).toNat 4 := by unfold cB; rw [List.range_succ, List.flatMap_append]; simp
theorem cB_len (m : MSG) : ∀ i, (cB m i).length = 4 * i
  | 0 => rfl
  | i + 1 => by rw [cB_succ, List.length_append, cB_len m i, num_length]; omega
def lsB (l : List LE) : List UInt8 := l.flatMap lB
theorem lsB_take {l : List LE} {i : Nat} (h : i < l.length) : lsB (l.take (i + 1)) = lsB (l.take i) ++ lB l[i] := by
  unfold lsB
  rw [List.take_succ_eq_append_getElem h, List.flatMap_append]
  simp
/-- A message's bytes. -/
def mB (m : MSG) : List UInt8 := cB m 8 ++ (num m.yes.toNat 1 ++ (num m.done.toNat 1 ++ (num m.ents.length 4 ++ (lsB m.ents ++ ((num m.piece.length 4 ++ m.piece) ++ (num (decide (0 < m.mems.length)).toNat 1 ++ if 0 < m.mems.length then memB m.mems else []))))))
/-- A message that Put may put. -/
structure PutOk (m : MSG) : Prop where
  ints : ∀ i, m8 m i ≤ 9223372036854775807
  ents : ∀ e ∈ m.ents, (e.conf = true → OkM e.mem) ∧ e.term ≤ 9223372036854775807
  mems : 0 < m.mems.length → OkM m.mems
  piece : m.piece.length ≤ 4294967296
  len : m.ents.length ≤ 16
  text : ∀ e ∈ m.ents, e.s.length ≤ 1048576
theorem lsB_len {l : List LE} (h : ∀ e ∈ l, e.s.length ≤ 1048576 ∧ (e.conf = true → OkM e.mem)) : (lsB l).length ≤ 1048600 * l.length := by
  induction l with
  | nil => exact Nat.zero_le _
  | cons e r ih =>
    have h1 := ih (fun x hx => h x (List.mem_cons_of_mem _ hx))
    have h2 := h e (List.mem_cons_self ..)
    have h3 := lB_len e
    have e1 : lsB (e :: r) = lB e ++ lsB r := rfl
    rw [e1, List.length_append, List.length_cons, h3]
    split
    · rename_i hc
      have := (h2.2 hc).len
      omega
    · omega
theorem ix8_0 (a0 a1 a2 a3 a4 a5 a6 a7 : Int) (w : World) : (Instr.index 94 (.agg #[.int .i64 a0, .int .i64 a1, .int .i64 a2, .int .i64 a3, .int .i64 a4, .int .i64 a5, .int .i64 a6, .int .i64 a7]) (.int .i64 0)).run Tryz.prog w = .ok (.int .i64 a0) w := by kernel_rfl
theorem ix8_1 (a0 a1 a2 a3 a4 a5 a6 a7 : Int) (w : World) : (Instr.index 94 (.agg #[.int .i64 a0, .int .i64 a1, .int .i64 a2, .int .i64 a3, .int .i64 a4, .int .i64 a5, .int .i64 a6, .int .i64 a7]) (.int .i64 1)).run Tryz.prog w = .ok (.int .i64 a1) w := by kernel_rfl
theorem ix8_2 (a0 a1 a2 a3 a4 a5 a6 a7 : Int) (w : World) : (Instr.index 94 (.agg #[.int .i64 a0, .int .i64 a1, .int .i64 a2, .int .i64 a3, .int .i64 a4, .int .i64 a5, .int .i64 a6, .int .i64 a7]) (.int .i64 2)).run Tryz.prog w = .ok (.int .i64 a2) w := by kernel_rfl
theorem ix8_3 (a0 a1 a2 a3 a4 a5 a6 a7 : Int) (w : World) : (Instr.index 94 (.agg #[.int .i64 a0, .int .i64 a1, .int .i64 a2, .int .i64 a3, .int .i64 a4, .int .i64 a5, .int .i64 a6, .int .i64 a7]) (.int .i64 3)).run Tryz.prog w = .ok (.int .i64 a3) w := by kernel_rfl
theorem ix8_4 (a0 a1 a2 a3 a4 a5 a6 a7 : Int) (w : World) : (Instr.index 94 (.agg #[.int .i64 a0, .int .i64 a1, .int .i64 a2, .int .i64 a3, .int .i64 a4, .int .i64 a5, .int .i64 a6, .int .i64 a7]) (.int .i64 4)).run Tryz.prog w = .ok (.int .i64 a4) w := by kernel_rfl
theorem ix8_5 (a0 a1 a2 a3 a4 a5 a6 a7 : Int) (w : World) : (Instr.index 94 (.agg #[.int .i64 a0, .int .i64 a1, .int .i64 a2, .int .i64 a3, .int .i64 a4, .int .i64 a5, .int .i64 a6, .int .i64 a7]) (.int .i64 5)).run Tryz.prog w = .ok (.int .i64 a5) w := by kernel_rfl
theorem ix8_6 (a0 a1 a2 a3 a4 a5 a6 a7 : Int) (w : World) : (Instr.index 94 (.agg #[.int .i64 a0, .int .i64 a1, .int .i64 a2, .int .i64 a3, .int .i64 a4, .int .i64 a5, .int .i64 a6, .int .i64 a7]) (.int .i64 6)).run Tryz.prog w = .ok (.int .i64 a6) w := by kernel_rfl
theorem ix8_7 (a0 a1 a2 a3 a4 a5 a6 a7 : Int) (w : World) : (Instr.index 94 (.agg #[.int .i64 a0, .int .i64 a1, .int .i64 a2, .int .i64 a3, .int .i64 a4, .int .i64 a5, .int .i64 a6, .int .i64 a7]) (.int .i64 7)).run Tryz.prog w = .ok (.int .i64 a7) w := by kernel_rfl
theorem ix8 (m : MSG) (i : Nat) (h : i < 8) (w : World) : (Instr.index 94 (.agg #[.int .i64 m.kind, .int .i64 m.frm, .int .i64 m.dst, .int .i64 m.term, .int .i64 m.index, .int .i64 m.logTerm, .int .i64 m.commit, .int .i64 m.off]) (.int .i64 i)).run Tryz.prog w = .ok (.int .i64 (m8 m i)) w := by
  rcases (by omega : i = 0 ∨ i = 1 ∨ i = 2 ∨ i = 3 ∨ i = 4 ∨ i = 5 ∨ i = 6 ∨ i = 7) with rfl | rfl | rfl | rfl | rfl | rfl | rfl | rfl
  · exact ix8_0 ..
  · exact ix8_1 ..
  · exact ix8_2 ..
  · exact ix8_3 ..
  · exact ix8_4 ..
  · exact ix8_5 ..
  · exact ix8_6 ..
  · exact ix8_7 ..
set_option maxRecDepth 100000 in
set_option maxHeartbeats 1000000 in
theorem put_any (m : MSG) (hm : PutOk m) (ea : Option Addr) (ec : Nat) (ma : Option Addr) (mc b : Nat) (x : List UInt8) (w w0 : World) (hB : Below w0.heap.size w0 w) (hb : w0.heap.size ≤ b) (hE : EA w0 ea m.ents) (_hec : m.ents.length ≤ ec) (hI : IA w0 ma m.mems) (_hmc : m.mems.length ≤ mc) (hW : WR w b x) (hx : x.length ≤ 4294967296) :
    Calls Tryz.prog 17 #[.pointer (some ⟨b, 0, none⟩), .agg (mcells m (.slice ea m.ents.length ec) (.slice ma m.mems.length mc))] w fun o w' => o = .returned (.tuple #[]) ∧ Puts w w' b x (mB m) := by
  have hlt : b < w.heap.size := by obtain ⟨sl, h1, _⟩ := hW.out; exact h1.lt
  unfold mcells
  have hb1 := bl_al (Below.refl w.heap.size w) (.cells #[.int .i64 m.kind, .int .i64 m.frm, .int .i64 m.dst, .int .i64 m.term, .int .i64 m.index, .int .i64 m.logTerm, .int .i64 m.commit, .bool m.yes, .slice ea m.ents.length ec, .int .i64 m.off, .string ⟨m.piece.toArray⟩, .bool m.done, .slice ma m.mems.length mc] 25)
  have hX := Blk.new w #[.int .i64 m.kind, .int .i64 m.frm, .int .i64 m.dst, .int .i64 m.term, .int .i64 m.index, .int .i64 m.logTerm, .int .i64 m.commit, .bool m.yes, .slice ea m.ents.length ec, .int .i64 m.off, .string ⟨m.piece.toArray⟩, .bool m.done, .slice ma m.mems.length mc] 25
  have hpl := hm.piece
  have hel := hm.len
  have hcl := cB_len m
  go_enter Tryz.func17, Tryz.ntmps17
  go_upto_region 1 with fail
  generalize w.alloc (.cells #[.int .i64 m.kind, .int .i64 m.frm, .int .i64 m.dst, .int .i64 m.term, .int .i64 m.index, .int .i64 m.logTerm, .int .i64 m.commit, .bool m.yes, .slice ea m.ents.length ec, .int .i64 m.off, .string ⟨m.piece.toArray⟩, .bool m.done, .slice ma m.mems.length mc] 25) = A at *
  have e0 := hX.cell 0; have e1 := hX.cell 1; have e2 := hX.cell 2; have e3 := hX.cell 3; have e4 := hX.cell 4; have e5 := hX.cell 5; have e6 := hX.cell 6; have e7 := hX.cell 7; have e8 := hX.cell 8; have e9 := hX.cell 9; have e10 := hX.cell 10; have e11 := hX.cell 11; have e12 := hX.cell 12
  have hWA := hW.below hb1
  have hBA : Below w0.heap.size w0 A := hB.trans (hb1.mono hB.size)
  have hltA : b < A.heap.size := by have := hb1.size; omega
  go_wp2_with fail
  go_loopw [25] (fun v25 wl => ∃ i : Nat, i ≤ 8 ∧ v25 = .int .i64 i ∧ Puts A wl b x (cB m i)) (fun v25 _ => 8 - (intOf v25).toNat)
  case atStart => exact ⟨0, by omega, rfl, ⟨Below.refl _ _, Keeps.refl _, by show WR A b (x ++ []); rw [List.append_nil]; exact hWA⟩⟩
  case round =>
    obtain ⟨i, hil, rfl, hP⟩ := hrel
    rename World => wl
    by_cases hl8 : i < 8
    · have hz1 : (0 : Int) ≤ (i : Int) := by omega
      have hz2 : (i : Int) < 8 := by omega
      have hix := fun W => ix8 m i hl8 W
      have hix1 := hix wl
      have hw3 : IntKind.i64.wrap ((i : Int) + 1) = ((i + 1 : Nat) : Int) := by rw [IntKind.wrap_i64]; omega
      have hsu := cB_succ m i
      have hci := hcl i
      have hint := hm.ints i
      generalize m8 m i = z at *
      have HC := wcount_any b (x ++ cB m i) z wl hP.wr (by rw [List.length_append]; omega) hint
      go_wp2_with (go_at_call 56; refine HC.mono ?_; rintro o w2 ⟨rfl, hP2⟩; clear HC)
      go_roundw
      case rel => exact ⟨i + 1, by omega, by go_num, by rw [hsu]; exact hP.trans hP2⟩
      case measure => simp [intOf]; omega
    · obtain rfl : i = 8 := by omega
      have hz2 : ¬ ((8 : Int) < 8) := by omega
      have hX6 := hX.puts hP (by decide) (by decide)
      have hc8 := hcl 8
      have HO1 := fun W (h : WR W b (x ++ cB m 8)) => wbool_any b (x ++ cB m 8) m.yes W h (by rw [List.length_append]; omega)
      have hn1 := num_length 1 m.yes.toNat
      have hn2 := num_length 1 m.done.toNat
      have hn3 := num_length 4 m.ents.length
      have HMB : Hid (mB m = cB m 8 ++ (num m.yes.toNat 1 ++ (num m.done.toNat 1 ++ (num m.ents.length 4 ++ (lsB m.ents ++ ((num m.piece.length 4 ++ m.piece) ++ (num (decide (0 < m.mems.length)).toNat 1 ++ if 0 < m.mems.length then memB m.mems else []))))))) := by exact rfl
      clear hcl e0 e1 e2 e3 e4 e5 e6 e7 e8 e9 e10 e11 e12
      generalize cB m 8 = c8 at *
      generalize num m.yes.toNat 1 = n1 at *
      have HO2 := fun W (h : WR W b ((x ++ c8) ++ n1)) => wbool_any b ((x ++ c8) ++ n1) m.done W h (by rw [List.length_append, List.length_append]; omega)
      generalize num m.done.toNat 1 = n2 at *
      have HC3 := fun W (h : WR W b (((x ++ c8) ++ n1) ++ n2)) => wcount_any b (((x ++ c8) ++ n1) ++ n2) (m.ents.length : Nat) W h (by simp only [List.length_append]; omega) (by omega)
      rw [Int.toNat_natCast] at HC3
      generalize num m.ents.length 4 = n3 at *
      have e7 := hX6.cell 7
      go_wp2_with (first
        | (go_at_call 57; refine (HO1 _ hP.wr).mono ?_; rintro o w2 ⟨rfl, hP2⟩; clear HO1; have hX2 := hX6.puts hP2 (by decide) (by decide); have e11 := hX2.cell 11)
        | (go_at_call 57; refine (HO2 _ hP2.wr).mono ?_; rintro o w3 ⟨rfl, hP3⟩; clear HO2; have hX3 := hX2.puts hP3 (by decide) (by decide); have e8 := hX3.cell 8)
        | (go_at_call 56; refine (HC3 _ hP3.wr).mono ?_; rintro o w4 ⟨rfl, hP4⟩; clear HC3; have hX4 := hX3.puts hP4 (by decide) (by decide); have e8 := hX4.cell 8))
      clear e7 e11
      have hP4' := hP.trans (hP2.trans (hP3.trans hP4))
      have hlen4 : (x ++ (c8 ++ (n1 ++ (n2 ++ n3)))).length ≤ 4294967400 := by simp only [List.length_append]; omega
      have hn9 : (c8 ++ (n1 ++ (n2 ++ n3))).length ≤ 100 := by simp only [List.length_append]; omega
      generalize hh4 : c8 ++ (n1 ++ (n2 ++ n3)) = h4 at *
      have HMB2 : Hid (mB m = h4 ++ (lsB m.ents ++ ((num m.piece.length 4 ++ m.piece) ++ (num (decide (0 < m.mems.length)).toNat 1 ++ if 0 < m.mems.length then memB m.mems else [])))) := by
        show _ = _
        rw [HMB.out, ← hh4]
        simp only [List.append_assoc]
      clear HMB hh4 hP hP2 hP3 hP4 hX hX2 hX3 hX6 hWA
      have hbe := fun e he => (hm.ents e he)
      go_loopw [48] (fun v48 wl => ∃ i : Nat, i ≤ m.ents.length ∧ v48 = .int .i64 i ∧ Puts A wl b x (h4 ++ lsB (m.ents.take i)) ∧ Blk wl w.heap.size #[.int .i64 m.kind, .int .i64 m.frm, .int .i64 m.dst, .int .i64 m.term, .int .i64 m.index, .int .i64 m.logTerm, .int .i64 m.commit, .bool m.yes, .slice ea m.ents.length ec, .int .i64 m.off, .string ⟨m.piece.toArray⟩, .bool m.done, .slice ma m.mems.length mc] 25) (fun v48 _ => m.ents.length - (intOf v48).toNat)
      case atStart => exact ⟨0, by omega, rfl, by rw [List.take_zero]; show Puts A _ b x (h4 ++ []); rw [List.append_nil]; exact hP4', hX4⟩
      case round =>
        clear hP4' hX4 e8
        obtain ⟨i, hil, rfl, hP, hX⟩ := hrel
        rename World => wl
        have hWl := hP.wr
        have hBl : Below w0.heap.size w0 wl := hBA.trans (hP.below.mono hb)
        by_cases hlt : i < m.ents.length
        · obtain ⟨g, o, me, ce, rfl, hr, hIm, hml⟩ := hE i hlt
          have hr2 : wl.rangeAt g (o + i * 4) (lec m.ents[i] (.slice me m.ents[i].mem.length ce)).toList := fun j v hv => by
            have h0 := hr j v hv
            exact (cell_of_block (hBl.block g (World.block_lt_of_cell? _ _ h0))).trans h0
          have hsu := lsB_take hlt
          have hbi := hbe _ (List.getElem_mem hlt)
          have hti := hm.text _ (List.getElem_mem hlt)
          have hlb : (lsB (m.ents.take i)).length ≤ 1048600 * 16 := by
            refine Nat.le_trans (lsB_len (fun e he => ⟨hm.text e (List.mem_of_mem_take he), (hm.ents e (List.mem_of_mem_take he)).1⟩)) ?_
            rw [List.length_take]
            exact Nat.mul_le_mul (Nat.le_refl _) (by omega)
          have hz1 : (0 : Int) ≤ (i : Int) := by omega
          have hz2 : (i : Int) < (m.ents.length : Int) := by omega
          have hw3 : IntKind.i64.wrap ((i : Int) + 1) = ((i + 1 : Nat) : Int) := by rw [IntKind.wrap_i64]; omega
          generalize m.ents[i] = e at *
          generalize lsB (m.ents.take i) = lt at *
          unfold lec at hr2
          have hb9 := bl_al (Below.refl wl.heap.size wl) (.cells #[.int .i64 e.term, .string ⟨e.s.toArray⟩, .bool e.conf, .slice me e.mem.length ce] 29)
          have hX9 := Blk.new wl #[.int .i64 e.term, .string ⟨e.s.toArray⟩, .bool e.conf, .slice me e.mem.length ce] 29
          have HPE := fun W (hW : Below w0.heap.size w0 W) (h : WR W b (x ++ (h4 ++ lt))) => putEntry_any e hbi.1 hbi.2 me ce b (x ++ (h4 ++ lt)) W w0 hW hb hIm h (by rw [← List.append_assoc, List.length_append]; omega)
          unfold lec at HPE
          have hltl : b < wl.heap.size := by obtain ⟨sl, h1, _⟩ := hWl.out; exact h1.lt
          go_upto_region 12 with (with_reducible refine at_list ?_; refine wpList_run (op := ⟨some 51, _, _, _, _, _⟩) rfl (.agg #[.int .i64 e.term, .string ⟨e.s.toArray⟩, .bool e.conf, .slice me e.mem.length ce]) wl (run_loadMid _ _ rfl _ _ rfl #[.int .i64 e.term, .string ⟨e.s.toArray⟩, .bool e.conf, .slice me e.mem.length ce] hr2 _ Tryz.underlying29 rfl (lecI e _)) ?_)
          generalize wl.alloc (.cells #[.int .i64 e.term, .string ⟨e.s.toArray⟩, .bool e.conf, .slice me e.mem.length ce] 29) = w9 at *
          have e0 := hX9.cell 0
          have e1 := hX9.cell 1
          have e2 := hX9.cell 2
          have e3 := hX9.cell 3
          go_wp2_with (go_at_call 47; refine (HPE _ (hBl.trans (hb9.mono hBl.size)) (hWl.below hb9)).mono ?_; rintro o w10 ⟨rfl, hP10⟩)
          go_roundw
          case rel =>
            refine ⟨i + 1, by omega, by go_num, ?_, ((hX.belowSize hb9).puts hP10 (by decide) (by decide))⟩
            rw [hsu, ← List.append_assoc]
            exact hP.trans (Puts.behind hb9 (by omega) hP10)
          case measure => simp [intOf]; omega
        · obtain rfl : i = m.ents.length := by omega
          have hz2 : ¬ ((m.ents.length : Int) < (m.ents.length : Int)) := by omega
          rw [List.take_length] at hP hWl
          have hlb : (lsB m.ents).length ≤ 1048600 * 16 := Nat.le_trans (lsB_len (fun e he => ⟨hm.text e he, (hm.ents e he).1⟩)) (Nat.mul_le_mul (Nat.le_refl _) (by omega))
          generalize lsB m.ents = ls at *
          have e10 := hX.cell 10
          have HT := wtext_any b (x ++ (h4 ++ ls)) m.piece wl hWl (by rw [← List.append_assoc, List.length_append]; omega)
          have hlp := num_length 4 m.piece.length
          have hlq : (num m.piece.length 4 ++ m.piece).length ≤ 4294967300 := by rw [List.length_append]; omega
          generalize num m.piece.length 4 ++ m.piece = pb at *
          have HB2 := fun W y (h : WR W b ((x ++ (h4 ++ ls)) ++ pb)) => wbool_any b ((x ++ (h4 ++ ls)) ++ pb) y W h (by simp only [List.length_append] at *; omega)
          have hzm : (0 : Int) ≤ (m.mems.length : Int) := by omega
          cases hms : decide (0 < m.mems.length) with
          | true =>
            have hm0 : 0 < m.mems.length := of_decide_eq_true hms
            have hm0i : (0 : Int) < (m.mems.length : Int) := by omega
            have HB3 := fun W (h : WR W b ((x ++ (h4 ++ ls)) ++ pb)) => HB2 W true h
            have hn1' := num_length 1 true.toNat
            rw [hms, if_pos hm0] at HMB2
            generalize num true.toNat 1 = ob at *
            have HM := fun W (hW : Below w0.heap.size w0 W) (h : WR W b (((x ++ (h4 ++ ls)) ++ pb) ++ ob)) => putM_any m.mems (hm.mems hm0) ma mc b (((x ++ (h4 ++ ls)) ++ pb) ++ ob) W w0 hW hb hI h (by simp only [List.length_append] at *; omega)
            clear HB2 hms
            go_wp2_with (first
              | (go_at_call 58; refine HT.mono ?_; rintro o w5 ⟨rfl, hP5⟩; clear HT; have hX5 := hX.puts hP5 (by decide) (by decide); have e12 := hX5.cell 12)
              | (go_at_call 57; refine (HB3 _ hP5.wr).mono ?_; rintro o w6 ⟨rfl, hP6⟩; clear HB3; have hX6 := hX5.puts hP6 (by decide) (by decide); have e12 := hX6.cell 12)
              | (go_at_call 59; refine (HM _ ((hBl.trans (hP5.below.mono hb)).trans (hP6.below.mono hb)) hP6.wr).mono ?_; rintro o w7 ⟨rfl, hP7⟩; clear HM))
            refine bodyPost_end (results_none rfl _ _ _) rfl ⟨rfl, ?_⟩
            rw [HMB2.out]
            have hq := Puts.behind hb1 (by omega) (hP.trans (hP5.trans (hP6.trans hP7)))
            rw [List.append_assoc] at hq
            exact hq
          | false =>
            have hm0 : ¬ (0 < m.mems.length) := of_decide_eq_false hms
            have hm0i : ¬ ((0 : Int) < (m.mems.length : Int)) := by omega
            have HB3 := fun W (h : WR W b ((x ++ (h4 ++ ls)) ++ pb)) => HB2 W false h
            rw [hms, if_neg hm0] at HMB2
            generalize num false.toNat 1 = ob at *
            clear HB2 hms
            go_wp2_with (first
              | (go_at_call 58; refine HT.mono ?_; rintro o w5 ⟨rfl, hP5⟩; clear HT; have hX5 := hX.puts hP5 (by decide) (by decide); have e12 := hX5.cell 12)
              | (go_at_call 57; refine (HB3 _ hP5.wr).mono ?_; rintro o w6 ⟨rfl, hP6⟩; clear HB3; have hX6 := hX5.puts hP6 (by decide) (by decide); have e12 := hX6.cell 12))
            refine bodyPost_end (results_none rfl _ _ _) rfl ⟨rfl, ?_⟩
            rw [HMB2.out]
            have hq := Puts.behind hb1 (by omega) (hP.trans (hP5.trans hP6))
            rw [List.append_assoc] at hq
            rw [List.append_nil]
            exact hq
end Go.Proofs.YtnhlejdilldfaaaGreat
