/- The law of bytes: there. -/
import Derived.Test.YtnhlejdilldfaaaGreatWye
namespace Go.Proofs.YtnhlejdilldfaaaGreat
open Go Go.RowKit Go.Maps
theorem TkOk.put {m : MSG} (h : TkOk m) : PutOk m :=
  ⟨fun i => by have := h.ints i; omega, fun e he => ⟨(h.ents e he).conf, by have := (h.ents e he).term; omega⟩, h.mems, by have := h.piece; omega, h.len, fun e he => (h.ents e he).text⟩
theorem WR.other {w w' : World} {b i : Nat} {l : List UInt8} (h : WR w b l) (hg : w.grownBy w' (some i)) (hi : i < b) : WR w' b l := by
  obtain ⟨sl, h1, h2⟩ := h.out
  refine ⟨sl, h1.grown hg (fun e => by have := Option.some.inj e; omega), ?_⟩
  rcases h2 with h | ⟨g, cap, h3, h4, h5⟩
  · exact .inl h
  · exact .inr ⟨g, cap, h3, h4, h5.grown hg (by simp; omega)⟩
theorem nrm_ok {e : LE} (h : EnOk e) : EnOk (nrm e) := by
  obtain ⟨t, s, c, l⟩ := e
  cases c with
  | true => exact ⟨fun _ => h.conf rfl, h.term, Nat.zero_le _⟩
  | false => exact ⟨(fun e => absurd e Bool.false_ne_true), h.term, h.text⟩
theorem te_again {e : LE} (h : EnOk e) : teOf (⟨lB e, 0, 0⟩ : R) = nrm e := by
  have h1 := entry_st (s := lB e) (p := 0) ⟨[], [], by simp, rfl⟩ h
  unfold teOf
  rw [h1]
  rfl
/-- What Take takes of a message's bytes is put as them again. -/
theorem msg_again {m : MSG} (hm : TkOk m) : (⟨mB m, 0, 0⟩ : R).msg.1.err = 0 ∧ (⟨mB m, 0, 0⟩ : R).msg.1.fin.err = 0 ∧ mB (tmOf ⟨mB m, 0, 0⟩) = mB m ∧ PutOk (tmOf ⟨mB m, 0, 0⟩) := by
  have h1 := msg_st hm
  have h2 : (⟨mB m, 0, 0⟩ : R).msg.1.err = 0 := by rw [h1]
  have h3 : tmOf ⟨mB m, 0, 0⟩ = (⟨mB m, 0, 0⟩ : R).msg.2 := by unfold tmOf; exact if_pos h2
  have h4 := msg_goes (r := ⟨mB m, 0, 0⟩) (by unfold R.ok; exact Nat.zero_le _) h2
  refine ⟨h2, ?_, ?_, by rw [h3]; exact h4.2⟩
  · rw [h1]
    unfold R.fin
    rw [if_neg (fun h => Nat.lt_irrefl _ h.2)]
  · have h5 := h4.1.at'
    rw [h1] at h5
    dsimp only at h5
    rw [List.take_length, List.take_zero, List.nil_append] at h5
    rw [h3]
    exact h5.symm
theorem bsl8I (a0 a1 a2 a3 a4 a5 a6 a7 : Int) (w : World) : (Instr.buildSlice 23 8 #[(0, .int .i64 a0), (1, .int .i64 a1), (2, .int .i64 a2), (3, .int .i64 a3), (4, .int .i64 a4), (5, .int .i64 a5), (6, .int .i64 a6), (7, .int .i64 a7)]).run Tryz.prog w = .ok (.slice (some ⟨w.heap.size, 0, none⟩) 8 8) (w.alloc (.cells #[.int .i64 a0, .int .i64 a1, .int .i64 a2, .int .i64 a3, .int .i64 a4, .int .i64 a5, .int .i64 a6, .int .i64 a7] 3)) := by
  have range8 : Array.range 8 = #[0, 1, 2, 3, 4, 5, 6, 7] := by decide
  simp [Instr.buildSlice, run_underlying Tryz.underlying23, sizeOf_run i3, Sem.run_bind, Instr.fill, newRow, Tryz.zeroValue3, Value.cells, range8]
theorem c8_cell (m : MSG) (i : Nat) (h : i < 8) : (#[.int .i64 m.kind, .int .i64 m.frm, .int .i64 m.dst, .int .i64 m.term, .int .i64 m.index, .int .i64 m.logTerm, .int .i64 m.commit, .int .i64 m.off] : Array Value)[i]? = some (.int .i64 (m8 m i)) := by
  rcases (by omega : i = 0 ∨ i = 1 ∨ i = 2 ∨ i = 3 ∨ i = 4 ∨ i = 5 ∨ i = 6 ∨ i = 7) with rfl | rfl | rfl | rfl | rfl | rfl | rfl | rfl <;> rfl
section
attribute [local go_sem] mkApp2 bsl8I
variable (w : World)
set_option maxRecDepth 100000 in
set_option maxHeartbeats 8000000 in
theorem there_any (m : MSG) (hm : TkOk m) (ea : Option Addr) (ec : Nat) (ma : Option Addr) (mc : Nat) (hE : EA w ea m.ents) (hec : m.ents.length ≤ ec) (hI : IA w ma m.mems) (hmc : m.mems.length ≤ mc) :
    Calls Tryz.prog 12 #[.agg (mcells m (.slice ea m.ents.length ec) (.slice ma m.mems.length mc))] w fun o w' => o = .returned (.bool true) ∧ Below w.heap.size w w' := by
  unfold mcells
  have hpo := hm.put
  have hml := hm.len
  have hpl := hm.piece
  have hcl := cB_len m
  have hb1 := bl_al (Below.refl w.heap.size w) (.cells #[.int .i64 m.kind, .int .i64 m.frm, .int .i64 m.dst, .int .i64 m.term, .int .i64 m.index, .int .i64 m.logTerm, .int .i64 m.commit, .bool m.yes, .slice ea m.ents.length ec, .int .i64 m.off, .string ⟨m.piece.toArray⟩, .bool m.done, .slice ma m.mems.length mc] 25)
  have hX1 := Blk.new w #[.int .i64 m.kind, .int .i64 m.frm, .int .i64 m.dst, .int .i64 m.term, .int .i64 m.index, .int .i64 m.logTerm, .int .i64 m.commit, .bool m.yes, .slice ea m.ents.length ec, .int .i64 m.off, .string ⟨m.piece.toArray⟩, .bool m.done, .slice ma m.mems.length mc] 25
  go_enter Tryz.func12, Tryz.ntmps12
  go_upto_region 1 with fail
  generalize w.alloc (.cells #[.int .i64 m.kind, .int .i64 m.frm, .int .i64 m.dst, .int .i64 m.term, .int .i64 m.index, .int .i64 m.logTerm, .int .i64 m.commit, .bool m.yes, .slice ea m.ents.length ec, .int .i64 m.off, .string ⟨m.piece.toArray⟩, .bool m.done, .slice ma m.mems.length mc] 25) = w1 at *
  have hs1 := hb1.size
  have HP := fun W (hW : Below w1.heap.size w1 W) (h : WR W w1.heap.size []) => put_any m hpo ea ec ma mc w1.heap.size [] W w1 hW (Nat.le_refl _) (hE.below hb1) hec (hI.below hb1) hmc h (Nat.zero_le _)
  unfold mcells at HP
  go_upto_region 4 with (first
    | (go_at_call 16; refine (neww_any _).mono ?_; rintro o w2 ⟨rfl, hb2, hW2⟩; have hX2 := hX1.belowSize hb2
       have e0 := hX2.cell 0
       have e1 := hX2.cell 1
       have e2 := hX2.cell 2
       have e3 := hX2.cell 3
       have e4 := hX2.cell 4
       have e5 := hX2.cell 5
       have e6 := hX2.cell 6
       have e7 := hX2.cell 7
       have e8 := hX2.cell 8
       have e9 := hX2.cell 9
       have e10 := hX2.cell 10
       have e11 := hX2.cell 11
       have e12 := hX2.cell 12)
    | (go_at_call 17; refine (HP _ hb2 hW2).mono ?_; rintro o w3 ⟨rfl, hP3⟩; clear HP))
  clear e0 e1 e2 e3 e4 e5 e6 e7 e8 e9 e10 e11 e12
  have hX3 := hX2.puts hP3 (by decide) (by decide)
  have hW3 := hP3.wr
  rw [List.nil_append] at hW3
  have hb3 := hb1.trans ((hb2.mono hs1).trans (hP3.below.mono hs1))
  have hlt3 : w1.heap.size < w3.heap.size := by obtain ⟨sl, h1, _⟩ := hW3.out; exact h1.lt
  clear hX2 hX1 hP3 hW2 hb2
  have e0 := hX3.cell 0
  have e1 := hX3.cell 1
  have e2 := hX3.cell 2
  have e3 := hX3.cell 3
  have e4 := hX3.cell 4
  have e5 := hX3.cell 5
  have e6 := hX3.cell 6
  have e9 := hX3.cell 9
  have hb4 := bl_al (Below.refl w3.heap.size w3) (.cells #[.int .i64 m.kind, .int .i64 m.frm, .int .i64 m.dst, .int .i64 m.term, .int .i64 m.index, .int .i64 m.logTerm, .int .i64 m.commit, .int .i64 m.off] 3)
  have hX4 := hX3.alloc (.cells #[.int .i64 m.kind, .int .i64 m.frm, .int .i64 m.dst, .int .i64 m.term, .int .i64 m.index, .int .i64 m.logTerm, .int .i64 m.commit, .int .i64 m.off] 3)
  have hA4 := Blk.new w3 #[.int .i64 m.kind, .int .i64 m.frm, .int .i64 m.dst, .int .i64 m.term, .int .i64 m.index, .int .i64 m.logTerm, .int .i64 m.commit, .int .i64 m.off] 3
  go_wp2_with fail
  generalize w3.alloc (.cells #[.int .i64 m.kind, .int .i64 m.frm, .int .i64 m.dst, .int .i64 m.term, .int .i64 m.index, .int .i64 m.logTerm, .int .i64 m.commit, .int .i64 m.off] 3) = w4 at *
  clear e0 e1 e2 e3 e4 e5 e6 e9
  have hs4 := hb4.size
  have hl8 : Hid (∀ i, (cB m i).length = 4 * i) := hcl
  clear hcl
  go_loopw [4, 34] (fun v4 v34 wl => ∃ i : Nat, i ≤ 8 ∧ v34 = .int .i64 i ∧ v4 = .string ⟨(cB m i).toArray⟩ ∧ Below w4.heap.size w4 wl) (fun _ v34 _ => 8 - (intOf v34).toNat)
  case atStart => exact ⟨0, by omega, rfl, rfl, Below.refl _ _⟩
  case round =>
    obtain ⟨i, hil, rfl, rfl, hBl⟩ := hrel
    rename World => wl
    by_cases hlt : i < 8
    · have hz1 : (0 : Int) ≤ (i : Int) := by omega
      have hz2 : (i : Int) < 8 := by omega
      have hz3 : i < 8 := hlt
      have hw3' : IntKind.i64.wrap ((i : Int) + 1) = ((i + 1 : Nat) : Int) := by rw [IntKind.wrap_i64]; omega
      have hAi := hA4.belowSize hBl
      have cI : wl.cell? ⟨w3.heap.size, i, none⟩ = some (.int .i64 (m8 m i)) := (hAi.cell i).trans (c8_cell m i hlt)
      have hint := hm.ints i
      have hsu := cB_succ m i
      have hli := hl8.out i
      obtain ⟨k, hk⟩ : ∃ k : Nat, m8 m i = (k : Int) := ⟨(m8 m i).toNat, by omega⟩
      rw [hk] at cI hint hsu
      rw [Int.toNat_natCast] at hsu
      have hwk : IntKind.u64.wrap ((k : Nat) : Int) = (k : Int) := by rw [IntKind.wrap_u64]; omega
      have HN := fun W => rnum_nat 4 (by decide) k W (by omega)
      have hln := num_length 4 k
      replace hsu : Hid (_ = _) := hsu
      clear hk
      generalize num k 4 = nk at *
      generalize hci : cB m i = ci at *
      clear hci
      go_wp2_with (go_at_call 44; refine (HN _).mono ?_; rintro o w5 ⟨rfl, hw5⟩; clear HN)
      go_roundw
      case rel => exact ⟨i + 1, by omega, by go_num, by rw [hsu.out], hBl.trans (hw5.mono hBl.size)⟩
      case measure => simp [intOf]; omega
    · obtain rfl : i = 8 := by omega
      have hz2 : ¬ ((8 : Int) < 8) := by omega
      have hXl := hX4.belowSize hBl
      have hcl8 := hl8.out 8
      have HY1 := fun W => yes_any W m.yes
      have HY2 := fun W => yes_any W m.done
      have HN3 := fun W => rnum_nat 4 (by decide) m.ents.length W (by omega)
      have hwn : IntKind.u64.wrap ((m.ents.length : Nat) : Int) = (m.ents.length : Int) := by rw [IntKind.wrap_u64]; omega
      have hn1 := num_length 1 m.yes.toNat
      have hn2 := num_length 1 m.done.toNat
      have hn3 := num_length 4 m.ents.length
      have hMB : Hid (mB m = cB m 8 ++ (num m.yes.toNat 1 ++ (num m.done.toNat 1 ++ (num m.ents.length 4 ++ (lsB m.ents ++ ((num m.piece.length 4 ++ m.piece) ++ (num (decide (0 < m.mems.length)).toNat 1 ++ if 0 < m.mems.length then memB m.mems else []))))))) := by exact rfl
      obtain ⟨ag1, ag2, ag3, ag4⟩ := msg_again hm
      have hagl : (mB m).length ≤ 140737488355328 := by
        rw [hMB.out]
        have h1 := lsB_len (l := m.ents) (fun e he => ⟨(hm.ents e he).text, (hm.ents e he).conf⟩)
        have h2 : 1048600 * m.ents.length ≤ 1048600 * 16 := Nat.mul_le_mul (Nat.le_refl _) hml
        have h3 : (if 0 < m.mems.length then memB m.mems else []).length ≤ 17 := by
          split
          · rename_i hp
            rw [memB_len]
            have := (hm.mems hp).len
            omega
          · exact Nat.zero_le _
        simp only [List.length_append, num_length]
        omega
      have HNR := fun W => newr_any (mB m) W
      have HTK := fun b W (h : RD W b ⟨mB m, 0, 0⟩) => tk_counts b ⟨mB m, 0, 0⟩ W h (Nat.zero_le _) hagl
      have HEN := fun b W (h : RD W b (⟨mB m, 0, 0⟩ : R).msg.1) => end_any b (⟨mB m, 0, 0⟩ : R).msg.1 W h (by rw [msg_st hm]; exact Nat.le_refl _) (by rw [msg_st hm]; exact hagl)
      rw [ag2] at HEN
      generalize hAG : mB m = MM at *
      replace hMB : Hid (MM = _) := hMB
      clear hAG hl8
      generalize cB m 8 = c8 at *
      generalize num m.yes.toNat 1 = n1 at *
      generalize num m.done.toNat 1 = n2 at *
      generalize num m.ents.length 4 = n3 at *
      go_upto_region 9 with fail
      refine wp_region_held_drew (S := fun w' : World => Below w4.heap.size w4 w' ∧ Blk w' w.heap.size #[.int .i64 m.kind, .int .i64 m.frm, .int .i64 m.dst, .int .i64 m.term, .int .i64 m.index, .int .i64 m.logTerm, .int .i64 m.commit, .bool m.yes, .slice ea m.ents.length ec, .int .i64 m.off, .string ⟨m.piece.toArray⟩, .bool m.done, .slice ma m.mems.length mc] 25) (by kernel_rfl) (And.intro (bl_dr hBl) hXl.drew) (fun hH => ?_)
      try go_frame
      refine wpAnyH_take (i := 0) (oi := ⟨some 44, _, _, _, _, _⟩) (v := .string ⟨c8.toArray⟩) rfl (by kernel_rfl) (by kernel_rfl) (by kernel_rfl) (fun _ _ _ h => h) (Or.inl ⟨by rfl, fun w hSw => by go_simp⟩) hH ?_
      try simp only [Act.put, List.setIfInBounds_toArray, List.set_cons_zero, List.set_cons_succ]
      refine wpAnyH_take (i := 1) (oi := ⟨some 45, _, _, _, _, _⟩) (v := .pointer (some ⟨w.heap.size, 7, none⟩)) rfl (by kernel_rfl) (by kernel_rfl) (by kernel_rfl) (fun _ _ _ h => h) (Or.inl ⟨by rfl, fun w hSw => by go_simp⟩) hH ?_
      try simp only [Act.put, List.setIfInBounds_toArray, List.set_cons_zero, List.set_cons_succ]
      refine wpAnyH_take (i := 2) (oi := ⟨some 46, _, _, _, _, _⟩) (v := .bool m.yes) rfl (by kernel_rfl) (by kernel_rfl) (by kernel_rfl) (fun _ _ _ h => h) (Or.inl ⟨by rfl, fun w hSw => run_loadC _ _ rfl _ _ rfl _ Tryz.underlying4 rfl _ (hSw.2.cell 7)⟩) hH ?_
      try simp only [Act.put, List.setIfInBounds_toArray, List.set_cons_zero, List.set_cons_succ]
      refine wpAnyH_take (i := 4) (oi := ⟨some 48, _, _, _, _, _⟩) (v := .pointer (some ⟨w.heap.size, 11, none⟩)) rfl (by kernel_rfl) (by kernel_rfl) (by kernel_rfl) (fun _ _ _ h => h) (Or.inl ⟨by rfl, fun w hSw => by go_simp⟩) hH ?_
      try simp only [Act.put, List.setIfInBounds_toArray, List.set_cons_zero, List.set_cons_succ]
      refine wpAnyH_take (i := 5) (oi := ⟨some 49, _, _, _, _, _⟩) (v := .bool m.done) rfl (by kernel_rfl) (by kernel_rfl) (by kernel_rfl) (fun _ _ _ h => h) (Or.inl ⟨by rfl, fun w hSw => run_loadC _ _ rfl _ _ rfl _ Tryz.underlying4 rfl _ (hSw.2.cell 11)⟩) hH ?_
      try simp only [Act.put, List.setIfInBounds_toArray, List.set_cons_zero, List.set_cons_succ]
      refine wpAnyH_take (i := 8) (oi := ⟨some 52, _, _, _, _, _⟩) (v := .pointer (some ⟨w.heap.size, 8, none⟩)) rfl (by kernel_rfl) (by kernel_rfl) (by kernel_rfl) (fun _ _ _ h => h) (Or.inl ⟨by rfl, fun w hSw => by go_simp⟩) hH ?_
      try simp only [Act.put, List.setIfInBounds_toArray, List.set_cons_zero, List.set_cons_succ]
      refine wpAnyH_take (i := 9) (oi := ⟨some 53, _, _, _, _, _⟩) (v := .slice ea m.ents.length ec) rfl (by kernel_rfl) (by kernel_rfl) (by kernel_rfl) (fun _ _ _ h => h) (Or.inl ⟨by rfl, fun w hSw => run_loadC _ _ rfl _ _ rfl _ Tryz.underlying22 rfl _ (hSw.2.cell 8)⟩) hH ?_
      try simp only [Act.put, List.setIfInBounds_toArray, List.set_cons_zero, List.set_cons_succ]
      refine wpAnyH_take (i := 10) (oi := ⟨some 54, _, _, _, _, _⟩) (v := .int .i64 (m.ents.length : Nat)) rfl (by kernel_rfl) (by kernel_rfl) (by kernel_rfl) (fun _ _ _ h => h) (Or.inl ⟨by rfl, fun w hSw => by first | (go_simp; done) | (go_simp; omega) | (go_simp; simp; omega)⟩) hH ?_
      try simp only [Act.put, List.setIfInBounds_toArray, List.set_cons_zero, List.set_cons_succ]
      refine wpAnyH_take (i := 11) (oi := ⟨some 55, _, _, _, _, _⟩) (v := .int .u64 (m.ents.length : Nat)) rfl (by kernel_rfl) (by kernel_rfl) (by kernel_rfl) (fun _ _ _ h => h) (Or.inl ⟨by rfl, fun w hSw => by first | (go_simp; done) | (go_simp; rw [hwn]) | (go_simp; simp [hwn])⟩) hH ?_
      try simp only [Act.put, List.setIfInBounds_toArray, List.set_cons_zero, List.set_cons_succ]
      refine wpAnyH_solo (i := 3) (o := ⟨some 47, _, _, _, _, _⟩) rfl (by kernel_rfl) (fun K hK => ?_)
      refine wpList_callR Tryz.func45 (by kernel_rfl) (by kernel_rfl) rfl _ _ rfl #[.bool m.yes] (args1 rfl) _ (HY1 _) ?_
      rintro o w5 ⟨rfl, hw5⟩
      replace hw5 := hw5.symm
      subst hw5
      refine ⟨_, rfl, ?_⟩
      refine hK _ _ (hH) ?_
      clear hK K
      try simp only [Act.put, List.setIfInBounds_toArray, List.set_cons_zero, List.set_cons_succ]
      refine wpAnyH_solo (i := 6) (o := ⟨some 50, _, _, _, _, _⟩) rfl (by kernel_rfl) (fun K hK => ?_)
      refine wpList_callR Tryz.func45 (by kernel_rfl) (by kernel_rfl) rfl _ _ rfl #[.bool m.done] (args1 rfl) _ (HY2 _) ?_
      rintro o w5 ⟨rfl, hw5⟩
      replace hw5 := hw5.symm
      subst hw5
      refine ⟨_, rfl, ?_⟩
      refine hK _ _ (hH) ?_
      clear hK K
      try simp only [Act.put, List.setIfInBounds_toArray, List.set_cons_zero, List.set_cons_succ]
      refine wpAnyH_take (i := 7) (oi := ⟨some 51, _, _, _, _, _⟩) (v := .string ⟨(n1 ++ n2).toArray⟩) rfl (by kernel_rfl) (by kernel_rfl) (by kernel_rfl) (fun _ _ _ h => h) (Or.inl ⟨by rfl, fun w hSw => by first | (go_simp; done) | (go_simp; omega) | (go_simp; simp; omega)⟩) hH ?_
      try simp only [Act.put, List.setIfInBounds_toArray, List.set_cons_zero, List.set_cons_succ]
      refine wpAnyH_solo (i := 12) (o := ⟨some 56, _, _, _, _, _⟩) rfl (by kernel_rfl) (fun K hK => ?_)
      refine wpList_callR Tryz.func44 (by kernel_rfl) (by kernel_rfl) rfl _ _ rfl #[.int .u64 (m.ents.length : Nat), .int .i64 4] (args2 rfl rfl) _ (HN3 _) ?_
      rintro o w9 ⟨rfl, hw9⟩
      have hH3 := And.intro (bl_ca hH.1 hw9) (hH.2.belowSize hw9)
      refine ⟨_, rfl, ?_⟩
      refine hK _ _ (hH3) ?_
      clear hH
      have hH := hH3
      clear hK K
      try simp only [Act.put, List.setIfInBounds_toArray, List.set_cons_zero, List.set_cons_succ]
      refine wpAnyH_take (i := 13) (oi := ⟨some 57, _, _, _, _, _⟩) (v := .string ⟨((n1 ++ n2) ++ n3).toArray⟩) rfl (by kernel_rfl) (by kernel_rfl) (by kernel_rfl) (fun _ _ _ h => h) (Or.inl ⟨by rfl, fun w hSw => by first | (go_simp; done) | (go_simp; omega) | (go_simp; simp; omega)⟩) hH ?_
      try simp only [Act.put, List.setIfInBounds_toArray, List.set_cons_zero, List.set_cons_succ]
      refine wpAnyH_take (i := 14) (oi := ⟨some 58, _, _, _, _, _⟩) (v := .string ⟨(c8 ++ ((n1 ++ n2) ++ n3)).toArray⟩) rfl (by kernel_rfl) (by kernel_rfl) (by kernel_rfl) (fun _ _ _ h => h) (Or.inl ⟨by rfl, fun w hSw => by first | (go_simp; done) | (go_simp; omega) | (go_simp; simp; omega)⟩) hH ?_
      try simp only [Act.put, List.setIfInBounds_toArray, List.set_cons_zero, List.set_cons_succ]
      refine wpAnyH_solo (i := 15) (o := ⟨some 4, _, _, _, _, _⟩) rfl (by kernel_rfl) (fun K hK => ?_)
      refine wpList_pure rfl (.string ⟨(c8 ++ ((n1 ++ n2) ++ n3)).toArray⟩) (by go_simp) ?_
      refine hK _ _ hH ?_
      clear hK K
      try simp only [Act.put, List.setIfInBounds_toArray, List.set_cons_zero, List.set_cons_succ]
      refine wpAnyH_done (by kernel_rfl) ?_ _
      try simp only [Act.put]
      try go_simp
      have hwe := hH
      clear hH
      obtain ⟨hbe, hX9⟩ := hwe
      have hb3s := hb3.size
      have hb4w := hb3.trans (hb4.mono hb3.size)
      have hbw9 := hb4w.trans (hbe.mono hb4w.size)
      have h39 := hb4.trans (hbe.mono hs4)
      have hh4 : (c8 ++ (n1 ++ (n2 ++ n3))).length ≤ 100 := by simp only [List.length_append]; omega
      have hMB2 : Hid (MM = (c8 ++ (n1 ++ (n2 ++ n3))) ++ (lsB m.ents ++ ((num m.piece.length 4 ++ m.piece) ++ (num (decide (0 < m.mems.length)).toNat 1 ++ if 0 < m.mems.length then memB m.mems else [])))) := by
        show _ = _
        rw [hMB.out]
        simp only [List.append_assoc]
      clear hMB hH3 hXl hX4 hA4 hX3
      generalize c8 ++ (n1 ++ (n2 ++ n3)) = h4 at *
      have hs9 := hbe.size
      go_wp2_with fail
      go_loopw [4, 7] (fun v4 v7 wl => ∃ i : Nat, i ≤ m.ents.length ∧ v7 = .int .i64 i ∧ v4 = .string ⟨(h4 ++ lsB (m.ents.take i)).toArray⟩ ∧ Below w9.heap.size w9 wl) (fun _ v7 _ => m.ents.length - (intOf v7).toNat)
      case atStart => exact ⟨0, by omega, rfl, by rw [List.take_zero]; show _ = Value.string ⟨(h4 ++ []).toArray⟩; rw [List.append_nil], Below.refl _ _⟩
      case round =>
        obtain ⟨i, hil, rfl, rfl, hBl2⟩ := hrel
        rename World => wl
        have hbl := hbw9.trans (hBl2.mono hbw9.size)
        have hXl := hX9.belowSize hBl2
        have hlb : (lsB (m.ents.take i)).length ≤ 16777600 := by
          refine Nat.le_trans (lsB_len (fun e he => ⟨(hm.ents e (List.mem_of_mem_take he)).text, (hm.ents e (List.mem_of_mem_take he)).conf⟩)) ?_
          rw [List.length_take]
          have : min i m.ents.length ≤ 16 := by omega
          omega
        by_cases hlt : i < m.ents.length
        · obtain ⟨g, o, me, ce, rfl, hr, hIm, hml2⟩ := hE i hlt
          have hz1 : (0 : Int) ≤ (i : Int) := by omega
          have hz2 : (i : Int) < (m.ents.length : Int) := by omega
          have hz3 : i < m.ents.length := hlt
          have hw3' : IntKind.i64.wrap ((i : Int) + 1) = ((i + 1 : Nat) : Int) := by rw [IntKind.wrap_i64]; omega
          have hrw : ∀ W, Below w.heap.size w W → W.rangeAt g (o + i * 4) (lec m.ents[i] (.slice me m.ents[i].mem.length ce)).toList := fun W hW j v hv => by
            have h0 := hr j v hv
            exact (cell_of_block (hW.block g (World.block_lt_of_cell? _ _ h0))).trans h0
          have hsu := lsB_take hlt
          have hei := hm.ents _ (List.getElem_mem hlt)
          generalize m.ents[i] = e at *
          unfold lec at hrw
          have hsu' : Hid (_ = _) := hsu
          clear hsu hr
          have hel : (lB e).length ≤ 1048600 := by
            have h1 := lB_len e
            have h2 := hei.text
            rw [h1]
            split
            · rename_i hc
              have := (hei.conf hc).len
              omega
            · omega
          have HEnt := fun W (hW : Below w.heap.size w W) => entryB_any W e hei me ce (hIm.below hW)
          have HPE := fun b W w0 (h0 : Below w.heap.size w w0) (hW : Below w0.heap.size w0 W) (hb : w0.heap.size ≤ b) (h : WR W b []) => putEntry_any e hei.conf (by have := hei.term; omega) me ce b [] W w0 hW hb (hIm.below h0) h (by have := hei.text; show 0 + e.s.length ≤ _; omega)
          unfold lec at HPE
          have HTE := fun b W (h : RD W b ⟨lB e, 0, 0⟩) => takeEntry_any b ⟨lB e, 0, 0⟩ W h (Nat.zero_le _) (by show (lB e).length ≤ _; omega)
          unfold TeP lec at HTE
          rw [te_again hei] at HTE
          have HS := fun a9 k9 W (h : IA W a9 (nrm e).mem) => said_any W (nrm e) (nrm_ok hei) a9 k9 h
          rw [nrm_lB] at HS
          generalize nrm e = ne at *
          generalize lB e = eb at *
          generalize lsB (m.ents.take i) = lt at *
          have e8 := hXl.cell 8
          have hrl := hrw wl hbl
          have HEl := HEnt wl hbl
          go_upto_region 16 with (first
            | (with_reducible refine at_list ?_; refine wpList_run (op := ⟨some 71, _, _, _, _, _⟩) rfl (.agg #[.int .i64 e.term, .string ⟨e.s.toArray⟩, .bool e.conf, .slice me e.mem.length ce]) wl (run_loadMid _ _ rfl _ _ rfl #[.int .i64 e.term, .string ⟨e.s.toArray⟩, .bool e.conf, .slice me e.mem.length ce] hrl _ Tryz.underlying29 rfl (lecI e _)) ?_)
            | (go_at_call 46; refine HEl.mono ?_; rintro oo w5 ⟨rfl, hw5⟩; clear HEl; have hb5 := hbl.trans (hw5.mono hbl.size))
            | (go_at_call 16; refine (neww_any _).mono ?_; rintro oo w6 ⟨rfl, hb6', hW6⟩; have hb6 := hb5.trans (hb6'.mono hb5.size); have hX6 := (hXl.belowSize hw5).belowSize hb6'; have e8 := hX6.cell 8; have hr6 := hrw w6 hb6)
            | (with_reducible refine at_list ?_; refine wpList_run (op := ⟨some 80, _, _, _, _, _⟩) rfl (.agg #[.int .i64 e.term, .string ⟨e.s.toArray⟩, .bool e.conf, .slice me e.mem.length ce]) w6 (run_loadMid _ _ rfl _ _ rfl #[.int .i64 e.term, .string ⟨e.s.toArray⟩, .bool e.conf, .slice me e.mem.length ce] hr6 _ Tryz.underlying29 rfl (lecI e _)) ?_)
            | (go_at_call 47; refine (HPE _ _ w5 hb5 hb6' (Nat.le_refl _) hW6).mono ?_; rintro oo w7 ⟨rfl, hP7⟩))
          have hW7 := hP7.wr
          rw [List.nil_append] at hW7
          have hb7 := hb5.trans ((hb6'.mono hb5.size).trans (hP7.below.mono hb5.size))
          have hX7 := hX6.puts hP7 (by decide) (by decide)
          have h97 : Below w9.heap.size w9 w7 := hBl2.trans ((hw5.mono hBl2.size).trans ((hb6'.mono (Nat.le_trans hBl2.size hw5.size)).trans (hP7.below.mono (Nat.le_trans hBl2.size hw5.size))))
          have hr7 : ∀ W, Below w7.heap.size w7 W → W.rangeAt g (o + i * 4) (#[.int .i64 e.term, .string ⟨e.s.toArray⟩, .bool e.conf, .slice me e.mem.length ce] : Array Value).toList := fun W hW => hrw W (hb7.trans (hW.mono hb7.size))
          replace HEnt := fun W (hW : Below w7.heap.size w7 W) => HEnt W (hb7.trans (hW.mono hb7.size))
          refine wp_region_held_drew (S := fun w' : World => Below w7.heap.size w7 w') (by kernel_rfl) ((Below.refl w7.heap.size w7).drew) (fun hH => ?_)
          try go_frame
          refine wpAnyH_take (i := 0) (oi := ⟨some 82, _, _, _, _, _⟩) (v := .pointer (some ⟨w5.heap.size, 0, none⟩)) rfl (by kernel_rfl) (by kernel_rfl) (by kernel_rfl) (fun _ _ _ h => h) (Or.inl ⟨by rfl, fun w hSw => by go_simp⟩) hH ?_
          try simp only [Act.put, List.setIfInBounds_toArray, List.set_cons_zero, List.set_cons_succ]
          refine wpAnyH_take (i := 2) (oi := ⟨some 84, _, _, _, _, _⟩) (v := .pointer (some ⟨w.heap.size, 8, none⟩)) rfl (by kernel_rfl) (by kernel_rfl) (by kernel_rfl) (fun _ _ _ h => h) (Or.inl ⟨by rfl, fun w hSw => by go_simp⟩) hH ?_
          try simp only [Act.put, List.setIfInBounds_toArray, List.set_cons_zero, List.set_cons_succ]
          refine wpAnyH_take (i := 3) (oi := ⟨some 85, _, _, _, _, _⟩) (v := .slice (some ⟨g, o, none⟩) m.ents.length ec) rfl (by kernel_rfl) (by kernel_rfl) (by kernel_rfl) (fun _ _ _ h => h) (Or.inl ⟨by rfl, fun w hSw => run_loadC _ _ rfl _ _ rfl _ Tryz.underlying22 rfl _ ((hX7.belowSize hSw).cell 8)⟩) hH ?_
          try simp only [Act.put, List.setIfInBounds_toArray, List.set_cons_zero, List.set_cons_succ]
          refine wpAnyH_take (i := 4) (oi := ⟨some 86, _, _, _, _, _⟩) (v := .int .i64 (i : Nat)) rfl (by kernel_rfl) (by kernel_rfl) (by kernel_rfl) (fun _ _ _ h => h) (Or.inl ⟨by rfl, fun w hSw => by go_simp⟩) hH ?_
          try simp only [Act.put, List.setIfInBounds_toArray, List.set_cons_zero, List.set_cons_succ]
          refine wpAnyH_take (i := 5) (oi := ⟨some 87, _, _, _, _, _⟩) (v := .pointer (some ⟨g, o + i * 4, none⟩)) rfl (by kernel_rfl) (by kernel_rfl) (by kernel_rfl) (fun _ _ _ h => h) (Or.inl ⟨by rfl, fun w hSw => by first | (go_simp; done) | (go_simp; omega) | (go_simp; simp; omega)⟩) hH ?_
          try simp only [Act.put, List.setIfInBounds_toArray, List.set_cons_zero, List.set_cons_succ]
          refine wpAnyH_take (i := 6) (oi := ⟨some 88, _, _, _, _, _⟩) (v := .agg #[.int .i64 e.term, .string ⟨e.s.toArray⟩, .bool e.conf, .slice me e.mem.length ce]) rfl (by kernel_rfl) (by kernel_rfl) (by kernel_rfl) (fun _ _ _ h => h) (Or.inl ⟨by rfl, fun w hSw => run_loadMid _ _ rfl _ _ rfl #[.int .i64 e.term, .string ⟨e.s.toArray⟩, .bool e.conf, .slice me e.mem.length ce] (hr7 w hSw) _ Tryz.underlying29 rfl (lecI e _)⟩) hH ?_
          try simp only [Act.put, List.setIfInBounds_toArray, List.set_cons_zero, List.set_cons_succ]
          refine wpAnyH_solo (i := 1) (o := ⟨some 83, _, _, _, _, _⟩) rfl (by kernel_rfl) (fun K hK => ?_)
          refine wpList_callR Tryz.func18 (by kernel_rfl) (by kernel_rfl) rfl _ _ rfl #[.pointer (some ⟨w5.heap.size, 0, none⟩)] (args1 rfl) _ (wall_any _ _ _ (hW7.below hH)) ?_
          rintro o wa ⟨rfl, hwa⟩
          replace hwa := hwa.symm
          subst hwa
          refine ⟨_, rfl, ?_⟩
          refine hK _ _ (hH) ?_
          clear hK K
          try simp only [Act.put, List.setIfInBounds_toArray, List.set_cons_zero, List.set_cons_succ]
          refine wpAnyH_solo (i := 7) (o := ⟨some 89, _, _, _, _, _⟩) rfl (by kernel_rfl) (fun K hK => ?_)
          refine wpList_callR Tryz.func46 (by kernel_rfl) (by kernel_rfl) rfl _ _ rfl #[.agg #[.int .i64 e.term, .string ⟨e.s.toArray⟩, .bool e.conf, .slice me e.mem.length ce]] (args1 rfl) _ (HEnt _ hH) ?_
          rintro o wE ⟨rfl, hwE⟩
          have hH3 := bl_ca hH hwE
          refine ⟨_, rfl, ?_⟩
          refine hK _ _ (hH3) ?_
          clear hH
          have hH := hH3
          clear hK K
          try simp only [Act.put, List.setIfInBounds_toArray, List.set_cons_zero, List.set_cons_succ]
          refine wpAnyH_take (i := 8) (oi := ⟨some 90, _, _, _, _, _⟩) (v := .bool false) rfl (by kernel_rfl) (by kernel_rfl) (by kernel_rfl) (fun _ _ _ h => h) (Or.inl ⟨by rfl, fun w hSw => by first | (go_simp; done) | (go_simp; omega) | (go_simp; simp; omega)⟩) hH ?_
          try simp only [Act.put, List.setIfInBounds_toArray, List.set_cons_zero, List.set_cons_succ]
          refine wpAnyH_take (i := 9) (oi := ⟨some 91, _, _, _, _, _⟩) (v := .bool false) rfl (by kernel_rfl) (by kernel_rfl) (by kernel_rfl) (fun _ _ _ h => h) (Or.inl ⟨by rfl, fun w hSw => by go_simp⟩) hH ?_
          try simp only [Act.put, List.setIfInBounds_toArray, List.set_cons_zero, List.set_cons_succ]
          refine wpAnyH_take (i := 10) (oi := ⟨some 92, _, _, _, _, _⟩) (v := .pointer (some ⟨w5.heap.size, 0, none⟩)) rfl (by kernel_rfl) (by kernel_rfl) (by kernel_rfl) (fun _ _ _ h => h) (Or.inl ⟨by rfl, fun w hSw => by go_simp⟩) hH ?_
          try simp only [Act.put, List.setIfInBounds_toArray, List.set_cons_zero, List.set_cons_succ]
          refine wpAnyH_take (i := 15) (oi := ⟨some 97, _, _, _, _, _⟩) (v := .pointer (some ⟨w5.heap.size, 0, none⟩)) rfl (by kernel_rfl) (by kernel_rfl) (by kernel_rfl) (fun _ _ _ h => h) (Or.inl ⟨by rfl, fun w hSw => by go_simp⟩) hH ?_
          try simp only [Act.put, List.setIfInBounds_toArray, List.set_cons_zero, List.set_cons_succ]
          refine wpAnyH_solo (i := 11) (o := ⟨some 93, _, _, _, _, _⟩) rfl (by kernel_rfl) (fun K hK => ?_)
          refine wpList_callG Tryz.func18 (by kernel_rfl) (by kernel_rfl) (by first | rfl | go_simp) _ _ rfl #[.pointer (some ⟨w5.heap.size, 0, none⟩)] (args1 rfl) _ (wall_any _ _ _ (hW7.below hH)) ?_
          rintro o wa ⟨rfl, hwa⟩
          replace hwa := hwa.symm
          subst hwa
          refine ⟨_, rfl, ?_⟩
          refine hK _ _ (hH) ?_
          clear hK K
          try simp only [Act.put, List.setIfInBounds_toArray, List.set_cons_zero, List.set_cons_succ]
          refine wpAnyH_solo (i := 12) (o := ⟨some 94, _, _, _, _, _⟩) rfl (by kernel_rfl) (fun K hK => ?_)
          refine wpList_callG Tryz.func13 (by kernel_rfl) (by kernel_rfl) (by first | rfl | go_simp) _ _ rfl #[.string ⟨eb.toArray⟩] (args1 rfl) _ (newr_any eb _) ?_
          rintro o wb ⟨rfl, hwb, hRD⟩
          have hH3 := bl_ca hH hwb
          have hlE := hH.size
          refine ⟨_, rfl, ?_⟩
          refine hK _ _ (hH3) ?_
          clear hH
          have hH := hH3
          clear hK K
          try simp only [Act.put, List.setIfInBounds_toArray, List.set_cons_zero, List.set_cons_succ]
          refine wpAnyH_solo (i := 13) (o := ⟨some 95, _, _, _, _, _⟩) rfl (by kernel_rfl) (fun K hK => ?_)
          refine wpList_callG Tryz.func48 (by kernel_rfl) (by kernel_rfl) (by first | rfl | go_simp) _ _ rfl #[.pointer (some ⟨wE.heap.size, 0, none⟩)] (args1 rfl) _ (HTE _ _ hRD) ?_
          rintro o wc hP
          obtain ⟨a9, k9, rfl, hI9, hT9⟩ := hP
          have hH3 := bl_gr hH hT9.grown hlE
          refine ⟨_, rfl, ?_⟩
          refine hK _ _ (hH3) ?_
          clear hH
          have hH := hH3
          clear hK K
          try simp only [Act.put, List.setIfInBounds_toArray, List.set_cons_zero, List.set_cons_succ]
          refine wpAnyH_solo (i := 14) (o := ⟨some 96, _, _, _, _, _⟩) rfl (by kernel_rfl) (fun K hK => ?_)
          refine wpList_callG Tryz.func25 (by kernel_rfl) (by kernel_rfl) (by first | rfl | go_simp) _ _ rfl #[.agg #[.int .i64 ne.term, .string ⟨ne.s.toArray⟩, .bool ne.conf, .slice a9 ne.mem.length k9]] (args1 rfl) _ (HS a9 k9 _ hI9.ia) ?_
          rintro o wd ⟨rfl, hwd⟩
          have hH3 := bl_ca hH hwd
          refine ⟨_, rfl, ?_⟩
          refine hK _ _ (hH3) ?_
          clear hH
          have hH := hH3
          clear hK K
          try simp only [Act.put, List.setIfInBounds_toArray, List.set_cons_zero, List.set_cons_succ]
          refine wpAnyH_solo (i := 16) (o := ⟨some 98, _, _, _, _, _⟩) rfl (by kernel_rfl) (fun K hK => ?_)
          refine wpList_callG Tryz.func18 (by kernel_rfl) (by kernel_rfl) (by first | rfl | go_simp) _ _ rfl #[.pointer (some ⟨w5.heap.size, 0, none⟩)] (args1 rfl) _ (wall_any _ _ _ (hW7.below hH)) ?_
          rintro o wa ⟨rfl, hwa⟩
          replace hwa := hwa.symm
          subst hwa
          refine ⟨_, rfl, ?_⟩
          refine hK _ _ (hH) ?_
          clear hK K
          try simp only [Act.put, List.setIfInBounds_toArray, List.set_cons_zero, List.set_cons_succ]
          refine wpAnyH_take (i := 17) (oi := ⟨some 99, _, _, _, _, _⟩) (v := .bool false) rfl (by kernel_rfl) (by kernel_rfl) (by kernel_rfl) (fun _ _ _ h => h) (Or.inl ⟨by rfl, fun w hSw => by first | (go_simp; done) | (go_simp; omega) | (go_simp; simp; omega)⟩) hH ?_
          try simp only [Act.put, List.setIfInBounds_toArray, List.set_cons_zero, List.set_cons_succ]
          refine wpAnyH_take (i := 18) (oi := ⟨some 100, _, _, _, _, _⟩) (v := .bool false) rfl (by kernel_rfl) (by kernel_rfl) (by kernel_rfl) (fun _ _ _ h => h) (Or.inl ⟨by rfl, fun w hSw => by first | (go_simp; done) | (go_simp; omega) | (go_simp; simp; omega)⟩) hH ?_
          try simp only [Act.put, List.setIfInBounds_toArray, List.set_cons_zero, List.set_cons_succ]
          refine wpAnyH_done (by kernel_rfl) ?_ _
          try simp only [Act.put]
          try go_simp
          go_wp2_with fail
          go_roundw
          case rel => exact ⟨i + 1, by omega, by go_num, by rw [hsu'.out], h97.trans (hH.mono h97.size)⟩
          case measure => simp [intOf]; omega
        · obtain rfl : i = m.ents.length := by omega
          have hz2 : ¬ ((m.ents.length : Int) < (m.ents.length : Int)) := by omega
          rw [List.take_length] at hlb
          have htl := List.take_length (l := m.ents)
          have e8 := hXl.cell 8
          rw [htl]
          have HTx := fun W => rtext_str m.piece W (by omega)
          have hpb : (num m.piece.length 4 ++ m.piece).length ≤ 2147483700 := by rw [List.length_append, num_length]; omega
          clear htl
          generalize num m.piece.length 4 ++ m.piece = pb at *
          generalize lsB m.ents = ls at *
          cases hms : decide (0 < m.mems.length) with
          | true =>
            have hm0 : 0 < m.mems.length := of_decide_eq_true hms
            have hm0i : (0 : Int) < (m.mems.length : Int) := by omega
            have hmo := hm.mems hm0
            rw [hms, if_pos hm0] at hMB2
            have HYm := fun W => yes_any W true
            have hob := num_length 1 true.toNat
            have HMm := fun W (hW : Below w.heap.size w W) => rmemB_any m.mems ma mc W (hI.below hW) (fun x hx => hmo.each x hx) hmo.len
            have hmb : (memB m.mems).length ≤ 17 := by rw [memB_len]; have := hmo.len; omega
            generalize num true.toNat 1 = ob at *
            generalize memB m.mems = mb at *
            have hMB3 : MM = h4 ++ (ls ++ (pb ++ (ob ++ mb))) := hMB2.out
            subst hMB3
            clear hMB2 hms
            go_upto_region 18 with fail
            refine wp_region_held_drew (S := fun w' : World => Below wl.heap.size wl w' ∧ Blk w' w.heap.size #[.int .i64 m.kind, .int .i64 m.frm, .int .i64 m.dst, .int .i64 m.term, .int .i64 m.index, .int .i64 m.logTerm, .int .i64 m.commit, .bool m.yes, .slice ea m.ents.length ec, .int .i64 m.off, .string ⟨m.piece.toArray⟩, .bool m.done, .slice ma m.mems.length mc] 25) (by kernel_rfl) (And.intro (Below.refl wl.heap.size wl).drew hXl.drew) (fun hH => ?_)
            try go_frame
            refine wpAnyH_take (i := 0) (oi := ⟨some 101, _, _, _, _, _⟩) (v := .string ⟨(h4 ++ ls).toArray⟩) rfl (by kernel_rfl) (by kernel_rfl) (by kernel_rfl) (fun _ _ _ h => h) (Or.inl ⟨by rfl, fun w hSw => by go_simp⟩) hH ?_
            try simp only [Act.put, List.setIfInBounds_toArray, List.set_cons_zero, List.set_cons_succ]
            refine wpAnyH_take (i := 1) (oi := ⟨some 102, _, _, _, _, _⟩) (v := .pointer (some ⟨w.heap.size, 10, none⟩)) rfl (by kernel_rfl) (by kernel_rfl) (by kernel_rfl) (fun _ _ _ h => h) (Or.inl ⟨by rfl, fun w hSw => by go_simp⟩) hH ?_
            try simp only [Act.put, List.setIfInBounds_toArray, List.set_cons_zero, List.set_cons_succ]
            refine wpAnyH_take (i := 2) (oi := ⟨some 103, _, _, _, _, _⟩) (v := .string ⟨m.piece.toArray⟩) rfl (by kernel_rfl) (by kernel_rfl) (by kernel_rfl) (fun _ _ _ h => h) (Or.inl ⟨by rfl, fun w hSw => run_loadC _ _ rfl _ _ rfl _ Tryz.underlying9 rfl _ (hSw.2.cell 10)⟩) hH ?_
            try simp only [Act.put, List.setIfInBounds_toArray, List.set_cons_zero, List.set_cons_succ]
            refine wpAnyH_take (i := 4) (oi := ⟨some 105, _, _, _, _, _⟩) (v := .pointer (some ⟨w.heap.size, 12, none⟩)) rfl (by kernel_rfl) (by kernel_rfl) (by kernel_rfl) (fun _ _ _ h => h) (Or.inl ⟨by rfl, fun w hSw => by go_simp⟩) hH ?_
            try simp only [Act.put, List.setIfInBounds_toArray, List.set_cons_zero, List.set_cons_succ]
            refine wpAnyH_take (i := 5) (oi := ⟨some 106, _, _, _, _, _⟩) (v := .slice ma m.mems.length mc) rfl (by kernel_rfl) (by kernel_rfl) (by kernel_rfl) (fun _ _ _ h => h) (Or.inl ⟨by rfl, fun w hSw => run_loadC _ _ rfl _ _ rfl _ Tryz.underlying23 rfl _ (hSw.2.cell 12)⟩) hH ?_
            try simp only [Act.put, List.setIfInBounds_toArray, List.set_cons_zero, List.set_cons_succ]
            refine wpAnyH_take (i := 6) (oi := ⟨some 107, _, _, _, _, _⟩) (v := .int .i64 (m.mems.length : Nat)) rfl (by kernel_rfl) (by kernel_rfl) (by kernel_rfl) (fun _ _ _ h => h) (Or.inl ⟨by rfl, fun w hSw => by first | (go_simp; done) | (go_simp; omega) | (go_simp; simp; omega)⟩) hH ?_
            try simp only [Act.put, List.setIfInBounds_toArray, List.set_cons_zero, List.set_cons_succ]
            refine wpAnyH_take (i := 7) (oi := ⟨some 108, _, _, _, _, _⟩) (v := .bool true) rfl (by kernel_rfl) (by kernel_rfl) (by kernel_rfl) (fun _ _ _ h => h) (Or.inl ⟨by rfl, fun w hSw => by first | (go_simp; done) | (go_simp; omega) | (go_simp; simp; omega)⟩) hH ?_
            try simp only [Act.put, List.setIfInBounds_toArray, List.set_cons_zero, List.set_cons_succ]
            refine wpAnyH_solo (i := 3) (o := ⟨some 104, _, _, _, _, _⟩) rfl (by kernel_rfl) (fun K hK => ?_)
            refine wpList_callR Tryz.func49 (by kernel_rfl) (by kernel_rfl) rfl _ _ rfl #[.string ⟨m.piece.toArray⟩] (args1 rfl) _ (HTx _) ?_
            rintro oo wt ⟨rfl, hwt⟩
            have hH3 := And.intro (bl_ca hH.1 hwt) (hH.2.belowSize hwt)
            refine ⟨_, rfl, ?_⟩
            refine hK _ _ (hH3) ?_
            clear hH
            have hH := hH3
            clear hK K
            try simp only [Act.put, List.setIfInBounds_toArray, List.set_cons_zero, List.set_cons_succ]
            refine wpAnyH_solo (i := 8) (o := ⟨some 109, _, _, _, _, _⟩) rfl (by kernel_rfl) (fun K hK => ?_)
            refine wpList_callR Tryz.func45 (by kernel_rfl) (by kernel_rfl) rfl _ _ rfl #[.bool true] (args1 rfl) _ (HYm _) ?_
            rintro oo wu ⟨rfl, hwu⟩
            replace hwu := hwu.symm
            subst hwu
            refine ⟨_, rfl, ?_⟩
            refine hK _ _ (hH) ?_
            clear hK K
            try simp only [Act.put, List.setIfInBounds_toArray, List.set_cons_zero, List.set_cons_succ]
            refine wpAnyH_take (i := 9) (oi := ⟨some 110, _, _, _, _, _⟩) (v := .string ⟨(pb ++ ob).toArray⟩) rfl (by kernel_rfl) (by kernel_rfl) (by kernel_rfl) (fun _ _ _ h => h) (Or.inl ⟨by rfl, fun w hSw => by first | (go_simp; done) | (go_simp; omega) | (go_simp; simp; omega)⟩) hH ?_
            try simp only [Act.put, List.setIfInBounds_toArray, List.set_cons_zero, List.set_cons_succ]
            refine wpAnyH_take (i := 10) (oi := ⟨some 111, _, _, _, _, _⟩) (v := .string ⟨((h4 ++ ls) ++ (pb ++ ob)).toArray⟩) rfl (by kernel_rfl) (by kernel_rfl) (by kernel_rfl) (fun _ _ _ h => h) (Or.inl ⟨by rfl, fun w hSw => by first | (go_simp; done) | (go_simp; omega) | (go_simp; simp; omega)⟩) hH ?_
            try simp only [Act.put, List.setIfInBounds_toArray, List.set_cons_zero, List.set_cons_succ]
            refine wpAnyH_solo (i := 11) (o := ⟨some 4, _, _, _, _, _⟩) rfl (by kernel_rfl) (fun K hK => ?_)
            refine wpList_pure rfl (.string ⟨((h4 ++ ls) ++ (pb ++ ob)).toArray⟩) (by go_simp) ?_
            refine hK _ _ hH ?_
            clear hK K
            try simp only [Act.put, List.setIfInBounds_toArray, List.set_cons_zero, List.set_cons_succ]
            refine wpAnyH_done (by kernel_rfl) ?_ _
            try simp only [Act.put]
            try go_simp
            have hwe2 := hH
            clear hH
            obtain ⟨hbt, hXt⟩ := hwe2
            have e12 := hXt.cell 12
            have hbwt := hbl.trans (hbt.mono hbl.size)
            have h3t := h39.trans ((hBl2.mono h39.size).trans (hbt.mono (Nat.le_trans h39.size hBl2.size)))
            go_upto_region 22 with (first
              | (go_at_call 50; refine (HMm _ hbwt).mono ?_; rintro oo wm ⟨rfl, hbm⟩)
              | (go_at_call 13; refine (HNR _).mono ?_; rintro oo wr ⟨rfl, hbr, hRD⟩))
            have h3r := (h3t.trans (hbm.mono h3t.size))
            have hbr3 := h3r.trans (hbr.mono h3r.size)
            have hbwr := (hbwt.trans (hbm.mono hbwt.size))
            have hbr1 := hbwr.trans (hbr.mono hbwr.size)
            have HK1 := HTK _ _ hRD
            unfold TmP mcells at HK1
            generalize tmOf ⟨_, 0, 0⟩ = k at *
            generalize (R.msg ⟨_, 0, 0⟩).1 = q at *
            go_upto_region 23 with (go_at_call 14; refine HK1.mono ?_; rintro oo wk hP; obtain ⟨ka, kc, la, lc, rfl, hKE, hkc, hKI, hlc, hTk⟩ := hP; clear HK1)
            have hbk : Below wm.heap.size wm wk := bl_gr hbr hTk.grown (Nat.le_refl _)
            have h3k := h3r.trans (hbk.mono h3r.size)
            have hbwk := hbwr.trans (hbk.mono hbwr.size)
            have hbv := bl_al (Below.refl wk.heap.size wk) (.cells #[.int .i64 k.kind, .int .i64 k.frm, .int .i64 k.dst, .int .i64 k.term, .int .i64 k.index, .int .i64 k.logTerm, .int .i64 k.commit, .bool k.yes, .slice ka k.ents.length kc, .int .i64 k.off, .string ⟨k.piece.toArray⟩, .bool k.done, .slice la k.mems.length lc] 25)
            have hXv := Blk.new wk #[.int .i64 k.kind, .int .i64 k.frm, .int .i64 k.dst, .int .i64 k.term, .int .i64 k.index, .int .i64 k.logTerm, .int .i64 k.commit, .bool k.yes, .slice ka k.ents.length kc, .int .i64 k.off, .string ⟨k.piece.toArray⟩, .bool k.done, .slice la k.mems.length lc] 25
            generalize wk.alloc (.cells #[.int .i64 k.kind, .int .i64 k.frm, .int .i64 k.dst, .int .i64 k.term, .int .i64 k.index, .int .i64 k.logTerm, .int .i64 k.commit, .bool k.yes, .slice ka k.ents.length kc, .int .i64 k.off, .string ⟨k.piece.toArray⟩, .bool k.done, .slice la k.mems.length lc] 25) = wv at *
            have hsv := hbv.size
            have hbwv := hbwk.trans (hbv.mono hbwk.size)
            have h3v := h3k.trans (hbv.mono h3k.size)
            have hrlt : wm.heap.size < wk.heap.size := hTk.rd.lt
            have HPk := fun W (hW : Below wv.heap.size wv W) (h : WR W wv.heap.size []) => put_any k ag4 ka kc la lc wv.heap.size [] W wv hW (Nat.le_refl _) (hKE.below hbv) hkc (hKI.below hbv) hlc h (Nat.zero_le _)
            unfold mcells at HPk
            rw [ag3] at HPk
            go_wp2_with (first
              | (go_at_call 16; refine (neww_any _).mono ?_; rintro oo wx ⟨rfl, hbx, hWx⟩; have hXx := hXv.belowSize hbx
                 have e0 := hXx.cell 0
                 have e1 := hXx.cell 1
                 have e2 := hXx.cell 2
                 have e3 := hXx.cell 3
                 have e4 := hXx.cell 4
                 have e5 := hXx.cell 5
                 have e6 := hXx.cell 6
                 have e7 := hXx.cell 7
                 have e8 := hXx.cell 8
                 have e9 := hXx.cell 9
                 have e10 := hXx.cell 10
                 have e11 := hXx.cell 11
                 have e12 := hXx.cell 12)
              | (go_at_call 17; refine (HPk _ hbx hWx).mono ?_; rintro oo wy ⟨rfl, hPy⟩; clear HPk; have hvy := hbx.trans hPy.below; have h3y := h3v.trans (hvy.mono h3v.size); have hWf := hW3.below h3y; have hRf := (hTk.rd.below hbv).below hvy; have hWy := hPy.wr; rw [List.nil_append] at hWy)
              | (go_at_call 18; refine (wall_any _ _ _ hWf).mono ?_; rintro oo wz ⟨rfl, hwz⟩; replace hwz := hwz.symm; subst hwz)
              | (go_at_call 51; refine (HEN _ _ hRf).mono ?_; rintro oo wq ⟨rfl, hTq⟩; have hWg : WR wq wv.heap.size _ := hWy.other hTq.grown (by omega))
              | (go_at_call 18; refine (wall_any _ _ _ hWg).mono ?_; rintro oo wz2 ⟨rfl, hwz2⟩; replace hwz2 := hwz2.symm; subst hwz2))
            go_ret
            exact ⟨rfl, bl_gr (hbwv.trans (hvy.mono hbwv.size)) hTq.grown hbwr.size⟩

          | false =>
            have hm0 : ¬ (0 < m.mems.length) := of_decide_eq_false hms
            have hm0i : ¬ ((0 : Int) < (m.mems.length : Int)) := by omega
            rw [hms, if_neg hm0, List.append_nil] at hMB2
            have HYm := fun W => yes_any W false
            have hob := num_length 1 false.toNat
            generalize num false.toNat 1 = ob at *
            have hMB3 : MM = h4 ++ (ls ++ (pb ++ ob)) := hMB2.out
            subst hMB3
            clear hMB2 hms
            go_upto_region 18 with fail
            refine wp_region_held_drew (S := fun w' : World => Below wl.heap.size wl w' ∧ Blk w' w.heap.size #[.int .i64 m.kind, .int .i64 m.frm, .int .i64 m.dst, .int .i64 m.term, .int .i64 m.index, .int .i64 m.logTerm, .int .i64 m.commit, .bool m.yes, .slice ea m.ents.length ec, .int .i64 m.off, .string ⟨m.piece.toArray⟩, .bool m.done, .slice ma m.mems.length mc] 25) (by kernel_rfl) (And.intro (Below.refl wl.heap.size wl).drew hXl.drew) (fun hH => ?_)
            try go_frame
            refine wpAnyH_take (i := 0) (oi := ⟨some 101, _, _, _, _, _⟩) (v := .string ⟨(h4 ++ ls).toArray⟩) rfl (by kernel_rfl) (by kernel_rfl) (by kernel_rfl) (fun _ _ _ h => h) (Or.inl ⟨by rfl, fun w hSw => by go_simp⟩) hH ?_
            try simp only [Act.put, List.setIfInBounds_toArray, List.set_cons_zero, List.set_cons_succ]
            refine wpAnyH_take (i := 1) (oi := ⟨some 102, _, _, _, _, _⟩) (v := .pointer (some ⟨w.heap.size, 10, none⟩)) rfl (by kernel_rfl) (by kernel_rfl) (by kernel_rfl) (fun _ _ _ h => h) (Or.inl ⟨by rfl, fun w hSw => by go_simp⟩) hH ?_
            try simp only [Act.put, List.setIfInBounds_toArray, List.set_cons_zero, List.set_cons_succ]
            refine wpAnyH_take (i := 2) (oi := ⟨some 103, _, _, _, _, _⟩) (v := .string ⟨m.piece.toArray⟩) rfl (by kernel_rfl) (by kernel_rfl) (by kernel_rfl) (fun _ _ _ h => h) (Or.inl ⟨by rfl, fun w hSw => run_loadC _ _ rfl _ _ rfl _ Tryz.underlying9 rfl _ (hSw.2.cell 10)⟩) hH ?_
            try simp only [Act.put, List.setIfInBounds_toArray, List.set_cons_zero, List.set_cons_succ]
            refine wpAnyH_take (i := 4) (oi := ⟨some 105, _, _, _, _, _⟩) (v := .pointer (some ⟨w.heap.size, 12, none⟩)) rfl (by kernel_rfl) (by kernel_rfl) (by kernel_rfl) (fun _ _ _ h => h) (Or.inl ⟨by rfl, fun w hSw => by go_simp⟩) hH ?_
            try simp only [Act.put, List.setIfInBounds_toArray, List.set_cons_zero, List.set_cons_succ]
            refine wpAnyH_take (i := 5) (oi := ⟨some 106, _, _, _, _, _⟩) (v := .slice ma m.mems.length mc) rfl (by kernel_rfl) (by kernel_rfl) (by kernel_rfl) (fun _ _ _ h => h) (Or.inl ⟨by rfl, fun w hSw => run_loadC _ _ rfl _ _ rfl _ Tryz.underlying23 rfl _ (hSw.2.cell 12)⟩) hH ?_
            try simp only [Act.put, List.setIfInBounds_toArray, List.set_cons_zero, List.set_cons_succ]
            refine wpAnyH_take (i := 6) (oi := ⟨some 107, _, _, _, _, _⟩) (v := .int .i64 (m.mems.length : Nat)) rfl (by kernel_rfl) (by kernel_rfl) (by kernel_rfl) (fun _ _ _ h => h) (Or.inl ⟨by rfl, fun w hSw => by first | (go_simp; done) | (go_simp; omega) | (go_simp; simp; omega)⟩) hH ?_
            try simp only [Act.put, List.setIfInBounds_toArray, List.set_cons_zero, List.set_cons_succ]
            refine wpAnyH_take (i := 7) (oi := ⟨some 108, _, _, _, _, _⟩) (v := .bool false) rfl (by kernel_rfl) (by kernel_rfl) (by kernel_rfl) (fun _ _ _ h => h) (Or.inl ⟨by rfl, fun w hSw => by first | (go_simp; done) | (go_simp; omega) | (go_simp; simp; omega)⟩) hH ?_
            try simp only [Act.put, List.setIfInBounds_toArray, List.set_cons_zero, List.set_cons_succ]
            refine wpAnyH_solo (i := 3) (o := ⟨some 104, _, _, _, _, _⟩) rfl (by kernel_rfl) (fun K hK => ?_)
            refine wpList_callR Tryz.func49 (by kernel_rfl) (by kernel_rfl) rfl _ _ rfl #[.string ⟨m.piece.toArray⟩] (args1 rfl) _ (HTx _) ?_
            rintro oo wt ⟨rfl, hwt⟩
            have hH3 := And.intro (bl_ca hH.1 hwt) (hH.2.belowSize hwt)
            refine ⟨_, rfl, ?_⟩
            refine hK _ _ (hH3) ?_
            clear hH
            have hH := hH3
            clear hK K
            try simp only [Act.put, List.setIfInBounds_toArray, List.set_cons_zero, List.set_cons_succ]
            refine wpAnyH_solo (i := 8) (o := ⟨some 109, _, _, _, _, _⟩) rfl (by kernel_rfl) (fun K hK => ?_)
            refine wpList_callR Tryz.func45 (by kernel_rfl) (by kernel_rfl) rfl _ _ rfl #[.bool false] (args1 rfl) _ (HYm _) ?_
            rintro oo wu ⟨rfl, hwu⟩
            replace hwu := hwu.symm
            subst hwu
            refine ⟨_, rfl, ?_⟩
            refine hK _ _ (hH) ?_
            clear hK K
            try simp only [Act.put, List.setIfInBounds_toArray, List.set_cons_zero, List.set_cons_succ]
            refine wpAnyH_take (i := 9) (oi := ⟨some 110, _, _, _, _, _⟩) (v := .string ⟨(pb ++ ob).toArray⟩) rfl (by kernel_rfl) (by kernel_rfl) (by kernel_rfl) (fun _ _ _ h => h) (Or.inl ⟨by rfl, fun w hSw => by first | (go_simp; done) | (go_simp; omega) | (go_simp; simp; omega)⟩) hH ?_
            try simp only [Act.put, List.setIfInBounds_toArray, List.set_cons_zero, List.set_cons_succ]
            refine wpAnyH_take (i := 10) (oi := ⟨some 111, _, _, _, _, _⟩) (v := .string ⟨((h4 ++ ls) ++ (pb ++ ob)).toArray⟩) rfl (by kernel_rfl) (by kernel_rfl) (by kernel_rfl) (fun _ _ _ h => h) (Or.inl ⟨by rfl, fun w hSw => by first | (go_simp; done) | (go_simp; omega) | (go_simp; simp; omega)⟩) hH ?_
            try simp only [Act.put, List.setIfInBounds_toArray, List.set_cons_zero, List.set_cons_succ]
            refine wpAnyH_solo (i := 11) (o := ⟨some 4, _, _, _, _, _⟩) rfl (by kernel_rfl) (fun K hK => ?_)
            refine wpList_pure rfl (.string ⟨((h4 ++ ls) ++ (pb ++ ob)).toArray⟩) (by go_simp) ?_
            refine hK _ _ hH ?_
            clear hK K
            try simp only [Act.put, List.setIfInBounds_toArray, List.set_cons_zero, List.set_cons_succ]
            refine wpAnyH_done (by kernel_rfl) ?_ _
            try simp only [Act.put]
            try go_simp
            have hwe2 := hH
            clear hH
            obtain ⟨hbt, hXt⟩ := hwe2
            have e12 := hXt.cell 12
            have hbwt := hbl.trans (hbt.mono hbl.size)
            have h3t := h39.trans ((hBl2.mono h39.size).trans (hbt.mono (Nat.le_trans h39.size hBl2.size)))
            go_upto_region 22 with (go_at_call 13; refine (HNR _).mono ?_; rintro oo wr ⟨rfl, hbr, hRD⟩)
            have h3r := (h3t)
            have hbr3 := h3r.trans (hbr.mono h3r.size)
            have hbwr := (hbwt)
            have hbr1 := hbwr.trans (hbr.mono hbwr.size)
            have HK1 := HTK _ _ hRD
            unfold TmP mcells at HK1
            generalize tmOf ⟨_, 0, 0⟩ = k at *
            generalize (R.msg ⟨_, 0, 0⟩).1 = q at *
            go_upto_region 23 with (go_at_call 14; refine HK1.mono ?_; rintro oo wk hP; obtain ⟨ka, kc, la, lc, rfl, hKE, hkc, hKI, hlc, hTk⟩ := hP; clear HK1)
            have hbk : Below wt.heap.size wt wk := bl_gr hbr hTk.grown (Nat.le_refl _)
            have h3k := h3r.trans (hbk.mono h3r.size)
            have hbwk := hbwr.trans (hbk.mono hbwr.size)
            have hbv := bl_al (Below.refl wk.heap.size wk) (.cells #[.int .i64 k.kind, .int .i64 k.frm, .int .i64 k.dst, .int .i64 k.term, .int .i64 k.index, .int .i64 k.logTerm, .int .i64 k.commit, .bool k.yes, .slice ka k.ents.length kc, .int .i64 k.off, .string ⟨k.piece.toArray⟩, .bool k.done, .slice la k.mems.length lc] 25)
            have hXv := Blk.new wk #[.int .i64 k.kind, .int .i64 k.frm, .int .i64 k.dst, .int .i64 k.term, .int .i64 k.index, .int .i64 k.logTerm, .int .i64 k.commit, .bool k.yes, .slice ka k.ents.length kc, .int .i64 k.off, .string ⟨k.piece.toArray⟩, .bool k.done, .slice la k.mems.length lc] 25
            generalize wk.alloc (.cells #[.int .i64 k.kind, .int .i64 k.frm, .int .i64 k.dst, .int .i64 k.term, .int .i64 k.index, .int .i64 k.logTerm, .int .i64 k.commit, .bool k.yes, .slice ka k.ents.length kc, .int .i64 k.off, .string ⟨k.piece.toArray⟩, .bool k.done, .slice la k.mems.length lc] 25) = wv at *
            have hsv := hbv.size
            have hbwv := hbwk.trans (hbv.mono hbwk.size)
            have h3v := h3k.trans (hbv.mono h3k.size)
            have hrlt : wt.heap.size < wk.heap.size := hTk.rd.lt
            have HPk := fun W (hW : Below wv.heap.size wv W) (h : WR W wv.heap.size []) => put_any k ag4 ka kc la lc wv.heap.size [] W wv hW (Nat.le_refl _) (hKE.below hbv) hkc (hKI.below hbv) hlc h (Nat.zero_le _)
            unfold mcells at HPk
            rw [ag3] at HPk
            go_wp2_with (first
              | (go_at_call 16; refine (neww_any _).mono ?_; rintro oo wx ⟨rfl, hbx, hWx⟩; have hXx := hXv.belowSize hbx
                 have e0 := hXx.cell 0
                 have e1 := hXx.cell 1
                 have e2 := hXx.cell 2
                 have e3 := hXx.cell 3
                 have e4 := hXx.cell 4
                 have e5 := hXx.cell 5
                 have e6 := hXx.cell 6
                 have e7 := hXx.cell 7
                 have e8 := hXx.cell 8
                 have e9 := hXx.cell 9
                 have e10 := hXx.cell 10
                 have e11 := hXx.cell 11
                 have e12 := hXx.cell 12)
              | (go_at_call 17; refine (HPk _ hbx hWx).mono ?_; rintro oo wy ⟨rfl, hPy⟩; clear HPk; have hvy := hbx.trans hPy.below; have h3y := h3v.trans (hvy.mono h3v.size); have hWf := hW3.below h3y; have hRf := (hTk.rd.below hbv).below hvy; have hWy := hPy.wr; rw [List.nil_append] at hWy)
              | (go_at_call 18; refine (wall_any _ _ _ hWf).mono ?_; rintro oo wz ⟨rfl, hwz⟩; replace hwz := hwz.symm; subst hwz)
              | (go_at_call 51; refine (HEN _ _ hRf).mono ?_; rintro oo wq ⟨rfl, hTq⟩; have hWg : WR wq wv.heap.size _ := hWy.other hTq.grown (by omega))
              | (go_at_call 18; refine (wall_any _ _ _ hWg).mono ?_; rintro oo wz2 ⟨rfl, hwz2⟩; replace hwz2 := hwz2.symm; subst hwz2))
            go_ret
            exact ⟨rfl, bl_gr (hbwv.trans (hvy.mono hbwv.size)) hTq.grown hbwr.size⟩

end
end Go.Proofs.YtnhlejdilldfaaaGreat
