/- begun: a world of one alone. -/
import Derived.Test.YtnhlejdilldfaaaGreatRnx
import Derived.Test.YtnhlejdilldfaaaGreatRlz
namespace Go.Proofs.YtnhlejdilldfaaaGreat
open Go Go.RowKit Go.Maps
/-- The verifier's world of one replica: its slices of nodes and of numbers have one each. -/
structure WA (w : World) (wb lb hb nb : Nat) : Prop where
  out : ∃ cl ch am ml lc hc, Blk w wb #[.slice (some ⟨lb, 0, none⟩) 1 cl, .slice none 0 0, .map am, .map ml, .slice (some ⟨hb, 0, none⟩) 1 ch] 63 ∧ 1 ≤ cl ∧ 1 ≤ ch ∧ Blk w lb lc 45 ∧ lc[0]? = some (.pointer (some ⟨nb, 0, none⟩)) ∧ Blk w hb hc 3 ∧ 0 < hc.size
  ne : wb ≠ lb ∧ wb ≠ hb ∧ lb ≠ hb
/-- The blocks of a world of one. -/
def X3 (wb lb hb k : Nat) : Prop := k = wb ∨ k = lb ∨ k = hb
theorem WA.kx {w1 w2 : World} {wb lb hb nb : Nat} (h : WA w1 wb lb hb nb) (hk : Kx (X3 wb lb hb) w1 w2) : WA w2 wb lb hb nb := by
  obtain ⟨cl, ch, am, ml, lc, hc, h1, h2, h3, h4, h5, h6, h7⟩ := h.out
  exact ⟨⟨cl, ch, am, ml, lc, hc, ⟨(hk wb (.inl rfl)).trans h1.out⟩, h2, h3, ⟨(hk lb (.inr (.inl rfl))).trans h4.out⟩, h5, ⟨(hk hb (.inr (.inr rfl))).trans h6.out⟩, h7⟩, h.ne⟩
theorem bsl1P (p : Option Addr) (w : World) : (Instr.buildSlice 59 1 #[(0, .pointer p)]).run Tryz.prog w = .ok (.slice (some ⟨w.heap.size, 0, none⟩) 1 1) (w.alloc (.cells #[.pointer p] 45)) := by
  have i1 : (Tryz.prog.info? 45).map (·.size) = some 1 := by kernel_rfl
  simp [Instr.buildSlice, run_underlying Tryz.underlying59, sizeOf_run i1, Sem.run_bind, Instr.fill, newRow, Tryz.zeroValue45, Value.cells, range1]
theorem infoP : ∃ i, Tryz.prog.info? 45 = some i ∧ i.zero = some (.pointer none) ∧ i.size = 1 ∧ i.bytes ≤ 256 := by
  have h : (Tryz.prog.info? 45).map (fun i => (i.zero, i.size, i.bytes)) = some (some (.pointer none), 1, 8) := by kernel_rfl
  cases hq : Tryz.prog.info? 45 with
  | none => rw [hq] at h; cases h
  | some i => rw [hq] at h; simp at h; exact ⟨i, rfl, h.1, h.2.1, by omega⟩
theorem i59 : (Tryz.prog.info? 59).map (·.size) = some 1 := by kernel_rfl
theorem i23 : (Tryz.prog.info? 23).map (·.size) = some 1 := by kernel_rfl
theorem gl_one {w : World} {t : TypeId} {lo : Nat} {sl v : Value} (h : GL w t 1 lo sl [[v]]) : ∃ g cap cur, lo ≤ g ∧ sl = .slice (some ⟨g, 0, none⟩) 1 cap ∧ 1 ≤ cap ∧ Blk w g cur t ∧ cur[0]? = some v := by
  rcases h.2 with ⟨h1, _⟩ | ⟨g, cap, h1, h2, h3⟩
  · cases h1
  · obtain ⟨cur, k1, k2, k3, k4⟩ := h3.out
    exact ⟨g, cap, cur, h1, h2, by simpa using k2, ⟨k1⟩, k4 0 v rfl⟩
section
variable {ops : Array Oper} {rest : List Oper} {op : Oper} {a : Act} {w : World} {Q : Exit → Act → World → Prop}
theorem wpList_bsl1P (hgd : op.guard = none) (x : Operand) (ho : op.op = .buildSlice 59 1 #[(0, x)]) (p : Option Addr) (hx : a.eval x = .pointer p)
    (h : ∀ w1 : World, Below w.heap.size w w1 → w1.heap.size = w.heap.size + 1 → Blk w1 w.heap.size #[.pointer p] 45 → wpList Tryz.prog ops Q rest (a.put op.dst (.slice (some ⟨w.heap.size, 0, none⟩) 1 1)) w1) : wpList Tryz.prog ops Q (op :: rest) a w := by
  refine wpList_run hgd _ _ ?_ (h _ ((Below.refl _ _).alloc (Nat.le_refl _) _) (by simp) (Blk.new _ _ _))
  unfold execOp
  have e : (#[(0, x)] : Array (Nat × Operand)).map (fun (i, x) => (i, a.eval x)) = #[(0, .pointer p)] := by simp [hx]
  have hr := bsl1P p w
  rw [← e] at hr
  simp only [ho, Sem.run_bind, hr, Result.andThen_ok]
  rfl
end
section
variable (w : World)
attribute [local go_sem] bsl0I
set_option maxRecDepth 100000 in
set_option maxHeartbeats 6000000 in
theorem begun_one (mb mc : Nat) (hM : IA w (some ⟨mb, 0, none⟩) [0]) (_hmc : 1 ≤ mc) : Calls Tryz.prog 27 #[.int .i64 1, .slice (some ⟨mb, 0, none⟩) 1 mc, .slice none 0 0] w fun e w' => ∃ wb lb hb nb, e = .returned (.tuple #[.pointer (some ⟨wb, 0, none⟩), .bool true]) ∧ (w.heap.size ≤ wb ∧ w.heap.size ≤ lb ∧ w.heap.size ≤ hb) ∧ WA w' wb lb hb nb ∧ AX (X3 wb lb hb) w nb 0 (-1) [] 0 0 w' := by
  have hMk := MkS.zero w
  go_enter Tryz.func27, Tryz.ntmps27
  go_upto_region 2 with (with_reducible refine at_list ?_; refine wpList_mkM (W := w) rfl _ rfl hMk ?_; clear hMk; intro w2 hMk)
  have hs2 := hMk.size
  have hb2 := hMk.below
  clear hMk
  have hb3 := bl_al hb2 (.cells #[.slice none 0 0, .slice none 0 0, .map (some w.heap.size), .map (some (w.heap.size + 1)), .slice none 0 0] 63)
  have hW3 := Blk.new w2 #[.slice none 0 0, .slice none 0 0, .map (some w.heap.size), .map (some (w.heap.size + 1)), .slice none 0 0] 63
  generalize w2.alloc (.cells #[.slice none 0 0, .slice none 0 0, .map (some w.heap.size), .map (some (w.heap.size + 1)), .slice none 0 0] 63) = w3 at *
  have hwb : w.heap.size ≤ w2.heap.size := by omega
  replace hs2 : Hid (_ = _) := hs2
  go_wp2_with fail
  go_loopw [9] (fun v9 wl => (v9 = .int .i64 0 ∧ wl = w3) ∨ (v9 = .int .i64 1 ∧ ∃ lb hb nb, (w.heap.size ≤ lb ∧ w.heap.size ≤ hb) ∧ WA wl w2.heap.size lb hb nb ∧ AX (X3 w2.heap.size lb hb) w nb 0 (-1) [] 0 0 wl)) (fun v9 _ => 1 - (intOf v9).toNat)
  case atStart => exact .inl ⟨rfl, rfl⟩
  case round =>
    rcases hrel with ⟨rfl, hw⟩ | ⟨rfl, lb, hb, nb, hge, hWA, hAX⟩
    · replace hw := hw.symm
      subst hw
      have hb4 := bl_al hb3 (.cells #[.int .i64 0, .int .i64 (-1), .int .i64 0, .int .i64 0, .string ⟨#[]⟩, .slice none 0 0, .slice none 0 0] 43)
      have hX4 := Blk.new w3 #[.int .i64 0, .int .i64 (-1), .int .i64 0, .int .i64 0, .string ⟨#[]⟩, .slice none 0 0, .slice none 0 0] 43
      have hW4 := hW3.alloc (.cells #[.int .i64 0, .int .i64 (-1), .int .i64 0, .int .i64 0, .string ⟨#[]⟩, .slice none 0 0, .slice none 0 0] 43)
      have hlt3 := hW3.lt
      go_wp2_with fail
      generalize w3.alloc (.cells #[.int .i64 0, .int .i64 (-1), .int .i64 0, .int .i64 0, .string ⟨#[]⟩, .slice none 0 0, .slice none 0 0] 43) = w4 at *
      have cM := hM.below hb4 0 0 rfl
      obtain ⟨g0, o0, hg0, cM⟩ := cM
      simp only [Option.some.injEq, Addr.mk.injEq, and_true] at hg0
      obtain ⟨rfl, rfl⟩ := hg0
      have e5 := hX4.cell 5
      have f5 := hX4.frozen 5
      go_loopw [11] (fun v11 wl => (v11 = .int .i64 0 ∧ wl = w4) ∨ (v11 = .int .i64 1 ∧ wl = w4.setCell ⟨w3.heap.size, 5, none⟩ (.slice (some ⟨mb, 0, none⟩) 1 mc))) (fun v11 _ => 1 - (intOf v11).toNat)
      case atStart => exact .inl ⟨rfl, rfl⟩
      case round =>
        rcases hrel with ⟨rfl, hw⟩ | ⟨rfl, hw⟩
        · replace hw := hw.symm
          subst hw
          go_wp2_with fail
          go_roundw
          case rel => exact .inr ⟨by first | rfl | go_num, by trivial⟩
          case measure => simp [intOf]
        · replace hw := hw.symm
          subst hw
          have hX5 : Blk (w4.setCell ⟨w3.heap.size, 5, none⟩ (.slice (some ⟨mb, 0, none⟩) 1 mc)) w3.heap.size #[.int .i64 0, .int .i64 (-1), .int .i64 0, .int .i64 0, .string ⟨#[]⟩, .slice (some ⟨mb, 0, none⟩) 1 mc, .slice none 0 0] 43 := hX4.setCell 5 (.slice (some ⟨mb, 0, none⟩) 1 mc)
          have hW5 := hW4.setCell_other ⟨w3.heap.size, 5, none⟩ (show w2.heap.size ≠ w3.heap.size by omega) (.slice (some ⟨mb, 0, none⟩) 1 mc)
          have hb5 := bl_st hb4 hb3.size 5 (.slice (some ⟨mb, 0, none⟩) 1 mc)
          clear e5 f5 hX4 hW4
          generalize w4.setCell ⟨w3.heap.size, 5, none⟩ (.slice (some ⟨mb, 0, none⟩) 1 mc) = w5 at *
          have hb6 := bl_al hb5 (.cells #[] 3)
          have hX6 := hX5.alloc (.cells #[] 3)
          have hW6 := hW5.alloc (.cells #[] 3)
          go_wp2_with fail
          generalize w5.alloc (.cells #[] 3) = w6 at *
          go_loopw [12, 13] (fun v12 v13 wl => v12 = .slice (some ⟨w5.heap.size, 0, none⟩) 0 0 ∧ v13 = .int .i64 0 ∧ wl = w6) (fun _ _ _ => 0)
          case atStart => exact ⟨rfl, rfl, rfl⟩
          case round =>
            obtain ⟨rfl, rfl, hw⟩ := hrel
            replace hw := hw.symm
            subst hw
            have e0 := hX6.cell 0
            have e1 := hX6.cell 1
            have e2 := hX6.cell 2
            have e3 := hX6.cell 3
            have e4 := hX6.cell 4
            have e5 := hX6.cell 5
            have e6 := hX6.cell 6
            have HNw : Calls Tryz.prog 20 #[.int .i64 0, .agg #[.int .i64 0, .int .i64 (-1), .int .i64 0, .int .i64 0, .string ⟨#[]⟩, .slice (some ⟨mb, 0, none⟩) 1 mc, .slice none 0 0], .slice (some ⟨w5.heap.size, 0, none⟩) 0 0] w6 (NewP w6 0 ⟨0, -1, 0, 0, [], [0], []⟩ []) := by
              refine new_any w6 0 ⟨0, -1, 0, 0, [], [0], []⟩ [] (some ⟨mb, 0, none⟩) none (some ⟨w5.heap.size, 0, none⟩) mc 0 0 rfl ?_ (hM.below hb6) (fun i hi => absurd hi (Nat.not_lt_zero _)) rfl
              have h : Al (RN.raw 0 ⟨0, -1, 0, 0, [], [0], []⟩ []) 0 (-1) [] 0 1 (-1) 0 0 0 := ⟨rfl, rfl, rfl, rfl, rfl, rfl, rfl, rfl, rfl, fun _ => rfl, fun _ => rfl, fun _ => rfl, Nat.zero_le _, fun _ he => by cases he⟩
              exact h.bnd (by omega) (Nat.zero_le _) (by simp)
            have hlt6 := hW6.lt
            go_upto_region 19 with (go_at_call 20; refine HNw.mono ?_; rintro e w7 hP; obtain ⟨nb, rfl, hNX, hKx⟩ := hP.nx (X := fun k => k = w2.heap.size) hb6 (fun q hq => by rw [hq]; exact hlt6); clear HNw)
            have hW7 : Blk w7 w2.heap.size #[.slice none 0 0, .slice none 0 0, .map (some w.heap.size), .map (some (w.heap.size + 1)), .slice none 0 0] 63 := ⟨(hKx _ rfl).trans hW6.out⟩
            have h19 := And.intro (hW7.drew.cell 0) (hW7.drew.cell 4)
            have hlt7 := hW7.lt
            obtain ⟨ip, hip, hzp, hsp, hbp⟩ := infoP
            obtain ⟨ii, hii, hzi, hsi, hbi⟩ := infoI
            clear e0 e1 e2 e3 e4 e5 e6
            refine wp_region_Z (z := [17, 20]) (S := fun w' : World => w'.cell? ⟨w2.heap.size, 0, none⟩ = some (.slice none 0 0) ∧ w'.cell? ⟨w2.heap.size, 4, none⟩ = some (.slice none 0 0)) (by kernel_rfl) ?_
            have hH := h19
            have h7 := (Below.refl w7.heap.size w7).drew
            have hW19 := hW7.drew
            try go_frame
            refine wpAnyZ_takeT (i := 0) (oi := ⟨some 80, _, _, _, _, _⟩) (v := .pointer (some ⟨w2.heap.size, 0, none⟩)) rfl (by kernel_rfl) (by kernel_rfl) (by kernel_rfl) (fun _ _ _ h => h) (Or.inl ⟨by rfl, fun w _ => by go_simp⟩) ?_
            try simp only [Act.put, List.setIfInBounds_toArray, List.set_cons_zero, List.set_cons_succ]
            refine wpAnyZ_takeT (i := 1) (oi := ⟨some 81, _, _, _, _, _⟩) (v := .pointer (some ⟨w2.heap.size, 0, none⟩)) rfl (by kernel_rfl) (by kernel_rfl) (by kernel_rfl) (fun _ _ _ h => h) (Or.inl ⟨by rfl, fun w _ => by go_simp⟩) ?_
            try simp only [Act.put, List.setIfInBounds_toArray, List.set_cons_zero, List.set_cons_succ]
            refine wpAnyZ_takeT (i := 2) (oi := ⟨some 82, _, _, _, _, _⟩) (v := .pointer (some ⟨w2.heap.size, 0, none⟩)) rfl (by kernel_rfl) (by kernel_rfl) (by kernel_rfl) (fun _ _ _ h => h) (Or.inl ⟨by rfl, fun w _ => by go_simp⟩) ?_
            try simp only [Act.put, List.setIfInBounds_toArray, List.set_cons_zero, List.set_cons_succ]
            refine wpAnyZ_takeT (i := 3) (oi := ⟨some 83, _, _, _, _, _⟩) (v := .pointer (some ⟨w2.heap.size, 0, none⟩)) rfl (by kernel_rfl) (by kernel_rfl) (by kernel_rfl) (fun _ _ _ h => h) (Or.inl ⟨by rfl, fun w _ => by go_simp⟩) ?_
            try simp only [Act.put, List.setIfInBounds_toArray, List.set_cons_zero, List.set_cons_succ]
            refine wpAnyZ_takeT (i := 4) (oi := ⟨some 84, _, _, _, _, _⟩) (v := .pointer (some ⟨w2.heap.size, 0, none⟩)) rfl (by kernel_rfl) (by kernel_rfl) (by kernel_rfl) (fun _ _ _ h => h) (Or.inl ⟨by rfl, fun w _ => by go_simp⟩) ?_
            try simp only [Act.put, List.setIfInBounds_toArray, List.set_cons_zero, List.set_cons_succ]
            refine wpAnyZ_take (i := 5) (oi := ⟨some 85, _, _, _, _, _⟩) (v := .slice none 0 0) rfl (by kernel_rfl) (by kernel_rfl) (by kernel_rfl) (by kernel_rfl) (fun _ _ _ h => h) (Or.inl ⟨by rfl, fun w hSw => run_loadC _ _ rfl _ _ rfl _ Tryz.underlying59 rfl _ hSw.1⟩) hH ?_
            try simp only [Act.put, List.setIfInBounds_toArray, List.set_cons_zero, List.set_cons_succ]
            refine wpAnyZ_takeT (i := 6) (oi := ⟨some 86, _, _, _, _, _⟩) (v := .pointer (some ⟨nb, 0, none⟩)) rfl (by kernel_rfl) (by kernel_rfl) (by kernel_rfl) (fun _ _ _ h => h) (Or.inl ⟨by rfl, fun w _ => by go_simp⟩) ?_
            try simp only [Act.put, List.setIfInBounds_toArray, List.set_cons_zero, List.set_cons_succ]
            refine wpAnyZ_takeT (i := 9) (oi := ⟨some 89, _, _, _, _, _⟩) (v := .pointer (some ⟨w2.heap.size, 0, none⟩)) rfl (by kernel_rfl) (by kernel_rfl) (by kernel_rfl) (fun _ _ _ h => h) (Or.inl ⟨by rfl, fun w _ => by go_simp⟩) ?_
            try simp only [Act.put, List.setIfInBounds_toArray, List.set_cons_zero, List.set_cons_succ]
            refine wpAnyZ_takeT (i := 10) (oi := ⟨some 90, _, _, _, _, _⟩) (v := .pointer (some ⟨w2.heap.size, 0, none⟩)) rfl (by kernel_rfl) (by kernel_rfl) (by kernel_rfl) (fun _ _ _ h => h) (Or.inl ⟨by rfl, fun w _ => by go_simp⟩) ?_
            try simp only [Act.put, List.setIfInBounds_toArray, List.set_cons_zero, List.set_cons_succ]
            refine wpAnyZ_takeT (i := 11) (oi := ⟨some 91, _, _, _, _, _⟩) (v := .pointer (some ⟨w2.heap.size, 4, none⟩)) rfl (by kernel_rfl) (by kernel_rfl) (by kernel_rfl) (fun _ _ _ h => h) (Or.inl ⟨by rfl, fun w _ => by go_simp⟩) ?_
            try simp only [Act.put, List.setIfInBounds_toArray, List.set_cons_zero, List.set_cons_succ]
            refine wpAnyZ_take (i := 12) (oi := ⟨some 92, _, _, _, _, _⟩) (v := .slice none 0 0) rfl (by kernel_rfl) (by kernel_rfl) (by kernel_rfl) (by kernel_rfl) (fun _ _ _ h => h) (Or.inl ⟨by rfl, fun w hSw => run_loadC _ _ rfl _ _ rfl _ Tryz.underlying23 rfl _ hSw.2⟩) hH ?_
            try simp only [Act.put, List.setIfInBounds_toArray, List.set_cons_zero, List.set_cons_succ]
            refine wpAnyZ_two (i := 7) (j := 13) (o := ⟨some 87, _, _, _, _, _⟩) (u := ⟨some 93, _, _, _, _, _⟩) rfl rfl (by kernel_rfl) (fun K hK => ?_) (fun K hK => ?_)
            · skip
              refine wpList_bsl1P rfl _ rfl (some ⟨nb, 0, none⟩) rfl ?_
              intro wx1 hwx1 hswx1 hBbp
              have h7 := h7.trans (hwx1.mono h7.size)
              have hW19 := hW19.belowSize hwx1
              have hH3 := And.intro ((hwx1.cell (World.block_lt_of_cell? _ _ hH.1)).trans hH.1) ((hwx1.cell (World.block_lt_of_cell? _ _ hH.2)).trans hH.2)
              refine hK _ _ (fun _ _ => hH3) ?_
              clear hK K hH
              have hH := hH3
              clear hH3
              try simp only [Act.put, List.setIfInBounds_toArray, List.set_cons_zero, List.set_cons_succ]
              refine wpAnyZ_two (i := 8) (j := 13) (o := ⟨some 88, _, _, _, _, _⟩) (u := ⟨some 93, _, _, _, _, _⟩) rfl rfl (by kernel_rfl) (fun K hK => ?_) (fun K hK => ?_)
              · skip
                refine wpList_appendGLR rfl _ _ _ 45 rfl 1 w7.heap.size (.slice none 0 0) [] h7.size rfl (GL.nil _ _ _ _) w7.drew.heap.size 1 rfl [.pointer (some ⟨nb, 0, none⟩)] rfl (fun u hu => by rw [List.mem_singleton] at hu; rw [hu]; rfl) 45 hBbp ip (.pointer none) rfl Tryz.underlying59 hip hzp hsp hbp (Nat.zero_le _) ?_
                intro wx2 slp hgwx2 hGp hnp
                replace hgwx2 : wx1.grownBy wx2 none := hgwx2
                have hwx2 : Below wx1.heap.size wx1 wx2 := ⟨hgwx2.os, hgwx2.tape, hgwx2.output, hgwx2.size, fun q hq => hgwx2.block q hq (by simp)⟩
                obtain ⟨gp, capp, curp, hglp, rfl, hcp, hBkp, hvp⟩ := gl_one hGp
                have hgep : wx1.heap.size ≤ gp := (hnp gp rfl).elim (fun e => by cases e) id
                have h7 := h7.trans (hwx2.mono h7.size)
                have hW19 := hW19.belowSize hwx2
                have hH3 := And.intro ((hwx2.cell (World.block_lt_of_cell? _ _ hH.1)).trans hH.1) ((hwx2.cell (World.block_lt_of_cell? _ _ hH.2)).trans hH.2)
                refine hK _ _ (fun _ _ => hH3) ?_
                clear hK K hH
                have hH := hH3
                clear hH3
                try simp only [Act.put, List.setIfInBounds_toArray, List.set_cons_zero, List.set_cons_succ]
                refine wpAnyZ_solo (i := 13) (o := ⟨some 93, _, _, _, _, _⟩) rfl (by kernel_rfl) (fun K hK => ?_)
                refine wpList_bsl1I rfl _ rfl 0 rfl ?_
                intro wx3 hwx3 hswx3 hBbi
                have h7 := h7.trans (hwx3.mono h7.size)
                have hW19 := hW19.belowSize hwx3
                have hBkp := hBkp.belowSize hwx3
                have hH3 := And.intro ((hwx3.cell (World.block_lt_of_cell? _ _ hH.1)).trans hH.1) ((hwx3.cell (World.block_lt_of_cell? _ _ hH.2)).trans hH.2)
                refine hK _ _ (fun _ _ => hH3) ?_
                clear hK K hH
                have hH := hH3
                clear hH3
                try simp only [Act.put, List.setIfInBounds_toArray, List.set_cons_zero, List.set_cons_succ]
                refine wpAnyZ_solo (i := 14) (o := ⟨some 94, _, _, _, _, _⟩) rfl (by kernel_rfl) (fun K hK => ?_)
                refine wpList_appendGLR rfl _ _ _ 3 rfl 1 w7.heap.size (.slice none 0 0) [] h7.size rfl (GL.nil _ _ _ _) wx2.heap.size 1 rfl [.int .i64 0] rfl (fun u hu => by rw [List.mem_singleton] at hu; rw [hu]; rfl) 3 hBbi ii (.int .i64 0) rfl Tryz.underlying23 hii hzi hsi hbi (Nat.zero_le _) ?_
                intro wx4 sli hgwx4 hGi hni
                replace hgwx4 : wx3.grownBy wx4 none := hgwx4
                have hwx4 : Below wx3.heap.size wx3 wx4 := ⟨hgwx4.os, hgwx4.tape, hgwx4.output, hgwx4.size, fun q hq => hgwx4.block q hq (by simp)⟩
                obtain ⟨gi, capi, curi, hgli, rfl, hci, hBki, hvi⟩ := gl_one hGi
                have hgei : wx3.heap.size ≤ gi := (hni gi rfl).elim (fun e => by cases e) id
                have hne : gp < gi := Nat.lt_of_lt_of_le hBkp.lt hgei
                have h7 := h7.trans (hwx4.mono h7.size)
                have hW19 := hW19.belowSize hwx4
                have hBkp := hBkp.belowSize hwx4
                have hH3 := And.intro ((hwx4.cell (World.block_lt_of_cell? _ _ hH.1)).trans hH.1) ((hwx4.cell (World.block_lt_of_cell? _ _ hH.2)).trans hH.2)
                refine hK _ _ (fun _ _ => hH3) ?_
                clear hK K hH
                have hH := hH3
                clear hH3
                try simp only [Act.put, List.setIfInBounds_toArray, List.set_cons_zero, List.set_cons_succ]
                refine wpAnyZ_solo (i := 15) (o := ⟨some 95, _, _, _, _, _⟩) rfl (by kernel_rfl) (fun K hK => ?_)
                refine wpList_pure rfl (.pointer (some ⟨w2.heap.size, 0, none⟩)) (by go_simp) ?_
                refine hK _ _ (fun _ h => h) ?_
                clear hK K
                try simp only [Act.put, List.setIfInBounds_toArray, List.set_cons_zero, List.set_cons_succ]
                refine wpAnyZ_solo (i := 16) (o := ⟨some 96, _, _, _, _, _⟩) rfl (by kernel_rfl) (fun K hK => ?_)
                refine wpList_pure rfl (.pointer (some ⟨w2.heap.size, 0, none⟩)) (by go_simp) ?_
                refine hK _ _ (fun _ h => h) ?_
                clear hK K
                try simp only [Act.put, List.setIfInBounds_toArray, List.set_cons_zero, List.set_cons_succ]
                refine wpAnyZ_solo (i := 17) (o := ⟨none, _, _, _, _, _⟩) rfl (by kernel_rfl) (fun K hK => ?_)
                refine wpList_stC rfl _ _ _ rfl w2.heap.size 0 rfl (.slice (some ⟨gp, 0, none⟩) 1 capp) rfl _ _ hW19 i59 rfl rfl (by show 0 < 5; decide) ?_
                refine hK _ _ (fun e _ => absurd (by decide) e) ?_
                clear hK K
                try simp only [Act.put]
                refine wpAnyZ_solo (i := 18) (o := ⟨some 97, _, _, _, _, _⟩) rfl (by kernel_rfl) (fun K hK => ?_)
                refine wpList_pure rfl (.pointer (some ⟨w2.heap.size, 0, none⟩)) (by go_simp) ?_
                refine hK _ _ (fun _ h => h) ?_
                clear hK K
                try simp only [Act.put, List.setIfInBounds_toArray, List.set_cons_zero, List.set_cons_succ]
                refine wpAnyZ_solo (i := 19) (o := ⟨some 98, _, _, _, _, _⟩) rfl (by kernel_rfl) (fun K hK => ?_)
                refine wpList_pure rfl (.pointer (some ⟨w2.heap.size, 4, none⟩)) (by go_simp) ?_
                refine hK _ _ (fun _ h => h) ?_
                clear hK K
                try simp only [Act.put, List.setIfInBounds_toArray, List.set_cons_zero, List.set_cons_succ]
                refine wpAnyZ_solo (i := 20) (o := ⟨none, _, _, _, _, _⟩) rfl (by kernel_rfl) (fun K hK => ?_)
                refine wpList_stC rfl _ _ _ rfl w2.heap.size 4 rfl (.slice (some ⟨gi, 0, none⟩) 1 capi) rfl _ _ (hW19.setCell 0 (.slice (some ⟨gp, 0, none⟩) 1 capp)) i23 rfl rfl (by show 4 < 5; decide) ?_
                refine hK _ _ (fun e _ => absurd (by decide) e) ?_
                clear hK K
                try simp only [Act.put]
                refine wpAnyZ_done (by kernel_rfl) ?_ _
                try simp only [Act.put]
                try go_simp
                have hgi2 := hBki.lt
                have hws7 := hNX.base.size
                have hgp2 := hBkp.lt
                have hNY := (hNX.newX h7).sub (X' := X3 w2.heap.size gp gi) (fun q hq => by
                  rcases hq with e | e | e
                  · exact .inl e
                  · exact .inr ⟨by omega, by omega⟩
                  · exact .inr ⟨by omega, by omega⟩)
                have hNZ := (hNY.store (.inl rfl) hwb 0 (.slice (some ⟨gp, 0, none⟩) 1 capp)).store (.inl rfl) hwb 4 (.slice (some ⟨gi, 0, none⟩) 1 capi)
                have hWf := (hW19.setCell 0 (.slice (some ⟨gp, 0, none⟩) 1 capp)).setCell 4 (.slice (some ⟨gi, 0, none⟩) 1 capi)
                have hPf := (hBkp.setCell_other ⟨w2.heap.size, 0, none⟩ (show gp ≠ w2.heap.size by omega) (.slice (some ⟨gp, 0, none⟩) 1 capp)).setCell_other ⟨w2.heap.size, 4, none⟩ (show gp ≠ w2.heap.size by omega) (.slice (some ⟨gi, 0, none⟩) 1 capi)
                have hIf := (hBki.setCell_other ⟨w2.heap.size, 0, none⟩ (show gi ≠ w2.heap.size by omega) (.slice (some ⟨gp, 0, none⟩) 1 capp)).setCell_other ⟨w2.heap.size, 4, none⟩ (show gi ≠ w2.heap.size by omega) (.slice (some ⟨gi, 0, none⟩) 1 capi)
                have hcs : 0 < curi.size := (Array.getElem?_eq_some_iff.1 hvi).1
                have hRz := Run.zero 0 (-1) [] (fun _ he => by cases he)
                go_wp2_with fail
                go_roundw
                case rel => exact .inr ⟨by first | rfl | go_num, gp, gi, nb, ⟨by omega, by omega⟩, ⟨⟨capp, capi, _, _, curp, curi, hWf, hcp, hci, hPf, hvp, hIf, hcs⟩, by omega, by omega, by omega⟩, ⟨_, hNZ, hRz⟩⟩
                case measure => simp [intOf]
              · skip
                refine wpList_bsl1I rfl _ rfl 0 rfl ?_
                intro wx2 hwx2 hswx2 hBbi
                have h7 := h7.trans (hwx2.mono h7.size)
                have hW19 := hW19.belowSize hwx2
                have hBbp := hBbp.belowSize hwx2
                have hH3 := And.intro ((hwx2.cell (World.block_lt_of_cell? _ _ hH.1)).trans hH.1) ((hwx2.cell (World.block_lt_of_cell? _ _ hH.2)).trans hH.2)
                refine hK _ _ (fun _ _ => hH3) ?_
                clear hK K hH
                have hH := hH3
                clear hH3
                try simp only [Act.put, List.setIfInBounds_toArray, List.set_cons_zero, List.set_cons_succ]
                refine wpAnyZ_solo (i := 8) (o := ⟨some 88, _, _, _, _, _⟩) rfl (by kernel_rfl) (fun K hK => ?_)
                refine wpList_appendGLR rfl _ _ _ 45 rfl 1 w7.heap.size (.slice none 0 0) [] h7.size rfl (GL.nil _ _ _ _) w7.drew.heap.size 1 rfl [.pointer (some ⟨nb, 0, none⟩)] rfl (fun u hu => by rw [List.mem_singleton] at hu; rw [hu]; rfl) 45 hBbp ip (.pointer none) rfl Tryz.underlying59 hip hzp hsp hbp (Nat.zero_le _) ?_
                intro wx3 slp hgwx3 hGp hnp
                replace hgwx3 : wx2.grownBy wx3 none := hgwx3
                have hwx3 : Below wx2.heap.size wx2 wx3 := ⟨hgwx3.os, hgwx3.tape, hgwx3.output, hgwx3.size, fun q hq => hgwx3.block q hq (by simp)⟩
                obtain ⟨gp, capp, curp, hglp, rfl, hcp, hBkp, hvp⟩ := gl_one hGp
                have hgep : wx2.heap.size ≤ gp := (hnp gp rfl).elim (fun e => by cases e) id
                have h7 := h7.trans (hwx3.mono h7.size)
                have hW19 := hW19.belowSize hwx3
                have hBbi := hBbi.belowSize hwx3
                have hH3 := And.intro ((hwx3.cell (World.block_lt_of_cell? _ _ hH.1)).trans hH.1) ((hwx3.cell (World.block_lt_of_cell? _ _ hH.2)).trans hH.2)
                refine hK _ _ (fun _ _ => hH3) ?_
                clear hK K hH
                have hH := hH3
                clear hH3
                try simp only [Act.put, List.setIfInBounds_toArray, List.set_cons_zero, List.set_cons_succ]
                refine wpAnyZ_solo (i := 14) (o := ⟨some 94, _, _, _, _, _⟩) rfl (by kernel_rfl) (fun K hK => ?_)
                refine wpList_appendGLR rfl _ _ _ 3 rfl 1 w7.heap.size (.slice none 0 0) [] h7.size rfl (GL.nil _ _ _ _) wx1.heap.size 1 rfl [.int .i64 0] rfl (fun u hu => by rw [List.mem_singleton] at hu; rw [hu]; rfl) 3 hBbi ii (.int .i64 0) rfl Tryz.underlying23 hii hzi hsi hbi (Nat.zero_le _) ?_
                intro wx4 sli hgwx4 hGi hni
                replace hgwx4 : wx3.grownBy wx4 none := hgwx4
                have hwx4 : Below wx3.heap.size wx3 wx4 := ⟨hgwx4.os, hgwx4.tape, hgwx4.output, hgwx4.size, fun q hq => hgwx4.block q hq (by simp)⟩
                obtain ⟨gi, capi, curi, hgli, rfl, hci, hBki, hvi⟩ := gl_one hGi
                have hgei : wx3.heap.size ≤ gi := (hni gi rfl).elim (fun e => by cases e) id
                have hne : gp < gi := Nat.lt_of_lt_of_le hBkp.lt hgei
                have h7 := h7.trans (hwx4.mono h7.size)
                have hW19 := hW19.belowSize hwx4
                have hBkp := hBkp.belowSize hwx4
                have hH3 := And.intro ((hwx4.cell (World.block_lt_of_cell? _ _ hH.1)).trans hH.1) ((hwx4.cell (World.block_lt_of_cell? _ _ hH.2)).trans hH.2)
                refine hK _ _ (fun _ _ => hH3) ?_
                clear hK K hH
                have hH := hH3
                clear hH3
                try simp only [Act.put, List.setIfInBounds_toArray, List.set_cons_zero, List.set_cons_succ]
                refine wpAnyZ_solo (i := 15) (o := ⟨some 95, _, _, _, _, _⟩) rfl (by kernel_rfl) (fun K hK => ?_)
                refine wpList_pure rfl (.pointer (some ⟨w2.heap.size, 0, none⟩)) (by go_simp) ?_
                refine hK _ _ (fun _ h => h) ?_
                clear hK K
                try simp only [Act.put, List.setIfInBounds_toArray, List.set_cons_zero, List.set_cons_succ]
                refine wpAnyZ_solo (i := 16) (o := ⟨some 96, _, _, _, _, _⟩) rfl (by kernel_rfl) (fun K hK => ?_)
                refine wpList_pure rfl (.pointer (some ⟨w2.heap.size, 0, none⟩)) (by go_simp) ?_
                refine hK _ _ (fun _ h => h) ?_
                clear hK K
                try simp only [Act.put, List.setIfInBounds_toArray, List.set_cons_zero, List.set_cons_succ]
                refine wpAnyZ_solo (i := 17) (o := ⟨none, _, _, _, _, _⟩) rfl (by kernel_rfl) (fun K hK => ?_)
                refine wpList_stC rfl _ _ _ rfl w2.heap.size 0 rfl (.slice (some ⟨gp, 0, none⟩) 1 capp) rfl _ _ hW19 i59 rfl rfl (by show 0 < 5; decide) ?_
                refine hK _ _ (fun e _ => absurd (by decide) e) ?_
                clear hK K
                try simp only [Act.put]
                refine wpAnyZ_solo (i := 18) (o := ⟨some 97, _, _, _, _, _⟩) rfl (by kernel_rfl) (fun K hK => ?_)
                refine wpList_pure rfl (.pointer (some ⟨w2.heap.size, 0, none⟩)) (by go_simp) ?_
                refine hK _ _ (fun _ h => h) ?_
                clear hK K
                try simp only [Act.put, List.setIfInBounds_toArray, List.set_cons_zero, List.set_cons_succ]
                refine wpAnyZ_solo (i := 19) (o := ⟨some 98, _, _, _, _, _⟩) rfl (by kernel_rfl) (fun K hK => ?_)
                refine wpList_pure rfl (.pointer (some ⟨w2.heap.size, 4, none⟩)) (by go_simp) ?_
                refine hK _ _ (fun _ h => h) ?_
                clear hK K
                try simp only [Act.put, List.setIfInBounds_toArray, List.set_cons_zero, List.set_cons_succ]
                refine wpAnyZ_solo (i := 20) (o := ⟨none, _, _, _, _, _⟩) rfl (by kernel_rfl) (fun K hK => ?_)
                refine wpList_stC rfl _ _ _ rfl w2.heap.size 4 rfl (.slice (some ⟨gi, 0, none⟩) 1 capi) rfl _ _ (hW19.setCell 0 (.slice (some ⟨gp, 0, none⟩) 1 capp)) i23 rfl rfl (by show 4 < 5; decide) ?_
                refine hK _ _ (fun e _ => absurd (by decide) e) ?_
                clear hK K
                try simp only [Act.put]
                refine wpAnyZ_done (by kernel_rfl) ?_ _
                try simp only [Act.put]
                try go_simp
                have hgi2 := hBki.lt
                have hws7 := hNX.base.size
                have hgp2 := hBkp.lt
                have hNY := (hNX.newX h7).sub (X' := X3 w2.heap.size gp gi) (fun q hq => by
                  rcases hq with e | e | e
                  · exact .inl e
                  · exact .inr ⟨by omega, by omega⟩
                  · exact .inr ⟨by omega, by omega⟩)
                have hNZ := (hNY.store (.inl rfl) hwb 0 (.slice (some ⟨gp, 0, none⟩) 1 capp)).store (.inl rfl) hwb 4 (.slice (some ⟨gi, 0, none⟩) 1 capi)
                have hWf := (hW19.setCell 0 (.slice (some ⟨gp, 0, none⟩) 1 capp)).setCell 4 (.slice (some ⟨gi, 0, none⟩) 1 capi)
                have hPf := (hBkp.setCell_other ⟨w2.heap.size, 0, none⟩ (show gp ≠ w2.heap.size by omega) (.slice (some ⟨gp, 0, none⟩) 1 capp)).setCell_other ⟨w2.heap.size, 4, none⟩ (show gp ≠ w2.heap.size by omega) (.slice (some ⟨gi, 0, none⟩) 1 capi)
                have hIf := (hBki.setCell_other ⟨w2.heap.size, 0, none⟩ (show gi ≠ w2.heap.size by omega) (.slice (some ⟨gp, 0, none⟩) 1 capp)).setCell_other ⟨w2.heap.size, 4, none⟩ (show gi ≠ w2.heap.size by omega) (.slice (some ⟨gi, 0, none⟩) 1 capi)
                have hcs : 0 < curi.size := (Array.getElem?_eq_some_iff.1 hvi).1
                have hRz := Run.zero 0 (-1) [] (fun _ he => by cases he)
                go_wp2_with fail
                go_roundw
                case rel => exact .inr ⟨by first | rfl | go_num, gp, gi, nb, ⟨by omega, by omega⟩, ⟨⟨capp, capi, _, _, curp, curi, hWf, hcp, hci, hPf, hvp, hIf, hcs⟩, by omega, by omega, by omega⟩, ⟨_, hNZ, hRz⟩⟩
                case measure => simp [intOf]
            · skip
              refine wpList_bsl1I rfl _ rfl 0 rfl ?_
              intro wx1 hwx1 hswx1 hBbi
              have h7 := h7.trans (hwx1.mono h7.size)
              have hW19 := hW19.belowSize hwx1
              have hH3 := And.intro ((hwx1.cell (World.block_lt_of_cell? _ _ hH.1)).trans hH.1) ((hwx1.cell (World.block_lt_of_cell? _ _ hH.2)).trans hH.2)
              refine hK _ _ (fun _ _ => hH3) ?_
              clear hK K hH
              have hH := hH3
              clear hH3
              try simp only [Act.put, List.setIfInBounds_toArray, List.set_cons_zero, List.set_cons_succ]
              refine wpAnyZ_solo (i := 7) (o := ⟨some 87, _, _, _, _, _⟩) rfl (by kernel_rfl) (fun K hK => ?_)
              refine wpList_bsl1P rfl _ rfl (some ⟨nb, 0, none⟩) rfl ?_
              intro wx2 hwx2 hswx2 hBbp
              have h7 := h7.trans (hwx2.mono h7.size)
              have hW19 := hW19.belowSize hwx2
              have hBbi := hBbi.belowSize hwx2
              have hH3 := And.intro ((hwx2.cell (World.block_lt_of_cell? _ _ hH.1)).trans hH.1) ((hwx2.cell (World.block_lt_of_cell? _ _ hH.2)).trans hH.2)
              refine hK _ _ (fun _ _ => hH3) ?_
              clear hK K hH
              have hH := hH3
              clear hH3
              try simp only [Act.put, List.setIfInBounds_toArray, List.set_cons_zero, List.set_cons_succ]
              refine wpAnyZ_solo (i := 8) (o := ⟨some 88, _, _, _, _, _⟩) rfl (by kernel_rfl) (fun K hK => ?_)
              refine wpList_appendGLR rfl _ _ _ 45 rfl 1 w7.heap.size (.slice none 0 0) [] h7.size rfl (GL.nil _ _ _ _) wx1.heap.size 1 rfl [.pointer (some ⟨nb, 0, none⟩)] rfl (fun u hu => by rw [List.mem_singleton] at hu; rw [hu]; rfl) 45 hBbp ip (.pointer none) rfl Tryz.underlying59 hip hzp hsp hbp (Nat.zero_le _) ?_
              intro wx3 slp hgwx3 hGp hnp
              replace hgwx3 : wx2.grownBy wx3 none := hgwx3
              have hwx3 : Below wx2.heap.size wx2 wx3 := ⟨hgwx3.os, hgwx3.tape, hgwx3.output, hgwx3.size, fun q hq => hgwx3.block q hq (by simp)⟩
              obtain ⟨gp, capp, curp, hglp, rfl, hcp, hBkp, hvp⟩ := gl_one hGp
              have hgep : wx2.heap.size ≤ gp := (hnp gp rfl).elim (fun e => by cases e) id
              have h7 := h7.trans (hwx3.mono h7.size)
              have hW19 := hW19.belowSize hwx3
              have hBbi := hBbi.belowSize hwx3
              have hH3 := And.intro ((hwx3.cell (World.block_lt_of_cell? _ _ hH.1)).trans hH.1) ((hwx3.cell (World.block_lt_of_cell? _ _ hH.2)).trans hH.2)
              refine hK _ _ (fun _ _ => hH3) ?_
              clear hK K hH
              have hH := hH3
              clear hH3
              try simp only [Act.put, List.setIfInBounds_toArray, List.set_cons_zero, List.set_cons_succ]
              refine wpAnyZ_solo (i := 14) (o := ⟨some 94, _, _, _, _, _⟩) rfl (by kernel_rfl) (fun K hK => ?_)
              refine wpList_appendGLR rfl _ _ _ 3 rfl 1 w7.heap.size (.slice none 0 0) [] h7.size rfl (GL.nil _ _ _ _) w7.drew.heap.size 1 rfl [.int .i64 0] rfl (fun u hu => by rw [List.mem_singleton] at hu; rw [hu]; rfl) 3 hBbi ii (.int .i64 0) rfl Tryz.underlying23 hii hzi hsi hbi (Nat.zero_le _) ?_
              intro wx4 sli hgwx4 hGi hni
              replace hgwx4 : wx3.grownBy wx4 none := hgwx4
              have hwx4 : Below wx3.heap.size wx3 wx4 := ⟨hgwx4.os, hgwx4.tape, hgwx4.output, hgwx4.size, fun q hq => hgwx4.block q hq (by simp)⟩
              obtain ⟨gi, capi, curi, hgli, rfl, hci, hBki, hvi⟩ := gl_one hGi
              have hgei : wx3.heap.size ≤ gi := (hni gi rfl).elim (fun e => by cases e) id
              have hne : gp < gi := Nat.lt_of_lt_of_le hBkp.lt hgei
              have h7 := h7.trans (hwx4.mono h7.size)
              have hW19 := hW19.belowSize hwx4
              have hBkp := hBkp.belowSize hwx4
              have hH3 := And.intro ((hwx4.cell (World.block_lt_of_cell? _ _ hH.1)).trans hH.1) ((hwx4.cell (World.block_lt_of_cell? _ _ hH.2)).trans hH.2)
              refine hK _ _ (fun _ _ => hH3) ?_
              clear hK K hH
              have hH := hH3
              clear hH3
              try simp only [Act.put, List.setIfInBounds_toArray, List.set_cons_zero, List.set_cons_succ]
              refine wpAnyZ_solo (i := 15) (o := ⟨some 95, _, _, _, _, _⟩) rfl (by kernel_rfl) (fun K hK => ?_)
              refine wpList_pure rfl (.pointer (some ⟨w2.heap.size, 0, none⟩)) (by go_simp) ?_
              refine hK _ _ (fun _ h => h) ?_
              clear hK K
              try simp only [Act.put, List.setIfInBounds_toArray, List.set_cons_zero, List.set_cons_succ]
              refine wpAnyZ_solo (i := 16) (o := ⟨some 96, _, _, _, _, _⟩) rfl (by kernel_rfl) (fun K hK => ?_)
              refine wpList_pure rfl (.pointer (some ⟨w2.heap.size, 0, none⟩)) (by go_simp) ?_
              refine hK _ _ (fun _ h => h) ?_
              clear hK K
              try simp only [Act.put, List.setIfInBounds_toArray, List.set_cons_zero, List.set_cons_succ]
              refine wpAnyZ_solo (i := 17) (o := ⟨none, _, _, _, _, _⟩) rfl (by kernel_rfl) (fun K hK => ?_)
              refine wpList_stC rfl _ _ _ rfl w2.heap.size 0 rfl (.slice (some ⟨gp, 0, none⟩) 1 capp) rfl _ _ hW19 i59 rfl rfl (by show 0 < 5; decide) ?_
              refine hK _ _ (fun e _ => absurd (by decide) e) ?_
              clear hK K
              try simp only [Act.put]
              refine wpAnyZ_solo (i := 18) (o := ⟨some 97, _, _, _, _, _⟩) rfl (by kernel_rfl) (fun K hK => ?_)
              refine wpList_pure rfl (.pointer (some ⟨w2.heap.size, 0, none⟩)) (by go_simp) ?_
              refine hK _ _ (fun _ h => h) ?_
              clear hK K
              try simp only [Act.put, List.setIfInBounds_toArray, List.set_cons_zero, List.set_cons_succ]
              refine wpAnyZ_solo (i := 19) (o := ⟨some 98, _, _, _, _, _⟩) rfl (by kernel_rfl) (fun K hK => ?_)
              refine wpList_pure rfl (.pointer (some ⟨w2.heap.size, 4, none⟩)) (by go_simp) ?_
              refine hK _ _ (fun _ h => h) ?_
              clear hK K
              try simp only [Act.put, List.setIfInBounds_toArray, List.set_cons_zero, List.set_cons_succ]
              refine wpAnyZ_solo (i := 20) (o := ⟨none, _, _, _, _, _⟩) rfl (by kernel_rfl) (fun K hK => ?_)
              refine wpList_stC rfl _ _ _ rfl w2.heap.size 4 rfl (.slice (some ⟨gi, 0, none⟩) 1 capi) rfl _ _ (hW19.setCell 0 (.slice (some ⟨gp, 0, none⟩) 1 capp)) i23 rfl rfl (by show 4 < 5; decide) ?_
              refine hK _ _ (fun e _ => absurd (by decide) e) ?_
              clear hK K
              try simp only [Act.put]
              refine wpAnyZ_done (by kernel_rfl) ?_ _
              try simp only [Act.put]
              try go_simp
              have hgi2 := hBki.lt
              have hws7 := hNX.base.size
              have hgp2 := hBkp.lt
              have hNY := (hNX.newX h7).sub (X' := X3 w2.heap.size gp gi) (fun q hq => by
                rcases hq with e | e | e
                · exact .inl e
                · exact .inr ⟨by omega, by omega⟩
                · exact .inr ⟨by omega, by omega⟩)
              have hNZ := (hNY.store (.inl rfl) hwb 0 (.slice (some ⟨gp, 0, none⟩) 1 capp)).store (.inl rfl) hwb 4 (.slice (some ⟨gi, 0, none⟩) 1 capi)
              have hWf := (hW19.setCell 0 (.slice (some ⟨gp, 0, none⟩) 1 capp)).setCell 4 (.slice (some ⟨gi, 0, none⟩) 1 capi)
              have hPf := (hBkp.setCell_other ⟨w2.heap.size, 0, none⟩ (show gp ≠ w2.heap.size by omega) (.slice (some ⟨gp, 0, none⟩) 1 capp)).setCell_other ⟨w2.heap.size, 4, none⟩ (show gp ≠ w2.heap.size by omega) (.slice (some ⟨gi, 0, none⟩) 1 capi)
              have hIf := (hBki.setCell_other ⟨w2.heap.size, 0, none⟩ (show gi ≠ w2.heap.size by omega) (.slice (some ⟨gp, 0, none⟩) 1 capp)).setCell_other ⟨w2.heap.size, 4, none⟩ (show gi ≠ w2.heap.size by omega) (.slice (some ⟨gi, 0, none⟩) 1 capi)
              have hcs : 0 < curi.size := (Array.getElem?_eq_some_iff.1 hvi).1
              have hRz := Run.zero 0 (-1) [] (fun _ he => by cases he)
              go_wp2_with fail
              go_roundw
              case rel => exact .inr ⟨by first | rfl | go_num, gp, gi, nb, ⟨by omega, by omega⟩, ⟨⟨capp, capi, _, _, curp, curi, hWf, hcp, hci, hPf, hvp, hIf, hcs⟩, by omega, by omega, by omega⟩, ⟨_, hNZ, hRz⟩⟩
              case measure => simp [intOf]
    · go_wp2_with fail
      go_ret2
      exact ⟨_, lb, hb, nb, rfl, ⟨hwb, hge⟩, hWA, hAX⟩
end
end Go.Proofs.YtnhlejdilldfaaaGreat
