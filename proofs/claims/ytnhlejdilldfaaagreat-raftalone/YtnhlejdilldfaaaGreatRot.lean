/- What a replica tells all others. -/
import Derived.Test.YtnhlejdilldfaaaGreatRpc
namespace Go.Proofs.YtnhlejdilldfaaaGreat
open Go Go.RowKit Go.Maps
theorem infoM : ∃ i, Tryz.prog.info? 25 = some i ∧ i.zero = some (.agg #[.int .i64 0, .int .i64 0, .int .i64 0, .int .i64 0, .int .i64 0, .int .i64 0, .int .i64 0, .bool false, .slice none 0 0, .int .i64 0, .string ⟨#[]⟩, .bool false, .slice none 0 0]) ∧ i.size = 13 ∧ i.bytes ≤ 256 := by
  have h : (Tryz.prog.info? 25).map (fun i => (i.zero, i.size)) = some (some (.agg #[.int .i64 0, .int .i64 0, .int .i64 0, .int .i64 0, .int .i64 0, .int .i64 0, .int .i64 0, .bool false, .slice none 0 0, .int .i64 0, .string ⟨#[]⟩, .bool false, .slice none 0 0]), 13) := by kernel_rfl
  have hb : (Tryz.prog.info? 25).map (fun i => decide (i.bytes ≤ 256)) = some true := by kernel_rfl
  cases hq : Tryz.prog.info? 25 with
  | none => rw [hq] at h; cases h
  | some i => rw [hq] at h hb; simp at h hb; exact ⟨i, rfl, h.1, h.2, hb⟩
theorem iM13 : (Tryz.prog.info? 25).map (·.size) = some 13 := by kernel_rfl
theorem zM13 : (Value.agg #[.int .i64 0, .int .i64 0, .int .i64 0, .int .i64 0, .int .i64 0, .int .i64 0, .int .i64 0, .bool false, .slice none 0 0, .int .i64 0, .string ⟨#[]⟩, .bool false, .slice none 0 0]).cells.size = 13 := rfl
theorem range13 : Array.range 13 = #[0, 1, 2, 3, 4, 5, 6, 7, 8, 9, 10, 11, 12] := by decide
theorem bsl1M (m : MSG) (ev mv : Value) (w : World) : (Instr.buildSlice 44 1 #[(0, .agg (mcells m ev mv))]).run Tryz.prog w = .ok (.slice (some ⟨w.heap.size, 0, none⟩) 1 1) (w.alloc (.cells (mcells m ev mv) 25)) := by
  simp [Instr.buildSlice, run_underlying Tryz.underlying44, sizeOf_run iM13, Sem.run_bind, Instr.fill, newRow, Tryz.zeroValue25, Value.cells, range13, mcells]
section
variable {ops : Array Oper} {rest : List Oper} {op : Oper} {a : Act} {w : World} {Q : Exit → Act → World → Prop}
theorem wpList_bsl1M (hgd : op.guard = none) (x : Operand) (ho : op.op = .buildSlice 44 1 #[(0, x)]) (m : MSG) (ev mv : Value) (hx : a.eval x = .agg (mcells m ev mv))
    (h : ∀ w1 : World, Below w.heap.size w w1 → w1.heap.size = w.heap.size + 1 → Blk w1 w.heap.size (mcells m ev mv) 25 → wpList Tryz.prog ops Q rest (a.put op.dst (.slice (some ⟨w.heap.size, 0, none⟩) 1 1)) w1) : wpList Tryz.prog ops Q (op :: rest) a w := by
  refine wpList_run hgd _ _ ?_ (h _ ((Below.refl _ _).alloc (Nat.le_refl _) _) (by simp) (Blk.new w _ _))
  unfold execOp
  have e : (#[(0, x)] : Array (Nat × Operand)).map (fun (i, x) => (i, a.eval x)) = #[(0, .agg (mcells m ev mv))] := by simp [hx]
  have hr := bsl1M m ev mv w
  rw [← e] at hr
  simp only [ho, Sem.run_bind, hr, Result.andThen_ok]
  rfl
end
/-- Messages in a slice that grows. -/
def MG (w0 w : World) (v : Value) (l : List MSG) : Prop := ∃ ls : List (List Value), GL w 25 13 w0.heap.size v ls ∧ ls.length = l.length ∧ ∀ i (h : i < l.length), ∃ ev mv, ls[i]? = some (mcells l[i] ev mv).toList ∧ MF (fun k => NewB w0 w k ∧ slBlk v ≠ some k) w l[i] ev mv
theorem MG.nil (w0 w : World) : MG w0 w (.slice none 0 0) [] := ⟨[], GL.nil _ _ _ _, rfl, fun i hi => by simp at hi⟩
theorem MG.below {w0 w w' : World} {v : Value} {l : List MSG} (h : MG w0 w v l) (hb : Below w.heap.size w w') : MG w0 w' v l := by
  obtain ⟨ls, h1, h2, h3⟩ := h
  refine ⟨ls, h1.below hb, h2, fun i hi => ?_⟩
  obtain ⟨ev, mv, k1, k2⟩ := h3 i hi
  exact ⟨ev, mv, k1, k2.kept (fun k hk => hb.block k hk.1.2) (fun k hk => ⟨⟨hk.1.1, Nat.lt_of_lt_of_le hk.1.2 hb.size⟩, hk.2⟩)⟩
theorem MG.ms {w0 w : World} {v : Value} {l : List MSG} (h : MG w0 w v l) : MS (NewB w0 w) w v l := by
  obtain ⟨ls, hG, hl, hls⟩ := h
  rcases hG.2 with ⟨rfl, rfl⟩ | ⟨g, cap, h1, rfl, hS⟩
  · obtain rfl : l = [] := List.length_eq_zero_iff.1 (by simpa using hl.symm)
    exact MS.nil _ _
  · obtain ⟨cur, k1, k2, k3, k4⟩ := hS.out
    refine ⟨some ⟨g, 0, none⟩, cap, by rw [hl], by omega, fun i hi => ?_⟩
    obtain ⟨ev, mv, m1, m2⟩ := hls i hi
    have hil : i < ls.length := by omega
    have he : ls[i] = (mcells l[i] ev mv).toList := by
      rw [List.getElem?_eq_getElem hil] at m1
      exact Option.some.inj m1
    refine ⟨g, 0, ev, mv, rfl, ⟨h1, hS.lt⟩, fun j v hv => ?_, m2.kept (fun _ _ => rfl) (fun k hk => hk.1)⟩
    have := hS.cell (i * 13 + j) v (flat_get hG.1 i hil j v (by rw [he]; exact hv))
    simpa using this
theorem MG.lt {w0 w : World} {v : Value} {l : List MSG} (h : MG w0 w v l) : ∀ r, slBlk v = some r → r < w.heap.size := fun r e => by
  obtain ⟨ls, hG, _⟩ := h
  exact (hG.lt r e).2
/-- One more is put behind them. -/
theorem MG.push {w0 w w' : World} {v v' : Value} {l : List MSG} {m : MSG} {ev mv : Value} {ls : List (List Value)} (hl : ls.length = l.length) (hls : ∀ i (h : i < l.length), ∃ ev mv, ls[i]? = some (mcells l[i] ev mv).toList ∧ MF (fun k => NewB w0 w k ∧ slBlk v ≠ some k) w l[i] ev mv) (hm : MF (fun k => NewB w0 w k ∧ slBlk v ≠ some k) w m ev mv)
    (hg : w.grownBy w' (slBlk v)) (hG' : GL w' 25 13 w0.heap.size v' (ls ++ [(mcells m ev mv).toList])) (hn : ∀ r, slBlk v' = some r → slBlk v = some r ∨ w.heap.size ≤ r) : MG w0 w' v' (l ++ [m]) := by
  have hk : ∀ {x : MSG} {a b : Value}, MF (fun k => NewB w0 w k ∧ slBlk v ≠ some k) w x a b → MF (fun k => NewB w0 w' k ∧ slBlk v' ≠ some k) w' x a b := fun hx => hx.kept (fun k hk => hg.block k hk.1.2 (fun e => hk.2 e.symm)) (fun k hk => ⟨⟨hk.1.1, Nat.lt_of_lt_of_le hk.1.2 hg.size⟩, fun e => by
    rcases hn k e with e2 | e2
    · exact hk.2 e2
    · have := hk.1.2; omega⟩)
  refine ⟨_, hG', by rw [List.length_append, List.length_append, hl]; rfl, fun i hi => ?_⟩
  rw [List.length_append, List.length_singleton] at hi
  by_cases hil : i < l.length
  · obtain ⟨a, b, k1, k2⟩ := hls i hil
    rw [List.getElem_append_left hil]
    exact ⟨a, b, by rw [List.getElem?_append_left (by omega)]; exact k1, hk k2⟩
  · obtain rfl : i = l.length := by omega
    rw [List.getElem_append_right (Nat.le_refl _)]
    simp only [Nat.sub_self, List.getElem_singleton]
    exact ⟨ev, mv, by rw [List.getElem?_append_right (by omega), hl, Nat.sub_self]; rfl, hk hm⟩
/-- What has been told to the first i. -/
def othN (N : RN) (f : Int → MSG) (l : List Int) (i : Nat) : List MSG := ((l.take i).filter fun w => decide (w ≠ N.me)).map f
theorem othN_yes {N : RN} {f : Int → MSG} {l : List Int} {i : Nat} (h : i < l.length) (hn : l.getD i 0 ≠ N.me) : othN N f l (i + 1) = othN N f l i ++ [f (l.getD i 0)] := by
  unfold othN
  rw [take_getD h, List.filter_append, List.map_append, List.filter_cons_of_pos (by simpa using hn)]
  rfl
theorem othN_no {N : RN} {f : Int → MSG} {l : List Int} {i : Nat} (h : i < l.length) (hn : l.getD i 0 = N.me) : othN N f l (i + 1) = othN N f l i := by
  unfold othN
  rw [take_getD h, List.filter_append, List.map_append, List.filter_cons_of_neg (by simpa using hn)]
  simp
theorem othN_all (N : RN) (f : Int → MSG) : othN N f N.mems N.mems.length = N.others f := by unfold othN RN.others; rw [List.take_length]
theorem othN_len (N : RN) (f : Int → MSG) (l : List Int) (i : Nat) : (othN N f l i).length ≤ i := by
  unfold othN
  rw [List.length_map]
  refine Nat.le_trans (List.length_filter_le _ _) ?_
  rw [List.length_take]; omega
theorem mcells_one (m : MSG) (x1 : Option Addr) (n1 c1 : Nat) (x2 : Option Addr) (n2 c2 : Nat) : ∀ u ∈ (mcells m (.slice x1 n1 c1) (.slice x2 n2 c2)).toList, u.oneCell' = true := fun u hu => by
  simp only [mcells, List.mem_cons, List.not_mem_nil, or_false] at hu
  rcases hu with rfl | rfl | rfl | rfl | rfl | rfl | rfl | rfl | rfl | rfl | rfl | rfl | rfl <;> rfl
theorem mcells_len (m : MSG) (a b : Value) : (mcells m a b).toList.length = 13 := rfl
section
variable {ops : Array Oper} {rest : List Oper} {op : Oper} {a : Act} {w : World} {Q : Exit → Act → World → Prop}
theorem wpList_appM (hgd : op.guard = none) (x y : Operand) (ho : op.op = .call { callee := .builtin .append, args := #[x, y], argTypes := #[44, 44] }) {lo : Nat} {sl : Value} {l : List (List Value)} (hlo : lo ≤ w.heap.size) (hx : a.eval x = sl) (hsl : GL w 25 13 lo sl l) (hlen : l.length ≤ 274877906944) {g2 : Nat} (hy : a.eval y = .slice (some ⟨g2, 0, none⟩) 1 1) {m : MSG} {xa ya : Option Addr} {xn yn : Nat} (hB : Blk w g2 (mcells m (.slice xa m.ents.length xn) (.slice ya m.mems.length yn)) 25)
    (h : ∀ (w1 : World) (sl1 : Value), w.grownBy w1 (slBlk sl) → GL w1 25 13 lo sl1 (l ++ [(mcells m (.slice xa m.ents.length xn) (.slice ya m.mems.length yn)).toList]) → (∀ r, slBlk sl1 = some r → slBlk sl = some r ∨ w.heap.size ≤ r) → wpList Tryz.prog ops Q rest (a.put op.dst sl1) w1) : wpList Tryz.prog ops Q (op :: rest) a w := by
  obtain ⟨iM, hi, hz, hs, hby⟩ := infoM
  exact wpList_appendGLR hgd x y _ 25 ho 13 lo sl l hlo hx hsl g2 1 hy _ (mcells_len ..) (mcells_one _ _ _ _ _ _ _) 25 (by rw [Array.toArray_toList]; exact hB) iM _ zM13 Tryz.underlying44 hi hz hs hby hlen h
end
/-- What is told lies in a slice. -/
def OtP (w : World) (l : List MSG) (e : Ending) (w' : World) : Prop := ∃ v, e = .returned v ∧ MS (NewB w w') w' v l ∧ Below w.heap.size w w'
section
variable (F : Nat → Prop) (nb : Nat) (M : NM) (lb : Option Nat) (w : World) (N : RN)
set_option maxRecDepth 100000 in
set_option maxHeartbeats 1000000 in
theorem toOthers_ask (h : ND F nb M lb w N) (hb : Bnd N) (hml : N.mems.length ≤ 16) (f : Int → MSG)
    (HF : ∀ x ∈ N.mems, x ≠ N.me → ∀ W, ND F nb M lb W N → Calls Tryz.prog 120 #[.pointer (some ⟨nb, 0, none⟩), .int .i64 x] W (TlP W (f x))) :
    Calls Tryz.prog 93 #[.pointer (some ⟨nb, 0, none⟩), .func (.func 120) #[.pointer (some ⟨nb, 0, none⟩)] #[]] w (OtP w (N.others f)) := by
  have HM := membersN F nb M lb w N h hb
  obtain ⟨iM, hi, hz, hs, hby⟩ := infoM
  rw [← othN_all N f]
  generalize N.mems = L at *
  go_enter Tryz.func93, Tryz.ntmps93
  go_wp2_with (go_at_call 36; refine HM.mono ?_; rintro e w1 ⟨a, c, rfl, hI, hw1⟩; clear HM)
  go_loopw [5, 11] (fun v5 v11 wl => ∃ i : Nat, i ≤ L.length ∧ v11 = .int .i64 i ∧ Below w1.heap.size w1 wl ∧ MG w1 wl v5 (othN N f L i)) (fun _ v11 _ => L.length - (intOf v11).toNat)
  case atStart => exact ⟨0, by omega, rfl, Below.refl _ _, MG.nil _ _⟩
  case round =>
    obtain ⟨i, hil, rfl, hw2, hG⟩ := hrel
    have hIA := hI.ia.below hw2
    by_cases hlt : i < L.length
    · obtain ⟨g, o, rfl⟩ := hIA.ex (by omega)
      have ci := hIA.cell hlt
      have h1 := h.below (bl_ca hw1 hw2)
      have c0 := h1.c0
      have hz1 : (0 : Int) ≤ (i : Int) := by omega
      have hz2 : (i : Int) < (L.length : Int) := by omega
      have hz3 : i < L.length := hlt
      have hw3 : IntKind.i64.wrap ((i : Int) + 1) = ((i + 1 : Nat) : Int) := by rw [IntKind.wrap_i64]; omega
      have hmem : L.getD i 0 ∈ L := by
        rw [List.getD_eq_getElem?_getD, List.getElem?_eq_getElem hlt]; exact List.getElem_mem hlt
      have hfi := HF (L.getD i 0) hmem
      have hoy := othN_yes (N := N) (f := f) hlt
      have hon := othN_no (N := N) (f := f) hlt
      have hol := othN_len N f L i
      by_cases hme : L.getD i 0 = N.me
      · replace hon := hon hme
        have d1 : (L.getD i 0 != N.me) = false := by rw [hme]; simp
        clear hoy hfi hme hmem HF
        generalize L.getD i 0 = x at *
        go_wp2_with fail
        go_roundw
        case rel => exact ⟨i + 1, by omega, by go_num, hw2, by rw [hon]; exact hG⟩
        case measure => simp [intOf]; omega
      · replace hoy := hoy hme
        replace hfi := hfi hme
        have HF0 : True := trivial
        have d1 : (L.getD i 0 != N.me) = true := by rw [bne_iff_ne]; exact hme
        clear hon hmem HF hme
        generalize L.getD i 0 = x at *
        generalize othN N f L i = T at *
        have hT : Hid (othN N f L (i + 1) = T ++ [f x]) := hoy
        clear hoy
        generalize f x = m at *
        clear HF0
        go_wp2_with (first
          | (go_at_call 120; refine (hfi _ h1).mono ?_; rintro e w3 ⟨ev, mv, rfl, hmf, hw3b⟩; clear hfi; obtain ⟨ls, hGl, hll, hls⟩ := hG.below hw3b; have hlsl : ls.length ≤ 274877906944 := (by omega); have hmf2 : MF (fun k => NewB w1 w3 k ∧ slBlk u5 ≠ some k) w3 m ev mv := hmf.kept (fun _ _ => rfl) (fun k hk => ⟨⟨Nat.le_trans hw2.size hk.1, hk.2⟩, fun e => by have := hG.lt k e; have := hk.1; omega⟩))
          | (with_reducible refine at_list ?_; first
            | (refine wpList_bsl1M (op := ⟨some 25, _, _, _, _, _⟩) rfl _ rfl m ev mv rfl ?_; intro w4 hw4 hs4 hB4; obtain ⟨xa, xn, hevx, _⟩ := hmf2.ents; obtain ⟨ya, yn, hmvx, _⟩ := hmf2.mems; subst hevx hmvx; have hlo4 := Nat.le_trans hw2.size (Nat.le_trans hw3b.size hw4.size))
            | (refine wpList_appM (op := ⟨some 26, _, _, _, _, _⟩) (sl := u5) (g2 := w3.heap.size) rfl _ _ rfl hlo4 rfl (hGl.below hw4) hlsl rfl hB4 ?_; intro w5 v5 hg5 hG5 hn5)))
        have hfin := MG.push hll (fun i hi => by
          obtain ⟨a, b, k1, k2⟩ := hls i hi
          exact ⟨a, b, k1, k2.kept (fun k hk => hw4.block k hk.1.2) (fun k hk => ⟨⟨hk.1.1, Nat.lt_of_lt_of_le hk.1.2 hw4.size⟩, hk.2⟩)⟩) (hmf2.kept (fun k hk => hw4.block k hk.1.2) (fun k hk => ⟨⟨hk.1.1, Nat.lt_of_lt_of_le hk.1.2 hw4.size⟩, hk.2⟩)) hg5 hG5 hn5
        have hw5 : Below w1.heap.size w1 w5 := (bl_ca (bl_ca hw2 hw3b) hw4).trans ⟨hg5.os, hg5.tape, hg5.output, hg5.size, fun k hk => hg5.block k (Nat.lt_of_lt_of_le hk (bl_ca (bl_ca hw2 hw3b) hw4).size) (fun e => by have := hGl.lt k e.symm; omega)⟩
        go_roundw
        case rel => exact ⟨i + 1, by omega, by go_num, hw5, by rw [hT.out]; exact hfin⟩
        case measure => simp [intOf]; omega
    · obtain rfl : i = L.length := by omega
      have hz2 : ¬ ((L.length : Int) < (L.length : Int)) := by omega
      have hms := hG.ms
      clear hG HF
      generalize othN N f L L.length = T at *
      go_wp2_with fail
      go_ret
      exact ⟨_, rfl, hms.kept (fun _ _ => rfl) (fun k hk => ⟨Nat.le_trans hw1.size hk.1, hk.2⟩), bl_ca hw1 hw2⟩
set_option maxRecDepth 100000 in
set_option maxHeartbeats 1000000 in
theorem toOthers_tell (h : ND F nb M lb w N) (hb : Bnd N) (hml : N.mems.length ≤ 16) (f : Int → MSG)
    (HF : ∀ x ∈ N.mems, x ≠ N.me → ∀ W, ND F nb M lb W N → Calls Tryz.prog 94 #[.pointer (some ⟨nb, 0, none⟩), .int .i64 x] W (TlP W (f x))) :
    Calls Tryz.prog 93 #[.pointer (some ⟨nb, 0, none⟩), .func (.func 94) #[.pointer (some ⟨nb, 0, none⟩)] #[]] w (OtP w (N.others f)) := by
  have HM := membersN F nb M lb w N h hb
  obtain ⟨iM, hi, hz, hs, hby⟩ := infoM
  rw [← othN_all N f]
  generalize N.mems = L at *
  go_enter Tryz.func93, Tryz.ntmps93
  go_wp2_with (go_at_call 36; refine HM.mono ?_; rintro e w1 ⟨a, c, rfl, hI, hw1⟩; clear HM)
  go_loopw [5, 11] (fun v5 v11 wl => ∃ i : Nat, i ≤ L.length ∧ v11 = .int .i64 i ∧ Below w1.heap.size w1 wl ∧ MG w1 wl v5 (othN N f L i)) (fun _ v11 _ => L.length - (intOf v11).toNat)
  case atStart => exact ⟨0, by omega, rfl, Below.refl _ _, MG.nil _ _⟩
  case round =>
    obtain ⟨i, hil, rfl, hw2, hG⟩ := hrel
    have hIA := hI.ia.below hw2
    by_cases hlt : i < L.length
    · obtain ⟨g, o, rfl⟩ := hIA.ex (by omega)
      have ci := hIA.cell hlt
      have h1 := h.below (bl_ca hw1 hw2)
      have c0 := h1.c0
      have hz1 : (0 : Int) ≤ (i : Int) := by omega
      have hz2 : (i : Int) < (L.length : Int) := by omega
      have hz3 : i < L.length := hlt
      have hw3 : IntKind.i64.wrap ((i : Int) + 1) = ((i + 1 : Nat) : Int) := by rw [IntKind.wrap_i64]; omega
      have hmem : L.getD i 0 ∈ L := by
        rw [List.getD_eq_getElem?_getD, List.getElem?_eq_getElem hlt]; exact List.getElem_mem hlt
      have hfi := HF (L.getD i 0) hmem
      have hoy := othN_yes (N := N) (f := f) hlt
      have hon := othN_no (N := N) (f := f) hlt
      have hol := othN_len N f L i
      by_cases hme : L.getD i 0 = N.me
      · replace hon := hon hme
        have d1 : (L.getD i 0 != N.me) = false := by rw [hme]; simp
        clear hoy hfi hme hmem HF
        generalize L.getD i 0 = x at *
        go_wp2_with fail
        go_roundw
        case rel => exact ⟨i + 1, by omega, by go_num, hw2, by rw [hon]; exact hG⟩
        case measure => simp [intOf]; omega
      · replace hoy := hoy hme
        replace hfi := hfi hme
        have HF0 : True := trivial
        have d1 : (L.getD i 0 != N.me) = true := by rw [bne_iff_ne]; exact hme
        clear hon hmem HF hme
        generalize L.getD i 0 = x at *
        generalize othN N f L i = T at *
        have hT : Hid (othN N f L (i + 1) = T ++ [f x]) := hoy
        clear hoy
        generalize f x = m at *
        clear HF0
        go_wp2_with (first
          | (go_at_call 94; refine (hfi _ h1).mono ?_; rintro e w3 ⟨ev, mv, rfl, hmf, hw3b⟩; clear hfi; obtain ⟨ls, hGl, hll, hls⟩ := hG.below hw3b; have hlsl : ls.length ≤ 274877906944 := (by omega); have hmf2 : MF (fun k => NewB w1 w3 k ∧ slBlk u5 ≠ some k) w3 m ev mv := hmf.kept (fun _ _ => rfl) (fun k hk => ⟨⟨Nat.le_trans hw2.size hk.1, hk.2⟩, fun e => by have := hG.lt k e; have := hk.1; omega⟩))
          | (with_reducible refine at_list ?_; first
            | (refine wpList_bsl1M (op := ⟨some 25, _, _, _, _, _⟩) rfl _ rfl m ev mv rfl ?_; intro w4 hw4 hs4 hB4; obtain ⟨xa, xn, hevx, _⟩ := hmf2.ents; obtain ⟨ya, yn, hmvx, _⟩ := hmf2.mems; subst hevx hmvx; have hlo4 := Nat.le_trans hw2.size (Nat.le_trans hw3b.size hw4.size))
            | (refine wpList_appM (op := ⟨some 26, _, _, _, _, _⟩) (sl := u5) (g2 := w3.heap.size) rfl _ _ rfl hlo4 rfl (hGl.below hw4) hlsl rfl hB4 ?_; intro w5 v5 hg5 hG5 hn5)))
        have hfin := MG.push hll (fun i hi => by
          obtain ⟨a, b, k1, k2⟩ := hls i hi
          exact ⟨a, b, k1, k2.kept (fun k hk => hw4.block k hk.1.2) (fun k hk => ⟨⟨hk.1.1, Nat.lt_of_lt_of_le hk.1.2 hw4.size⟩, hk.2⟩)⟩) (hmf2.kept (fun k hk => hw4.block k hk.1.2) (fun k hk => ⟨⟨hk.1.1, Nat.lt_of_lt_of_le hk.1.2 hw4.size⟩, hk.2⟩)) hg5 hG5 hn5
        have hw5 : Below w1.heap.size w1 w5 := (bl_ca (bl_ca hw2 hw3b) hw4).trans ⟨hg5.os, hg5.tape, hg5.output, hg5.size, fun k hk => hg5.block k (Nat.lt_of_lt_of_le hk (bl_ca (bl_ca hw2 hw3b) hw4).size) (fun e => by have := hGl.lt k e.symm; omega)⟩
        go_roundw
        case rel => exact ⟨i + 1, by omega, by go_num, hw5, by rw [hT.out]; exact hfin⟩
        case measure => simp [intOf]; omega
    · obtain rfl : i = L.length := by omega
      have hz2 : ¬ ((L.length : Int) < (L.length : Int)) := by omega
      have hms := hG.ms
      clear hG HF
      generalize othN N f L L.length = T at *
      go_wp2_with fail
      go_ret
      exact ⟨_, rfl, hms.kept (fun _ _ => rfl) (fun k hk => ⟨Nat.le_trans hw1.size hk.1, hk.2⟩), bl_ca hw1 hw2⟩
end
end Go.Proofs.YtnhlejdilldfaaaGreat
