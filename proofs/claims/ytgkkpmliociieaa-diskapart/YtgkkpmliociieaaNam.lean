/- What Names of a disk does; slices of texts and of files that grow. -/
import Derived.Test.YtgkkpmliociieaaUse
import Derived.Test.YtgkkpmliociieaaSlc
namespace Go.Proofs.Ytgkkpmliociieaa
open Go Go.RowKit
theorem range0 : Array.range 0 = #[] := by decide
theorem range1 : Array.range 1 = #[0] := by decide
theorem iStr : (Try.prog.info? 9).map (·.size) = some 1 := by kernel_rfl
theorem infoStr : ∃ i, Try.prog.info? 9 = some i ∧ i.zero = some (.string ⟨#[]⟩) ∧ i.size = 1 ∧ i.bytes ≤ 256 := by
  have h : (Try.prog.info? 9).map (fun i => (i.zero, i.size, decide (i.bytes ≤ 256))) = some (some (.string ⟨#[]⟩), 1, true) := by kernel_rfl
  cases hq : Try.prog.info? 9 with
  | none => rw [hq] at h; cases h
  | some i => rw [hq] at h; simp at h; exact ⟨i, rfl, h.1, h.2.1, h.2.2⟩
theorem tsl0 (w : World) : (Instr.buildSlice 43 0 #[]).run Try.prog w = .ok (.slice (some ⟨w.heap.size, 0, none⟩) 0 0) (w.alloc (.cells #[] 9)) := by
  simp [Instr.buildSlice, run_underlying Try.underlying43, sizeOf_run iStr, Sem.run_bind, Instr.fill, newRow, range0]
theorem tsl1 (x : B) (w : World) : (Instr.buildSlice 43 1 #[(0, .string ⟨x.toArray⟩)]).run Try.prog w = .ok (.slice (some ⟨w.heap.size, 0, none⟩) 1 1) (w.alloc (.cells #[.string ⟨x.toArray⟩] 9)) := by
  simp [Instr.buildSlice, run_underlying Try.underlying43, sizeOf_run iStr, Sem.run_bind, Instr.fill, newRow, Try.zeroValue9, Value.cells, range1]
/-- A slice of texts. -/
def XL (w : World) (lo : Nat) (sl : Value) (l : List B) : Prop := GL w 9 1 lo sl (l.map fun n => [.string ⟨n.toArray⟩])
section
variable {ops : Array Oper} {rest : List Oper} {op : Oper} {a : Act} {w : World} {Q : Exit → Act → World → Prop}
theorem wpList_tsl1 (hgd : op.guard = none) (x : Operand) (ho : op.op = .buildSlice 43 1 #[(0, x)]) (v : B) (hx : a.eval x = .string ⟨v.toArray⟩)
    (h : ∀ w1 : World, Below w.heap.size w w1 → Blk w1 w.heap.size #[.string ⟨v.toArray⟩] 9 → wpList Try.prog ops Q rest (a.put op.dst (.slice (some ⟨w.heap.size, 0, none⟩) 1 1)) w1) : wpList Try.prog ops Q (op :: rest) a w := by
  have e : (#[(0, x)] : Array (Nat × Operand)).map (fun (i, x) => (i, a.eval x)) = #[(0, .string ⟨v.toArray⟩)] := by simp [hx]
  refine wpList_run hgd _ _ ?_ (h _ ((Below.refl _ _).alloc (Nat.le_refl _) _) (Blk.new _ _ _))
  unfold execOp
  simp only [ho, Sem.run_bind, e, tsl1, Result.andThen_ok]
  rfl
theorem wpList_tsl0 (hgd : op.guard = none) (ho : op.op = .buildSlice 43 0 #[])
    (h : ∀ w1 : World, Below w.heap.size w w1 → XL w1 w.heap.size (.slice (some ⟨w.heap.size, 0, none⟩) 0 0) [] → wpList Try.prog ops Q rest (a.put op.dst (.slice (some ⟨w.heap.size, 0, none⟩) 0 0)) w1) : wpList Try.prog ops Q (op :: rest) a w := by
  refine wpList_run hgd _ _ ?_ (h _ ((Below.refl _ _).alloc (Nat.le_refl _) _) ⟨fun x hx => (by cases hx), .inr ⟨w.heap.size, 0, Nat.le_refl _, rfl, ⟨#[], heap_alloc_last w _, by simp, by simp, fun j v hv => by simp at hv⟩⟩⟩)
  unfold execOp
  simp only [ho, Sem.run_bind, Array.map_empty, tsl0, Result.andThen_ok]
  rfl
/-- A text is put behind a slice of texts. -/
theorem wpList_appX (hgd : op.guard = none) (x y : Operand) (ho : op.op = .call { callee := .builtin .append, args := #[x, y], argTypes := #[43, 43] })
    (lo : Nat) (sl : Value) (l : List B) (hlo : lo ≤ w.heap.size) (hx : a.eval x = sl) (hsl : XL w lo sl l) (g2 : Nat) (hy : a.eval y = .slice (some ⟨g2, 0, none⟩) 1 1) (v : B) (hb2 : Blk w g2 #[.string ⟨v.toArray⟩] 9) (hlen : l.length ≤ 1000000)
    (h : ∀ (w1 : World) (sl1 : Value), w.grownBy w1 (slBlk sl) → XL w1 lo sl1 (l ++ [v]) → wpList Try.prog ops Q rest (a.put op.dst sl1) w1) : wpList Try.prog ops Q (op :: rest) a w := by
  obtain ⟨i, hi, hz, hs, hby⟩ := infoStr
  refine wpList_appendGL hgd x y 43 9 ho 1 lo sl _ hlo hx hsl g2 1 hy [.string ⟨v.toArray⟩] rfl (fun u hu => by rw [List.mem_singleton.1 hu]; rfl) 9 hb2 i _ rfl Try.underlying43 hi hz hs hby (by simpa using hlen) (fun w1 sl1 h1 h2 => h w1 sl1 h1 ?_)
  unfold XL
  rw [List.map_append]
  exact h2
end
theorem XL.below {w w' : World} {lo : Nat} {sl : Value} {l : List B} (h : XL w lo sl l) (hb : Below w.heap.size w w') : XL w' lo sl l := GL.below h hb
theorem XL.nil (w : World) (lo : Nat) : XL w lo (.slice none 0 0) [] := GL.nil _ _ _ _
theorem XL.grow {w w' : World} {lo : Nat} {sl : Value} {l : List B} (h : XL w lo sl l) (hg : w.grownBy w' (slBlk sl)) (hlo : lo ≤ w.heap.size) : Below lo w w' := ⟨hg.os, hg.tape, hg.output, hg.size, fun k hk => hg.block k (by omega) (fun e => by have := (GL.lt h k e.symm).1; omega)⟩
/-- The block of another kind is not the slice's. -/
theorem XL.other {w w' : World} {lo i : Nat} {sl : Value} {l : List B} {c : Array Value} {t : TypeId} (h : XL w lo sl l) (hg : w.grownBy w' (some i)) (hb : Blk w i c t) (ht : t ≠ 9) : XL w' lo sl l := GL.grown h hg (GL.ne h hb (.inl ht))
theorem XL.at {w : World} {lo : Nat} {a : Option Addr} {n cap : Nat} {l : List B} (h : XL w lo (.slice a n cap) l) (i : Nat) (x : B) (hx : l[i]? = some x) : ∃ g, a = some ⟨g, 0, none⟩ ∧ w.cell? ⟨g, i, none⟩ = some (.string ⟨x.toArray⟩) := by
  obtain ⟨a', cap', e, h1⟩ := GL.sl h
  simp only [Value.slice.injEq] at e
  obtain ⟨rfl, _, rfl⟩ := e
  obtain ⟨hi, rfl⟩ := List.getElem?_eq_some_iff.1 hx
  obtain ⟨g, ha, h2⟩ := h1 i (by simpa using hi)
  refine ⟨g, ha, ?_⟩
  have := h2 0 (.string ⟨(l[i]).toArray⟩) (by simp)
  simpa using this
theorem XL.sl {w : World} {lo : Nat} {sl : Value} {l : List B} (h : XL w lo sl l) : ∃ a cap, sl = .slice a l.length cap := by
  obtain ⟨a, cap, e, _⟩ := GL.sl h
  exact ⟨a, cap, by rw [e, List.length_map]⟩
/-- The names of those that are there. -/
def namesL (l : List F) : List B := (nowL l).map (·.1)
theorem names_take (l : List F) (i : Nat) (f : F) (h : l[i]? = some f) : namesL (l.take (i + 1)) = namesL (l.take i) ++ (if f.is.isSome = true then [f.name] else []) := by
  obtain ⟨hi, rfl⟩ := List.getElem?_eq_some_iff.1 h
  unfold namesL nowL
  rw [List.take_succ_eq_append_getElem hi, view_app, List.map_append]
  congr 1
  rw [view_cons]
  cases (l[i]).is <;> simp [viewL]
theorem names_len (l : List F) : (namesL l).length ≤ l.length := by
  unfold namesL nowL viewL
  rw [List.length_map]
  exact List.length_filterMap_le ..
set_option maxRecDepth 100000 in
set_option maxHeartbeats 1000000 in
theorem names_any (p : Nat) (b : Option Nat) (m : DM) (w : World) (h : DK w p b m) (hl : m.l.length ≤ 1000000) :
    Calls Try.prog 28 #[.pointer (some ⟨p, 0, none⟩)] w fun e w' => ∃ sl, e = .returned sl ∧ Below w.heap.size w w' ∧ XL w' w.heap.size sl (namesL m.l) := by
  obtain ⟨sl, hD, hF, _⟩ := h.out
  obtain ⟨a, cap, rfl, _⟩ := hF.sl
  obtain ⟨U, hU⟩ : ∃ U, Hid (U = namesL m.l) := ⟨_, rfl⟩
  rw [← hU.out]
  go_enter Try.func28, Try.ntmps28
  go_wp2_with (with_reducible refine at_list ?_; refine wpList_loadCell (op := ⟨some 11, _, _, _, _, _⟩) rfl _ _ rfl p 0 rfl _ _ hD _ Try.underlying71 rfl _ (dC_g0 _ _) ?_)
  go_loopw [3, 5, 13] (fun v3 _ v13 wl => ∃ i : Nat, i ≤ m.l.length ∧ v13 = .int .i64 i ∧ XL wl w.heap.size v3 (namesL (m.l.take i)) ∧ Below w.heap.size w wl) (fun _ _ v13 _ => m.l.length - (intOf v13).toNat)
  case atStart => exact ⟨0, by omega, rfl, XL.nil _ _, Below.refl _ _⟩
  case round =>
    obtain ⟨i, hil, rfl, hX, hB⟩ := hrel
    have hsz := hB.size
    by_cases hlt : i < m.l.length
    · have hz2 : (i : Int) < (m.l.length : Int) := by omega
      obtain ⟨f, hf⟩ : ∃ f, m.l[i]? = some f := ⟨_, List.getElem?_eq_getElem hlt⟩
      obtain ⟨g, rfl, hS, hg⟩ := hF.at i f hf
      have hg2 := rangeAt_below hg hB hS.lt
      have e3 : Hid _ := names_take m.l i f hf
      have e4 : (namesL (m.l.take i)).length ≤ 1000000 := Nat.le_trans (names_len _) (by rw [List.length_take]; omega)
      have g1 := fC_g1 f
      clear hf hg
      generalize namesL (m.l.take i) = u at *
      cases hq : f.is.isSome <;>
      · rw [hq] at e3 g1
        go_wp2_with (with_reducible refine at_list ?_; first
            | (refine wpList_loadAt (op := ⟨some 16, _, _, _, _, _⟩) rfl _ _ rfl g (i * 6) rfl (fC f) hg2 _ Try.underlying80 rfl (iFile f) ?_)
            | (refine wpList_allocRow (op := ⟨some 5, _, _, _, _, _⟩) rfl _ rfl _ zFile.1 ?_; intro w2 hw2 hs2 h5; clear hs2; have hB2 := hB.trans (hw2.mono hB.size); replace hX := hX.below hw2)
            | (refine wpList_storeRow (op := ⟨none, .store 80 (.tmp 5) (.tmp 16), _, _, _, _⟩) rfl _ _ _ rfl wr.heap.size (fC f) rfl rfl _ _ h5 rfl (iFile _) (fC_one _) ?_; intro w3 hg3 hs3 h5b; clear hs3; have hB3 := hB2.trans (below_of_grown hg3 (by omega) hB2.size); replace hX := hX.other hg3 h5 (by decide))
            | (refine wpList_loadCell (op := ⟨some 19, _, _, _, _, _⟩) rfl _ _ rfl wr.heap.size 1 rfl _ _ h5b _ Try.underlying4 rfl _ g1 ?_)
            | (refine wpList_loadCell (op := ⟨some 22, _, _, _, _, _⟩) rfl _ _ rfl wr.heap.size 0 rfl _ _ h5b _ Try.underlying9 rfl _ (fC_g0 f) ?_)
            | (refine wpList_tsl1 (op := ⟨some 23, _, _, _, _, _⟩) rfl _ rfl f.name rfl ?_; intro w4 hw4 h6; have hB4 := hB3.trans (hw4.mono hB3.size); replace hX := hX.below hw4)
            | (refine wpList_appX (op := ⟨some 24, _, _, _, _, _⟩) rfl _ _ rfl w.heap.size u3 u hB4.size (by with_unfolding_all exact rfl) hX w3.heap.size (by with_unfolding_all exact rfl) f.name h6 e4 ?_; intro w5 sl5 hg5 hX5; have hB5 := hB4.trans (hX.grow hg5 hB4.size)))
        go_roundw
        case rel => first
          | exact ⟨i + 1, by omega, by go_num, by rw [e3.out]; exact hX5, hB5⟩
          | exact ⟨i + 1, by omega, by go_num, by rw [e3.out]; simpa using hX, hB3⟩
        case measure => simp [intOf]; omega
    · have hz2 : ¬ (i : Int) < (m.l.length : Int) := by omega
      have e1 : namesL (m.l.take i) = U := by rw [List.take_of_length_le (by omega), hU.out]
      rw [e1] at hX
      go_wp2_with fail
      go_ret
      exact ⟨_, rfl, hB, hX⟩
set_option maxRecDepth 100000 in
theorem names_nil (w : World) : Calls Try.prog 28 #[.pointer none] w fun e w' => e = .returned (.slice none 0 0) ∧ w' = w := by
  go_enter Try.func28, Try.ntmps28
  go_wp2_with fail
  go_ret
  exact ⟨rfl, rfl⟩
end Go.Proofs.Ytgkkpmliociieaa
