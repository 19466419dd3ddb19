/- What the plain Find, without, with and Size do. -/
import Derived.Test.YtgkkpmliociieaaAwk
namespace Go.Proofs.Ytgkkpmliociieaa
open Go Go.RowKit
/-- A file of the plain disk. -/
structure RF where
  name : B
  s : B
  put : Bool
def rC (f : RF) : Array Value := #[.string ⟨f.name.toArray⟩, .string ⟨f.s.toArray⟩, .bool f.put]
abbrev rL (f : RF) : List Value := (rC f).toList
def rf0 : RF := ⟨[], [], false⟩
theorem rC_size (f : RF) : (rC f).size = 3 := rfl
theorem rC_one (f : RF) : (rC f).all (·.oneCell') = true := by simp [rC, Value.oneCell']
theorem rC_g0 (f : RF) : (rC f)[0]? = some (.string ⟨f.name.toArray⟩) := rfl
theorem rC_g1 (f : RF) : (rC f)[1]? = some (.string ⟨f.s.toArray⟩) := rfl
theorem zRf : (∀ w, (zeroValue 49).run Try.prog w = .ok (.agg (rC rf0)) w) ∧ (Try.prog.info? 49).map (·.size) = some 3 := zero_of_info (by kernel_rfl)
theorem iRf (f : RF) : (Try.prog.info? 49).map (·.size) = some (rC f).size := zRf.2
theorem infoRf : ∃ i, Try.prog.info? 49 = some i ∧ i.zero = some (.agg (rC rf0)) ∧ i.size = 3 ∧ i.bytes ≤ 256 := by
  have h : (Try.prog.info? 49).map (fun i => (i.zero, i.size, decide (i.bytes ≤ 256))) = some (some (.agg (rC rf0)), 3, true) := by kernel_rfl
  cases hq : Try.prog.info? 49 with
  | none => rw [hq] at h; cases h
  | some i => rw [hq] at h; simp at h; exact ⟨i, rfl, h.1, h.2.1, h.2.2⟩
/-- A slice of plain files. -/
def RL (w : World) (lo : Nat) (sl : Value) (l : List RF) : Prop := GL w 49 3 lo sl (l.map rL)
theorem rL_all (l : List RF) : ∀ x ∈ l.map rL, x.length = 3 := fun x hx => by
  obtain ⟨f, _, rfl⟩ := List.mem_map.1 hx
  rfl
theorem RL.nil (w : World) (lo : Nat) : RL w lo (.slice none 0 0) [] := GL.nil _ _ _ _
theorem RL.below {w w' : World} {lo : Nat} {sl : Value} {l : List RF} (h : RL w lo sl l) (hb : Below w.heap.size w w') : RL w' lo sl l := GL.below h hb
theorem RL.lo {w : World} {lo lo' : Nat} {sl : Value} {l : List RF} (h : RL w lo sl l) (hl : lo' ≤ lo) : RL w lo' sl l := ⟨h.1, by
  rcases h.2 with h | ⟨g, cap, h1, h2⟩
  · exact .inl h
  · exact .inr ⟨g, cap, Nat.le_trans hl h1, h2⟩⟩
theorem RL.grow {w w' : World} {lo : Nat} {sl : Value} {l : List RF} (h : RL w lo sl l) (hg : w.grownBy w' (slBlk sl)) (hlo : lo ≤ w.heap.size) : Below lo w w' := ⟨hg.os, hg.tape, hg.output, hg.size, fun k hk => hg.block k (by omega) (fun e => by have := (GL.lt h k e.symm).1; omega)⟩
theorem RL.other {w w' : World} {lo i : Nat} {sl : Value} {l : List RF} {c : Array Value} {t : TypeId} (h : RL w lo sl l) (hg : w.grownBy w' (some i)) (hb : Blk w i c t) (ht : t ≠ 49 ∨ i < lo) : RL w' lo sl l := GL.grown h hg (GL.ne h hb ht)
theorem RL.cells {w : World} {lo : Nat} {sl : Value} {l : List RF} (h : RL w lo sl l) : sl.cells = #[sl] ∧ sl.oneCell' = true := GL.cells h
theorem RL.sl {w : World} {lo : Nat} {sl : Value} {l : List RF} (h : RL w lo sl l) : ∃ a cap, sl = .slice a l.length cap := by
  obtain ⟨a, cap, e, _⟩ := GL.sl h
  exact ⟨a, cap, by rw [e, List.length_map]⟩
theorem RL.at {w : World} {lo : Nat} {a : Option Addr} {n cap : Nat} {l : List RF} (h : RL w lo (.slice a n cap) l) (i : Nat) (f : RF) (hf : l[i]? = some f) : ∃ g, a = some ⟨g, 0, none⟩ ∧ w.rangeAt g (i * 3) (rL f) ∧ g < w.heap.size ∧ lo ≤ g := by
  obtain ⟨a', cap', e, h1⟩ := GL.sl h
  simp only [Value.slice.injEq] at e
  obtain ⟨rfl, _, rfl⟩ := e
  obtain ⟨hi, rfl⟩ := List.getElem?_eq_some_iff.1 hf
  obtain ⟨g, ha, h2⟩ := h1 i (by simpa using hi)
  have hlt := GL.lt h g (by rw [ha]; rfl)
  exact ⟨g, ha, fun j v hv => h2 j v (by simpa using hv), hlt.2, hlt.1⟩
theorem rsl0 (w : World) : (Instr.buildSlice 24 0 #[]).run Try.prog w = .ok (.slice (some ⟨w.heap.size, 0, none⟩) 0 0) (w.alloc (.cells #[] 49)) := by
  simp [Instr.buildSlice, run_underlying Try.underlying24, sizeOf_run zRf.2, Sem.run_bind, Instr.fill, newRow, range0]
theorem rsl1 (f : RF) (w : World) : (Instr.buildSlice 24 1 #[(0, .agg (rC f))]).run Try.prog w = .ok (.slice (some ⟨w.heap.size, 0, none⟩) 1 1) (w.alloc (.cells (rC f) 49)) := by
  have hr3 : Array.range 3 = #[0, 1, 2] := by decide
  simp [Instr.buildSlice, run_underlying Try.underlying24, sizeOf_run zRf.2, Sem.run_bind, Instr.fill, newRow, zRf.1, rC, Value.cells, hr3]
section
variable {ops : Array Oper} {rest : List Oper} {op : Oper} {a : Act} {w : World} {Q : Exit → Act → World → Prop}
theorem run_rsl1 (x : Operand) (ho : op.op = .buildSlice 24 1 #[(0, x)]) (f : RF) (hx : a.eval x = .agg (rC f)) : (execOp a.eval op).run Try.prog w = .ok (.value (.slice (some ⟨w.heap.size, 0, none⟩) 1 1)) (w.alloc (.cells (rC f) 49)) := by
  have e : (#[(0, x)] : Array (Nat × Operand)).map (fun (i, x) => (i, a.eval x)) = #[(0, .agg (rC f))] := by simp [hx]
  unfold execOp
  simp only [ho, Sem.run_bind, e, rsl1, Result.andThen_ok]
  rfl
theorem wpList_rsl1 (hgd : op.guard = none) (x : Operand) (ho : op.op = .buildSlice 24 1 #[(0, x)]) (f : RF) (hx : a.eval x = .agg (rC f))
    (h : ∀ w1 : World, Below w.heap.size w w1 → Blk w1 w.heap.size (rC f) 49 → wpList Try.prog ops Q rest (a.put op.dst (.slice (some ⟨w.heap.size, 0, none⟩) 1 1)) w1) : wpList Try.prog ops Q (op :: rest) a w :=
  wpList_run hgd _ _ (run_rsl1 x ho f hx) (h _ ((Below.refl _ _).alloc (Nat.le_refl _) _) (Blk.new _ _ _))
theorem wpList_rsl0 (hgd : op.guard = none) (ho : op.op = .buildSlice 24 0 #[])
    (h : ∀ w1 : World, Below w.heap.size w w1 → RL w1 w.heap.size (.slice (some ⟨w.heap.size, 0, none⟩) 0 0) [] → wpList Try.prog ops Q rest (a.put op.dst (.slice (some ⟨w.heap.size, 0, none⟩) 0 0)) w1) : wpList Try.prog ops Q (op :: rest) a w := by
  refine wpList_run hgd _ _ ?_ (h _ ((Below.refl _ _).alloc (Nat.le_refl _) _) ⟨fun x hx => (by cases hx), .inr ⟨w.heap.size, 0, Nat.le_refl _, rfl, ⟨#[], heap_alloc_last w _, by simp, by simp, fun j v hv => by simp at hv⟩⟩⟩)
  unfold execOp
  simp only [ho, Sem.run_bind, Array.map_empty, rsl0, Result.andThen_ok]
  rfl
theorem wpList_appR (hgd : op.guard = none) (x y : Operand) (ho : op.op = .call { callee := .builtin .append, args := #[x, y], argTypes := #[24, 24] })
    (lo : Nat) (sl : Value) (l : List RF) (hlo : lo ≤ w.heap.size) (hx : a.eval x = sl) (hsl : RL w lo sl l) (g2 : Nat) (hy : a.eval y = .slice (some ⟨g2, 0, none⟩) 1 1) (f : RF) (hb2 : Blk w g2 (rC f) 49) (hlen : l.length ≤ 1000000)
    (h : ∀ (w1 : World) (sl1 : Value), w.grownBy w1 (slBlk sl) → RL w1 lo sl1 (l ++ [f]) → wpList Try.prog ops Q rest (a.put op.dst sl1) w1) : wpList Try.prog ops Q (op :: rest) a w := by
  obtain ⟨i, hi, hz, hs, hby⟩ := infoRf
  refine wpList_appendGL hgd x y 24 49 ho 3 lo sl _ hlo hx hsl g2 1 hy (rL f) rfl (fun u hu => Array.all_eq_true_iff_forall_mem.1 (rC_one f) u (by simpa using hu)) 49 (by simpa using hb2) i _ rfl Try.underlying24 hi hz hs hby (by simpa using hlen) (fun w1 sl1 h1 h2 => h w1 sl1 h1 ?_)
  unfold RL
  rw [List.map_append]
  exact h2
end
def findR (l : List RF) (n : B) : Option RF := l.find? fun f => f.name == n
def woR (n : B) (l : List RF) : List RF := l.filter fun f => !(f.name == n)
def insR (f : RF) : List RF → List RF
  | [] => [f]
  | y :: r => if f.name < y.name then f :: y :: r else y :: insR f r
def wiR (f : RF) (l : List RF) : List RF := insR f (woR f.name l)
theorem built0R : Try.prog.built 49 [] = some (rC rf0) := by kernel_rfl
theorem rL_nm {w : World} {g o : Nat} {f : RF} (h : w.rangeAt g o (rL f)) : w.cell? ⟨g, o, none⟩ = some (.string ⟨f.name.toArray⟩) := h 0 _ (rC_g0 f)
theorem rL_s {w : World} {g o : Nat} {f : RF} (h : w.rangeAt g o (rL f)) : w.cell? ⟨g, o + 1, none⟩ = some (.string ⟨f.s.toArray⟩) := h 1 _ (rC_g1 f)
set_option maxRecDepth 100000 in
set_option maxHeartbeats 1000000 in
theorem find_any (l : List RF) (n : B) (sl : Value) (lo : Nat) (w : World) (hL : RL w lo sl l) (hl : l.length ≤ 1000000) :
    Calls Try.prog 17 #[sl, .string ⟨n.toArray⟩] w fun e w' => e = .returned (.tuple #[.agg (rC ((findR l n).getD rf0)), .bool (findR l n).isSome]) ∧ Below w.heap.size w w' := by
  obtain ⟨a, cap, rfl⟩ := hL.sl
  obtain ⟨R, hR⟩ : ∃ R, Hid (R = findR l n) := ⟨_, rfl⟩
  rw [← hR.out]
  go_enter Try.func17, Try.ntmps17
  go_wp2_with (with_reducible refine at_list ?_; refine wpList_allocRow (op := ⟨some 4, _, _, _, _, _⟩) rfl _ rfl _ zRf.1 ?_; intro w1 hw1 hs1 h4; clear hs1)
  go_loopw [6] (fun v6 wl => ∃ i : Nat, i ≤ l.length ∧ v6 = .int .i64 i ∧ Hid (findR (l.take i) n = none) ∧ wl = w1) (fun v6 _ => l.length - (intOf v6).toNat)
  case atStart => exact ⟨0, by omega, rfl, rfl, rfl⟩
  case round =>
    obtain ⟨i, hil, rfl, hI, hw⟩ := hrel
    have hw2 := hw.symm
    subst hw2
    clear hw
    by_cases hlt : i < l.length
    · have hz2 : (i : Int) < (l.length : Int) := by omega
      obtain ⟨f, hf⟩ : ∃ f, l[i]? = some f := ⟨_, List.getElem?_eq_getElem hlt⟩
      obtain ⟨g, rfl, hg, hgl, _⟩ := hL.at i f hf
      have hg2 := rangeAt_below hg hw1 hgl
      have c0 := rL_nm hg2
      have ht : findR (l.take (i + 1)) n = if (f.name == n) = true then some f else none := by
        have := hI.out
        unfold findR at this ⊢
        obtain ⟨hi2, rfl⟩ := List.getElem?_eq_some_iff.1 hf
        rw [List.take_succ_eq_append_getElem hi2, List.find?_append, this, Option.none_or]
        cases hq : (l[i]).name == n <;> simp [hq]
      cases hq : f.name == n
      · rw [if_neg (by simp [hq])] at ht
        have hI2 : Hid _ := ht
        clear ht hI hf hg
        go_wp2_with fail
        go_roundw
        case rel => exact ⟨i + 1, by omega, by go_num, hI2, trivial⟩
        case measure => simp [intOf]; omega
      · rw [if_pos hq] at ht
        have hRf : R = some f := by
          rw [hR.out]
          have e : l = l.take (i + 1) ++ l.drop (i + 1) := (List.take_append_drop _ _).symm
          unfold findR at ht ⊢
          rw [e, List.find?_append, ht]
          rfl
        subst hRf
        clear ht hI hf hg hR
        go_wp2_with (with_reducible refine at_list ?_; first
          | (refine wpList_loadAt (op := ⟨some 23, _, _, _, _, _⟩) rfl _ _ rfl g (i * 3) rfl (rC f) hg2 _ Try.underlying49 rfl (iRf f) ?_)
          | (refine wpList_storeRow (op := ⟨none, .store 49 (.tmp 4) (.tmp 23), _, _, _, _⟩) rfl _ _ _ rfl w.heap.size (rC f) rfl rfl _ _ h4 rfl (iRf _) (rC_one _) ?_; intro w3 hg3 hs3 h4b; clear hs3))
        refine bodyPost_ret (v := .tuple #[.agg (rC f), .bool true]) ?_ rfl ⟨rfl, hw1.trans (below_of_grown hg3 (Nat.le_refl _) hw1.size)⟩
        exact res_cv rfl _ _ w.heap.size _ _ _ _ rfl rfl h4b Try.underlying49 rfl (iRf _)
    · have hz2 : ¬ (i : Int) < (l.length : Int) := by omega
      have hRf : R = none := by
        rw [hR.out, ← hI.out, List.take_of_length_le (by omega)]
      subst hRf
      clear hI hR
      go_wp2_with (with_reducible refine at_list ?_; first
        | (refine wpList_run (op := ⟨some 24, _, _, _, _, _⟩) rfl _ _ (run_built0 _ rfl _ built0R) ?_)
        | (refine wpList_storeRow (op := ⟨none, .store 49 (.tmp 4) (.tmp 24), _, _, _, _⟩) rfl _ _ _ rfl w.heap.size (rC rf0) rfl rfl _ _ h4 rfl (iRf _) (rC_one _) ?_; intro w3 hg3 hs3 h4b; clear hs3))
      refine bodyPost_ret (v := .tuple #[.agg (rC rf0), .bool false]) ?_ rfl ⟨rfl, hw1.trans (below_of_grown hg3 (Nat.le_refl _) hw1.size)⟩
      exact res_cv rfl _ _ w.heap.size _ _ _ _ rfl rfl h4b Try.underlying49 rfl (iRf _)
theorem wo_take (n : B) (l : List RF) (i : Nat) (f : RF) (hf : l[i]? = some f) : woR n (l.take (i + 1)) = woR n (l.take i) ++ (if (f.name == n) = true then [] else [f]) := by
  obtain ⟨hi, rfl⟩ := List.getElem?_eq_some_iff.1 hf
  unfold woR
  rw [List.take_succ_eq_append_getElem hi, List.filter_append]
  congr 1
  cases hq : (l[i]).name == n <;> simp [hq]
theorem wo_len (n : B) (l : List RF) : (woR n l).length ≤ l.length := List.length_filter_le ..
/-- What a function that makes plain files anew leaves. -/
def NewP (w : World) (l : List RF) (e : Ending) (w' : World) : Prop := ∃ sl, e = .returned sl ∧ Below w.heap.size w w' ∧ RL w' w.heap.size sl l
set_option maxRecDepth 100000 in
set_option maxHeartbeats 1000000 in
theorem without_any (l : List RF) (n : B) (sl : Value) (lo : Nat) (w : World) (hL : RL w lo sl l) (hl : l.length ≤ 1000000) :
    Calls Try.prog 52 #[sl, .string ⟨n.toArray⟩] w (NewP w (woR n l)) := by
  obtain ⟨a, cap, rfl⟩ := hL.sl
  obtain ⟨R, hR⟩ : ∃ R, Hid (R = woR n l) := ⟨_, rfl⟩
  rw [← hR.out]
  go_enter Try.func52, Try.ntmps52
  go_wp2_with (with_reducible refine at_list ?_; refine wpList_rsl0 (op := ⟨some 7, _, _, _, _, _⟩) rfl rfl ?_; intro w1 hw1 hX1)
  go_loopw [5, 6] (fun v5 v6 wl => ∃ i : Nat, i ≤ l.length ∧ v6 = .int .i64 i ∧ RL wl w.heap.size v5 (woR n (l.take i)) ∧ Below w.heap.size w wl) (fun _ v6 _ => l.length - (intOf v6).toNat)
  case atStart => exact ⟨0, by omega, rfl, hX1, hw1⟩
  case round =>
    obtain ⟨i, hil, rfl, hX, hB⟩ := hrel
    have hsz := hB.size
    by_cases hlt : i < l.length
    · have hz2 : (i : Int) < (l.length : Int) := by omega
      obtain ⟨f, hf⟩ : ∃ f, l[i]? = some f := ⟨_, List.getElem?_eq_getElem hlt⟩
      obtain ⟨g, rfl, hg, hgl, _⟩ := hL.at i f hf
      have hg2 := rangeAt_below hg hB hgl
      have c0 := rL_nm hg2
      have e3 : Hid _ := wo_take n l i f hf
      have e4 : (woR n (l.take i)).length ≤ 1000000 := Nat.le_trans (wo_len _ _) (by rw [List.length_take]; omega)
      clear hf hg
      generalize woR n (l.take i) = u at *
      cases hq : f.name == n
      · rw [hq] at e3
        have hn : (f.name != n) = true := by simp [bne, hq]
        go_wp2_with (with_reducible refine at_list ?_; first
          | (refine wpList_loadAt (op := ⟨some 25, _, _, _, _, _⟩) rfl _ _ rfl g (i * 3) rfl (rC f) hg2 _ Try.underlying49 rfl (iRf f) ?_)
          | (refine wpList_rsl1 (op := ⟨some 26, _, _, _, _, _⟩) rfl _ rfl f rfl ?_; intro w4 hw4 h6; have hB4 := hB.trans (hw4.mono hB.size); replace hX := hX.below hw4)
          | (refine wpList_appR (op := ⟨some 27, _, _, _, _, _⟩) rfl _ _ rfl w.heap.size u5 u hB4.size (by with_unfolding_all exact rfl) hX wr.heap.size (by with_unfolding_all exact rfl) f h6 e4 ?_; intro w5 sl5 hg5 hX5; have hB5 := hB4.trans (hX.grow hg5 hB4.size)))
        go_roundw
        case rel => exact ⟨i + 1, by omega, by go_num, by rw [e3.out]; exact hX5, hB5⟩
        case measure => simp [intOf]; omega
      · rw [hq] at e3
        have hn : (f.name != n) = false := by simp [bne, hq]
        go_wp2_with fail
        go_roundw
        case rel => exact ⟨i + 1, by omega, by go_num, by rw [e3.out]; simpa using hX, hB⟩
        case measure => simp [intOf]; omega
    · have hz2 : ¬ (i : Int) < (l.length : Int) := by omega
      have e1 : woR n (l.take i) = R := by rw [List.take_of_length_le (by omega), hR.out]
      rw [e1] at hX
      go_wp2_with fail
      go_ret
      exact ⟨_, rfl, hB, hX⟩
end Go.Proofs.Ytgkkpmliociieaa
