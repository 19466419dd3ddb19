/- What slices.Clone and slices.Insert leave of numbers: a slice of its own. -/
import Derived.Test.YtcaoibdimeajfaaClb
import Derived.Test.YtcaoibdimeajfaaVsi
namespace Go.Proofs.Ytcaoibdimeajfaa
open Go Go.RowKit
/-- The numbers as values. -/
abbrev nmV (l : List Int) : List Value := l.map fun x => .int .i64 x
def capOk : Value → Prop
  | .slice _ _ c => c ≤ 9223372036854775807
  | _ => True
section
variable {P : Program} {ops : Array Oper} {rest : List Oper} {op : Oper} {a : Act} {w : World} {Q : Exit → Act → World → Prop}
theorem run_appendNewV (st ty : TypeId) (ba : Option Addr) (l : List Int) (g o c : Nat) (hIA : IA w (some ⟨g, o, none⟩) l) (i : TypeInfo)
    (hu : P.underlying st = some (.slice 3)) (hi : P.info? 3 = some i) (hz : i.zero = some (.int .i64 0)) (hs : i.size = 1) (hby : i.bytes ≤ 8) (h0 : 0 < l.length) (hlen : l.length ≤ 1000000) :
    ∃ (w1 : World) (cap1 : Nat), (Builtin.append_ #[st, st] ty #[.slice ba 0 0, .slice (some ⟨g, o, none⟩) l.length c]).run P w = .ok (.slice (some ⟨w.heap.size, 0, none⟩) l.length cap1) w1 ∧ Below w.heap.size w w1 ∧ VS w1 3 w.heap.size cap1 (nmV l) ∧ cap1 ≤ 9223372036854775807 := by
  have hsrc : Src P i.size st (.slice (some ⟨g, o, none⟩) l.length c) l.length (l.map fun x => .int .i64 x) w :=
    Src.ofSlice w hu ⟨g, o, none⟩ l.length c _ (by rw [hs, List.length_map]; omega) (fun j u hj => by
      rw [Addr.add_mid]
      rw [List.getElem?_map] at hj
      obtain ⟨x, hx, rfl⟩ := Option.map_eq_some_iff.1 hj
      obtain ⟨g', o', ha, hc⟩ := hIA j x hx
      simp only [Option.some.injEq, Addr.mk.injEq, and_true] at ha
      obtain ⟨rfl, rfl⟩ := ha
      exact hc) (fun u hu => by
      obtain ⟨x, _, rfl⟩ := List.mem_map.1 hu
      rfl)
  have hold : (Builtin.firstCells i.size 0 (.slice ba 0 0)).run P w.drew = .ok ([] : List Value).toArray w.drew := by
    cases ba with
    | none => exact run_firstCells_none (w := w.drew) i.size 0 0 0
    | some b => exact run_firstCells_some w.drew i.size 0 b 0 0 [] (by simp) (fun j v hj => by simp at hj)
  have hr := run_append_grow_src (P := P) w st st ty 3 i _ hu hi hz ba 0 0 _ hold _ l.length _ hsrc (by omega) (by omega) (growslice_fits (by omega) (Nat.le_trans (Nat.mul_le_mul (show 0 + l.length ≤ 1000000 by omega) hby) (by decide)))
  rw [Nat.zero_add] at hr
  have hge : l.length ≤ grownCap w l.length 0 3 := grownCap_ge w _ _ _
  have hgm : grownCap w l.length 0 3 ≤ 9223372036854775807 := by
    have := grownCap_le_maxLen w l.length 0 3 (by unfold maxLen; omega)
    unfold maxLen at this
    omega
  refine ⟨_, _, hr, (Below.refl _ w).drew.alloc (Nat.le_refl _) _, ⟨_, (0, 0), heap_alloc_last w.drew _, by rw [List.length_map]; exact hge, ?_, .inl rfl, ?_⟩, hgm⟩
  · have hc : (Value.int .i64 0).cells.size = 1 := rfl
    simp only [Array.size_append, List.size_toArray, List.length_append, List.length_map, size_zeroCells, hc, List.length_nil]
    omega
  · intro j x hx
    have hjl := (List.getElem?_eq_some_iff.1 hx).1
    rw [Array.getElem?_append_left (by simpa using hjl)]
    simpa using hx
theorem wpList_appendNewV (hgd : op.guard = none) (x y : Operand) (st : TypeId) (ho : op.op = .call { callee := .builtin .append, args := #[x, y], argTypes := #[st, st] })
    (ba : Option Addr) (hx : a.eval x = .slice ba 0 0) (l : List Int) (g o c : Nat) (hy : a.eval y = .slice (some ⟨g, o, none⟩) l.length c) (hIA : IA w (some ⟨g, o, none⟩) l) (i : TypeInfo)
    (hu : P.underlying st = some (.slice 3)) (hi : P.info? 3 = some i) (hz : i.zero = some (.int .i64 0)) (hs : i.size = 1) (hby : i.bytes ≤ 8) (h0 : 0 < l.length) (hlen : l.length ≤ 1000000)
    (h : ∀ (w1 : World) (cap1 : Nat), Below w.heap.size w w1 → VS w1 3 w.heap.size cap1 (nmV l) → cap1 ≤ 9223372036854775807 → wpList P ops Q rest (a.put op.dst (.slice (some ⟨w.heap.size, 0, none⟩) l.length cap1)) w1) : wpList P ops Q (op :: rest) a w := by
  obtain ⟨w1, cap1, hr, hb, hl, hc⟩ := run_appendNewV (P := P) (w := w) st op.type ba l g o c hIA i hu hi hz hs hby h0 hlen
  refine wpList_run hgd _ _ ?_ (h w1 cap1 hb hl hc)
  unfold execOp
  simp only [ho]
  simp [resolve, invoke, builtin, hx, hy, hr, Result.andThen]
end
section
attribute [local go_sem] eqlNilI eqlNilI0
set_option maxRecDepth 100000 in
set_option maxHeartbeats 400000 in
theorem scloneV_any (a : Option Addr) (l : List Int) (cap : Nat) (w : World) (h : IA w a l) (h0 : 0 < l.length) (hl : l.length ≤ 1000000) :
    Calls Try.prog 19 #[.slice a l.length cap] w fun e w' => ∃ g cap', e = .returned (.slice (some ⟨g, 0, none⟩) l.length cap') ∧ w.heap.size ≤ g ∧ Below w.heap.size w w' ∧ VS w' 3 g cap' (nmV l) ∧ cap' ≤ 9223372036854775807 := by
  obtain ⟨g, o, rfl⟩ := h.ex (by omega)
  obtain ⟨ii, hi, hz, hs, hby⟩ := infoI8
  go_enter Try.func19, Try.ntmps19
  go_wp2_with (with_reducible refine at_list ?_; first
    | (refine wpList_bsl0I (op := ⟨some 5, _, _, _, _, _⟩) rfl rfl ?_; intro w1 hw1 hs1 hv1; replace hs1 := hs1.symm; clear hv1)
    | (refine wpList_appendNewV (op := ⟨some 7, _, _, _, _, _⟩) rfl _ _ _ rfl _ rfl l g o cap rfl (h.below hw1) ii Try.underlying22 hi hz hs hby h0 hl ?_; intro w2 cap2 hw2 hO2 hc2))
  go_ret
  exact ⟨_, _, rfl, hw1.size, hw1.trans (hw2.mono hw1.size), hO2, hc2⟩
set_option maxRecDepth 100000 in
set_option maxHeartbeats 400000 in
theorem scloneV_none (cap : Nat) (w : World) : Calls Try.prog 19 #[.slice none 0 cap] w fun e w' => e = .returned (.slice none 0 0) ∧ Below w.heap.size w w' := by
  go_enter Try.func19, Try.ntmps19
  go_wp2_with fail
  go_ret
  exact ⟨rfl, Below.refl _ _⟩
set_option maxRecDepth 100000 in
set_option maxHeartbeats 400000 in
theorem scloneV_zero (b : Addr) (cap : Nat) (w : World) : Calls Try.prog 19 #[.slice (some b) 0 cap] w fun e w' => e = .returned (.slice (some ⟨w.heap.size, 0, none⟩) 0 0) ∧ Below w.heap.size w w' ∧ VL w' 3 w.heap.size (.slice (some ⟨w.heap.size, 0, none⟩) 0 0) [] := by
  go_enter Try.func19, Try.ntmps19
  go_wp2_with (with_reducible refine at_list ?_; first
    | (refine wpList_bsl0I (op := ⟨some 5, _, _, _, _, _⟩) rfl rfl ?_; intro w1 hw1 hs1 hv1; replace hs1 := hs1.symm))
  go_ret
  exact ⟨rfl, hw1, hv1⟩
end
theorem sclone_own (a : Option Addr) (l : List Int) (cap : Nat) (w : World) (h : IA w a l) (hl : l.length ≤ 1000000) :
    Calls Try.prog 19 #[.slice a l.length cap] w fun e w' => ∃ sl, e = .returned sl ∧ VL w' 3 w.heap.size sl (nmV l) ∧ Below w.heap.size w w' ∧ capOk sl := by
  by_cases h0 : 0 < l.length
  · exact (scloneV_any a l cap w h h0 hl).mono fun e w' ⟨g, c, h1, h2, h3, h4, h5⟩ => ⟨_, h1, .inr ⟨g, c, h2, by rw [List.length_map], h4⟩, h3, h5⟩
  · obtain rfl : l = [] := List.length_eq_zero_iff.1 (by omega)
    cases a with
    | none => exact (scloneV_none cap w).mono fun e w' ⟨h1, h2⟩ => ⟨_, h1, VL.nil _ _ _, h2, Nat.zero_le _⟩
    | some b => exact (scloneV_zero b cap w).mono fun e w' ⟨h1, h2, h3⟩ => ⟨_, h1, h3, h2, Nat.zero_le _⟩
end Go.Proofs.Ytcaoibdimeajfaa
