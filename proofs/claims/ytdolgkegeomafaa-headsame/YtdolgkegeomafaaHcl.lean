/- What Clone and Most do. -/
import Derived.Test.YtdolgkegeomafaaHmh
namespace Go.Proofs.Ytdolgkegeomafaa
open Go Go.RowKit
/-- Block g, known whole, begins with the numbers l. -/
structure CB (w : World) (g : Nat) (l : List Int) : Prop where
  out : ∃ c : Array Value, Blk w g c 3 ∧ l.length ≤ c.size ∧ ∀ (j : Nat) (x : Int), l[j]? = some x → c[j]? = some (.int .i64 x)
theorem CB.below {w w' : World} {g : Nat} {l : List Int} (h : CB w g l) (hb : Below w.heap.size w w') : CB w' g l := by
  obtain ⟨c, h1, h2⟩ := h.out
  exact ⟨c, h1.belowSize hb, h2⟩
theorem CB.drew {w : World} {g : Nat} {l : List Int} (h : CB w g l) : CB w.drew g l := by
  obtain ⟨c, h1, h2⟩ := h.out
  exact ⟨c, h1.drew, h2⟩
theorem CB.ne {w : World} {g i : Nat} {l : List Int} {c : Array Value} {ty : TypeId} (h : CB w g l) (hb : Blk w i c ty) (ht : ty ≠ 3) : i ≠ g := by
  intro e
  subst e
  obtain ⟨c', h1, _⟩ := h.out
  have h2 := hb.out
  rw [h1.out] at h2
  simp only [Option.some.injEq, Obj.cells.injEq] at h2
  exact ht h2.2.1.symm
theorem CB.other {w w' : World} {g b : Nat} {l : List Int} {c : Array Value} {ty : TypeId} (h : CB w g l) (hg : w.grownBy w' (some b)) (hb : Blk w b c ty) (ht : ty ≠ 3) : CB w' g l := by
  have hne := h.ne hb ht
  obtain ⟨c', h1, h2⟩ := h.out
  exact ⟨c', h1.grown hg (fun e => hne (Option.some.inj e).symm), h2⟩
theorem CB.ia {w : World} {g : Nat} {l : List Int} (h : CB w g l) : IA w (some ⟨g, 0, none⟩) l := fun i x hx => by
  obtain ⟨c, h1, _, h3⟩ := h.out
  refine ⟨g, 0, rfl, ?_⟩
  rw [Nat.zero_add, h1.cell]
  exact h3 i x hx
theorem CB.lt {w : World} {g : Nat} {l : List Int} (h : CB w g l) : g < w.heap.size := by
  obtain ⟨c, h1, _⟩ := h.out
  exact h1.lt
section
variable {P : Program} {ops : Array Oper} {rest : List Oper} {op : Oper} {a : Act} {w : World} {Q : Exit → Act → World → Prop}
/-- A slice of numbers is appended to an empty one: a new one. -/
theorem run_appendNewI (st ty : TypeId) (ba : Option Addr) (l : List Int) (g o c : Nat) (hIA : IA w (some ⟨g, o, none⟩) l) (i : TypeInfo) (z : Value)
    (hu : P.underlying st = some (.slice 3)) (hi : P.info? 3 = some i) (hz : i.zero = some z) (hs : i.size = 1) (hby : i.bytes ≤ 64) (h0 : 0 < l.length) (hlen : l.length ≤ 1000000) :
    ∃ (w1 : World) (cap1 : Nat), (Builtin.append_ #[st, st] ty #[.slice ba 0 0, .slice (some ⟨g, o, none⟩) l.length c]).run P w = .ok (.slice (some ⟨w.heap.size, 0, none⟩) l.length cap1) w1 ∧ Below w.heap.size w w1 ∧ CB w1 w.heap.size l := by
  have hsrc : Src P i.size st (.slice (some ⟨g, o, none⟩) l.length c) l.length (l.map fun x => .int .i64 x) w :=
    Src.ofSlice w hu ⟨g, o, none⟩ l.length c _ (by rw [hs, List.length_map]; omega) (fun j u hj => by
      rw [Addr.add_mid]
      rw [List.getElem?_map] at hj
      obtain ⟨x, hx, rfl⟩ := Option.map_eq_some_iff.1 hj
      obtain ⟨g', o', ha, hc⟩ := hIA j x hx
      simp only [Option.some.injEq, Addr.mk.injEq, and_true] at ha
      obtain ⟨rfl, rfl⟩ := ha
      exact hc) (fun u hu => by
      obtain ⟨x, _, rfl⟩ := List.mem_map.1 hu
      rfl)
  have hold : (Builtin.firstCells i.size 0 (.slice ba 0 0)).run P w.drew = .ok ([] : List Value).toArray w.drew := by
    cases ba with
    | none => exact run_firstCells_none (w := w.drew) i.size 0 0 0
    | some b => exact run_firstCells_some w.drew i.size 0 b 0 0 [] (by simp) (fun j v hj => by simp at hj)
  have hr := run_append_grow_src (P := P) w st st ty 3 i _ hu hi hz ba 0 0 _ hold _ l.length _ hsrc (by omega) (by omega) (growslice_fits (by omega) (Nat.le_trans (Nat.mul_le_mul (show 0 + l.length ≤ 1000000 by omega) hby) (by decide)))
  refine ⟨_, _, by rw [Nat.zero_add] at hr; exact hr, (Below.refl _ w).drew.alloc (Nat.le_refl _) _, _, Blk.new w.drew _ _, ?_, ?_⟩
  · simp only [Array.size_append, List.size_toArray, List.length_append, List.length_map]
    omega
  · intro j x hx
    have hjl := (List.getElem?_eq_some_iff.1 hx).1
    rw [Array.getElem?_append_left (by simpa using hjl)]
    simp [hx]
theorem wpList_appendNewI (hgd : op.guard = none) (x y : Operand) (st : TypeId) (ho : op.op = .call { callee := .builtin .append, args := #[x, y], argTypes := #[st, st] })
    (ba : Option Addr) (hx : a.eval x = .slice ba 0 0) (l : List Int) (g o c : Nat) (hy : a.eval y = .slice (some ⟨g, o, none⟩) l.length c) (hIA : IA w (some ⟨g, o, none⟩) l) (i : TypeInfo) (z : Value)
    (hu : P.underlying st = some (.slice 3)) (hi : P.info? 3 = some i) (hz : i.zero = some z) (hs : i.size = 1) (hby : i.bytes ≤ 64) (h0 : 0 < l.length) (hlen : l.length ≤ 1000000)
    (h : ∀ (w1 : World) (cap1 : Nat), Below w.heap.size w w1 → CB w1 w.heap.size l → wpList P ops Q rest (a.put op.dst (.slice (some ⟨w.heap.size, 0, none⟩) l.length cap1)) w1) : wpList P ops Q (op :: rest) a w := by
  obtain ⟨w1, cap1, hr, hb, hl⟩ := run_appendNewI (P := P) (w := w) st op.type ba l g o c hIA i z hu hi hz hs hby h0 hlen
  refine wpList_run hgd _ _ ?_ (h w1 cap1 hb hl)
  unfold execOp
  simp only [ho]
  simp [resolve, invoke, builtin, hx, hy, hr, Result.andThen]
end
theorem eqlNilI (w : World) (b : Addr) (n c : Nat) : (binOp .eql 23 (.slice (some b) n c) (.slice none 0 0)).run Try.prog w = .ok (.bool false) w := Lib.run_eql_slice_nil w 23 3 (some b) n c 0 0 Try.underlying23
section
attribute [local go_sem] eqlNilI
set_option maxRecDepth 100000 in
set_option maxHeartbeats 400000 in
theorem scloneI_any (a : Option Addr) (l : List Int) (cap : Nat) (w : World) (h : IA w a l) (h0 : 0 < l.length) (hl : l.length ≤ 1000000) :
    Calls Try.prog 27 #[.slice a l.length cap] w fun e w' => ∃ g cap', e = .returned (.slice (some ⟨g, 0, none⟩) l.length cap') ∧ w.heap.size ≤ g ∧ Below w.heap.size w w' ∧ CB w' g l := by
  obtain ⟨g, o, rfl⟩ := h.ex (by omega)
  obtain ⟨ii, hi, hz, hs, hby⟩ := infoI
  go_enter Try.func27, Try.ntmps27
  go_wp2_with (with_reducible refine at_list ?_; first
    | (refine wpList_bsl0I (op := ⟨some 5, _, _, _, _, _⟩) rfl rfl ?_; intro w1 hw1 hs1 hv1; replace hs1 := hs1.symm; clear hv1)
    | (refine wpList_appendNewI (op := ⟨some 7, _, _, _, _, _⟩) rfl _ _ _ rfl _ rfl l g o cap rfl (h.below hw1) ii (.int .i64 0) Try.underlying23 hi hz hs hby h0 hl ?_; intro w2 cap2 hw2 hO2))
  go_ret
  exact ⟨_, _, rfl, hw1.size, hw1.trans (hw2.mono hw1.size), hO2⟩
end
set_option maxRecDepth 100000 in
set_option maxHeartbeats 400000 in
theorem cloneH_any (ht : Nat) (p t s : List UInt8) (l : List Int) (a : Option Addr) (cap : Nat) (w : World) (h : IA w a l) (h0 : 0 < l.length) (hl : l.length ≤ 1000000) :
    Calls Try.prog 12 #[.agg (hA ht p t s (.slice a l.length cap))] w fun e w' => ∃ g cap', e = .returned (.agg (hA ht p t s (.slice (some ⟨g, 0, none⟩) l.length cap'))) ∧ w.heap.size ≤ g ∧ Below w.heap.size w w' ∧ CB w' g l := by
  have HC := fun w' (hB : Below w.heap.size w w') => scloneI_any a l cap w' (h.below hB) h0 hl
  go_enter Try.func12, Try.ntmps12
  go_wp2_with (first
    | (go_at_call 27; refine (HC _ (hw1.trans (hw2.mono hw1.size))).mono ?_; rintro e w3 ⟨g, cap3, rfl, hg, hw3, hO3⟩; clear HC; replace hb1 := hb1.belowSize hw3; replace hz2 := hz2.belowSize hw3)
    | (with_reducible refine at_list ?_; first
      | (refine wpList_boxRow (op := ⟨some 1, _, _, _, _, _⟩) rfl _ _ rfl _ rfl ?_; intro w1 hw1 hs1 hb1; replace hs1 := hs1.symm)
      | (refine wpList_allocRow (op := ⟨some 2, _, _, _, _, _⟩) rfl _ rfl _ zH0.1 ?_; intro w2 hw2 hs2 hz2; replace hs2 := hs2.symm; replace hb1 := hb1.belowSize hw2)
      | (refine wpList_loadCell (op := ⟨some 4, _, _, _, _, _⟩) rfl _ _ rfl w.heap.size 4 rfl _ _ hb1 _ Try.underlying23 rfl (.slice a l.length cap) (hA_g4 _ _ _ _ _) ?_)
      | (refine wpList_storeCell (op := ⟨none, .store 23 (.tmp 6) (.tmp 5), _, _, _, _⟩) rfl _ _ _ rfl w.heap.size 4 rfl (.slice (some ⟨g, 0, none⟩) l.length cap3) rfl _ _ hb1 iSlI rfl rfl (by rw [hA_size]; decide) ?_; intro w4 hg4 hs4 hb4; rw [hA_set4] at hb4; replace hz2 := hz2.grown hg4 (by simp; omega); have hO4 := hO3.other hg4 hb1 (by decide))
      | (refine wpList_loadRow (op := ⟨some 7, _, _, _, _, _⟩) rfl _ _ rfl w.heap.size rfl _ _ hb4 _ Try.underlying25 rfl (by rw [hA_size]; exact zH.2) ?_)
      | (refine wpList_storeRow (op := ⟨none, .store 25 (.tmp 2) (.tmp 7), _, _, _, _⟩) rfl _ _ _ rfl w1.heap.size (hA ht p t s (.slice (some ⟨g, 0, none⟩) l.length cap3)) rfl rfl _ _ hz2 (by simp only [hA_size]) (by rw [hA_size]; exact zH.2) (hA_one _ _ _ _ _ _ _) ?_; intro w5 hg5 hs5 hz5)))
  have hl2 := hw2.size
  have hB3 : Below w.heap.size w w3 := (hw1.trans (hw2.mono hw1.size)).trans (hw3.mono (Nat.le_trans hw1.size hw2.size))
  have hB4 : Below w.heap.size w w4 := hB3.trans (below_of_grown hg4 (Nat.le_refl _) hB3.size)
  refine bodyPost_ret (v := .agg (hA ht p t s (.slice (some ⟨g, 0, none⟩) l.length cap3))) ?_ rfl ⟨g, cap3, rfl, by omega, hB4.trans (below_of_grown hg5 (by omega) hB4.size), hO4.other hg5 hz2 (by decide)⟩
  exact results_cell_row rfl _ _ w1.heap.size _ _ _ _ rfl hz5.out Try.underlying25 rfl (by rw [hA_size]; exact zH.2)
set_option maxRecDepth 100000 in
theorem most_any (k : Nat) (hk : k ≤ 1023) (w : World) : Calls Try.prog 14 #[.int .i64 k] w fun e w' => e = .returned (.int .i64 ((k / 2 + 1 : Nat) : Int)) ∧ w' = w := by
  have h1 : ((k : Int).tdiv 2) = ((k / 2 : Nat) : Int) := by rw [Int.tdiv_eq_ediv_of_nonneg (by omega)]; omega
  have h2 : IntKind.i64.wrap (((k / 2 : Nat) : Int) + 1) = ((k / 2 + 1 : Nat) : Int) := by rw [IntKind.wrap_i64]; omega
  have h3 : IntKind.i64.wrap ((k / 2 : Nat) : Int) = ((k / 2 : Nat) : Int) := by rw [IntKind.wrap_i64]; omega
  go_enter Try.func14, Try.ntmps14
  go_wp2_with fail
  go_ret
  exact ⟨by simp, rfl⟩
end Go.Proofs.Ytdolgkegeomafaa
