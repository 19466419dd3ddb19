/- Lists of who takes part, entries in memory: what conf is asked to do. What Clone does to a slice of numbers. What slices.Index and slices.Contains do to numbers. -/
import Derived.Test.YtnhlejdilldfaaaGreatCmm
import Derived.Deep.CutRange
import Derived.Lib.SliceRun
namespace Go.Proofs.YtnhlejdilldfaaaGreat
open Go Go.RowKit
/-- How many of one list another one lacks. -/
def lack (l m : List Int) : Nat := (l.filter fun x => decide (x ∉ m)).length
/-- May the one follow the other? -/
def nx (l m : List Int) : Bool := okM l && (okM m && decide (lack l m + lack m l = 1))
/-- An entry of the log. -/
structure LE where
  term : Int
  s : List UInt8
  conf : Bool
  mem : List Int
def lec (e : LE) (sl : Value) : Array Value := #[.int .i64 e.term, .string ⟨e.s.toArray⟩, .bool e.conf, sl]
/-- The entries l lie at a. -/
def EA (w : World) (a : Option Addr) (l : List LE) : Prop := ∀ i (h : i < l.length), ∃ g o ma cap, a = some ⟨g, o, none⟩ ∧ w.rangeAt g (o + i * 4) (lec l[i] (.slice ma l[i].mem.length cap)).toList ∧ IA w ma l[i].mem ∧ l[i].mem.length ≤ 17592186044416
theorem EA.below {w w' : World} {a : Option Addr} {l : List LE} (h : EA w a l) (hb : Below w.heap.size w w') : EA w' a l := fun i hi => by
  obtain ⟨g, o, ma, cap, ha, hr, hs, h1⟩ := h i hi
  refine ⟨g, o, ma, cap, ha, fun j v hv => ?_, hs.below hb, h1⟩
  have h3 := hr j v hv
  rw [hb.cell (World.block_lt_of_cell? _ _ h3)]
  exact h3
theorem EA.ex {w : World} {a : Option Addr} {l : List LE} (h : EA w a l) (h0 : 0 < l.length) : ∃ g o, a = some ⟨g, o, none⟩ := by
  obtain ⟨g, o, _, _, ha, _⟩ := h 0 h0
  exact ⟨g, o, ha⟩
theorem EA.at {w : World} {g o : Nat} {l : List LE} (h : EA w (some ⟨g, o, none⟩) l) (i : Nat) (hi : i < l.length) : ∃ ma cap, w.cell? ⟨g, o + i * 4 + 2, none⟩ = some (.bool l[i].conf) ∧ w.cell? ⟨g, o + i * 4 + 3, none⟩ = some (.slice ma l[i].mem.length cap) ∧ IA w ma l[i].mem ∧ l[i].mem.length ≤ 17592186044416 := by
  obtain ⟨g', o', ma, cap, ha, hr, hs, h1⟩ := h i hi
  simp only [Option.some.injEq, Addr.mk.injEq, and_true] at ha
  obtain ⟨rfl, rfl⟩ := ha
  exact ⟨ma, cap, hr 2 _ rfl, hr 3 _ rfl, hs, h1⟩
/-- Who takes part by the first i entries, and the place. -/
def ltM (base : List Int) (l : List LE) : Nat → List Int × Nat
  | 0 => (base, 0)
  | i + 1 => if h : i < l.length then bif l[i].conf then (l[i].mem, i + 1) else ltM base l i else ltM base l i
theorem ltM_yes {base : List Int} {l : List LE} {i : Nat} (h : i < l.length) (hc : l[i].conf = true) : ltM base l (i + 1) = (l[i].mem, i + 1) := by
  show (if h : i < l.length then bif l[i].conf then (l[i].mem, i + 1) else ltM base l i else ltM base l i) = _
  rw [dif_pos h, hc, cond_true]
theorem ltM_no {base : List Int} {l : List LE} {i : Nat} (h : i < l.length) (hc : l[i].conf = false) : ltM base l (i + 1) = ltM base l i := by
  show (if h : i < l.length then bif l[i].conf then (l[i].mem, i + 1) else ltM base l i else ltM base l i) = _
  rw [dif_pos h, hc, cond_false]
end Go.Proofs.YtnhlejdilldfaaaGreat
namespace Go.Proofs.YtnhlejdilldfaaaGreat
open Go Go.RowKit
theorem infoI8 : ∃ i, Tryz.prog.info? 3 = some i ∧ i.zero = some (.int .i64 0) ∧ i.size = 1 ∧ i.bytes ≤ 8 := by
  have h : (Tryz.prog.info? 3).map (fun i => (i.zero, i.size, i.bytes)) = some (some (.int .i64 0), 1, 8) := by kernel_rfl
  cases hq : Tryz.prog.info? 3 with
  | none => rw [hq] at h; cases h
  | some i => rw [hq] at h; simp at h; exact ⟨i, rfl, h.1, h.2.1, by omega⟩
/-- Block g begins with the numbers l. -/
structure CB (w : World) (g : Nat) (l : List Int) : Prop where
  out : ∃ (c : Array Value) (fr : Nat × Nat), w.heap[g]? = some (.cells c 3 fr) ∧ l.length ≤ c.size ∧ ∀ (j : Nat) (x : Int), l[j]? = some x → c[j]? = some (.int .i64 x)
theorem CB.of {w : World} {g : Nat} {l : List Int} {c : Array Value} (h : Blk w g c 3) (h1 : l.length ≤ c.size) (h2 : ∀ (j : Nat) (x : Int), l[j]? = some x → c[j]? = some (.int .i64 x)) : CB w g l := ⟨c, _, h.out, h1, h2⟩
theorem CB.lt {w : World} {g : Nat} {l : List Int} (h : CB w g l) : g < w.heap.size := by
  obtain ⟨c, fr, h1, _⟩ := h.out
  exact (Array.getElem?_eq_some_iff.1 h1).1
theorem CB.ia {w : World} {g : Nat} {l : List Int} (h : CB w g l) : IA w (some ⟨g, 0, none⟩) l := fun i x hx => by
  obtain ⟨c, fr, h1, _, h3⟩ := h.out
  refine ⟨g, 0, rfl, ?_⟩
  rw [Nat.zero_add]
  simp [World.cell?, h1, h3 i x hx]
section
variable {P : Program} {ops : Array Oper} {rest : List Oper} {op : Oper} {a : Act} {w : World} {Q : Exit → Act → World → Prop}
/-- A slice of numbers is appended to an empty one: a new one. -/
theorem run_appendNewI (st ty : TypeId) (ba : Option Addr) (l : List Int) (g o c : Nat) (hIA : IA w (some ⟨g, o, none⟩) l) (i : TypeInfo) (z : Value)
    (hu : P.underlying st = some (.slice 3)) (hi : P.info? 3 = some i) (hz : i.zero = some z) (hs : i.size = 1) (hby : i.bytes ≤ 8) (h0 : 0 < l.length) (hlen : l.length ≤ 17592186044416) :
    ∃ (w1 : World) (cap1 : Nat), (Builtin.append_ #[st, st] ty #[.slice ba 0 0, .slice (some ⟨g, o, none⟩) l.length c]).run P w = .ok (.slice (some ⟨w.heap.size, 0, none⟩) l.length cap1) w1 ∧ Below w.heap.size w w1 ∧ CB w1 w.heap.size l := by
  have hsrc : Src P i.size st (.slice (some ⟨g, o, none⟩) l.length c) l.length (l.map fun x => .int .i64 x) w :=
    Src.ofSlice w hu ⟨g, o, none⟩ l.length c _ (by rw [hs, List.length_map]; omega) (fun j u hj => by
      rw [Addr.add_mid]
      rw [List.getElem?_map] at hj
      obtain ⟨x, hx, rfl⟩ := Option.map_eq_some_iff.1 hj
      obtain ⟨g', o', ha, hc⟩ := hIA j x hx
      simp only [Option.some.injEq, Addr.mk.injEq, and_true] at ha
      obtain ⟨rfl, rfl⟩ := ha
      exact hc) (fun u hu => by
      obtain ⟨x, _, rfl⟩ := List.mem_map.1 hu
      rfl)
  have hold : (Builtin.firstCells i.size 0 (.slice ba 0 0)).run P w.drew = .ok ([] : List Value).toArray w.drew := by
    cases ba with
    | none => exact run_firstCells_none (w := w.drew) i.size 0 0 0
    | some b => exact run_firstCells_some w.drew i.size 0 b 0 0 [] (by simp) (fun j v hj => by simp at hj)
  have hr := run_append_grow_src (P := P) w st st ty 3 i _ hu hi hz ba 0 0 _ hold _ l.length _ hsrc (by omega) (by omega) (growslice_fits (by omega) (Nat.le_trans (Nat.mul_le_mul (show 0 + l.length ≤ 17592186044416 by omega) hby) (by decide)))
  refine ⟨_, _, by rw [Nat.zero_add] at hr; exact hr, (Below.refl _ w).drew.alloc (Nat.le_refl _) _, CB.of (Blk.new w.drew _ _) ?_ ?_⟩
  · simp only [Array.size_append, List.size_toArray, List.length_append, List.length_map]
    omega
  · intro j x hx
    have hjl := (List.getElem?_eq_some_iff.1 hx).1
    rw [Array.getElem?_append_left (by simpa using hjl)]
    simp [hx]
theorem wpList_appendNewI (hgd : op.guard = none) (x y : Operand) (st : TypeId) (ho : op.op = .call { callee := .builtin .append, args := #[x, y], argTypes := #[st, st] })
    (ba : Option Addr) (hx : a.eval x = .slice ba 0 0) (l : List Int) (g o c : Nat) (hy : a.eval y = .slice (some ⟨g, o, none⟩) l.length c) (hIA : IA w (some ⟨g, o, none⟩) l) (i : TypeInfo) (z : Value)
    (hu : P.underlying st = some (.slice 3)) (hi : P.info? 3 = some i) (hz : i.zero = some z) (hs : i.size = 1) (hby : i.bytes ≤ 8) (h0 : 0 < l.length) (hlen : l.length ≤ 17592186044416)
    (h : ∀ (w1 : World) (cap1 : Nat), Below w.heap.size w w1 → CB w1 w.heap.size l → wpList P ops Q rest (a.put op.dst (.slice (some ⟨w.heap.size, 0, none⟩) l.length cap1)) w1) : wpList P ops Q (op :: rest) a w := by
  obtain ⟨w1, cap1, hr, hb, hl⟩ := run_appendNewI (P := P) (w := w) st op.type ba l g o c hIA i z hu hi hz hs hby h0 hlen
  refine wpList_run hgd _ _ ?_ (h w1 cap1 hb hl)
  unfold execOp
  simp only [ho]
  simp [resolve, invoke, builtin, hx, hy, hr, Result.andThen]
end
theorem eqlNilI (w : World) (b : Addr) (n c : Nat) : (binOp .eql 23 (.slice (some b) n c) (.slice none 0 0)).run Tryz.prog w = .ok (.bool false) w := Lib.run_eql_slice_nil w 23 3 (some b) n c 0 0 Tryz.underlying23
section
attribute [local go_sem] eqlNilI
set_option maxRecDepth 100000 in
set_option maxHeartbeats 400000 in
theorem scloneI_any (a : Option Addr) (l : List Int) (cap : Nat) (w : World) (h : IA w a l) (h0 : 0 < l.length) (hl : l.length ≤ 17592186044416) :
    Calls Tryz.prog 61 #[.slice a l.length cap] w fun e w' => ∃ g cap', e = .returned (.slice (some ⟨g, 0, none⟩) l.length cap') ∧ w.heap.size ≤ g ∧ Below w.heap.size w w' ∧ CB w' g l := by
  obtain ⟨g, o, rfl⟩ := h.ex (by omega)
  obtain ⟨ii, hi, hz, hs, hby⟩ := infoI8
  go_enter Tryz.func61, Tryz.ntmps61
  go_wp2_with (with_reducible refine at_list ?_; first
    | (refine wpList_bsl0I (op := ⟨some 5, _, _, _, _, _⟩) rfl rfl ?_; intro w1 hw1 hs1 hv1; replace hs1 := hs1.symm; clear hv1)
    | (refine wpList_appendNewI (op := ⟨some 7, _, _, _, _, _⟩) rfl _ _ _ rfl _ rfl l g o cap rfl (h.below hw1) ii (.int .i64 0) Tryz.underlying23 hi hz hs hby h0 hl ?_; intro w2 cap2 hw2 hO2))
  go_ret
  exact ⟨_, _, rfl, hw1.size, hw1.trans (hw2.mono hw1.size), hO2⟩
end
section
theorem eqlNilI0 (w : World) (n c : Nat) : (binOp .eql 23 (.slice none n c) (.slice none 0 0)).run Tryz.prog w = .ok (.bool true) w := Lib.run_eql_slice_nil w 23 3 none n c 0 0 Tryz.underlying23
attribute [local go_sem] eqlNilI eqlNilI0
set_option maxRecDepth 100000 in
set_option maxHeartbeats 400000 in
theorem scloneI_none (cap : Nat) (w : World) : Calls Tryz.prog 61 #[.slice none 0 cap] w fun e w' => (∃ x c, e = .returned (.slice x 0 c)) ∧ Below w.heap.size w w' := by
  go_enter Tryz.func61, Tryz.ntmps61
  go_wp2_with fail
  go_ret
  exact ⟨⟨_, _, rfl⟩, Below.refl _ _⟩
set_option maxRecDepth 100000 in
set_option maxHeartbeats 400000 in
theorem scloneI_zero (b : Addr) (cap : Nat) (w : World) : Calls Tryz.prog 61 #[.slice (some b) 0 cap] w fun e w' => (∃ x c, e = .returned (.slice x 0 c)) ∧ Below w.heap.size w w' := by
  go_enter Tryz.func61, Tryz.ntmps61
  go_wp2_with (with_reducible refine at_list ?_; first
    | (refine wpList_bsl0I (op := ⟨some 5, _, _, _, _, _⟩) rfl rfl ?_; intro w1 hw1 hs1 hv1; replace hs1 := hs1.symm; clear hv1))
  go_ret
  exact ⟨⟨_, _, rfl⟩, hw1⟩
end
/-- A copy of numbers is its own. -/
theorem scloneI_all (a : Option Addr) (l : List Int) (cap : Nat) (w : World) (h : IA w a l) (hl : l.length ≤ 17592186044416) :
    Calls Tryz.prog 61 #[.slice a l.length cap] w fun e w' => ∃ (x : Option Addr) (c : Nat), e = .returned (.slice x l.length c) ∧ IA w' x l ∧ Below w.heap.size w w' := by
  by_cases h0 : 0 < l.length
  · exact (scloneI_any a l cap w h h0 hl).mono fun e w' ⟨g, c, h1, _, h3, h4⟩ => ⟨_, c, h1, h4.ia, h3⟩
  · obtain rfl : l = [] := List.length_eq_zero_iff.1 (by omega)
    have hn : ∀ w' x, IA w' x [] := fun w' x i y hy => by simp at hy
    cases a with
    | none => exact (scloneI_none cap w).mono fun e w' ⟨⟨x, c, h1⟩, h2⟩ => ⟨x, c, h1, hn w' x, h2⟩
    | some b => exact (scloneI_zero b cap w).mono fun e w' ⟨⟨x, c, h1⟩, h2⟩ => ⟨x, c, h1, hn w' x, h2⟩
end Go.Proofs.YtnhlejdilldfaaaGreat
namespace Go.Proofs.YtnhlejdilldfaaaGreat
open Go Go.RowKit
/-- Where k stands in l; -1: nowhere. -/
def ixI (l : List Int) (k : Int) : Int := match l.findIdx? (· == k) with
  | some i => (i : Int)
  | none => -1
theorem ixI_at {l : List Int} {k : Int} {i : Nat} (hi : i < l.length) (h : l.getD i 0 = k) (hn : ∀ j, j < i → l.getD j 0 ≠ k) : ixI l k = (i : Int) := by
  unfold ixI
  have : l.findIdx? (· == k) = some i := by
    rw [List.findIdx?_eq_some_iff_getElem]
    refine ⟨hi, ?_, fun j hj => ?_⟩
    · rw [List.getD_eq_getElem?_getD, List.getElem?_eq_getElem hi] at h
      simpa using h
    · have := hn j hj
      rw [List.getD_eq_getElem?_getD, List.getElem?_eq_getElem (by omega)] at this
      simpa using this
  rw [this]
theorem ixI_no {l : List Int} {k : Int} (hn : ∀ j, j < l.length → l.getD j 0 ≠ k) : ixI l k = -1 := by
  unfold ixI
  have : l.findIdx? (· == k) = none := by
    rw [List.findIdx?_eq_none_iff]
    intro x hx
    obtain ⟨j, hj, rfl⟩ := List.mem_iff_getElem.1 hx
    have := hn j hj
    rw [List.getD_eq_getElem?_getD, List.getElem?_eq_getElem hj] at this
    simpa using this
  rw [this]
theorem ixI_mem (l : List Int) (k : Int) : decide (ixI l k ≥ 0) = decide (k ∈ l) := by
  unfold ixI
  cases h : l.findIdx? (· == k) with
  | some i =>
    obtain ⟨hi, h1, _⟩ := List.findIdx?_eq_some_iff_getElem.1 h
    have : k ∈ l := by
      have h2 : l[i] = k := by simpa using h1
      rw [← h2]
      exact List.getElem_mem hi
    rw [decide_eq_true this]
    exact decide_eq_true (Int.natCast_nonneg i)
  | none =>
    rw [List.findIdx?_eq_none_iff] at h
    have : k ∉ l := fun hm => by
      have := h k hm
      simp at this
    rw [decide_eq_false this]
    decide
set_option maxRecDepth 100000 in
set_option maxHeartbeats 800000 in
theorem index_any (l : List Int) (a : Option Addr) (cap : Nat) (k : Int) (w : World) (hA : IA w a l) (hln : l.length ≤ 17592186044416) :
    Calls Tryz.prog 127 #[.slice a l.length cap, .int .i64 k] w fun e w' => e = .returned (.int .i64 (ixI l k)) ∧ Below w.heap.size w w' := by
  obtain ⟨R, hR0⟩ : ∃ R, ixI l k = R := ⟨_, rfl⟩
  rw [hR0]
  have hR : Hid (ixI l k = R) := hR0
  clear hR0
  go_enter Tryz.func127, Tryz.ntmps127
  go_wp2_with fail
  go_loopw [8] (fun v8 wl => ∃ i : Nat, i ≤ l.length ∧ v8 = .int .i64 i ∧ Hid (∀ j, j < i → l.getD j 0 ≠ k) ∧ Below w.heap.size w wl) (fun v8 _ => l.length - (intOf v8).toNat)
  case atStart => exact ⟨0, by omega, rfl, fun j hj => absurd hj (Nat.not_lt_zero j), Below.refl _ _⟩
  case round =>
    obtain ⟨i, hil, rfl, hE, hW⟩ := hrel
    by_cases hlt : i < l.length
    · obtain ⟨g, o, rfl⟩ := hA.ex (by omega)
      have c0 := (hA.below hW).cell hlt
      have hw1 : IntKind.i64.wrap ((i : Int) + 1) = ((i + 1 : Nat) : Int) := by rw [IntKind.wrap_i64]; omega
      have hz1 : (0 : Int) ≤ (i : Int) := by omega
      have hz2 : (i : Int) < (l.length : Int) := by omega
      have hd : decide ((i : Int) < (l.length : Int)) = true := decide_eq_true hz2
      by_cases he : l.getD i 0 = k
      · have hix := ixI_at hlt he hE.out
        rw [he] at c0
        obtain rfl : R = (i : Int) := by rw [← hR.out, hix]
        have hx : (k == k) = true := beq_self_eq_true k
        clear hE he hix
        go_wp2_with fail
        go_ret
        exact ⟨rfl, hW⟩
      · have hE2 : Hid (∀ j, j < i + 1 → l.getD j 0 ≠ k) := fun j hj => by
          by_cases hji : j < i
          · exact hE.out j hji
          · obtain rfl : j = i := by omega
            exact he
        have hx : (k == l.getD i 0) = false := by rw [beq_eq_false_iff_ne]; exact fun e => he e.symm
        clear hE he
        generalize l.getD i 0 = x at *
        go_wp2_with fail
        go_roundw
        case rel => exact ⟨i + 1, by omega, by go_num, hE2, hW⟩
        case measure => simp [intOf]; omega
    · have hd : decide ((i : Int) < (l.length : Int)) = false := decide_eq_false (by omega)
      have hz2 : ¬ (i : Int) < (l.length : Int) := by omega
      have hix : ixI l k = -1 := ixI_no fun j hj => hE.out j (by omega)
      obtain rfl : R = -1 := by rw [← hR.out, hix]
      clear hE hix
      go_wp2_with fail
      go_ret
      exact ⟨rfl, hW⟩
set_option maxRecDepth 100000 in
set_option maxHeartbeats 800000 in
theorem contains_any (l : List Int) (a : Option Addr) (cap : Nat) (k : Int) (w : World) (hA : IA w a l) (hln : l.length ≤ 17592186044416) :
    Calls Tryz.prog 122 #[.slice a l.length cap, .int .i64 k] w fun e w' => e = .returned (.bool (decide (k ∈ l))) ∧ Below w.heap.size w w' := by
  have H := fun w (h : IA w a l) => index_any l a cap k w h hln
  rw [← ixI_mem]
  generalize ixI l k = x at *
  go_enter Tryz.func122, Tryz.ntmps122
  go_wp2_with (go_at_call 127; refine (H _ hA).mono ?_; rintro e w1 ⟨rfl, h1⟩)
  go_ret
  exact ⟨rfl, h1⟩
end Go.Proofs.YtnhlejdilldfaaaGreat
