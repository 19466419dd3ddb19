/- What Clone of kept blocks, Cut and Block of a chain do. What Cut and Block of a chain do. What Block of a chain does. -/
import Derived.Test.YtmbdhngoldganaaGreatDoorCpl
import Derived.Test.YtmbdhngoldganaaGreatDoorCnl
namespace Go.Proofs.YtmbdhngoldganaaGreatDoor
open Go Go.RowKit
namespace Sh
section
variable {P : Program} {w : World}
theorem run_appendNewG (st ty t : TypeId) (ba : Option Addr) (k : Nat) (l : List (List Value)) (g o c : Nat) (hall : ∀ x ∈ l, x.length = k) (hone : ∀ x ∈ l, ∀ u ∈ x, u.oneCell' = true) (hcell : ∀ (j : Nat) (v : Value), l.flatten[j]? = some v → w.cell? ⟨g, o + j, none⟩ = some v) (i : TypeInfo) (z : Value) (hz1 : z.cells.size = k)
    (hu : P.underlying st = some (.slice t)) (hi : P.info? t = some i) (hz : i.zero = some z) (hs : i.size = k) (hby : i.bytes ≤ 256) (h0 : 0 < l.length) (hlen : l.length ≤ 1000000) :
    ∃ (w1 : World) (cap1 : Nat), (Builtin.append_ #[st, st] ty #[.slice ba 0 0, .slice (some ⟨g, o, none⟩) l.length c]).run P w = .ok (.slice (some ⟨w.heap.size, 0, none⟩) l.length cap1) w1 ∧ Below w.heap.size w w1 ∧ GS w1 t k w.heap.size cap1 l := by
  have hfl := flat_len hall
  have hsrc : Src P i.size st (.slice (some ⟨g, o, none⟩) l.length c) l.length l.flatten w :=
    Src.ofSlice w hu ⟨g, o, none⟩ l.length c _ (by rw [hs, hfl]) (fun j u hj => by
      rw [Addr.add_mid]
      exact hcell j u hj) (fun u hu => by
        obtain ⟨x, hx, hux⟩ := List.mem_flatten.1 hu
        exact hone x hx u hux)
  have hold : (Builtin.firstCells i.size 0 (.slice ba 0 0)).run P w.drew = .ok ([] : List Value).toArray w.drew := by
    cases ba with
    | none => exact run_firstCells_none (w := w.drew) i.size 0 0 0
    | some b => exact run_firstCells_some w.drew i.size 0 b 0 0 [] (by simp) (fun j v hj => by simp at hj)
  have hr := run_append_grow_src (P := P) w st st ty t i _ hu hi hz ba 0 0 _ hold _ l.length _ hsrc (by omega) (by omega) (growslice_fits (by omega) (Nat.le_trans (Nat.mul_le_mul (show 0 + l.length ≤ 1000000 by omega) hby) (by decide)))
  have hge : 0 + l.length ≤ grownCap w (0 + l.length) 0 t := grownCap_ge w _ _ _
  refine ⟨_, _, by rw [Nat.zero_add] at hr; exact hr, (Below.refl _ w).drew.alloc (Nat.le_refl _) _, ?_⟩
  rw [Nat.zero_add] at hge
  refine ⟨_, heap_alloc_last w.drew _, hge, ?_, ?_⟩
  · simp only [Array.size_append, List.size_toArray, List.length_append, hfl, size_zeroCells, List.length_nil, hz1]
    have h9 : grownCap w l.length 0 t * k = l.length * k + (grownCap w l.length 0 t - l.length) * k := by
      rw [Nat.sub_mul]
      have := Nat.mul_le_mul_right k hge
      omega
    omega
  · intro j v hj
    have hjl := (List.getElem?_eq_some_iff.1 hj).1
    rw [Array.getElem?_append_left (by simpa using hjl)]
    simpa using hj
end
end Sh
theorem bsl0Bk (w : World) : (Instr.buildSlice 101 0 #[]).run Tryz.prog w = .ok (.slice (some ⟨w.heap.size, 0, none⟩) 0 0) (w.alloc (.cells #[] 53)) := by
  have hr0 : Array.range 0 = #[] := by decide
  simp [Instr.buildSlice, run_underlying Tryz.underlying101, sizeOf_run zBlk.2, Sem.run_bind, Instr.fill, newRow, hr0]
theorem run_bsl0Bk {op : Oper} {a : Act} {w : World} (ho : op.op = .buildSlice 101 0 #[]) : (execOp a.eval op).run Tryz.prog w = .ok (.value (.slice (some ⟨w.heap.size, 0, none⟩) 0 0)) (w.alloc (.cells #[] 53)) := by
  unfold execOp
  have hr := bsl0Bk w
  simp only [ho, Sem.run_bind, Array.map_empty, hr, Result.andThen_ok]
  rfl
theorem run_appB {op : Oper} {a : Act} {w w1 : World} {x y : Operand} {u v r : Value} (ho : op.op = .call { callee := .builtin .append, args := #[x, y], argTypes := #[101, 101] }) (hx : a.eval x = u) (hy : a.eval y = v) (hr : (Builtin.append_ #[101, 101] op.type #[u, v]).run Tryz.prog w = .ok r w1) : (execOp a.eval op).run Tryz.prog w = .ok (.value r) w1 := by
  unfold execOp
  simp only [ho]
  simp [resolve, invoke, builtin, hx, hy, hr, Result.andThen]
section
variable {ops : Array Oper} {rest : List Oper} {op : Oper} {a : Act} {w : World} {Q : Exit → Act → World → Prop}
theorem wpList_bsl0B (hgd : op.guard = none) (ho : op.op = .buildSlice 101 0 #[]) (h : ∀ w1 : World, Below w.heap.size w w1 → wpList Tryz.prog ops Q rest (a.put op.dst (.slice (some ⟨w.heap.size, 0, none⟩) 0 0)) w1) : wpList Tryz.prog ops Q (op :: rest) a w :=
  wpList_run hgd _ _ (run_bsl0Bk ho) (h _ (alloc_below w _ _))
theorem wpList_appNewB (hgd : op.guard = none) (x y : Operand) (ho : op.op = .call { callee := .builtin .append, args := #[x, y], argTypes := #[101, 101] }) (ba : Option Addr) (hx : a.eval x = .slice ba 0 0) (l : List (List Value)) (g o c : Nat) (hy : a.eval y = .slice (some ⟨g, o, none⟩) l.length c) (hall : ∀ x ∈ l, x.length = 6) (hone : ∀ x ∈ l, ∀ u ∈ x, u.oneCell' = true) (hcell : ∀ (j : Nat) (v : Value), l.flatten[j]? = some v → w.cell? ⟨g, o + j, none⟩ = some v) (h0 : 0 < l.length) (hlen : l.length ≤ 1000000)
    (h : ∀ (w1 : World) (cap1 : Nat), Below w.heap.size w w1 → Sh.GS w1 53 6 w.heap.size cap1 l → wpList Tryz.prog ops Q rest (a.put op.dst (.slice (some ⟨w.heap.size, 0, none⟩) l.length cap1)) w1) : wpList Tryz.prog ops Q (op :: rest) a w := by
  obtain ⟨ie, ei, ez, es, eb⟩ := infoBk
  obtain ⟨w1, cap1, hr, hb, hG⟩ := Sh.run_appendNewG (P := Tryz.prog) (w := w) 101 op.type 53 ba 6 l g o c hall hone hcell ie _ rfl Tryz.underlying101 ei ez es eb h0 hlen
  exact wpList_run hgd _ _ (run_appB ho hx hy hr) (h w1 cap1 hb hG)
end
theorem eqlNilB (w : World) (b : Addr) (n c : Nat) : (binOp .eql 101 (.slice (some b) n c) (.slice none 0 0)).run Tryz.prog w = .ok (.bool false) w := Lib.run_eql_slice_nil w 101 53 (some b) n c 0 0 Tryz.underlying101
theorem eqlNilB0 (w : World) : (binOp .eql 101 (.slice none 0 0) (.slice none 0 0)).run Tryz.prog w = .ok (.bool true) w := Lib.run_eql_slice_nil w 101 53 none 0 0 0 0 Tryz.underlying101
/-- What Clone of blocks leaves. -/
def SclP (w : World) (l : List (List Value)) (e : Ending) (w' : World) : Prop := Below w.heap.size w w' ∧ ∃ sl, e = .returned sl ∧ Sh.GL w' 53 6 w.heap.size sl l
section
attribute [local go_sem] eqlNilB eqlNilB0
set_option maxRecDepth 100000 in
set_option maxHeartbeats 1000000 in
theorem sclB_nil (w : World) : Calls Tryz.prog 61 #[.slice none 0 0] w (SclP w []) := by
  go_enter Tryz.func61, Tryz.ntmps61
  go_wp2_with fail
  go_ret
  exact ⟨Below.refl _ _, _, rfl, Sh.GL.nil _ _ _ _⟩
set_option maxRecDepth 100000 in
set_option maxHeartbeats 1000000 in
theorem sclB_any (l : List (List Value)) (g o cap : Nat) (w : World) (hall : ∀ x ∈ l, x.length = 6) (hone : ∀ x ∈ l, ∀ u ∈ x, u.oneCell' = true) (hcell : ∀ (j : Nat) (v : Value), l.flatten[j]? = some v → w.cell? ⟨g, o + j, none⟩ = some v) (hl : l.length ≤ 1000000) :
    Calls Tryz.prog 61 #[.slice (some ⟨g, o, none⟩) l.length cap] w (SclP w l) := by
  obtain ⟨ie, ei, ez, es, eb⟩ := infoBk
  by_cases h0 : 0 < l.length
  · have hcw := fun w1 (hb : Below w.heap.size w w1) (j : Nat) (v : Value) (hj : l.flatten[j]? = some v) => (hb.cell (World.block_lt_of_cell? _ _ (hcell j v hj))).trans (hcell j v hj)
    clear hcell
    go_enter Tryz.func61, Tryz.ntmps61
    go_wp2_with (with_reducible refine at_list ?_; first
      | (refine wpList_bsl0B (op := ⟨some 5, _, _, _, _, _⟩) rfl rfl ?_; intro w1 hw1)
      | (refine wpList_appNewB (op := ⟨some 7, _, _, _, _, _⟩) rfl _ _ rfl _ rfl l g o cap rfl hall hone (hcw w1 hw1) h0 hl ?_; intro w2 c2 hw2 hG))
    go_ret
    exact ⟨hw1.trans (hw2.mono hw1.size), _, rfl, hall, .inr ⟨_, c2, hw1.size, rfl, hG⟩⟩
  · obtain rfl : l = [] := List.length_eq_zero_iff.1 (by omega)
    have hsrc : ∀ w1 : World, Src Tryz.prog ie.size 101 (.slice (some ⟨g, o, none⟩) 0 cap) 0 [] w1 := fun w1 =>
      Src.ofSlice w1 Tryz.underlying101 ⟨g, o, none⟩ 0 cap _ (by simp) (fun j u hj => by simp at hj) (fun u hu => by simp at hu)
    have hA := alloc_below w #[] 53
    have hr := fun ty => run_append_room_src (P := Tryz.prog) (w.alloc (.cells #[] 53)) 101 101 ty 53 ie Tryz.underlying101 ei w.heap.size 0 0 0 _ 0 _ (hsrc _) (Nat.le_refl _) (fun j hj => by simp at hj) (fun j hj => by simp at hj)
    replace hr := hr 101
    have hG : Sh.GL (w.alloc (.cells #[] 53)) 53 6 w.heap.size (.slice (some ⟨w.heap.size, 0, none⟩) 0 0) [] := ⟨fun x hx => (by cases hx), .inr ⟨w.heap.size, 0, Nat.le_refl _, rfl, ⟨#[], heap_alloc_last w _, by simp, by simp, fun j v hv => by simp at hv⟩⟩⟩
    have e0 : ∀ (q : World) (b o : Nat), q.setCells b o [] = q := fun _ _ _ => rfl
    rw [e0] at hr
    clear hsrc hcell hall hone e0
    go_enter Tryz.func61, Tryz.ntmps61
    go_wp2_with (with_reducible refine at_list ?_; first
      | (refine wpList_run (op := ⟨some 5, _, _, _, _, _⟩) rfl _ _ (run_bsl0Bk rfl) ?_)
      | (refine wpList_run (op := ⟨some 7, _, _, _, _, _⟩) rfl _ _ (run_appB rfl rfl rfl hr) ?_))
    go_ret
    exact ⟨hA, _, rfl, hG⟩
end
end Go.Proofs.YtmbdhngoldganaaGreatDoor
namespace Go.Proofs.YtmbdhngoldganaaGreatDoor
open Go Go.RowKit
section
variable {op : Oper} {a : Act} {w : World}
theorem run_minU {x y : Operand} {n k : Nat} (ho : op.op = .call { callee := .builtin .min, args := #[x, y], argTypes := #[36, 36] }) (hx : a.eval x = .int .u64 (n : Nat)) (hy : a.eval y = .int .u64 (k : Nat)) : (execOp a.eval op).run Tryz.prog w = .ok (.value (.int .u64 ((min n k : Nat) : Int))) w := by
  unfold execOp
  simp only [ho]
  simp [resolve, invoke, builtin, hx, hy, run_min_int2, Result.andThen]
  split <;> omega
theorem run_subUe {x y : Operand} {n k r : Nat} (ho : op.op = .binOp .sub 36 x y 36) (hx : a.eval x = .int .u64 (n : Nat)) (hy : a.eval y = .int .u64 (k : Nat)) (hk : k ≤ n) (hn : n < 18446744073709551616) (hr : n - k = r) : (execOp a.eval op).run Tryz.prog w = .ok (.value (.int .u64 (r : Nat))) w := by
  rw [← hr]
  exact run_subU ho hx hy hk hn
theorem run_convI {x : Operand} {n : Nat} (ho : op.op = .convert 36 3 x) (hx : a.eval x = .int .u64 (n : Nat)) (hn : n ≤ 1000000) : (execOp a.eval op).run Tryz.prog w = .ok (.value (.int .i64 (n : Nat))) w := by
  have hwr : IntKind.i64.wrap (n : Int) = (n : Int) := by
    unfold IntKind.wrap
    simp [IntKind.bits, IntKind.signed]
    omega
  unfold execOp
  simp only [ho, hx]
  simp [go_sem]
  exact hwr
end
/-- How many blocks go, and what is left. -/
def cutN' (c : CN) (h : Nat) : Nat := if h ≤ c.ht - c.kept.length then 0 else min h c.ht - (c.ht - c.kept.length)
def cutK (c : CN) (h : Nat) : CN := ⟨c.name, c.first, c.ht, c.hash, c.mem, c.m, c.t, c.kept.drop (cutN' c h)⟩
theorem cutN'_le {c : CN} (hok : OkC c) (h : Nat) : cutN' c h ≤ c.kept.length := by
  unfold cutN'
  have := hok.kept
  split <;> omega
theorem cutK_ok {c : CN} (hok : OkC c) (h : Nat) : OkC (cutK c h) := ⟨hok.first, hok.mem, hok.hash, hok.name, hok.sz, hok.canon, hok.ht, by
  show (c.kept.drop _).length ≤ c.ht
  rw [List.length_drop]
  have := hok.kept
  omega⟩
theorem BKL.drop {w : World} {ls : List (List Value)} {l : List BK} (h : BKL w ls l) (n : Nat) : BKL w (ls.drop n) (l.drop n) := ⟨by simp [h.len], fun i hi => by
  rw [List.length_drop] at hi
  obtain ⟨c, h1, h2⟩ := h.each (n + i) (by omega)
  refine ⟨c, by rw [List.getElem?_drop]; exact h1, ?_⟩
  rw [List.getElem_drop]
  exact h2⟩
theorem BKL.one {w : World} {ls : List (List Value)} {l : List BK} (h : BKL w ls l) : ∀ x ∈ ls, ∀ u ∈ x, u.oneCell' = true := fun x hx => by
  obtain ⟨i, hi, rfl⟩ := List.mem_iff_getElem.1 hx
  have hil : i < l.length := by rw [← h.len]; exact hi
  obtain ⟨c, h1, h2⟩ := h.each i hil
  rw [List.getElem?_eq_getElem hi] at h1
  obtain ⟨gm, cm, a, cap, h3, _⟩ := h2.ab
  rw [Option.some.inj h1, h3]
  exact bk_all _ _ _ _ _ _ _ _ _ _
theorem flat_drop {k : Nat} : ∀ {l : List (List Value)} (n : Nat), (∀ x ∈ l, x.length = k) → n ≤ l.length → (l.drop n).flatten = l.flatten.drop (n * k)
  | l, 0, _, _ => by simp
  | [], n + 1, _, h => by simp at h
  | x :: r, n + 1, hx, h => by
    rw [List.drop_succ_cons, flat_drop n (fun y hy => hx y (List.mem_cons_of_mem _ hy)) (by simpa using h), List.flatten_cons, Nat.succ_mul, Nat.add_comm, ← List.drop_drop, List.drop_left' (hx x List.mem_cons_self)]
/-- What Cut leaves. -/
def CuP (w : World) (N cb bs bt : Nat) (sl : Value) (c : CN) (h : Nat) (e : Ending) (w' : World) : Prop :=
  e = .returned (.int .i64 (cutN' c h : Nat)) ∧ ∃ sl', CH w' N cb bs bt sl' (cutK c h) ∧ Own (ownC cb bs bt sl) w w' ∧ (∀ r, Sh.slBlk sl' = some r → Sh.slBlk sl = some r ∨ w.heap.size ≤ r)
theorem run_slNil {op : Oper} {a : Act} {w : World} {x y : Operand} (ho : op.op = .slice 101 x (some y) none none) (hx : a.eval x = .slice none 0 0) (hy : a.eval y = .int .u64 0) : (execOp a.eval op).run Tryz.prog w = .ok (.value (.slice none 0 0)) w := by
  unfold execOp
  simp only [ho, hx, hy, Option.map_some, Option.map_none]
  simp [go_sem]
theorem run_slAt {op : Oper} {a : Act} {w : World} {x y : Operand} {g n kc k : Nat} (ho : op.op = .slice 101 x (some y) none none) (hx : a.eval x = .slice (some ⟨g, 0, none⟩) n kc) (hy : a.eval y = .int .u64 (k : Nat)) (hk : k ≤ n) : (execOp a.eval op).run Tryz.prog w = .ok (.value (.slice (some ⟨g, if kc = k then 0 else k * 6, none⟩) (n - k) (kc - k))) w := by
  have h1 : (0 : Int) ≤ (k : Int) := by omega
  have h2 : (k : Int) ≤ (n : Int) := by omega
  unfold execOp
  simp only [ho, hx, hy, Option.map_some, Option.map_none]
  simp [go_sem, h1, h2]
  split <;> rfl
set_option maxRecDepth 100000 in
set_option maxHeartbeats 4000000 in
theorem cutC_any (N cb bs bt : Nat) (sl : Value) (c : CN) (w : World) (hc : CH w N cb bs bt sl c) (hok : OkC c) (hkl : c.kept.length ≤ 1000000) (h : Nat) :
    Calls Tryz.prog 20 #[.pointer (some ⟨cb, 0, none⟩), .int .u64 (h : Nat)] w (CuP w N cb bs bt sl c h) := by
  have HB := baseC_any N cb bs bt sl c w hc hok hkl
  have hkt := hok.kept
  have hht := hok.ht
  by_cases hb : h ≤ c.ht - c.kept.length
  · have hbI : (h : Int) ≤ ((c.ht - c.kept.length : Nat) : Int) := by omega
    have hPost : Hid (∀ w', Below w.heap.size w w' → CuP w N cb bs bt sl c h (.returned (.int .i64 0)) w') := fun w' hw => by
      have e : cutN' c h = 0 := if_pos hb
      have e2 : cutK c h = c := by unfold cutK; rw [e, List.drop_zero]
      unfold CuP
      rw [e, e2]
      exact ⟨rfl, sl, hc.below hw, Own.of_below hw, fun r hr => .inl hr⟩
    generalize CuP w N cb bs bt sl c h = Post at *
    generalize c.ht - c.kept.length = base at *
    clear hc hok hkl hkt hht hb
    go_enter Tryz.func20, Tryz.ntmps20
    go_wp2_with (go_at_call 15; refine HB.mono ?_; rintro e w1 ⟨rfl, hw1⟩; clear HB)
    exact hPost.out _ hw1
  · have hbI : ¬ (h : Int) ≤ ((c.ht - c.kept.length : Nat) : Int) := by omega
    have hcn : cutN' c h = min h c.ht - (c.ht - c.kept.length) := if_neg hb
    have hmn : cutN' c h ≤ c.kept.length := cutN'_le hok h
    obtain ⟨gf, cf, gm0, cm0, hC, hCf, hCm⟩ := hc.blk
    obtain ⟨dls, hGL, hBL⟩ := hc.kept
    obtain ⟨hN2, hNc, hNs, hNt⟩ := hc.low
    have hdl := hBL.len
    have HC : ∀ w1, Below w.heap.size w w1 → ∃ v, (∀ (op : Oper) (a : Act) (x y : Operand) (w2 : World), op.op = .slice 101 x (some y) none none → a.eval x = sl → a.eval y = .int .u64 (cutN' c h : Nat) → (execOp a.eval op).run Tryz.prog w2 = .ok (.value v) w2) ∧ Calls Tryz.prog 61 #[v] w1 (SclP w1 (dls.drop (cutN' c h))) := fun w1 hw => by
      rcases (hGL.below hw).2 with ⟨h1, h2⟩ | ⟨g, cap, h1, h2, h3⟩
      · have h0 : c.kept.length = 0 := by rw [← hdl, h1]; rfl
        have e0 : cutN' c h = 0 := by omega
        refine ⟨.slice none 0 0, fun op a x y w2 ho hx hy => run_slNil ho (by rw [hx, h2]) (by rw [hy, e0]; rfl), ?_⟩
        rw [h1, List.drop_nil]
        exact sclB_nil w1
      · obtain ⟨cur, k1, k2, k3, k4⟩ := h3.out
        have hr : ∃ o, (cutN' c h < dls.length → o = cutN' c h * 6) ∧ ∀ (op : Oper) (a : Act) (x y : Operand) (w2 : World), op.op = .slice 101 x (some y) none none → a.eval x = sl → a.eval y = .int .u64 (cutN' c h : Nat) → (execOp a.eval op).run Tryz.prog w2 = .ok (.value (.slice (some ⟨g, o, none⟩) (dls.length - cutN' c h) (cap - cutN' c h))) w2 := by
          by_cases hcp : cap = cutN' c h
          · refine ⟨0, fun hh => by omega, fun op a x y w2 ho hx hy => ?_⟩
            have h6 := run_slAt (w := w2) ho (hx.trans h2) hy (by omega)
            rw [if_pos hcp] at h6
            exact h6
          · refine ⟨cutN' c h * 6, fun _ => rfl, fun op a x y w2 ho hx hy => ?_⟩
            have h6 := run_slAt (w := w2) ho (hx.trans h2) hy (by omega)
            rw [if_neg hcp] at h6
            exact h6
        obtain ⟨o, ho1, ho2⟩ := hr
        refine ⟨_, ho2, ?_⟩
        have := sclB_any (dls.drop (cutN' c h)) g o (cap - cutN' c h) w1 (fun x hx => hGL.1 x (List.mem_of_mem_drop hx)) ((hBL.drop (cutN' c h)).one) (fun j v hj => by
          have hlt : cutN' c h < dls.length := by
            refine Classical.byContradiction fun hn => ?_
            rw [List.drop_of_length_le (by omega)] at hj
            simp at hj
          rw [ho1 hlt]
          rw [flat_drop (cutN' c h) hGL.1 (by omega), List.getElem?_drop] at hj
          exact (Sh.GS.cell h3) _ v hj) (by rw [List.length_drop]; omega)
        rw [List.length_drop] at this
        exact this
    have hPost : Hid (∀ w2 w3 w4 sl', Below w.heap.size w w2 → Below w2.heap.size w2 w3 → Sh.GL w3 53 6 w2.heap.size sl' (dls.drop (cutN' c h)) → w3.grownBy w4 (some cb) → Blk w4 cb (chC c.name (.slice (some ⟨gf, 0, none⟩) c.first.length cf) c.ht c.hash (.slice (some ⟨gm0, 0, none⟩) c.mem.length cm0) bs bt sl') 103 → CuP w N cb bs bt sl c h (.returned (.int .i64 (cutN' c h : Nat))) w4) := by
      refine fun w2 w3 w4 sl' hw2 hw3 hG hg hb4 => ?_
      have hB3 := hw2.trans (hw3.mono hw2.size)
      have hC3 := hC.belowSize hB3
      have hst : Stay w w4 := (Stay.of_below hB3).trans (stay_blk hg hC3 (by decide))
      refine ⟨rfl, sl', ⟨⟨gf, cf, gm0, cm0, hb4, hCf.stay hst, hCm.stay hst⟩, (hc.ex.below hB3).other hg hC3 (by decide) (by decide) (by decide) (by omega), ⟨dls.drop (cutN' c h), ?_, (hBL.drop _).stay hst⟩, hN2, hNc, hNs, hNt⟩, (Own.of_below hB3).trans (Own.of_grown hg) (fun i _ e => .inl (Option.some.inj e)), fun r hr => .inr (Nat.le_trans hw2.size (hG.lt r hr).1)⟩
      have hG4 := hG.grown hg (hG.ne (Blk.sh hC3) (.inl (by decide)))
      refine ⟨hG4.1, ?_⟩
      rcases hG4.2 with k | ⟨g, cap, k1, k2⟩
      · exact .inl k
      · exact .inr ⟨g, cap, by have := hC.lt; have := hw2.size; omega, k2⟩
    have hmin : min h c.ht < 18446744073709551616 := by omega
    have hbm : c.ht - c.kept.length ≤ min h c.ht := by omega
    have hms : min h c.ht - (c.ht - c.kept.length) = cutN' c h := hcn.symm
    have hm6 : cutN' c h ≤ 1000000 := by omega
    generalize CuP w N cb bs bt sl c h = Post at *
    generalize cutN' c h = mny at *
    generalize c.ht - c.kept.length = base at *
    clear hok hcn hb hc hBL hdl hkt hht hCf hCm
    generalize hL : dls.drop mny = L at *
    clear hL hGL
    have hc2 := fun w1 (hb : Below w.heap.size w w1) => ((hC.belowSize hb).cell 2).trans (chC_g2 _ _ _ _ _ _ _ _)
    have hc7 := fun w1 (hb : Below w.heap.size w w1) => ((hC.belowSize hb).cell 7).trans (chC_g7 _ _ _ _ _ _ _ _)
    have hCw := fun w1 (hb : Below w.heap.size w w1) => hC.belowSize hb
    go_enter Tryz.func20, Tryz.ntmps20
    go_upto_region 4 with (go_at_call 15; refine HB.mono ?_; rintro e w1 ⟨rfl, hw1⟩; clear HB)
    obtain ⟨v, hv, HCv⟩ := HC w1 hw1
    have c2 := hc2 w1 hw1
    have c7 := hc7 w1 hw1
    clear HC hc2 hc7
    go_wp2_with (first
      | (go_at_call 61; refine HCv.mono ?_; rintro e w2 ⟨hw2, sl', rfl, hG⟩; clear HCv; have hC2 := hCw w2 (hw1.trans (hw2.mono hw1.size)); have hcl := hG.cells.1; have hon := hG.cells.2)
      | (with_reducible refine at_list ?_; first
        | (refine wpList_run (op := ⟨some 22, _, _, _, _, _⟩) rfl _ _ (run_minU rfl rfl rfl) ?_)
        | (refine wpList_run (op := ⟨some 24, _, _, _, _, _⟩) rfl _ _ (run_subUe rfl rfl rfl hbm hmin hms) ?_)
        | (refine wpList_run (op := ⟨some 31, _, _, _, _, _⟩) rfl _ _ (hv _ _ _ _ _ rfl rfl rfl) ?_)
        | (refine wpList_run (op := ⟨some 36, _, _, _, _, _⟩) rfl _ _ (run_convI rfl rfl hm6) ?_)
        | (refine wpList_storeCell (op := ⟨none, .store 101 (.tmp 34) (.tmp 32), _, _, _, _⟩) rfl _ _ _ rfl cb 7 rfl sl' rfl _ _ hC2 (by kernel_rfl) hcl hon (by rw [chC_size]; decide) ?_; intro w4 hg4 hs4 hb4; clear hs4; rw [chC_set7] at hb4)))
    exact hPost.out w1 w2 w4 sl' hw1 hw2 hG hg4 hb4
end Go.Proofs.YtmbdhngoldganaaGreatDoor
namespace Go.Proofs.YtmbdhngoldganaaGreatDoor
open Go Go.RowKit
/-- What is kept may be. -/
def KOk (c : CN) : Prop := ∀ b ∈ c.kept, OkH b.h ∧ (∀ x ∈ b.txs, okTx x = true) ∧ b.txs.length ≤ 16
theorem KOk.new (n : List UInt8) (l : List Int) : KOk (newC n l) := fun b hb => by cases hb
theorem KOk.next {c : CN} {b : BT} (h : KOk c) (hc : OkC c) (hb : chkB b = 0) : KOk (nextC c b) := fun x hx => by
  rcases List.mem_append.1 hx with hx | hx
  · exact h x hx
  · rw [List.mem_singleton.1 hx]
    exact ⟨mkB_head hc hb, (mkB_txs hb).1, (mkB_txs hb).2⟩
theorem KOk.cut {c : CN} (h : KOk c) (n : Nat) : KOk (cutK c n) := fun x hx => h x (List.mem_of_mem_drop hx)
/-- What Block leaves where there is none. -/
def BnP (w : World) (e : Ending) (w' : World) : Prop := e = .returned (.tuple #[.agg bk0, .int .i64 2]) ∧ Below w.heap.size w w'
def BlP (w : World) (b : BK) (e : Ending) (w' : World) : Prop := ∃ gm cm a cap, e = .returned (.tuple #[.agg (bkv b gm cm a cap), .int .i64 0]) ∧ AB w' gm a cap b ∧ Below w.heap.size w w'
section
attribute [local go_sem] Oper.semAt_some
set_option maxRecDepth 100000 in
set_option maxHeartbeats 4000000 in
theorem blockC_none (N cb bs bt : Nat) (sl : Value) (c : CN) (w : World) (hc : CH w N cb bs bt sl c) (hok : OkC c) (hkl : c.kept.length ≤ 1000000) (h : Nat) (hn : h ≤ c.ht - c.kept.length) :
    Calls Tryz.prog 21 #[.pointer (some ⟨cb, 0, none⟩), .int .u64 (h : Nat)] w (BnP w) := by
  have HB := fun w1 (hb : Below w.heap.size w w1) => baseC_any N cb bs bt sl c w1 (hc.below hb) hok hkl
  have hbI : (h : Int) ≤ ((c.ht - c.kept.length : Nat) : Int) := by omega
  generalize c.ht - c.kept.length = base at *
  go_enter Tryz.func21, Tryz.ntmps21
  go_wp2_with (first
    | (go_at_call 15; refine (HB _ hw2).mono ?_; rintro e w1 ⟨rfl, hw1⟩; clear HB; replace h4 := h4.belowSize hw1; have hB1 := hw2.trans (hw1.mono hw2.size))
    | (with_reducible refine at_list ?_; first
      | (refine wpList_allocRow (op := ⟨some 4, _, _, _, _, _⟩) rfl _ rfl _ zBlk.1 ?_; intro w2 hw2 hs2 h4; clear hs2)
      | (refine wpList_build (o := ⟨some 25, _, _, _, _, _⟩) rfl _ _ rfl builtBk0 ?_)
      | (refine wpList_storeRow (op := ⟨none, .store 53 (.tmp 4) (.tmp 25), _, _, _, _⟩) rfl _ _ _ rfl w.heap.size (bk 0 [] [] [] (.slice none 0 0) (.slice none 0 0)) rfl rfl _ _ h4 (by simp only [bk_size]) (bk_info _ _ _ _ _ _) (bk_one _ _ _ _ _ _ _ _ _ _) ?_; intro w3 hg3 hs3 h4b; clear hs3)))
  refine bodyPost_ret (v := .tuple #[.agg bk0, .int .i64 2]) ?_ rfl ⟨rfl, hB1.trans (below_of_grown hg3 (Nat.le_refl _) hB1.size)⟩
  exact res_cv rfl _ _ w.heap.size _ _ _ _ rfl rfl h4b Tryz.underlying53 rfl (bk_info _ _ _ _ _ _)
set_option maxRecDepth 100000 in
set_option maxHeartbeats 4000000 in
theorem blockC_got (N cb bs bt : Nat) (sl : Value) (c : CN) (w : World) (hc : CH w N cb bs bt sl c) (hok : OkC c) (hK : KOk c) (hkl : c.kept.length ≤ 1000000) (h k : Nat) (hk : k < c.kept.length) (hh : h = c.ht - c.kept.length + k + 1) :
    Calls Tryz.prog 21 #[.pointer (some ⟨cb, 0, none⟩), .int .u64 (h : Nat)] w (BlP w c.kept[k]) := by
  have HB := fun w1 (hb : Below w.heap.size w w1) => baseC_any N cb bs bt sl c w1 (hc.below hb) hok hkl
  have hkt := hok.kept
  have hht := hok.ht
  obtain ⟨gf, cf, gm0, cm0, hC, hCf, hCm⟩ := hc.blk
  obtain ⟨dls, hGL, hBL⟩ := hc.kept
  obtain ⟨cc, hcc, hKB⟩ := hBL.each k hk
  obtain ⟨hbh, hbt, hbl⟩ := hK _ (List.getElem_mem hk)
  have hkd : k < dls.length := by rw [hBL.len]; exact hk
  rw [List.getElem?_eq_getElem hkd] at hcc
  obtain ⟨ka, kc, hsl, hel⟩ := hGL.sl
  obtain ⟨g, hka, hcl⟩ := hel k hkd
  subst hka
  rw [hBL.len] at hsl
  subst hsl
  have hcc2 := Option.some.inj hcc
  rw [hcc2] at hcl
  obtain ⟨gm, cm, a, cap, rfl, hAB⟩ := hKB.ab
  have h1I : ¬ (h : Int) ≤ ((c.ht - c.kept.length : Nat) : Int) := by omega
  have h2I : ¬ (c.ht : Int) < (h : Int) := by omega
  have e1 : h - (c.ht - c.kept.length) = k + 1 := by omega
  have hb1 : c.ht - c.kept.length ≤ h := by omega
  have hb2 : h < 18446744073709551616 := by omega
  have hkn : (k : Int) < (c.kept.length : Int) := by omega
  have hk0 : (0 : Int) ≤ (k : Int) := by omega
  have hm0 := hbh.m.pos
  have hm1 := hbh.m.len
  generalize c.kept[k] = b at *
  have HCl := fun w1 (hb : Below w.heap.size w w1) => cloneB_any b.h.height b.h.prev b.h.txr b.h.str b.h.mem hm0 (by omega) b.txs hbt (by omega) (some ⟨gm, 0, none⟩) cm a cap w1 (hAB.stay (Stay.of_below hb)).cb.ia (hAB.stay (Stay.of_below hb)).ta
  have hrng : ∀ w1, Below w.heap.size w w1 → w1.rangeAt g (k * 6) (bkv b gm cm a cap).toList := fun w1 hb j v hv => (hb.cell (World.block_lt_of_cell? _ _ (hcl j v hv))).trans (hcl j v hv)
  have hc2 := fun w1 (hb : Below w.heap.size w w1) => ((hC.belowSize hb).cell 2).trans (chC_g2 _ _ _ _ _ _ _ _)
  have hc7 := fun w1 (hb : Below w.heap.size w w1) => ((hC.belowSize hb).cell 7).trans (chC_g7 _ _ _ _ _ _ _ _)
  change ∀ w1, _ → Calls Tryz.prog 62 #[.agg (bkv b gm cm a cap)] w1 _ at HCl
  have hPost : Hid (∀ w3 w4 gm' cm' lo' a' cap' dl', Below w.heap.size w w3 → Sh.GL w3 95 3 lo' (.slice a' b.txs.length cap') dl' → TXL w3 0 97 dl' b.txs → CB w3 gm' b.h.mem → Blk w3 w.heap.size (bk 0 [] [] [] (.slice none 0 0) (.slice none 0 0)) 53 → w3.grownBy w4 (some w.heap.size) → BlP w b (.returned (.tuple #[.agg (bkv b gm' cm' a' cap'), .int .i64 0])) w4) := fun w3 w4 gm' cm' lo' a' cap' dl' b1 b2 b3 b4 b5 b6 => by
    have hst := stay_blk b6 b5 (by decide)
    exact ⟨gm', cm', a', cap', rfl, ⟨b4.stay hst, lo', dl', GLtx.stay b2 hst, b3.stay hst⟩, b1.trans (below_of_grown b6 (Nat.le_refl _) b1.size)⟩
  have hbi : ∀ gm cm a cap, (Tryz.prog.info? 53).map (·.size) = some (bkv b gm cm a cap).size := fun _ _ _ _ => bk_info _ _ _ _ _ _
  have hbo : ∀ gm cm a cap, (bkv b gm cm a cap).all (·.oneCell') = true := fun _ _ _ _ => bk_one _ _ _ _ _ _ _ _ _ _
  have hb6 : ∀ gm cm a cap, (bkv b gm cm a cap).size = 6 := fun _ _ _ _ => rfl
  unfold ClnP at HCl
  change ∀ w1, _ → Calls Tryz.prog 62 _ w1 (fun e w' => ∃ gm cm lo a cap dls, e = .returned (.agg (bkv b gm cm a cap)) ∧ _) at HCl
  generalize BlP w b = Post at *
  generalize c.ht - c.kept.length = base at *
  clear hc hok hK hkl hkt hht hCf hCm hGL hBL hh hcc hcc2 hel hcl hAB hKB hbh hbt hbl hm0 hm1 hC hkd
  go_enter Tryz.func21, Tryz.ntmps21
  go_wp2_with (first
    | (go_at_call 15; refine (HB _ hw2).mono ?_; rintro e w1 ⟨rfl, hw1⟩; clear HB; replace h4 := h4.belowSize hw1; have hB1 := hw2.trans (hw1.mono hw2.size); have c2 := hc2 _ hB1; have c7 := hc7 _ hB1; have hrg := hrng _ hB1)
    | (go_at_call 62; refine (HCl _ hB1).mono ?_; rintro e w3 ⟨gm', cm', lo', a', cap', dl', rfl, b1, b2, b3, b4, b5, b6⟩; clear HCl; replace h4 := h4.belowSize b4; have hB3 := hB1.trans (b4.mono hB1.size))
    | (with_reducible refine at_list ?_; first
      | (refine wpList_allocRow (op := ⟨some 4, _, _, _, _, _⟩) rfl _ rfl _ zBlk.1 ?_; intro w2 hw2 hs2 h4; clear hs2)
      | (refine wpList_run (op := ⟨some 32, _, _, _, _, _⟩) rfl _ _ (run_subUe rfl rfl rfl hb1 hb2 e1) ?_)
      | (refine wpList_run (op := ⟨some 33, _, _, _, _, _⟩) rfl _ _ (run_subUe (n := k + 1) (k := 1) (r := k) rfl rfl rfl (by omega) (by omega) (by omega)) ?_)
      | (refine wpList_loadOp (op := ⟨some 35, _, _, _, _, _⟩) rfl _ _ rfl g (k * 6) rfl _ hrg _ Tryz.underlying53 rfl (hbi _ _ _ _) ?_)
      | (refine wpList_storeRow (op := ⟨none, .store 53 (.tmp 4) (.tmp 36), _, _, _, _⟩) rfl _ _ _ rfl w.heap.size (bkv b gm' cm' a' cap') rfl rfl _ _ h4 (by rw [hb6, bk_size]) (hbi _ _ _ _) (hbo _ _ _ _) ?_; intro w4 hg4 hs4 h4b; clear hs4)))
  refine bodyPost_ret (v := .tuple #[.agg (bkv b gm' cm' a' cap'), .int .i64 0]) ?_ rfl (hPost.out w3 w4 gm' cm' lo' a' cap' dl' hB3 b1 b2 b3 h4 hg4)
  exact res_cv rfl _ _ w.heap.size _ _ _ _ rfl rfl h4b Tryz.underlying53 rfl (hbi _ _ _ _)
end
end Go.Proofs.YtmbdhngoldganaaGreatDoor
