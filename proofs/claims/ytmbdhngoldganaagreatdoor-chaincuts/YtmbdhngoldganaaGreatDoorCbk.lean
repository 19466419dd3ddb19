/- What Clone of kept blocks, Cut and Block of a chain do. -/
import Derived.Test.YtmbdhngoldganaaGreatDoorCpl
import Derived.Test.YtmbdhngoldganaaGreatDoorCnl
namespace Go.Proofs.YtmbdhngoldganaaGreatDoor
open Go Go.RowKit
namespace Sh
section
variable {P : Program} {w : World}
theorem run_appendNewG (st ty t : TypeId) (ba : Option Addr) (k : Nat) (l : List (List Value)) (g o c : Nat) (hall : ∀ x ∈ l, x.length = k) (hone : ∀ x ∈ l, ∀ u ∈ x, u.oneCell' = true) (hcell : ∀ (j : Nat) (v : Value), l.flatten[j]? = some v → w.cell? ⟨g, o + j, none⟩ = some v) (i : TypeInfo) (z : Value) (hz1 : z.cells.size = k)
    (hu : P.underlying st = some (.slice t)) (hi : P.info? t = some i) (hz : i.zero = some z) (hs : i.size = k) (hby : i.bytes ≤ 256) (h0 : 0 < l.length) (hlen : l.length ≤ 1000000) :
    ∃ (w1 : World) (cap1 : Nat), (Builtin.append_ #[st, st] ty #[.slice ba 0 0, .slice (some ⟨g, o, none⟩) l.length c]).run P w = .ok (.slice (some ⟨w.heap.size, 0, none⟩) l.length cap1) w1 ∧ Below w.heap.size w w1 ∧ GS w1 t k w.heap.size cap1 l := by
  have hfl := flat_len hall
  have hsrc : Src P i.size st (.slice (some ⟨g, o, none⟩) l.length c) l.length l.flatten w :=
    Src.ofSlice w hu ⟨g, o, none⟩ l.length c _ (by rw [hs, hfl]) (fun j u hj => by
      rw [Addr.add_mid]
      exact hcell j u hj) (fun u hu => by
        obtain ⟨x, hx, hux⟩ := List.mem_flatten.1 hu
        exact hone x hx u hux)
  have hold : (Builtin.firstCells i.size 0 (.slice ba 0 0)).run P w.drew = .ok ([] : List Value).toArray w.drew := by
    cases ba with
    | none => exact run_firstCells_none (w := w.drew) i.size 0 0 0
    | some b => exact run_firstCells_some w.drew i.size 0 b 0 0 [] (by simp) (fun j v hj => by simp at hj)
  have hr := run_append_grow_src (P := P) w st st ty t i _ hu hi hz ba 0 0 _ hold _ l.length _ hsrc (by omega) (by omega) (growslice_fits (by omega) (Nat.le_trans (Nat.mul_le_mul (show 0 + l.length ≤ 1000000 by omega) hby) (by decide)))
  have hge : 0 + l.length ≤ grownCap w (0 + l.length) 0 t := grownCap_ge w _ _ _
  refine ⟨_, _, by rw [Nat.zero_add] at hr; exact hr, (Below.refl _ w).drew.alloc (Nat.le_refl _) _, ?_⟩
  rw [Nat.zero_add] at hge
  refine ⟨_, heap_alloc_last w.drew _, hge, ?_, ?_⟩
  · simp only [Array.size_append, List.size_toArray, List.length_append, hfl, size_zeroCells, List.length_nil, hz1]
    have h9 : grownCap w l.length 0 t * k = l.length * k + (grownCap w l.length 0 t - l.length) * k := by
      rw [Nat.sub_mul]
      have := Nat.mul_le_mul_right k hge
      omega
    omega
  · intro j v hj
    have hjl := (List.getElem?_eq_some_iff.1 hj).1
    rw [Array.getElem?_append_left (by simpa using hjl)]
    simpa using hj
end
end Sh
theorem bsl0Bk (w : World) : (Instr.buildSlice 101 0 #[]).run Tryz.prog w = .ok (.slice (some ⟨w.heap.size, 0, none⟩) 0 0) (w.alloc (.cells #[] 53)) := by
  have hr0 : Array.range 0 = #[] := by decide
  simp [Instr.buildSlice, run_underlying Tryz.underlying101, sizeOf_run zBlk.2, Sem.run_bind, Instr.fill, newRow, hr0]
theorem run_bsl0Bk {op : Oper} {a : Act} {w : World} (ho : op.op = .buildSlice 101 0 #[]) : (execOp a.eval op).run Tryz.prog w = .ok (.value (.slice (some ⟨w.heap.size, 0, none⟩) 0 0)) (w.alloc (.cells #[] 53)) := by
  unfold execOp
  have hr := bsl0Bk w
  simp only [ho, Sem.run_bind, Array.map_empty, hr, Result.andThen_ok]
  rfl
theorem run_appB {op : Oper} {a : Act} {w w1 : World} {x y : Operand} {u v r : Value} (ho : op.op = .call { callee := .builtin .append, args := #[x, y], argTypes := #[101, 101] }) (hx : a.eval x = u) (hy : a.eval y = v) (hr : (Builtin.append_ #[101, 101] op.type #[u, v]).run Tryz.prog w = .ok r w1) : (execOp a.eval op).run Tryz.prog w = .ok (.value r) w1 := by
  unfold execOp
  simp only [ho]
  simp [resolve, invoke, builtin, hx, hy, hr, Result.andThen]
section
variable {ops : Array Oper} {rest : List Oper} {op : Oper} {a : Act} {w : World} {Q : Exit → Act → World → Prop}
theorem wpList_bsl0B (hgd : op.guard = none) (ho : op.op = .buildSlice 101 0 #[]) (h : ∀ w1 : World, Below w.heap.size w w1 → wpList Tryz.prog ops Q rest (a.put op.dst (.slice (some ⟨w.heap.size, 0, none⟩) 0 0)) w1) : wpList Tryz.prog ops Q (op :: rest) a w :=
  wpList_run hgd _ _ (run_bsl0Bk ho) (h _ (alloc_below w _ _))
theorem wpList_appNewB (hgd : op.guard = none) (x y : Operand) (ho : op.op = .call { callee := .builtin .append, args := #[x, y], argTypes := #[101, 101] }) (ba : Option Addr) (hx : a.eval x = .slice ba 0 0) (l : List (List Value)) (g o c : Nat) (hy : a.eval y = .slice (some ⟨g, o, none⟩) l.length c) (hall : ∀ x ∈ l, x.length = 6) (hone : ∀ x ∈ l, ∀ u ∈ x, u.oneCell' = true) (hcell : ∀ (j : Nat) (v : Value), l.flatten[j]? = some v → w.cell? ⟨g, o + j, none⟩ = some v) (h0 : 0 < l.length) (hlen : l.length ≤ 1000000)
    (h : ∀ (w1 : World) (cap1 : Nat), Below w.heap.size w w1 → Sh.GS w1 53 6 w.heap.size cap1 l → wpList Tryz.prog ops Q rest (a.put op.dst (.slice (some ⟨w.heap.size, 0, none⟩) l.length cap1)) w1) : wpList Tryz.prog ops Q (op :: rest) a w := by
  obtain ⟨ie, ei, ez, es, eb⟩ := infoBk
  obtain ⟨w1, cap1, hr, hb, hG⟩ := Sh.run_appendNewG (P := Tryz.prog) (w := w) 101 op.type 53 ba 6 l g o c hall hone hcell ie _ rfl Tryz.underlying101 ei ez es eb h0 hlen
  exact wpList_run hgd _ _ (run_appB ho hx hy hr) (h w1 cap1 hb hG)
end
theorem eqlNilB (w : World) (b : Addr) (n c : Nat) : (binOp .eql 101 (.slice (some b) n c) (.slice none 0 0)).run Tryz.prog w = .ok (.bool false) w := Lib.run_eql_slice_nil w 101 53 (some b) n c 0 0 Tryz.underlying101
theorem eqlNilB0 (w : World) : (binOp .eql 101 (.slice none 0 0) (.slice none 0 0)).run Tryz.prog w = .ok (.bool true) w := Lib.run_eql_slice_nil w 101 53 none 0 0 0 0 Tryz.underlying101
/-- What Clone of blocks leaves. -/
def SclP (w : World) (l : List (List Value)) (e : Ending) (w' : World) : Prop := Below w.heap.size w w' ∧ ∃ sl, e = .returned sl ∧ Sh.GL w' 53 6 w.heap.size sl l
section
attribute [local go_sem] eqlNilB eqlNilB0
set_option maxRecDepth 100000 in
set_option maxHeartbeats 1000000 in
theorem sclB_nil (w : World) : Calls Tryz.prog 61 #[.slice none 0 0] w (SclP w []) := by
  go_enter Tryz.func61, Tryz.ntmps61
  go_wp2_with fail
  go_ret
  exact ⟨Below.refl _ _, _, rfl, Sh.GL.nil _ _ _ _⟩
set_option maxRecDepth 100000 in
set_option maxHeartbeats 1000000 in
theorem sclB_any (l : List (List Value)) (g o cap : Nat) (w : World) (hall : ∀ x ∈ l, x.length = 6) (hone : ∀ x ∈ l, ∀ u ∈ x, u.oneCell' = true) (hcell : ∀ (j : Nat) (v : Value), l.flatten[j]? = some v → w.cell? ⟨g, o + j, none⟩ = some v) (hl : l.length ≤ 1000000) :
    Calls Tryz.prog 61 #[.slice (some ⟨g, o, none⟩) l.length cap] w (SclP w l) := by
  obtain ⟨ie, ei, ez, es, eb⟩ := infoBk
  by_cases h0 : 0 < l.length
  · have hcw := fun w1 (hb : Below w.heap.size w w1) (j : Nat) (v : Value) (hj : l.flatten[j]? = some v) => (hb.cell (World.block_lt_of_cell? _ _ (hcell j v hj))).trans (hcell j v hj)
    clear hcell
    go_enter Tryz.func61, Tryz.ntmps61
    go_wp2_with (with_reducible refine at_list ?_; first
      | (refine wpList_bsl0B (op := ⟨some 5, _, _, _, _, _⟩) rfl rfl ?_; intro w1 hw1)
      | (refine wpList_appNewB (op := ⟨some 7, _, _, _, _, _⟩) rfl _ _ rfl _ rfl l g o cap rfl hall hone (hcw w1 hw1) h0 hl ?_; intro w2 c2 hw2 hG))
    go_ret
    exact ⟨hw1.trans (hw2.mono hw1.size), _, rfl, hall, .inr ⟨_, c2, hw1.size, rfl, hG⟩⟩
  · obtain rfl : l = [] := List.length_eq_zero_iff.1 (by omega)
    have hsrc : ∀ w1 : World, Src Tryz.prog ie.size 101 (.slice (some ⟨g, o, none⟩) 0 cap) 0 [] w1 := fun w1 =>
      Src.ofSlice w1 Tryz.underlying101 ⟨g, o, none⟩ 0 cap _ (by simp) (fun j u hj => by simp at hj) (fun u hu => by simp at hu)
    have hA := alloc_below w #[] 53
    have hr := fun ty => run_append_room_src (P := Tryz.prog) (w.alloc (.cells #[] 53)) 101 101 ty 53 ie Tryz.underlying101 ei w.heap.size 0 0 0 _ 0 _ (hsrc _) (Nat.le_refl _) (fun j hj => by simp at hj) (fun j hj => by simp at hj)
    replace hr := hr 101
    have hG : Sh.GL (w.alloc (.cells #[] 53)) 53 6 w.heap.size (.slice (some ⟨w.heap.size, 0, none⟩) 0 0) [] := ⟨fun x hx => (by cases hx), .inr ⟨w.heap.size, 0, Nat.le_refl _, rfl, ⟨#[], heap_alloc_last w _, by simp, by simp, fun j v hv => by simp at hv⟩⟩⟩
    have e0 : ∀ (q : World) (b o : Nat), q.setCells b o [] = q := fun _ _ _ => rfl
    rw [e0] at hr
    clear hsrc hcell hall hone e0
    go_enter Tryz.func61, Tryz.ntmps61
    go_wp2_with (with_reducible refine at_list ?_; first
      | (refine wpList_run (op := ⟨some 5, _, _, _, _, _⟩) rfl _ _ (run_bsl0Bk rfl) ?_)
      | (refine wpList_run (op := ⟨some 7, _, _, _, _, _⟩) rfl _ _ (run_appB rfl rfl rfl hr) ?_))
    go_ret
    exact ⟨hA, _, rfl, hG⟩
end
end Go.Proofs.YtmbdhngoldganaaGreatDoor
