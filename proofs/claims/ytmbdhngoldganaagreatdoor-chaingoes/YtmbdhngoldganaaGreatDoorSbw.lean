/- slices.Backward, over steps and over texts: functions that are ranged over. -/
import Derived.Test.YtmbdhngoldganaaGreatDoorSfd
namespace Go.Proofs.YtmbdhngoldganaaGreatDoor.Sh
open Go Go.RowKit Go.Shelf
/-- A step of a way down: its two halves, the side, and where they lie. -/
structure CT where
  l : Tr
  r : Tr
  at_ : Nat
  pl : Option Addr
  pr : Option Addr
abbrev ctC (c : CT) : List Value := [.pointer c.pl, .pointer c.pr, .int .i64 ((c.at_ : Nat) : Int)]
/-- The steps that are gone over lie in memory. -/
structure BMs (bx : Nat) (a : Option Addr) (k : Nat) (cs : List CT) (W : World) : Prop where
  box : Blk W bx #[.slice a cs.length k] 241
  el : ∀ i (h : i < cs.length), ∃ g, a = some ⟨g, 0, none⟩ ∧ W.cell? ⟨g, i * 3, none⟩ = some (.pointer cs[i].pl) ∧ W.cell? ⟨g, i * 3 + 1, none⟩ = some (.pointer cs[i].pr) ∧ W.cell? ⟨g, i * 3 + 2, none⟩ = some (.int .i64 ((cs[i].at_ : Nat) : Int))
theorem BMs.below {bx : Nat} {a : Option Addr} {k : Nat} {cs : List CT} {W W' : World} (h : BMs bx a k cs W) (hb : Below W.heap.size W W') : BMs bx a k cs W' :=
  ⟨h.box.belowSize hb, fun i hi => by
    obtain ⟨g, ha, h1, h2, h3⟩ := h.el i hi
    have hl := World.block_lt_of_cell? _ _ h1
    exact ⟨g, ha, (hb.cell (p := ⟨g, i * 3, none⟩) hl).trans h1, (hb.cell (p := ⟨g, i * 3 + 1, none⟩) hl).trans h2, (hb.cell (p := ⟨g, i * 3 + 2, none⟩) hl).trans h3⟩⟩
/-- All the places, the last first. -/
def revW (n : Nat) : List (Fin n) := (List.finRange n).reverse
theorem revW_len (n : Nat) : (revW n).length = n := by unfold revW; rw [List.length_reverse, List.length_finRange]
theorem revW_take {n k : Nat} (h : k < n) : (revW n).take (k + 1) = (revW n).take k ++ [⟨n - 1 - k, by omega⟩] := by
  rw [List.take_succ_eq_append_getElem (by rw [revW_len]; exact h)]
  congr 2
  unfold revW
  rw [List.getElem_reverse, List.getElem_finRange]
  apply Fin.ext
  simp
abbrev encS (cs : List CT) (j : Fin cs.length) : Array Value := #[.int .i64 ((j.1 : Nat) : Int), .agg #[.pointer cs[j.1].pl, .pointer cs[j.1].pr, .int .i64 ((cs[j.1].at_ : Nat) : Int)]]
abbrev KpS (bx : Nat) (a : Option Addr) (k : Nat) (cs : List CT) (W W' : World) : Prop := BMs bx a k cs W → BMs bx a k cs W'
set_option maxRecDepth 100000 in
theorem bwS_any (a : Option Addr) (n k : Nat) (w : World) : Calls Tryz.prog 167 #[.slice a n k] w fun e w' => e = .returned (.func (.func 196) #[] #[.pointer (some ⟨w.heap.size, 0, none⟩)]) ∧ Blk w' w.heap.size #[.slice a n k] 241 ∧ Below w.heap.size w w' := by
  go_enter Tryz.func167, Tryz.ntmps167
  go_wp2_with fail
  go_ret
  exact ⟨rfl, Blk.new _ _ _, (Below.refl _ _).alloc (Nat.le_refl _) _⟩
section
attribute [local go_sem] Oper.semAt_some
set_option maxRecDepth 100000 in
set_option maxHeartbeats 2000000 in
theorem bwS1_in (n : Nat) (hn : 1 ≤ n) (l bx : Nat) (a : Option Addr) (kc : Nat) (cs : List CT) (hcs : cs.length ≤ 1000) (J Jx : List (Fin cs.length) → World → Prop)
    (hY : ∀ pre x W, J pre W → pre.length < cs.length → YieldAt Fence.wide (n - 1) Tryz.prog l (encS cs x) W fun e W' =>
      (e = .returned (.bool true) ∧ J (pre ++ [x]) W' ∧ KpS bx a kc cs W W') ∨ (e = .returned (.bool false) ∧ Jx (pre ++ [x]) W'))
    (W : World) (hI : BMs bx a kc cs W) (h0 : J [] W) :
    CallsIn Fence.wide n Tryz.prog 196 #[.func (.yield l) #[] #[], .pointer (some ⟨bx, 0, none⟩)] W fun e W' => (∃ v, e = .returned v) ∧
      ((∃ ys, ys = revW cs.length ∧ J ys W') ∨ (∃ pre, (∃ k, k ≤ cs.length ∧ pre = (revW cs.length).take k) ∧ Jx pre W')) := by
  have hbt : W.cell? ⟨bx, 0, none⟩ = some (.slice a cs.length kc) := hI.box.cell 0
  have hwr : IntKind.i64.wrap ((cs.length : Int) - 1) = (cs.length : Int) - 1 := by rw [IntKind.wrap_i64]; omega
  refine callsIn_of_wp Tryz.func196 rfl trivial ?_ rfl
  simp only [Tryz.ntmps196, List.size_toArray, List.length_cons, List.length_nil, Nat.reduceAdd, Nat.reduceSub, Array.replicate_succ, Array.replicate_zero, List.push_toArray, List.append_toArray, List.nil_append, List.cons_append]
  gi_wp2
  gi_loopw [3] (fun i wr => ∃ k : Nat, k ≤ cs.length ∧ i = .int .i64 ((cs.length : Int) - 1 - (k : Int)) ∧ J ((revW cs.length).take k) wr ∧ BMs bx a kc cs wr)
    (fun i _ => ((intOf i) + 1).toNat)
  case atStart => exact ⟨0, Nat.zero_le _, by simp, h0, hI⟩
  case round =>
    obtain ⟨k, hk, rfl, hJs, hIr⟩ := hrel
    have hc : wr.cell? ⟨bx, 0, none⟩ = some (.slice a cs.length kc) := hIr.box.cell 0
    by_cases hlt : k < cs.length
    · have hTk := revW_take hlt
      obtain ⟨g, rfl, e0, e1, e2⟩ := hIr.el (cs.length - 1 - k) (by omega)
      obtain ⟨fn, tmps, assign, body, hy, hR⟩ := hY _ ⟨cs.length - 1 - k, by omega⟩ wr hJs (by rw [List.length_take, revW_len]; omega)
      rw [← hTk] at hR
      clear hTk hbt
      dsimp only [encS] at hy
      obtain ⟨m, hm⟩ : ∃ m, cs.length - 1 - k = m := ⟨_, rfl⟩
      have hmi : (cs.length : Int) - 1 - (k : Int) = (m : Int) := by omega
      have hi0 : (0 : Int) ≤ (m : Int) := by omega
      have hi1 : (m : Int) < (cs.length : Int) := by omega
      have hwr2 : IntKind.i64.wrap ((m : Int) - 1) = (m : Int) - 1 := by rw [IntKind.wrap_i64]; omega
      rw [hmi]
      generalize cs[cs.length - 1 - k] = ce at *
      rw [hm] at e0 e1 e2 hy
      gi_wp2
      refine hR.mono ?_
      rintro e W3 (⟨rfl, hJ3, hk3⟩ | ⟨rfl, hJx3⟩)
      · gi_wp2
        go_roundw
        case rel => exact ⟨k + 1, by omega, by rw [show (cs.length : Int) - 1 - ((k + 1 : Nat) : Int) = (m : Int) - 1 by omega], hJ3, hk3 hIr⟩
        case measure => simp [intOf]
      · gi_wp2
        refine bodyPost_ret (results_none rfl _ _ _) rfl ?_
        exact ⟨⟨_, rfl⟩, .inr ⟨_, ⟨k + 1, by omega, rfl⟩, hJx3⟩⟩
    · obtain rfl : k = cs.length := by omega
      have hJs' : J (revW cs.length) wr := by
        rw [List.take_of_length_le (by rw [revW_len]; exact Nat.le_refl _)] at hJs
        exact hJs
      have hneg : ¬ (0 : Int) ≤ (cs.length : Int) - 1 - (cs.length : Int) := by omega
      gi_wp2
      go_end0
      first | exact ⟨⟨_, rfl⟩, .inl ⟨_, rfl, hJs'⟩⟩ | exact hJs' | exact ⟨⟨_, rfl⟩, .inl hJs'⟩
end
theorem bwS_stops (n : Nat) (hn : 1 ≤ n) (bx : Nat) (a : Option Addr) (kc : Nat) (cs : List CT) (hcs : cs.length ≤ 1000) (w : World) (hI : BMs bx a kc cs w) :
    SeqStopsK Fence.wide n Tryz.prog 196 #[.pointer (some ⟨bx, 0, none⟩)] (encS cs) (KpS bx a kc cs) (fun ys => ys = revW cs.length) (fun pre => ∃ k, k ≤ cs.length ∧ pre = (revW cs.length).take k) cs.length w :=
  fun l J Jx W hW _ _ hY h0 => bwS1_in n hn l bx a kc cs hcs J Jx hY W (hI.below hW) h0
theorem kpS_t {bx : Nat} {a : Option Addr} {kc : Nat} {cs : List CT} {A C D : World} (h : KpS bx a kc cs A C) (k : KpS bx a kc cs C D) : KpS bx a kc cs A D := fun hi => k (h hi)
theorem BMs.turn {bx : Nat} {a : Option Addr} {k : Nat} {cs : List CT} {W W' : World} {row : Option Nat} (h : BMs bx a k cs W) (hg : W.grownBy W' row) (hr : ∀ r, row = some r → ∃ o : Obj, W.heap[r]? = some o ∧ o.isCells = false) : BMs bx a k cs W' :=
  ⟨h.box.turn hg hr, fun i hi => by
    obtain ⟨g, ha, h1, h2, h3⟩ := h.el i hi
    exact ⟨g, ha, cell_kept h1 hg hr, cell_kept h2 hg hr, cell_kept h3 hg hr⟩⟩
theorem kpS_b {bx : Nat} {a : Option Addr} {kc : Nat} {cs : List CT} {w : World} (W : World) (l : Nat) (o o' : Obj) (_ : w.heap.size ≤ l) (h : W.heap[l]? = some o) (hc : o.isCells = false) (_ : o.isWalk = false) : KpS bx a kc cs W (W.putObj l o') := fun hi => hi.turn (grownBy_putObj' W l o') (fun r e => by
  have e := Option.some.inj e
  subst e
  exact ⟨o, h, hc⟩)
end Go.Proofs.YtmbdhngoldganaaGreatDoor.Sh
