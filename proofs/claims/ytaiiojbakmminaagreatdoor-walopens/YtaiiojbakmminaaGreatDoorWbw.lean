/- slices.Backward over numbers: a function that is ranged over. -/
import Derived.Test.YtaiiojbakmminaaGreatDoorWmu
import Derived.RangeFuncNested
import Derived.RangeFuncBound
import Derived.RangeFuncCalls
import Derived.RangeFuncLeaves
import Derived.Shelf.Abstract
import Derived.Shelf.RegionOpen
import Derived.OwnWalkIn
import Derived.TacticsInMore
import Derived.LoopNIn
import Derived.LoopIn
import Derived.OrdersIn
import Derived.Sort.CutIn
namespace Go.Proofs.YtaiiojbakmminaaGreatDoor
open Go Go.RowKit Go.Shelf
/-- The numbers that are gone over lie in memory. -/
structure BMi (bx : Nat) (a : Option Addr) (k : Nat) (cs : List Int) (W : World) : Prop where
  box : Blk W bx #[.slice a cs.length k] 95
  el : ∀ i (h : i < cs.length), ∃ g, a = some ⟨g, 0, none⟩ ∧ W.cell? ⟨g, i, none⟩ = some (.int .i64 cs[i])
theorem BMi.below {bx : Nat} {a : Option Addr} {k : Nat} {cs : List Int} {W W' : World} (h : BMi bx a k cs W) (hb : Below W.heap.size W W') : BMi bx a k cs W' :=
  ⟨h.box.belowSize hb, fun i hi => by
    obtain ⟨g, ha, h1⟩ := h.el i hi
    exact ⟨g, ha, (hb.cell (p := ⟨g, i, none⟩) (World.block_lt_of_cell? _ _ h1)).trans h1⟩⟩
/-- What is there of another kind may turn. -/
theorem cell_turn {W W' : World} {g i : Nat} {v : Value} {row : Option Nat} (h : W.cell? ⟨g, i, none⟩ = some v) (hg : W.grownBy W' row) (hr : ∀ r, row = some r → ∃ o : Obj, W.heap[r]? = some o ∧ o.isCells = false) : W'.cell? ⟨g, i, none⟩ = some v := by
  have hl := World.block_lt_of_cell? _ _ h
  have hne : some g ≠ row := fun e => by
    obtain ⟨o, h1, h2⟩ := hr g e.symm
    simp only [World.cell?, h1] at h
    cases o with
    | cells c t fr => cases h2
    | _ => cases h
  simp only [World.cell?] at h ⊢
  rw [hg.block g hl hne]
  exact h
/-- All the places, the last first. -/
def revI (n : Nat) : List (Fin n) := (List.finRange n).reverse
theorem revI_len (n : Nat) : (revI n).length = n := by unfold revI; rw [List.length_reverse, List.length_finRange]
theorem revI_take {n k : Nat} (h : k < n) : (revI n).take (k + 1) = (revI n).take k ++ [⟨n - 1 - k, by omega⟩] := by
  rw [List.take_succ_eq_append_getElem (by rw [revI_len]; exact h)]
  congr 2
  unfold revI
  rw [List.getElem_reverse, List.getElem_finRange]
  apply Fin.ext
  simp
abbrev encI (cs : List Int) (j : Fin cs.length) : Array Value := #[.int .i64 ((j.1 : Nat) : Int), .int .i64 cs[j.1]]
abbrev KpI (bx : Nat) (a : Option Addr) (k : Nat) (cs : List Int) (W W' : World) : Prop := BMi bx a k cs W → BMi bx a k cs W'
set_option maxRecDepth 100000 in
theorem bwI_any (a : Option Addr) (n k : Nat) (w : World) : Calls Tryz.prog 114 #[.slice a n k] w fun e w' => e = .returned (.func (.func 151) #[] #[.pointer (some ⟨w.heap.size, 0, none⟩)]) ∧ Blk w' w.heap.size #[.slice a n k] 95 ∧ Below w.heap.size w w' := by
  go_enter Tryz.func114, Tryz.ntmps114
  go_wp2_with fail
  go_ret
  exact ⟨rfl, Blk.new _ _ _, (Below.refl _ _).alloc (Nat.le_refl _) _⟩
section
attribute [local go_sem] Oper.semAt_some
set_option maxRecDepth 100000 in
set_option maxHeartbeats 2000000 in
theorem bwI1_in (n : Nat) (hn : 1 ≤ n) (l bx : Nat) (a : Option Addr) (kc : Nat) (cs : List Int) (hcs : cs.length ≤ 1000) (J Jx : List (Fin cs.length) → World → Prop)
    (hY : ∀ pre x W, J pre W → pre.length < cs.length → YieldAt Fence.wide (n - 1) Tryz.prog l (encI cs x) W fun e W' =>
      (e = .returned (.bool true) ∧ J (pre ++ [x]) W' ∧ KpI bx a kc cs W W') ∨ (e = .returned (.bool false) ∧ Jx (pre ++ [x]) W'))
    (W : World) (hI : BMi bx a kc cs W) (h0 : J [] W) :
    CallsIn Fence.wide n Tryz.prog 151 #[.func (.yield l) #[] #[], .pointer (some ⟨bx, 0, none⟩)] W fun e W' => (∃ v, e = .returned v) ∧
      ((∃ ys, ys = revI cs.length ∧ J ys W') ∨ (∃ pre, (∃ k, k ≤ cs.length ∧ pre = (revI cs.length).take k) ∧ Jx pre W')) := by
  have hbt : W.cell? ⟨bx, 0, none⟩ = some (.slice a cs.length kc) := hI.box.cell 0
  have hwr : IntKind.i64.wrap ((cs.length : Int) - 1) = (cs.length : Int) - 1 := by rw [IntKind.wrap_i64]; omega
  refine callsIn_of_wp Tryz.func151 rfl trivial ?_ rfl
  simp only [Tryz.ntmps151, List.size_toArray, List.length_cons, List.length_nil, Nat.reduceAdd, Nat.reduceSub, Array.replicate_succ, Array.replicate_zero, List.push_toArray, List.append_toArray, List.nil_append, List.cons_append]
  gi_wp2
  gi_loopw [3] (fun i wr => ∃ k : Nat, k ≤ cs.length ∧ i = .int .i64 ((cs.length : Int) - 1 - (k : Int)) ∧ J ((revI cs.length).take k) wr ∧ BMi bx a kc cs wr)
    (fun i _ => ((intOf i) + 1).toNat)
  case atStart => exact ⟨0, Nat.zero_le _, by simp, h0, hI⟩
  case round =>
    obtain ⟨k, hk, rfl, hJs, hIr⟩ := hrel
    have hc : wr.cell? ⟨bx, 0, none⟩ = some (.slice a cs.length kc) := hIr.box.cell 0
    by_cases hlt : k < cs.length
    · have hTk := revI_take hlt
      obtain ⟨g, rfl, e2⟩ := hIr.el (cs.length - 1 - k) (by omega)
      obtain ⟨fn, tmps, assign, body, hy, hR⟩ := hY _ ⟨cs.length - 1 - k, by omega⟩ wr hJs (by rw [List.length_take, revI_len]; omega)
      rw [← hTk] at hR
      clear hTk hbt
      dsimp only [encI] at hy
      obtain ⟨m, hm⟩ : ∃ m, cs.length - 1 - k = m := ⟨_, rfl⟩
      have hmi : (cs.length : Int) - 1 - (k : Int) = (m : Int) := by omega
      have hi0 : (0 : Int) ≤ (m : Int) := by omega
      have hi1 : (m : Int) < (cs.length : Int) := by omega
      have hwr2 : IntKind.i64.wrap ((m : Int) - 1) = (m : Int) - 1 := by rw [IntKind.wrap_i64]; omega
      rw [hmi]
      generalize cs[cs.length - 1 - k] = ce at *
      rw [hm] at e2 hy
      gi_wp2
      refine hR.mono ?_
      rintro e W3 (⟨rfl, hJ3, hk3⟩ | ⟨rfl, hJx3⟩)
      · gi_wp2
        go_roundw
        case rel => exact ⟨k + 1, by omega, by rw [show (cs.length : Int) - 1 - ((k + 1 : Nat) : Int) = (m : Int) - 1 by omega], hJ3, hk3 hIr⟩
        case measure => simp [intOf]
      · gi_wp2
        refine bodyPost_ret (results_none rfl _ _ _) rfl ?_
        exact ⟨⟨_, rfl⟩, .inr ⟨_, ⟨k + 1, by omega, rfl⟩, hJx3⟩⟩
    · obtain rfl : k = cs.length := by omega
      have hJs' : J (revI cs.length) wr := by
        rw [List.take_of_length_le (by rw [revI_len]; exact Nat.le_refl _)] at hJs
        exact hJs
      have hneg : ¬ (0 : Int) ≤ (cs.length : Int) - 1 - (cs.length : Int) := by omega
      gi_wp2
      go_end0
      first | exact ⟨⟨_, rfl⟩, .inl ⟨_, rfl, hJs'⟩⟩ | exact hJs' | exact ⟨⟨_, rfl⟩, .inl hJs'⟩
end
theorem bwI_stops (n : Nat) (hn : 1 ≤ n) (bx : Nat) (a : Option Addr) (kc : Nat) (cs : List Int) (hcs : cs.length ≤ 1000) (w : World) (hI : BMi bx a kc cs w) :
    SeqStopsK Fence.wide n Tryz.prog 151 #[.pointer (some ⟨bx, 0, none⟩)] (encI cs) (KpI bx a kc cs) (fun ys => ys = revI cs.length) (fun pre => ∃ k, k ≤ cs.length ∧ pre = (revI cs.length).take k) cs.length w :=
  fun l J Jx W hW _ _ hY h0 => bwI1_in n hn l bx a kc cs hcs J Jx hY W (hI.below hW) h0
theorem kpI_t {bx : Nat} {a : Option Addr} {kc : Nat} {cs : List Int} {A C D : World} (h : KpI bx a kc cs A C) (k : KpI bx a kc cs C D) : KpI bx a kc cs A D := fun hi => k (h hi)
theorem kpI_b {bx : Nat} {a : Option Addr} {kc : Nat} {cs : List Int} {w : World} (W : World) (l : Nat) (o o' : Obj) (_ : w.heap.size ≤ l) (h : W.heap[l]? = some o) (hc : o.isCells = false) (_ : o.isWalk = false) : KpI bx a kc cs W (W.putObj l o') := fun hi => by
  have hg := grownBy_putObj' W l o'
  have hr : ∀ r, some l = some r → ∃ o : Obj, W.heap[r]? = some o ∧ o.isCells = false := fun r e => by cases e; exact ⟨o, h, hc⟩
  refine ⟨hi.box.grown hg (fun e => ?_), fun i hi2 => ?_⟩
  · have e := Option.some.inj e
    subst e
    rw [hi.box.out] at h
    cases h
    cases hc
  · obtain ⟨g, ha, h1⟩ := hi.el i hi2
    exact ⟨g, ha, cell_turn h1 hg hr⟩
end Go.Proofs.YtaiiojbakmminaaGreatDoor
