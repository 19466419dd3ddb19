/- All: a function that is ranged over, and goes down by itself. -/
import Derived.Test.YtmeolaeoaoldoaaDoorShv
namespace Go.Proofs.YtmeolaeoaoldoaaDoor.Sh
open Go Go.RowKit Go.Shelf
theorem room_wd (k : Nat) : Fence.wide.room k := fun d h => by cases h
theorem RoundIn.wd {m m' : Nat} {P : Program} {l : Nat} {f : FuncId} {tmps : Array Value} {assign body : Code} {w : World} {R : Ending → World → Prop}
    (h : RoundIn Fence.wide m P l f tmps assign body w R) : RoundIn Fence.wide m' P l f tmps assign body w R := ⟨h.1, fun c cs _ => h.2 c cs (room_wd _)⟩
theorem yieldAt_wd {m : Nat} (m' : Nat) {P : Program} {l : Nat} {args : Array Value} {W : World} {R : Ending → World → Prop} (h : YieldAt Fence.wide m P l args W R) : YieldAt Fence.wide m' P l args W R := by
  obtain ⟨fn, tmps, assign, body, hy, hR⟩ := h
  exact ⟨fn, tmps, assign, body, hy, RoundIn.wd hR⟩
/-- All halves are as they were. -/
structure HK (W W' : World) : Prop where
  out : ∀ i c, Blk W i c 82 → Blk W' i c 82
theorem HK.refl (W : World) : HK W W := ⟨fun _ _ h => h⟩
theorem HK.trans {A B C : World} (h : HK A B) (k : HK B C) : HK A C := ⟨fun i c hb => k.out i c (h.out i c hb)⟩
theorem HK.hf {W W' : World} {t : Tr} {q : Option Addr} (h : HK W W') (k : HF W t q) : HF W' t q := k.keep h.out
theorem HK.below {W W' : World} (h : Below W.heap.size W W') : HK W W' := ⟨fun _ _ hb => hb.belowSize h⟩
theorem HK.blk {W W' : World} {b : Nat} {c : Array Value} {t : TypeId} (h : W.grownBy W' (some b)) (k : Blk W b c t) (ht : 82 ≠ t) : HK W W' := ⟨fun _ _ hb => hb.grown h (fun e => hb.apart k ht (Option.some.inj e))⟩
theorem kpH_b {w : World} (W : World) (l : Nat) (o o' : Obj) (_ : w.heap.size ≤ l) (h : W.heap[l]? = some o) (hc : o.isCells = false) (_ : o.isWalk = false) : HK W (W.putObj l o') := ⟨fun _ _ hi => hi.turn (grownBy_putObj' W l o') (fun r e => by
  have e := Option.some.inj e
  subst e
  exact ⟨o, h, hc⟩)⟩
abbrev encL (x : LF) : Array Value := #[.agg #[.string ⟨x.1.toArray⟩, .string ⟨x.2.toArray⟩]]
section
attribute [local go_sem] Oper.semAt_some
set_option maxRecDepth 100000 in
set_option maxHeartbeats 4000000 in
theorem each_in (l N : Nat) (J Jx : List LF → World → Prop)
    (hY : ∀ m pre x W, J pre W → pre.length < N → YieldAt Fence.wide m Tryd.prog l (encL x) W fun e W' => (e = .returned (.bool true) ∧ J (pre ++ [x]) W' ∧ HK W W') ∨ (e = .returned (.bool false) ∧ Jx (pre ++ [x]) W')) (t : Tr) :
    ∀ (n : Nat) (q : Option Addr) (pre : List LF) (W : World), HF W t q → t.cnt ≤ 100000 → J pre W → pre.length + t.leaves.length ≤ N →
      CallsIn Fence.wide n Tryd.prog 48 #[.pointer q, .func (.yield l) #[] #[]] W fun e W' =>
        (e = .returned (.bool true) ∧ J (pre ++ t.leaves) W' ∧ HK W W') ∨ (e = .returned (.bool false) ∧ ∃ pr, pr <+: t.leaves ∧ Jx (pre ++ pr) W') := by
  induction t with
  | emp =>
    intro n q pre W ht _ hJ _
    obtain rfl : q = none := ht
    refine callsIn_of_wp Tryd.func48 rfl trivial ?_ rfl
    simp only [Tryd.ntmps48, List.size_toArray, List.length_cons, List.length_nil, Nat.reduceAdd, Nat.reduceSub, Array.replicate_succ, Array.replicate_zero, List.push_toArray, List.append_toArray, List.nil_append, List.cons_append]
    gi_wp2
    go_ret
    exact .inl ⟨rfl, by rw [show Tr.emp.leaves = [] from rfl, List.append_nil]; exact hJ, HK.refl _⟩
  | lf x =>
    intro n q pre W ht _ hJ hN
    obtain ⟨b, rfl, hb, _⟩ := ht
    obtain ⟨_, c1, c2, c3, _⟩ := half_cells hb
    obtain ⟨fn, tmps, assign, body, hy, hR⟩ := hY (n - 1) pre x W hJ (by have : (Tr.lf x).leaves.length = 1 := rfl; omega)
    dsimp only [encL] at hy
    refine callsIn_of_wp Tryd.func48 rfl trivial ?_ rfl
    simp only [Tryd.ntmps48, List.size_toArray, List.length_cons, List.length_nil, Nat.reduceAdd, Nat.reduceSub, Array.replicate_succ, Array.replicate_zero, List.push_toArray, List.append_toArray, List.nil_append, List.cons_append]
    gi_wp2
    refine ⟨(fun h => nomatch h), hR.mono ?_⟩
    rintro e W3 (⟨rfl, hJ3, hk3⟩ | ⟨rfl, hJx3⟩)
    · gi_wp2
      go_ret
      exact .inl ⟨rfl, hJ3, hk3⟩
    · gi_wp2
      go_ret
      exact .inr ⟨rfl, [x], List.prefix_refl _, hJx3⟩
  | nd tl tr ihl ihr =>
    intro n q pre W ht hc hJ hN
    obtain ⟨b, pl, pr, rfl, hb, hl, hr, h2⟩ := ht
    rw [Tr.cnt_nd] at hc
    have hN2 : pre.length + (tl.leaves.length + tr.leaves.length) ≤ N := by rw [← List.length_append]; exact hN
    obtain ⟨_, c1, _, _, c4, c5⟩ := half_cells hb
    have hcl : tl.cnt ≤ 100000 := by omega
    have hcr : tr.cnt ≤ 100000 := by omega
    generalize tl.cnt + tr.cnt = nn at *
    have hn1 : ((nn : Int) == 1) = false := by rw [beq_eq_false_iff_ne]; omega
    have ih1 := (ihl (n - 1) pl pre W hl hcl hJ (by omega)).mono (R' := fun e W1 =>
        (e = .returned (.bool true) ∧ J (pre ++ tl.leaves) W1 ∧ HK W W1 ∧ W1.cell? ⟨b, 5, none⟩ = some (.pointer pr) ∧ HF W1 tr pr) ∨ (e = .returned (.bool false) ∧ ∃ pr, pr <+: tl.leaves ∧ Jx (pre ++ pr) W1))
      (fun e W1 h => h.elim (fun ⟨he, hj, hk⟩ => .inl ⟨he, hj, hk, (half_cells (hk.out _ _ hb)).2.2.2.2.2, hk.hf hr⟩) .inr)
    refine callsIn_of_wp Tryd.func48 rfl trivial ?_ rfl
    simp only [Tryd.ntmps48, List.size_toArray, List.length_cons, List.length_nil, Nat.reduceAdd, Nat.reduceSub, Array.replicate_succ, Array.replicate_zero, List.push_toArray, List.append_toArray, List.nil_append, List.cons_append]
    gi_wp2_with (first
      | (refine ⟨trivial, (fun h => nomatch h), ?_⟩; gi_at_call 48; refine ih1.mono ?_; clear ih1; rintro e W1 (⟨rfl, hJ1, hk1, c5', hr1⟩ | ⟨rfl, q, hq, hx1⟩))
      | (refine ⟨trivial, (fun h => nomatch h), ?_⟩; gi_at_call 48; refine (ihr (n - 1) pr _ _ hr1 hcr hJ1 (by rw [List.length_append]; omega)).mono ?_; rintro e W3 (⟨rfl, hJ3, hk3⟩ | ⟨rfl, q, hq, hx3⟩)))
    · go_ret
      exact .inl ⟨rfl, by rw [show (Tr.nd tl tr).leaves = tl.leaves ++ tr.leaves from rfl, ← List.append_assoc]; exact hJ3, hk1.trans hk3⟩
    · go_ret
      obtain ⟨r, hr'⟩ := hq
      exact .inr ⟨rfl, tl.leaves ++ q, ⟨r, by rw [show (Tr.nd tl tr).leaves = tl.leaves ++ tr.leaves from rfl, ← hr', List.append_assoc]⟩, by rw [← List.append_assoc]; exact hx3⟩
    · refine ⟨trivial, ?_⟩
      gi_wp2
      go_ret
      obtain ⟨r, hr'⟩ := hq
      exact .inr ⟨rfl, q, ⟨r ++ tr.leaves, by rw [show (Tr.nd tl tr).leaves = tl.leaves ++ tr.leaves from rfl, ← hr', List.append_assoc]⟩, hx1⟩
set_option maxRecDepth 100000 in
set_option maxHeartbeats 1000000 in
theorem all1_in (n l Bt : Nat) (q : Option Addr) (t : Tr) (hc : t.cnt ≤ 100000) (J Jx : List LF → World → Prop)
    (hY : ∀ pre x W, J pre W → pre.length < t.leaves.length → YieldAt Fence.wide (n - 1) Tryd.prog l (encL x) W fun e W' => (e = .returned (.bool true) ∧ J (pre ++ [x]) W' ∧ HK W W') ∨ (e = .returned (.bool false) ∧ Jx (pre ++ [x]) W'))
    (W : World) (hBt : Blk W Bt #[.pointer q] 71) (hT : HF W t q) (h0 : J [] W) :
    CallsIn Fence.wide n Tryd.prog 47 #[.func (.yield l) #[] #[], .pointer (some ⟨Bt, 0, none⟩)] W fun e W' => (∃ v, e = .returned v) ∧
      ((∃ ys, ys = t.leaves ∧ J ys W') ∨ (∃ pre, pre <+: t.leaves ∧ Jx pre W')) := by
  have hp := each_in l t.leaves.length J Jx (fun m pre x W hj hl => yieldAt_wd m (hY pre x W hj hl)) t (n - 1) q [] W hT hc h0 (by simp)
  have cb := blk1c hBt
  refine callsIn_of_wp Tryd.func47 rfl trivial ?_ rfl
  simp only [Tryd.ntmps47, List.size_toArray, List.length_cons, List.length_nil, Nat.reduceAdd, Nat.reduceSub, Array.replicate_succ, Array.replicate_zero, List.push_toArray, List.append_toArray, List.nil_append, List.cons_append]
  gi_wp2_with (refine ⟨trivial, (fun h => nomatch h), ?_⟩; gi_at_call 48; refine hp.mono ?_; clear hp; rintro e W1 (⟨rfl, hJ1, _⟩ | ⟨rfl, q, hq, hx⟩))
  · go_end0
    exact ⟨⟨_, rfl⟩, .inl ⟨_, rfl, by simpa using hJ1⟩⟩
  · go_end0
    exact ⟨⟨_, rfl⟩, .inr ⟨q, hq, by simpa using hx⟩⟩
end
theorem all_stops (n Bt : Nat) (q : Option Addr) (t : Tr) (hc : t.cnt ≤ 100000) (w : World) (hBt : Blk w Bt #[.pointer q] 71) (hT : HF w t q) :
    SeqStopsK Fence.wide n Tryd.prog 47 #[.pointer (some ⟨Bt, 0, none⟩)] encL HK (fun ys => ys = t.leaves) (fun pre => pre <+: t.leaves) t.leaves.length w :=
  fun l J Jx W hW _ _ hY h0 => all1_in n l Bt q t hc J Jx hY W (hBt.belowSize hW) (hT.below hW) h0
set_option maxRecDepth 100000 in
theorem tall_any (b : Nat) (q : Option Addr) (w : World) (hb : Blk w b #[.pointer q] 75) : Calls Tryd.prog 19 #[.pointer (some ⟨b, 0, none⟩)] w fun e w' => e = .returned (.func (.func 47) #[] #[.pointer (some ⟨w.heap.size, 0, none⟩)]) ∧ Blk w' w.heap.size #[.pointer q] 71 ∧ Below w.heap.size w w' := by
  have H1 := top_any b q w hb
  go_enter Tryd.func19, Tryd.ntmps19
  go_wp2_with (go_at_call 38; refine H1.mono ?_; rintro e w1 ⟨rfl, hw1⟩; have hw1 := hw1.symm; subst hw1)
  go_ret
  exact ⟨rfl, Blk.new _ _ _, (Below.refl _ _).alloc (Nat.le_refl _) _⟩
end Go.Proofs.YtmeolaeoaoldoaaDoor.Sh
