/- The way of a path: a function that is ranged over. A slice of things of so many cells each that grows, or nil: what it holds, and appending to it; all but its own block is as it was. What find does. -/
import Derived.Test.YtmeolaeoaoldoaaDoorSha
import Derived.Test.YtmeolaeoaoldoaaDoorSSl
import Derived.Test.YtmeolaeoaoldoaaDoorLft
import Derived.Sort.CutIn
namespace Go.Proofs.YtmeolaeoaoldoaaDoor.Sh
open Go Go.RowKit Go.Shelf
set_option maxRecDepth 100000 in
theorem way_any (p : List UInt8) (w : World) : Calls Tryd.prog 54 #[.string ⟨p.toArray⟩] w fun e w' => e = .returned (.func (.func 73) #[] #[.pointer (some ⟨w.heap.size, 0, none⟩)]) ∧ Blk w' w.heap.size #[.string ⟨p.toArray⟩] 9 ∧ Below w.heap.size w w' := by
  go_enter Tryd.func54, Tryd.ntmps54
  go_wp2_with fail
  go_ret
  exact ⟨rfl, Blk.new _ _ _, (Below.refl _ _).alloc (Nat.le_refl _) _⟩
abbrev encW (p : List UInt8) (i : Fin 256) : Array Value := #[.int .i64 ((i.1 : Nat) : Int), .int .i64 ((bitD p i.1 : Nat) : Int)]
def allW : List (Fin 256) := List.finRange 256
theorem allW_len : allW.length = 256 := List.length_finRange
theorem allW_take {k : Nat} (h : k < 256) : allW.take (k + 1) = allW.take k ++ [⟨k, h⟩] := by
  rw [List.take_succ_eq_append_getElem (by rw [allW_len]; exact h)]
  congr 2
  unfold allW
  rw [List.getElem_finRange]
  rfl
abbrev KpW (B : Nat) (p : List UInt8) (W W' : World) : Prop := Blk W B #[.string ⟨p.toArray⟩] 9 → Blk W' B #[.string ⟨p.toArray⟩] 9
section
attribute [local go_sem] Oper.semAt_some
set_option maxRecDepth 100000 in
set_option maxHeartbeats 2000000 in
theorem way1_in (n : Nat) (hn : 1 ≤ n) (l B : Nat) (p : List UInt8) (hp : p.length = 32) (J Jx : List (Fin 256) → World → Prop)
    (hY : ∀ pre x W, J pre W → pre.length < 256 → YieldAt Fence.wide (n - 1) Tryd.prog l (encW p x) W fun e W' =>
      (e = .returned (.bool true) ∧ J (pre ++ [x]) W' ∧ KpW B p W W') ∨ (e = .returned (.bool false) ∧ Jx (pre ++ [x]) W'))
    (W : World) (hI : Blk W B #[.string ⟨p.toArray⟩] 9) (h0 : J [] W) :
    CallsIn Fence.wide n Tryd.prog 73 #[.func (.yield l) #[] #[], .pointer (some ⟨B, 0, none⟩)] W fun e W' => (∃ v, e = .returned v) ∧
      ((∃ ys, ys = allW ∧ J ys W') ∨ (∃ pre, (∃ k, k ≤ 256 ∧ pre = allW.take k) ∧ Jx pre W')) := by
  refine callsIn_of_wp Tryd.func73 rfl trivial ?_ rfl
  simp only [Tryd.ntmps73, List.size_toArray, List.length_cons, List.length_nil, Nat.reduceAdd, Nat.reduceSub, Array.replicate_succ, Array.replicate_zero, List.push_toArray, List.append_toArray, List.nil_append, List.cons_append]
  gi_wp2
  gi_loopw [4] (fun i wr => ∃ k : Nat, k ≤ 256 ∧ i = .int .i64 k ∧ J (allW.take k) wr ∧ Blk wr B #[.string ⟨p.toArray⟩] 9)
    (fun i _ => 256 - (intOf i).toNat)
  case atStart => exact ⟨0, Nat.zero_le _, rfl, h0, hI⟩
  case round =>
    obtain ⟨k, hk, rfl, hJs, hIr⟩ := hrel
    by_cases hlt : k < 256
    · have hTk := allW_take hlt
      have HS := fun w1 => side_any p k w1 hlt hp
      obtain ⟨fn, tmps, assign, body, hy, hR⟩ := hY _ ⟨k, hlt⟩ wr hJs (by rw [List.length_take]; omega)
      rw [← hTk] at hR
      clear hTk
      dsimp only [encW] at hy
      generalize bitD p k = bt at *
      have hc : wr.cell? ⟨B, 0, none⟩ = some (.string ⟨p.toArray⟩) := hIr.cell 0
      have hi1 : (k : Int) < 256 := by omega
      gi_wp2_with (refine ⟨trivial, ?_⟩; gi_at_call 63; refine (callsIn_wide.2 (HS _)).mono ?_; rintro e w3 ⟨rfl, hw3⟩; have hw3 := hw3.symm; subst hw3)
      refine hR.mono ?_
      rintro e W3 (⟨rfl, hJ3, hk3⟩ | ⟨rfl, hJx3⟩)
      · gi_wp2
        go_roundw
        case rel => exact ⟨k + 1, by omega, by go_num, hJ3, hk3 hIr⟩
        case measure => simp [intOf]; omega
      · gi_wp2
        refine bodyPost_ret (results_none rfl _ _ _) rfl ?_
        exact ⟨⟨_, rfl⟩, .inr ⟨_, ⟨k + 1, by omega, rfl⟩, hJx3⟩⟩
    · obtain rfl : k = 256 := by omega
      gi_wp2
      go_end0
      exact ⟨⟨_, rfl⟩, .inl ⟨_, by rw [List.take_of_length_le (by rw [allW_len]; exact Nat.le_refl _)], hJs⟩⟩
end
theorem way_stops (n : Nat) (hn : 1 ≤ n) (B : Nat) (p : List UInt8) (hp : p.length = 32) (w : World) (hI : Blk w B #[.string ⟨p.toArray⟩] 9) :
    SeqStopsK Fence.wide n Tryd.prog 73 #[.pointer (some ⟨B, 0, none⟩)] (encW p) (KpW B p) (fun ys => ys = allW) (fun pre => ∃ k, k ≤ 256 ∧ pre = allW.take k) 256 w :=
  fun l J Jx W hW _ _ hY h0 => way1_in n hn l B p hp J Jx hY W (hI.belowSize hW) h0
theorem Blk.turn {w w' : World} {b : Nat} {c : Array Value} {t : TypeId} {row : Option Nat} (h : Blk w b c t) (hg : w.grownBy w' row) (hr : ∀ r, row = some r → ∃ o : Obj, w.heap[r]? = some o ∧ o.isCells = false) : Blk w' b c t := h.grown hg (fun e => by
  obtain ⟨o, ho, hc⟩ := hr b e.symm
  rw [h.out] at ho
  cases ho
  cases hc)
theorem kpW_t {B : Nat} {p : List UInt8} {A C D : World} (h : KpW B p A C) (k : KpW B p C D) : KpW B p A D := fun hi => k (h hi)
theorem kpW_b {B : Nat} {p : List UInt8} {w : World} (W : World) (l : Nat) (o o' : Obj) (_ : w.heap.size ≤ l) (h : W.heap[l]? = some o) (hc : o.isCells = false) (_ : o.isWalk = false) : KpW B p W (W.putObj l o') := fun hi => hi.turn (grownBy_putObj' W l o') (fun r e => by
  have e := Option.some.inj e
  subst e
  exact ⟨o, h, hc⟩)
end Go.Proofs.YtmeolaeoaoldoaaDoor.Sh
namespace Go.Proofs.YtmeolaeoaoldoaaDoor.Sh
open Go Go.RowKit
theorem flat_len {k : Nat} : ∀ {l : List (List Value)}, (∀ x ∈ l, x.length = k) → l.flatten.length = l.length * k
  | [], _ => by simp
  | x :: r, h => by
    rw [List.flatten_cons, List.length_append, flat_len (fun y hy => h y (List.mem_cons_of_mem _ hy)), h x (List.mem_cons_self ..), List.length_cons, Nat.succ_mul]
    omega
theorem flat_get {k : Nat} : ∀ {l : List (List Value)} (_ : ∀ x ∈ l, x.length = k) (i : Nat) (hi : i < l.length) (j : Nat) (v : Value), (l[i])[j]? = some v → l.flatten[i * k + j]? = some v
  | x :: r, h, 0, _, j, v, hv => by
    have hj : j < x.length := (List.getElem?_eq_some_iff.1 hv).1
    rw [List.flatten_cons, Nat.zero_mul, Nat.zero_add, List.getElem?_append_left hj]
    exact hv
  | x :: r, h, i + 1, hi, j, v, hv => by
    have hx := h x (List.mem_cons_self ..)
    rw [List.flatten_cons, List.getElem?_append_right (by rw [hx, Nat.succ_mul]; omega), hx, show (i + 1) * k + j - k = i * k + j by rw [Nat.succ_mul]; omega]
    exact flat_get (fun y hy => h y (List.mem_cons_of_mem _ hy)) i (by simpa using hi) j v hv
/-- Block g holds a slice's things l, of k cells each, with room for cap. -/
structure GS (w : World) (t : TypeId) (k g cap : Nat) (l : List (List Value)) : Prop where
  out : ∃ cur : Array Value, w.heap[g]? = some (.cells cur t (0, 0)) ∧ l.length ≤ cap ∧ cap * k ≤ cur.size ∧ ∀ (j : Nat) (v : Value), l.flatten[j]? = some v → cur[j]? = some v
/-- The value sl is a slice of the things l, from block lo on, or nil where there are none. -/
def GL (w : World) (t : TypeId) (k lo : Nat) (sl : Value) (l : List (List Value)) : Prop :=
  (∀ x ∈ l, x.length = k) ∧ ((l = [] ∧ sl = .slice none 0 0) ∨ ∃ g cap, lo ≤ g ∧ sl = .slice (some ⟨g, 0, none⟩) l.length cap ∧ GS w t k g cap l)
/-- The block that a slice lies in. -/
def slBlk : Value → Option Nat
  | .slice (some a) _ _ => some a.block
  | _ => none
theorem GS.lt {w : World} {t : TypeId} {k g cap : Nat} {l : List (List Value)} (h : GS w t k g cap l) : g < w.heap.size := by
  obtain ⟨cur, h1, _⟩ := h.out
  exact (Array.getElem?_eq_some_iff.1 h1).1
theorem GS.cell {w : World} {t : TypeId} {k g cap : Nat} {l : List (List Value)} (h : GS w t k g cap l) (j : Nat) (v : Value) (hv : l.flatten[j]? = some v) : w.cell? ⟨g, j, none⟩ = some v := by
  obtain ⟨cur, h1, _, _, h4⟩ := h.out
  simp [World.cell?, h1, h4 j v hv]
theorem GS.grown {w w' : World} {t : TypeId} {k g cap : Nat} {l : List (List Value)} {row : Option Nat} (h : GS w t k g cap l) (hb : w.grownBy w' row) (hr : some g ≠ row) : GS w' t k g cap l := by
  obtain ⟨cur, h1, hr'⟩ := h.out
  exact ⟨cur, by rw [hb.block g h.lt hr]; exact h1, hr'⟩
theorem GL.nil (w : World) (t : TypeId) (k lo : Nat) : GL w t k lo (.slice none 0 0) [] := ⟨(fun _ hx => nomatch hx), .inl ⟨rfl, rfl⟩⟩
theorem GL.lt {w : World} {t : TypeId} {k lo : Nat} {sl : Value} {l : List (List Value)} (h : GL w t k lo sl l) : ∀ r, slBlk sl = some r → lo ≤ r ∧ r < w.heap.size := fun r e => by
  rcases h.2 with ⟨_, rfl⟩ | ⟨g, cap, h1, rfl, h3⟩
  · cases e
  · cases e
    exact ⟨h1, h3.lt⟩
theorem GL.grown {w w' : World} {t : TypeId} {k lo : Nat} {sl : Value} {l : List (List Value)} {row : Option Nat} (h : GL w t k lo sl l) (hb : w.grownBy w' row) (hr : ∀ r, slBlk sl = some r → some r ≠ row) : GL w' t k lo sl l := by
  refine ⟨h.1, ?_⟩
  rcases h.2 with h | ⟨g, cap, h1, rfl, h3⟩
  · exact .inl h
  · exact .inr ⟨g, cap, h1, rfl, h3.grown hb (hr g rfl)⟩
theorem GL.below {w w' : World} {t : TypeId} {k lo : Nat} {sl : Value} {l : List (List Value)} (h : GL w t k lo sl l) (hb : Below w.heap.size w w') : GL w' t k lo sl l := h.grown (row := none) (grown_of_below hb) (fun _ _ e => nomatch e)
theorem GL.drew {w : World} {t : TypeId} {k lo : Nat} {sl : Value} {l : List (List Value)} (h : GL w t k lo sl l) : GL w.drew t k lo sl l := h.below (Below.refl _ _).drew
/-- A block of another kind is not the slice's. -/
theorem GL.ne {w : World} {t ty : TypeId} {k lo i : Nat} {sl : Value} {l : List (List Value)} {c : Array Value} (h : GL w t k lo sl l) (hb : Blk w i c ty) (ht : ty ≠ t ∨ i < lo) : ∀ r, slBlk sl = some r → some r ≠ some i := fun r e e2 => by
  have e2 := Option.some.inj e2
  subst e2
  rcases ht with ht | ht
  · rcases h.2 with ⟨_, rfl⟩ | ⟨g, cap, h1, rfl, h3⟩
    · cases e
    · cases e
      obtain ⟨cur, h4, _⟩ := h3.out
      have h5 := hb.out
      rw [h4] at h5
      simp only [Option.some.injEq, Obj.cells.injEq] at h5
      exact ht h5.2.1.symm
  · have := (h.lt r e).1
    omega
theorem GL.turn {w w' : World} {t : TypeId} {k lo : Nat} {sl : Value} {l : List (List Value)} {row : Option Nat} (h : GL w t k lo sl l) (hg : w.grownBy w' row) (hr : ∀ r, row = some r → ∃ o : Obj, w.heap[r]? = some o ∧ o.isCells = false) : GL w' t k lo sl l := by
  refine h.grown hg (fun r e e2 => ?_)
  obtain ⟨o, ho, hc⟩ := hr r e2.symm
  rcases h.2 with ⟨_, rfl⟩ | ⟨g, cap, h1, rfl, h3⟩
  · cases e
  · cases e
    obtain ⟨cur, h4, _⟩ := h3.out
    rw [h4] at ho
    cases ho
    cases hc
theorem GL.cells {w : World} {t : TypeId} {k lo : Nat} {sl : Value} {l : List (List Value)} (h : GL w t k lo sl l) : sl.cells = #[sl] ∧ sl.oneCell' = true := by
  rcases h.2 with ⟨_, rfl⟩ | ⟨g, cap, _, rfl, _⟩
  · exact ⟨rfl, rfl⟩
  · exact ⟨rfl, rfl⟩
theorem GL.sl {w : World} {t : TypeId} {k lo : Nat} {sl : Value} {l : List (List Value)} (h : GL w t k lo sl l) : ∃ a cap, sl = .slice a l.length cap ∧ ∀ i (hi : i < l.length), ∃ g, a = some ⟨g, 0, none⟩ ∧ ∀ j v, (l[i])[j]? = some v → w.cell? ⟨g, i * k + j, none⟩ = some v := by
  rcases h.2 with ⟨rfl, rfl⟩ | ⟨g, cap, _, rfl, h3⟩
  · exact ⟨none, 0, rfl, fun i hi => by simp at hi⟩
  · exact ⟨_, cap, rfl, fun i hi => ⟨g, rfl, fun j v hv => h3.cell _ _ (flat_get h.1 i hi j v hv)⟩⟩
section
variable {P : Program} {ops : Array Oper} {rest : List Oper} {op : Oper} {a : Act} {w : World} {Q : Exit → Act → World → Prop} {K : Act → World → Prop} {E : Prop}
theorem run_appendGL (st ty t : TypeId) (k lo : Nat) (sl : Value) (l : List (List Value)) (hlo : lo ≤ w.heap.size) (hsl : GL w t k lo sl l) (g2 c : Nat) (o : List Value) (hok : o.length = k) (ho1 : ∀ u ∈ o, u.oneCell' = true) (t2 : TypeId) (hb2 : Blk w g2 o.toArray t2) (i : TypeInfo) (z : Value) (hz1 : z.cells.size = k)
    (hu : P.underlying st = some (.slice t)) (hi : P.info? t = some i) (hz : i.zero = some z) (hs : i.size = k) (hby : i.bytes ≤ 64) (hlen : l.length ≤ 1000000) :
    ∃ (w1 : World) (sl1 : Value), (Builtin.append_ #[st, st] ty #[sl, .slice (some ⟨g2, 0, none⟩) 1 c]).run P w = .ok sl1 w1 ∧ w.grownBy w1 (slBlk sl) ∧ GL w1 t k lo sl1 (l ++ [o]) := by
  have hsrc : Src P i.size st (.slice (some ⟨g2, 0, none⟩) 1 c) 1 o w :=
    Src.ofSlice w hu ⟨g2, 0, none⟩ 1 c _ (by rw [hs, Nat.one_mul]; exact hok) (fun j u hj => by
      rw [Addr.add_mid, Nat.zero_add, hb2.cell]
      simpa using hj)
      ho1
  have hall : ∀ x ∈ l ++ [o], x.length = k := fun x hx => by
    rcases List.mem_append.1 hx with hx | hx
    · exact hsl.1 x hx
    · rw [List.mem_singleton.1 hx]; exact hok
  have hfl := flat_len hsl.1
  have hfs : (l ++ [o]).flatten = l.flatten ++ o := by simp
  have hgrow : ∀ (base : Option Addr) (cap : Nat), cap < l.length + 1 → (Builtin.firstCells i.size l.length (.slice base l.length cap)).run P w.drew = .ok l.flatten.toArray w.drew →
      ∃ (w1 : World) (sl1 : Value), (Builtin.append_ #[st, st] ty #[.slice base l.length cap, .slice (some ⟨g2, 0, none⟩) 1 c]).run P w = .ok sl1 w1 ∧ w.grownBy w1 (slBlk (.slice base l.length cap)) ∧ GL w1 t k lo sl1 (l ++ [o]) := by
    intro base cap hcap hold
    have hr := run_append_grow_src (P := P) w st st ty t i _ hu hi hz base l.length cap _ hold _ 1 _ hsrc hcap (by omega) (growslice_fits hcap (Nat.le_trans (Nat.mul_le_mul (show l.length + 1 ≤ 1000001 by omega) hby) (by decide)))
    have hge : l.length + 1 ≤ grownCap w (l.length + 1) cap t := grownCap_ge w _ _ _
    refine ⟨_, _, hr, grown_of_below ((Below.refl w.heap.size w).drew.alloc (Nat.le_refl _) _), hall, .inr ⟨w.heap.size, _, hlo, by rw [List.length_append]; rfl, ?_⟩⟩
    refine ⟨_, heap_alloc_last w.drew _, by rw [List.length_append]; exact hge, ?_, ?_⟩
    · simp only [Array.size_append, List.size_toArray, List.length_append, hfl, hok, size_zeroCells, hz1]
      have h9 : grownCap w (l.length + 1) cap t * k = l.length * k + k + (grownCap w (l.length + 1) cap t - (l.length + 1)) * k := by
        rw [Nat.sub_mul, Nat.succ_mul]
        have := Nat.mul_le_mul_right k hge
        rw [Nat.succ_mul] at this
        omega
      omega
    · intro j v hj
      rw [hfs] at hj
      have hjl := (List.getElem?_eq_some_iff.1 hj).1
      rw [Array.getElem?_append_left (by simpa using hjl)]
      simpa using hj
  rcases hsl.2 with ⟨rfl, rfl⟩ | ⟨g, cap, hg, rfl, hS⟩
  · exact hgrow none 0 (by simp) (run_firstCells_none (w := w.drew) i.size 0 0 0)
  · by_cases hroom : l.length + 1 ≤ cap
    · obtain ⟨cur, h1, h2, h4, h5⟩ := hS.out
      have hmul : l.length * k + k ≤ cur.size := by
        have := Nat.mul_le_mul_right k hroom
        rw [Nat.succ_mul] at this
        omega
      have hcell : ∀ j, j < o.length → (w.cell? ⟨g, l.length * k + j, none⟩).isSome = true := fun j hj => by
        simp only [World.cell?, h1]
        rw [Array.getElem?_eq_getElem (by omega)]; rfl
      have hfro : ∀ j, j < o.length → w.frozen? ⟨g, l.length * k + j, none⟩ = false := fun j hj => by
        simp [World.frozen?, h1]
      have hr := run_append_room_src (P := P) w st st ty t i hu hi g 0 l.length cap _ 1 _ hsrc hroom
        (fun j hj => by rw [hs, Nat.zero_add]; exact hcell j hj)
        (fun j hj => by rw [hs, Nat.zero_add]; exact hfro j hj)
      rw [hs, Nat.zero_add] at hr
      have hgr := grown_setCells g o (l.length * k) w
      refine ⟨_, _, hr, hgr, hall, .inr ⟨g, cap, hg, by rw [List.length_append]; rfl, ?_⟩⟩
      have hblk : Blk w g cur t := ⟨h1⟩
      refine ⟨_, (hblk.setCells o (l.length * k)).out, by rw [List.length_append]; exact hroom, by rw [spl_size]; exact h4, ?_⟩
      intro j v hj
      rw [spl_get _ _ _ _ (by rw [hok]; exact hmul), hok]
      rw [hfs] at hj
      by_cases hjl : j < l.length * k
      · rw [if_neg (by omega)]
        rw [List.getElem?_append_left (by rw [hfl]; exact hjl)] at hj
        exact h5 j v hj
      · have hj3 := (List.getElem?_eq_some_iff.1 hj).1
        rw [List.length_append, hfl, hok] at hj3
        rw [if_pos (by omega)]
        rw [List.getElem?_append_right (by rw [hfl]; omega), hfl] at hj
        exact hj
    · exact hgrow (some ⟨g, 0, none⟩) cap (by omega) (run_firstCells_some w.drew i.size l.length ⟨g, 0, none⟩ l.length cap _ (by rw [hfl, hs]) (fun j u hj => by
        rw [Addr.add_mid, Nat.zero_add]
        exact (GS.grown hS (row := none) (grown_of_below ((Below.refl w.heap.size w).drew)) (fun e => nomatch e)).cell j u hj))
theorem wpList_appendGL (hgd : op.guard = none) (x y : Operand) (st t : TypeId) (ho : op.op = .call { callee := .builtin .append, args := #[x, y], argTypes := #[st, st] })
    (k lo : Nat) (sl : Value) (l : List (List Value)) (hlo : lo ≤ w.heap.size) (hx : a.eval x = sl) (hsl : GL w t k lo sl l) (g2 c : Nat) (hy : a.eval y = .slice (some ⟨g2, 0, none⟩) 1 c) (o : List Value) (hok : o.length = k) (ho1 : ∀ u ∈ o, u.oneCell' = true) (t2 : TypeId) (hb2 : Blk w g2 o.toArray t2) (i : TypeInfo) (z : Value) (hz1 : z.cells.size = k)
    (hu : P.underlying st = some (.slice t)) (hi : P.info? t = some i) (hz : i.zero = some z) (hs : i.size = k) (hby : i.bytes ≤ 64) (hlen : l.length ≤ 1000000)
    (h : ∀ (w1 : World) (sl1 : Value), w.grownBy w1 (slBlk sl) → GL w1 t k lo sl1 (l ++ [o]) → wpList P ops Q rest (a.put op.dst sl1) w1) : wpList P ops Q (op :: rest) a w := by
  obtain ⟨w1, sl1, hr, hb, hl⟩ := run_appendGL (P := P) (w := w) st op.type t k lo sl l hlo hsl g2 c o hok ho1 t2 hb2 i z hz1 hu hi hz hs hby hlen
  refine wpList_run hgd _ _ ?_ (h w1 sl1 hb hl)
  unfold execOp
  simp only [ho]
  simp [resolve, invoke, builtin, hx, hy, hr, Result.andThen]
theorem step_appGL (hgd : op.guard = none) (x y : Operand) (st t : TypeId) (ho : op.op = .call { callee := .builtin .append, args := #[x, y], argTypes := #[st, st] })
    (k lo : Nat) (sl : Value) (l : List (List Value)) (hlo : lo ≤ w.heap.size) (hx : a.eval x = sl) (hsl : GL w t k lo sl l) (g2 c : Nat) (hy : a.eval y = .slice (some ⟨g2, 0, none⟩) 1 c) (o : List Value) (hok : o.length = k) (ho1 : ∀ u ∈ o, u.oneCell' = true) (t2 : TypeId) (hb2 : Blk w g2 o.toArray t2) (i : TypeInfo) (z : Value) (hz1 : z.cells.size = k)
    (hu : P.underlying st = some (.slice t)) (hi : P.info? t = some i) (hz : i.zero = some z) (hs : i.size = k) (hby : i.bytes ≤ 64) (hlen : l.length ≤ 1000000)
    (h : ∀ (w1 : World) (sl1 : Value), w.grownBy w1 (slBlk sl) → GL w1 t k lo sl1 (l ++ [o]) → K (a.put op.dst sl1) w1) :
    if Region.wanted op (yielded ops a.tmps) = true then Oper.wp P op a w K Q else E := by
  have hw : Region.wanted op (yielded ops a.tmps) = true := by simp [Region.wanted, hgd]
  rw [if_pos hw]
  obtain ⟨w1, sl1, hr, hb, hl⟩ := run_appendGL (P := P) (w := w) st op.type t k lo sl l hlo hsl g2 c o hok ho1 t2 hb2 i z hz1 hu hi hz hs hby hlen
  unfold Oper.wp
  simp [execOp, ho, resolve, invoke, builtin, hx, hy, hr, Result.andThen]
  exact h w1 sl1 hb hl
end
/-- Whatever is no cells is as it was. -/
structure NC (w w' : World) : Prop where
  size : w.heap.size ≤ w'.heap.size
  all : ∀ (i : Nat) (o : Obj), w.heap[i]? = some o → o.isCells = false → w'.heap[i]? = some o
theorem NC.refl (w : World) : NC w w := ⟨Nat.le_refl _, fun _ _ h _ => h⟩
theorem NC.trans {a b c : World} (h : NC a b) (k : NC b c) : NC a c := ⟨Nat.le_trans h.size k.size, fun i o ho hc => k.all i o (h.all i o ho hc) hc⟩
theorem NC.below {w w' : World} (h : Below w.heap.size w w') : NC w w' := ⟨h.size, fun i o ho _ => by rw [h.block i (Array.getElem?_eq_some_iff.1 ho).1]; exact ho⟩
theorem NC.grown {w w' : World} {row : Option Nat} (h : w.grownBy w' row) (hr : ∀ r, row = some r → ∃ c t fr, w.heap[r]? = some (.cells c t fr)) : NC w w' := ⟨h.size, fun i o ho hc => by
  rw [h.block i (Array.getElem?_eq_some_iff.1 ho).1 (fun e => by
    obtain ⟨c, t, fr, h1⟩ := hr i e.symm
    rw [ho] at h1
    cases h1
    cases hc)]
  exact ho⟩
theorem NC.blk {w w' : World} {b : Nat} {c : Array Value} {t : TypeId} (h : w.grownBy w' (some b)) (k : Blk w b c t) : NC w w' := NC.grown h (fun r e => by cases e; exact ⟨c, t, _, k.out⟩)
theorem NC.app {w w' : World} {t : TypeId} {k lo : Nat} {sl : Value} {l : List (List Value)} (h : w.grownBy w' (slBlk sl)) (hs : GL w t k lo sl l) : NC w w' := NC.grown h (fun r e => by
  rcases hs.2 with ⟨_, rfl⟩ | ⟨g, cap, h1, rfl, h3⟩
  · cases e
  · cases e
    obtain ⟨cur, h4, _⟩ := h3.out
    exact ⟨cur, t, _, h4⟩)
theorem NC.from {w w' : World} (h : NC w w') (B : Nat) : KeepsFrom B w w' := ⟨h.size, fun i o _ hi hc => h.all i o hi hc⟩
end Go.Proofs.YtmeolaeoaoldoaaDoor.Sh
namespace Go.Proofs.YtmeolaeoaoldoaaDoor.Sh
open Go Go.RowKit Go.Shelf
/-- The rounds so far are the first ones. -/
def IsW (pre : List (Fin 256)) : Prop := pre = allW.take pre.length
theorem IsW.snoc {pre : List (Fin 256)} {x : Fin 256} (h : IsW (pre ++ [x])) (hl : pre.length < 256) : IsW pre ∧ x.1 = pre.length := by
  unfold IsW at h
  rw [List.length_append, List.length_singleton, allW_take hl] at h
  have h2 := List.append_inj' h rfl
  refine ⟨h2.1, ?_⟩
  rw [(List.cons.inj h2.2).1]
theorem IsW.all : IsW allW := by unfold IsW; rw [List.take_length]
theorem IsW.take {k : Nat} (h : k ≤ 256) : IsW (allW.take k) := by
  unfold IsW
  rw [List.length_take, allW_len, Nat.min_eq_left h]
/-- How far a way down has come: at the half u, d deep, with the digests bs beside. -/
structure FI (t : Tr) (p : List UInt8) (d : Nat) (u : Tr) (bs : List (List UInt8)) : Prop where
  bs : (t.way TgD 0 p).1 = bs ++ (u.way TgD d p).1
  lv : (t.way TgD 0 p).2 = (u.way TgD d p).2
  find : Tr.find 0 t p = Tr.find d u p
  canon : Tr.Canon d u
theorem FI.start {t : Tr} (p : List UInt8) (h : Tr.Canon 0 t) : FI t p 0 t [] := ⟨rfl, rfl, rfl, h⟩
theorem FI.left {t l r : Tr} {p : List UInt8} {d : Nat} {bs : List (List UInt8)} (h : FI t p d (.nd l r) bs) (hb : bitD p d = 0) : FI t p (d + 1) l (bs ++ [r.hash TgD]) := by
  have e : (Tr.nd l r).way TgD d p = (r.hash TgD :: (l.way TgD (d + 1) p).1, (l.way TgD (d + 1) p).2) := if_pos hb
  refine ⟨?_, ?_, ?_, h.canon.2.1⟩
  · rw [h.bs, e, List.append_assoc]; rfl
  · rw [h.lv, e]
  · rw [h.find]; exact if_pos hb
theorem FI.right {t l r : Tr} {p : List UInt8} {d : Nat} {bs : List (List UInt8)} (h : FI t p d (.nd l r) bs) (hb : bitD p d = 1) : FI t p (d + 1) r (bs ++ [l.hash TgD]) := by
  have hb0 : ¬ bitD p d = 0 := by omega
  have e : (Tr.nd l r).way TgD d p = (l.hash TgD :: (r.way TgD (d + 1) p).1, (r.way TgD (d + 1) p).2) := if_neg hb0
  refine ⟨?_, ?_, ?_, h.canon.2.2.1⟩
  · rw [h.bs, e, List.append_assoc]; rfl
  · rw [h.lv, e]
  · rw [h.find]; exact if_neg hb0
/-- At its end: no half of two. -/
def lone1 : Tr → Bool
  | .nd _ _ => false
  | _ => true
/-- What a way down comes to. -/
structure FE (t : Tr) (p : List UInt8) (u : Tr) (bs : List (List UInt8)) : Prop where
  bs : bs = (t.way TgD 0 p).1
  lv : u.leaves = (t.way TgD 0 p).2
  find : Tr.find 0 t p = if isAtT p u then u.leaves.head? else none
  lone : lone1 u = true
theorem FI.fin {t u : Tr} {p : List UInt8} {d : Nat} {bs : List (List UInt8)} (h : FI t p d u bs) (hl : lone1 u = true) : FE t p u bs := by
  have h1 := h.bs
  have h2 := h.lv
  have h3 := h.find
  cases u with
  | emp => exact ⟨by rw [h1]; exact (List.append_nil _).symm, h2.symm, h3, hl⟩
  | lf x =>
    refine ⟨by rw [h1]; exact (List.append_nil _).symm, h2.symm, ?_, hl⟩
    rw [h3]
    show (if x.1 = p then some x else none) = if (x.1 == p) = true then some x else none
    by_cases e : x.1 = p
    · rw [if_pos e, if_pos (by rw [e]; exact beq_self_eq_true p)]
    · rw [if_neg e, if_neg (by rw [beq_iff_eq]; exact e)]
  | nd l r => cases hl
theorem FI.at256 {t u : Tr} {p : List UInt8} {bs : List (List UInt8)} (h : FI t p 256 u bs) : lone1 u = true := by
  cases u with
  | emp => rfl
  | lf x => rfl
  | nd l r => exact absurd h.canon.1 (by omega)
theorem HF.lone {w : World} {t : Tr} {q : Option Addr} (h : HF w t q) (hc : t.cnt < 2) : lone1 t = true := by
  cases t with
  | emp => rfl
  | lf x => rfl
  | nd l r =>
    obtain ⟨_, _, _, _, _, _, _, h2⟩ := h
    rw [Tr.cnt_nd] at hc
    omega
theorem lone_cnt {t : Tr} (h : lone1 t = true) : t.cnt ≤ 1 := by
  cases t with
  | emp => exact Nat.zero_le _
  | lf x => exact Nat.le_refl _
  | nd l r => cases h
theorem GL.xa {w : World} {t : TypeId} {lo n k : Nat} {a : Option Addr} {bs : List (List UInt8)} (h : GL w t 1 lo (.slice a n k) (bs.map fun x => [sv x])) : XA w a bs := by
  obtain ⟨a', c', e, hh⟩ := h.sl
  cases e
  intro i hi
  obtain ⟨g, rfl, h2⟩ := hh i (by rw [List.length_map]; exact hi)
  refine ⟨g, 0, rfl, ?_⟩
  have := h2 0 (sv bs[i]) (by simp)
  rw [Nat.mul_one, Nat.add_zero] at this
  rw [Nat.zero_add]
  exact this
/-- What find leaves. -/
def FindP (t : Tr) (p : List UInt8) (w : World) (e : Ending) (w' : World) : Prop :=
  ∃ a c bs u qu, e = .returned (.tuple #[.slice a bs.length c, .pointer qu]) ∧ XA w' a bs ∧ (∀ g o, a = some ⟨g, o, none⟩ → w.heap.size ≤ g) ∧ HF w u qu ∧ u.cnt ≤ 1 ∧ FE t p u bs ∧ Below w.heap.size w w'
/-- The memory between two rounds of find. -/
structure FM (w : World) (p : List UInt8) (lo B : Nat) (qh : Option Addr) (sl : Value) (bs : List (List UInt8)) (W : World) : Prop where
  h : Blk W w.heap.size #[.pointer qh] 71
  s : Blk W (w.heap.size + 1) #[sl] 48
  gl : GL W 9 1 lo sl (bs.map fun x => [sv x])
  path : Blk W B #[.string ⟨p.toArray⟩] 9
  below : Below w.heap.size w W
  size : lo ≤ W.heap.size
theorem FM.turn {w : World} {p : List UInt8} {lo B : Nat} {qh : Option Addr} {sl : Value} {bs : List (List UInt8)} {W W' : World} {row : Option Nat} (h : FM w p lo B qh sl bs W) (hl : w.heap.size ≤ lo) (hg : W.grownBy W' row) (hr : ∀ r, row = some r → lo ≤ r ∧ ∃ o : Obj, W.heap[r]? = some o ∧ o.isCells = false) : FM w p lo B qh sl bs W' :=
  ⟨h.h.turn hg (fun r e => (hr r e).2), h.s.turn hg (fun r e => (hr r e).2), h.gl.turn hg (fun r e => (hr r e).2), h.path.turn hg (fun r e => (hr r e).2), h.below.grown hg h.below.size (fun k e => Nat.le_trans hl (hr k e).1), Nat.le_trans h.size hg.size⟩
theorem FM.below' {w : World} {p : List UInt8} {lo B : Nat} {qh : Option Addr} {sl : Value} {bs : List (List UInt8)} {W W' : World} (h : FM w p lo B qh sl bs W) (hb : Below W.heap.size W W') : FM w p lo B qh sl bs W' :=
  ⟨h.h.belowSize hb, h.s.belowSize hb, h.gl.below hb, h.path.belowSize hb, h.below.trans (hb.mono h.below.size), Nat.le_trans h.size hb.size⟩
theorem FM.lo {w : World} {p : List UInt8} {lo B : Nat} {qh : Option Addr} {sl : Value} {bs : List (List UInt8)} {W : World} (h : FM w p lo B qh sl bs W) (_ : w.heap.size + 2 ≤ lo) : lo ≤ W.heap.size := h.size
/-- The same, with the slice that was made and not yet kept. -/
structure FM5 (w : World) (p : List UInt8) (lo B : Nat) (qh : Option Addr) (sl sl' : Value) (bs : List (List UInt8)) (W : World) : Prop where
  h : Blk W w.heap.size #[.pointer qh] 71
  s : Blk W (w.heap.size + 1) #[sl] 48
  gl : GL W 9 1 lo sl' (bs.map fun x => [sv x])
  path : Blk W B #[.string ⟨p.toArray⟩] 9
  below : Below w.heap.size w W
  size : lo ≤ W.heap.size
theorem FM.app {w : World} {p : List UInt8} {lo B : Nat} {qh : Option Addr} {sl sl' : Value} {bs : List (List UInt8)} {dg : List UInt8} {W W' : World} (h : FM w p lo B qh sl bs W) (hg : W.grownBy W' (slBlk sl)) (hG : GL W' 9 1 lo sl' ((bs.map fun x => [sv x]) ++ [[sv dg]])) (hlo : w.heap.size + 2 ≤ lo) (hB : B < lo) : FM5 w p lo B qh sl sl' (bs ++ [dg]) W' :=
  ⟨h.h.grown hg (fun e => h.gl.ne h.h (.inr (by omega)) _ e.symm rfl), h.s.grown hg (fun e => h.gl.ne h.s (.inr (by omega)) _ e.symm rfl), by rw [List.map_append]; exact hG, h.path.grown hg (fun e => h.gl.ne h.path (.inr hB) _ e.symm rfl), h.below.grown hg h.below.size (fun k e => by have := (h.gl.lt k e).1; omega), Nat.le_trans h.size hg.size⟩
theorem FM5.put {w : World} {p : List UInt8} {lo B : Nat} {qh : Option Addr} {sl sl' : Value} {bs : List (List UInt8)} {W : World} (h : FM5 w p lo B qh sl sl' bs W) (hlo : w.heap.size + 2 ≤ lo) (hB : w.heap.size + 1 < B) : FM w p lo B qh sl' bs (W.setCell ⟨w.heap.size + 1, 0, none⟩ sl') := by
  have hg := grown_setCell (w.heap.size + 1) sl' 0 W
  exact ⟨h.h.grown hg (fun e => by have := Option.some.inj e; omega), h.s.setCell 0 sl', h.gl.grown hg (h.gl.ne h.s (.inr (by omega))), h.path.grown hg (fun e => by have := Option.some.inj e; omega), h.below.grown hg h.below.size (fun k e => by cases e; omega), Nat.le_trans h.size hg.size⟩
theorem FM.move {w : World} {p : List UInt8} {lo B : Nat} {qh qn : Option Addr} {sl : Value} {bs : List (List UInt8)} {W : World} (h : FM w p lo B qh sl bs W) (hlo : w.heap.size + 2 ≤ lo) (hB : w.heap.size + 1 < B) : FM w p lo B qn sl bs (W.setCell ⟨w.heap.size, 0, none⟩ (.pointer qn)) := by
  have hg := grown_setCell w.heap.size (.pointer qn) 0 W
  exact ⟨h.h.setCell 0 (.pointer qn), h.s.grown hg (fun e => by have := Option.some.inj e; omega), h.gl.grown hg (h.gl.ne h.h (.inr (by omega))), h.path.grown hg (fun e => by have := Option.some.inj e; omega), h.below.grown hg h.below.size (fun k e => by cases e; omega), Nat.le_trans h.size hg.size⟩
theorem run_bsl1 {op : Oper} {a : Act} {w : World} (x : Operand) (ho : op.op = .buildSlice 48 1 #[(0, x)]) {u : List UInt8} (hx : a.eval x = .string ⟨u.toArray⟩) : (execOp a.eval op).run Tryd.prog w = .ok (.value (.slice (some ⟨w.heap.size, 0, none⟩) 1 1)) (w.alloc (.cells #[sv u] 9)) := by
  unfold execOp
  have e : (#[(0, x)] : Array (Nat × Operand)).map (fun (i, x) => (i, a.eval x)) = #[(0, sv u)] := by simp [hx, sv]
  have hr := tsl1 u w
  rw [← e] at hr
  simp only [ho, Sem.run_bind, hr, Result.andThen_ok]
  rfl
section
attribute [local go_sem] Oper.semAt_some
set_option maxRecDepth 100000 in
set_option maxHeartbeats 2000000 in
theorem find_any (t : Tr) (q : Option Addr) (p : List UInt8) (w : World) (h : HF w t q) (hc : Tr.Canon 0 t) (hp : p.length = 32) (hn : t.cnt ≤ 100000) :
    Calls Tryd.prog 44 #[.pointer q, .string ⟨p.toArray⟩] w (FindP t p w) := by
  obtain ⟨i9', hi9, hz9, hs9, hby9⟩ := info9
  replace hby9 : i9'.bytes ≤ 64 := by omega
  refine (callsIn_wide (n := 6)).1 (callsIn_of_wp_marks Tryd.func44 rfl trivial ?_ rfl)
  refine wpIn_wide.2 ?_
  simp only [Tryd.ntmps44, List.size_toArray, List.length_cons, List.length_nil, Nat.reduceAdd, Nat.reduceSub, Array.replicate_succ, Array.replicate_zero, List.push_toArray, List.append_toArray, List.nil_append, List.cons_append]
  have HW := way_any p
  go_wp2_with (go_at_call 54; refine (HW _).mono ?_; rintro e w2 ⟨rfl, hb2, hw2⟩)
  clear HW
  have hA : Below w.heap.size w ((w.alloc (.cells #[.pointer q] 71)).alloc (.cells #[.slice none 0 0] 48)) := ((Below.refl _ w).alloc (Nat.le_refl _) _).alloc (by simp) _
  have hBh : Blk ((w.alloc (.cells #[.pointer q] 71)).alloc (.cells #[.slice none 0 0] 48)) w.heap.size #[.pointer q] 71 := (Blk.new w _ _).alloc _
  have hBs : Blk ((w.alloc (.cells #[.pointer q] 71)).alloc (.cells #[.slice none 0 0] 48)) (w.heap.size + 1) #[.slice none 0 0] 48 := by
    have := Blk.new (w.alloc (.cells #[.pointer q] 71)) #[.slice none 0 0] 48
    rwa [World.size_alloc] at this
  have hsz : ((w.alloc (.cells #[.pointer q] 71)).alloc (.cells #[.slice none 0 0] 48)).heap.size = w.heap.size + 1 + 1 := by simp
  rw [hsz] at hb2
  have hlo : w.heap.size + 2 ≤ w2.heap.size := by have := hw2.size; rw [hsz] at this; exact this
  have hlt : w.heap.size + 1 + 1 < w2.heap.size := hb2.lt
  have M2 : FM w p w2.heap.size (w.heap.size + 1 + 1) q (.slice none 0 0) [] w2 := ⟨hBh.belowSize hw2, hBs.belowSize hw2, GL.nil _ _ _ _, hb2, hA.trans (hw2.mono hA.size), Nat.le_refl _⟩
  clear hA hBh hBs hsz hw2
  generalize ((w.alloc (.cells #[.pointer q] 71)).alloc (.cells #[.slice none 0 0] 48)) = w1 at *
  obtain ⟨lo, hlo'⟩ : ∃ lo, w2.heap.size = lo := ⟨_, rfl⟩
  obtain ⟨B, hB'⟩ : ∃ B, w.heap.size + 1 + 1 = B := ⟨_, rfl⟩
  rw [hlo'] at hlo hlt M2
  rw [hB'] at hlt M2 hb2
  have hBs1 : w.heap.size + 1 < B := by omega
  refine (wpIn_wide (n := 6)).1 ?_
  rw [hB']
  refine wpIn_rangeFunc_ownG rfl (by omega) (gf := 73) (lb := #[.pointer (some ⟨B, 0, none⟩)]) rfl trivial (enters_of Tryd.func73 (by kernel_rfl) rfl)
    (way_stops 5 (by omega) B p hp w2 hb2) kpW_t (kpW_b (w := w2)) (Below.refl _ _) (fun _ => rfl)
    (fun pre W => ∃ td qh sl bs, FM w p lo B qh sl bs W ∧ HF w td qh ∧ td.cnt ≤ 100000 ∧ bs.length ≤ pre.length ∧ Hid (IsW pre → FI t p pre.length td bs))
    (fun c pre W => c = .exit 0 ∧ ∃ td qh sl bs, FM w p lo B qh sl bs W ∧ HF w td qh ∧ td.cnt < 2 ∧ Hid (IsW pre → FI t p (pre.length - 1) td bs))
    (fun s W W' row hs hg hr => by
      obtain ⟨td, qh, sl, bs, hM, hrest⟩ := hs
      exact ⟨td, qh, sl, bs, hM.turn (by omega) hg (by rw [hlo'] at hr; exact hr), hrest⟩)
    (fun c s W W' row hs hg hr => by
      obtain ⟨hc, td, qh, sl, bs, hM, hrest⟩ := hs
      exact ⟨hc, td, qh, sl, bs, hM.turn (by omega) hg (by rw [hlo'] at hr; exact hr), hrest⟩)
    ⟨t, q, _, [], M2, h, hn, Nat.le_refl _, fun _ => FI.start p hc⟩
    (fun x => { tmps := #[.pointer q, .string ⟨p.toArray⟩, .pointer (some ⟨w.heap.size, 0, none⟩), undef, .slice none 0 0, .pointer none, .pointer (some ⟨w.heap.size + 1, 0, none⟩), undef, .int .i64 ((bitD p x.1 : Nat) : Int), .string ⟨p.toArray⟩, .func (.func 73) #[] #[.pointer (some ⟨B, 0, none⟩)], .int .i64 ((x.1 : Nat) : Int), .int .i64 ((bitD p x.1 : Nat) : Int), undef, undef, undef, undef, undef, undef, undef, undef, undef, undef, undef, undef, undef, undef, undef, undef, undef, undef, undef, undef, undef, undef], defers := [] }) ?assign ?body ?done ?stop
  case assign =>
    intro l x W K hK
    gi_wp2
    exact hK
  case body =>
    rintro l pre x W ⟨td, qh, sl, bs, hM, hf, hcn, hbl, hFI⟩ hlt2
    have HC := count_any td qh W (hf.below hM.below)
    have ch : W.cell? ⟨w.heap.size, 0, none⟩ = some (.pointer qh) := hM.h.cell 0
    have cs : W.cell? ⟨w.heap.size + 1, 0, none⟩ = some sl := hM.s.cell 0
    by_cases h2 : td.cnt < 2
    · have h2i : (td.cnt : Int) < 2 := by omega
      gi_wp2_with (refine ⟨trivial, ?_⟩; gi_at_call 39; refine (CallsIn.inRound l (callsIn_wide.2 HC)).mono ?_; rintro e w3 ⟨rfl, hw3⟩; have hw3 := hw3.symm; subst hw3)
      refine ⟨(NC.refl _).from _, rfl, td, qh, sl, bs, hM, hf, h2, fun hW => ?_⟩
      rw [List.length_append, List.length_singleton, Nat.add_sub_cancel]
      exact hFI.out (hW.snoc hlt2).1
    · cases td with
      | emp => exact absurd h2 (by decide)
      | lf y => exact absurd h2 (fun h => h (by show 1 < 2; decide))
      | nd tl tr =>
        obtain ⟨b, pl, pr, rfl, hb, hl, hr, h22⟩ := hf
        rw [Tr.cnt_nd] at HC hcn
        have hbit := bitD_lt p x.1
        have hFI' := fun (hW : IsW (pre ++ [x])) => hFI.out (hW.snoc hlt2).1
        have hxe := fun (hW : IsW (pre ++ [x])) => (hW.snoc hlt2).2
        have hlp := hl.below hM.below
        have hrp := hr.below hM.below
        obtain ⟨c0, c1, c2, c3, c4, c5⟩ := half_cells (hb.belowSize hM.below)
        have hlbx : b < w.heap.size := hb.lt
        generalize hcl : tl.cnt + tr.cnt = nn at *
        have h2i : ¬ (nn : Int) < 2 := by omega
        by_cases hb0 : bitD p x.1 = 0
        · rw [hb0]
          gi_upto_region 5 with (refine ⟨trivial, ?_⟩; gi_at_call 39; refine (CallsIn.inRound l (callsIn_wide.2 HC)).mono ?_; rintro e w3 ⟨rfl, hw3⟩; have hw3 := hw3.symm; subst hw3)
          have HH := hhash_any tr pr W.drew hrp.drew
          obtain ⟨dg, hdg⟩ : ∃ dg, tr.hash TgD = dg := ⟨_, rfl⟩
          rw [hdg] at HH
          have M0 := hM.below' (Below.refl W.heap.size W).drew
          have hcb : ∀ {V : World} {o : Nat} {v : Value}, Below w.heap.size w V → W.cell? ⟨b, o, none⟩ = some v → V.cell? ⟨b, o, none⟩ = some v := fun hV hv => by rw [hV.cell (p := ⟨b, _, none⟩) hlbx, ← hM.below.cell (p := ⟨b, _, none⟩) hlbx]; exact hv
          have hS3 : ∀ {V : World}, FM w p lo B (some ⟨b, 0, none⟩) sl bs V → V.cell? ⟨w.heap.size, 0, none⟩ = some (.pointer (some ⟨b, 0, none⟩)) ∧ V.cell? ⟨w.heap.size + 1, 0, none⟩ = some sl ∧ V.cell? ⟨b, 5, none⟩ = some (.pointer pr) := fun M => ⟨M.h.cell 0, M.s.cell 0, hcb M.below c5⟩
          have s0 := hS3 M0
          refine region_in_L (z := 11) (S := fun V => V.cell? ⟨w.heap.size, 0, none⟩ = some (.pointer (some ⟨b, 0, none⟩)) ∧ V.cell? ⟨w.heap.size + 1, 0, none⟩ = some sl ∧ V.cell? ⟨b, 5, none⟩ = some (.pointer pr)) (by kernel_rfl) (by rintro ⟨_, _, h⟩; exact h) (by kernel_rfl) ?_
          refine wpAnyL_take (i := 0) (oi := ⟨some 16, _, _, _, _, _⟩) (v := sl) rfl (by kernel_rfl) (by kernel_rfl) (by kernel_rfl) (by kernel_rfl) (fun _ _ _ h => h) (Or.inl ⟨by rfl, fun w hSw => by (try dsimp only at hSw); obtain ⟨r0, r1, r2⟩ := hSw; go_simp⟩) s0 ?_
          refine wpAnyL_take (i := 1) (oi := ⟨some 17, _, _, _, _, _⟩) (v := .pointer (some ⟨b, 0, none⟩)) rfl (by kernel_rfl) (by kernel_rfl) (by kernel_rfl) (by kernel_rfl) (fun _ _ _ h => h) (Or.inl ⟨by rfl, fun w hSw => by (try dsimp only at hSw); obtain ⟨r0, r1, r2⟩ := hSw; go_simp⟩) s0 ?_
          refine wpAnyL_take (i := 2) (oi := ⟨some 18, _, _, _, _, _⟩) (v := .int .i64 0) rfl (by kernel_rfl) (by kernel_rfl) (by kernel_rfl) (by kernel_rfl) (fun _ _ _ h => h) (Or.inl ⟨by rfl, fun w hSw => by (go_simp; try rfl)⟩) s0 ?_
          try simp only [Act.put, List.setIfInBounds_toArray, List.set_cons_zero, List.set_cons_succ]
          refine wpAnyL_take (i := 3) (oi := ⟨some 19, _, _, _, _, _⟩) (v := .int .i64 1) rfl (by kernel_rfl) (by kernel_rfl) (by kernel_rfl) (by kernel_rfl) (fun _ _ _ h => h) (Or.inl ⟨by rfl, fun w hSw => by (go_simp; try rfl)⟩) s0 ?_
          try simp only [Act.put, List.setIfInBounds_toArray, List.set_cons_zero, List.set_cons_succ]
          refine wpAnyL_take (i := 4) (oi := ⟨some 20, _, _, _, _, _⟩) (v := .pointer (some ⟨b, 0, none⟩)) rfl (by kernel_rfl) (by kernel_rfl) (by kernel_rfl) (by kernel_rfl) (fun _ _ _ h => h) (Or.inl ⟨by rfl, fun w hSw => by (go_simp; try rfl)⟩) s0 ?_
          try simp only [Act.put, List.setIfInBounds_toArray, List.set_cons_zero, List.set_cons_succ]
          refine wpAnyL_take (i := 5) (oi := ⟨some 21, _, _, _, _, _⟩) (v := .pointer (some ⟨b, 4, none⟩)) rfl (by kernel_rfl) (by kernel_rfl) (by kernel_rfl) (by kernel_rfl) (fun _ _ _ h => h) (Or.inl ⟨by rfl, fun w hSw => by (go_simp; try rfl)⟩) s0 ?_
          try simp only [Act.put, List.setIfInBounds_toArray, List.set_cons_zero, List.set_cons_succ]
          refine wpAnyL_take (i := 6) (oi := ⟨some 22, _, _, _, _, _⟩) (v := .pointer (some ⟨b, 5, none⟩)) rfl (by kernel_rfl) (by kernel_rfl) (by kernel_rfl) (by kernel_rfl) (fun _ _ _ h => h) (Or.inl ⟨by rfl, fun w hSw => by (go_simp; try rfl)⟩) s0 ?_
          try simp only [Act.put, List.setIfInBounds_toArray, List.set_cons_zero, List.set_cons_succ]
          refine wpAnyL_take (i := 7) (oi := ⟨some 23, _, _, _, _, _⟩) (v := .pointer pr) rfl (by kernel_rfl) (by kernel_rfl) (by kernel_rfl) (by kernel_rfl) (fun _ _ _ h => h) (Or.inl ⟨by rfl, fun w hSw => by (try dsimp only at hSw); obtain ⟨r0, r1, r2⟩ := hSw; go_simp⟩) s0 ?_
          try simp only [Act.put, List.setIfInBounds_toArray, List.set_cons_zero, List.set_cons_succ]
          refine wpAnyL_one (i := 8) (o := ⟨some 24, .call ⟨.value (.func 40), #[.tmp 23], #[71]⟩, _, _, _, _⟩) rfl (by kernel_rfl) (fun K hK => ?_)
          rw [if_pos (by rfl)]
          go_simp
          refine (HH).mono ?_
          rintro e w3 ⟨rfl, hw3⟩
          have M3 := M0.below' hw3
          have s1 := hS3 M3
          refine hK.out _ _ (fun _ => s1) ?_
          clear hK K
          try simp only [Act.put, List.setIfInBounds_toArray, List.set_cons_zero, List.set_cons_succ]
          try simp only [Act.put, List.setIfInBounds_toArray, List.set_cons_zero, List.set_cons_succ]
          refine wpAnyL_one (i := 9) (o := ⟨some 25, .buildSlice 48 1 #[(0, .tmp 24)], _, _, _, _⟩) rfl (by kernel_rfl) (fun K hK => ?_)
          rw [if_pos (by rfl)]
          refine wp_runK (.slice (some ⟨w3.heap.size, 0, none⟩) 1 1) (w3.alloc (.cells #[sv dg] 9)) (run_bsl1 _ rfl rfl) ?_
          have hw4 : Below w3.heap.size w3 (w3.alloc (.cells #[sv dg] 9)) := (Below.refl _ _).alloc (Nat.le_refl _) _
          have hb4 := Blk.new w3 #[sv dg] 9
          generalize w3.alloc (.cells #[sv dg] 9) = w4 at *
          have M4 := M3.below' hw4
          have s2 := hS3 M4
          refine hK.out _ _ (fun _ => s2) ?_
          clear hK K
          try simp only [Act.put, List.setIfInBounds_toArray, List.set_cons_zero, List.set_cons_succ]
          refine wpAnyL_one (i := 10) (o := ⟨some 26, .call ⟨.builtin .append, #[.tmp 16, .tmp 25], #[48, 48]⟩, _, _, _, _⟩) rfl (by kernel_rfl) (fun K hK => ?_)
          refine step_appGL rfl _ _ 48 9 rfl 1 lo sl _ M4.size rfl M4.gl w3.heap.size 1 rfl [sv dg] rfl (by simp [sv, Value.oneCell']) 9 hb4 i9' (.string ⟨#[]⟩) rfl Tryd.underlying48 hi9 hz9 hs9 hby9 (by rw [List.length_map]; omega) ?_
          intro w5 sl5 hg5 hG5
          have M5 := M4.app hg5 hG5 hlo hlt
          have s3 : w5.cell? ⟨w.heap.size, 0, none⟩ = some (.pointer (some ⟨b, 0, none⟩)) ∧ w5.cell? ⟨w.heap.size + 1, 0, none⟩ = some sl ∧ w5.cell? ⟨b, 5, none⟩ = some (.pointer pr) := ⟨M5.h.cell 0, M5.s.cell 0, hcb M5.below c5⟩
          have NC5 : NC W w5 := (((NC.below (Below.refl W.heap.size W).drew).trans (NC.below hw3)).trans (NC.below hw4)).trans (NC.app hg5 M4.gl)
          obtain ⟨a5, k5, e5, _⟩ := hG5.sl
          generalize List.length _ = n5 at e5
          subst e5
          refine hK.out _ _ (fun _ => s3) ?_
          clear hK K
          try simp only [Act.put, List.setIfInBounds_toArray, List.set_cons_zero, List.set_cons_succ]
          refine wpAnyL_one (i := 11) (o := ⟨none, .store 48 (.tmp 6) (.tmp 26), _, _, _, _⟩) rfl (by kernel_rfl) (fun K hK => ?_)
          rw [if_pos (by rfl)]
          have f5 := M5.s.frozen 0
          obtain ⟨_, s31, _⟩ := s3
          go_simp
          have M6 := M5.put hlo hBs1
          have NC6 := NC5.trans (NC.blk (grown_setCell (w.heap.size + 1) (.slice a5 n5 k5) 0 w5) M5.s)
          refine hK.out _ _ (fun h => absurd rfl h) ?_
          clear hK K
          try simp only [Act.put, List.setIfInBounds_toArray, List.set_cons_zero, List.set_cons_succ]
          refine wpAnyL_done (by kernel_rfl) ?_ _
          generalize w5.setCell ⟨w.heap.size + 1, 0, none⟩ (.slice a5 n5 k5) = w6 at *
          have q0 : w6.cell? ⟨w.heap.size, 0, none⟩ = some (.pointer (some ⟨b, 0, none⟩)) := M6.h.cell 0
          have q1 := M6.h.frozen 0
          have q2 : w6.cell? ⟨b, 4, none⟩ = some (.pointer pl) := hcb M6.below c4
          gi_wp2
          have M7 := M6.move (qn := pl) hlo hBs1
          have NC7 := NC6.trans (NC.blk (grown_setCell w.heap.size (.pointer pl) 0 w6) M6.h)
          refine ⟨NC7.from _, fun _ => M7.path, tl, pl, _, _, M7, hl, by omega, by simp; omega, fun hW => ?_⟩
          rw [List.length_append, List.length_singleton, ← hdg]
          have e := hxe hW
          exact (hFI' hW).left (by rw [← e]; exact hb0)
        · have hb1 : bitD p x.1 = 1 := by omega
          rw [hb1]
          gi_upto_region 5 with (refine ⟨trivial, ?_⟩; gi_at_call 39; refine (CallsIn.inRound l (callsIn_wide.2 HC)).mono ?_; rintro e w3 ⟨rfl, hw3⟩; have hw3 := hw3.symm; subst hw3)
          have HH := hhash_any tl pl W.drew hlp.drew
          obtain ⟨dg, hdg⟩ : ∃ dg, tl.hash TgD = dg := ⟨_, rfl⟩
          rw [hdg] at HH
          have M0 := hM.below' (Below.refl W.heap.size W).drew
          have hcb : ∀ {V : World} {o : Nat} {v : Value}, Below w.heap.size w V → W.cell? ⟨b, o, none⟩ = some v → V.cell? ⟨b, o, none⟩ = some v := fun hV hv => by rw [hV.cell (p := ⟨b, _, none⟩) hlbx, ← hM.below.cell (p := ⟨b, _, none⟩) hlbx]; exact hv
          have hS3 : ∀ {V : World}, FM w p lo B (some ⟨b, 0, none⟩) sl bs V → V.cell? ⟨w.heap.size, 0, none⟩ = some (.pointer (some ⟨b, 0, none⟩)) ∧ V.cell? ⟨w.heap.size + 1, 0, none⟩ = some sl ∧ V.cell? ⟨b, 4, none⟩ = some (.pointer pl) := fun M => ⟨M.h.cell 0, M.s.cell 0, hcb M.below c4⟩
          have s0 := hS3 M0
          refine region_in_L (z := 11) (S := fun V => V.cell? ⟨w.heap.size, 0, none⟩ = some (.pointer (some ⟨b, 0, none⟩)) ∧ V.cell? ⟨w.heap.size + 1, 0, none⟩ = some sl ∧ V.cell? ⟨b, 4, none⟩ = some (.pointer pl)) (by kernel_rfl) (by rintro ⟨_, _, h⟩; exact h) (by kernel_rfl) ?_
          refine wpAnyL_take (i := 0) (oi := ⟨some 16, _, _, _, _, _⟩) (v := sl) rfl (by kernel_rfl) (by kernel_rfl) (by kernel_rfl) (by kernel_rfl) (fun _ _ _ h => h) (Or.inl ⟨by rfl, fun w hSw => by (try dsimp only at hSw); obtain ⟨r0, r1, r2⟩ := hSw; go_simp⟩) s0 ?_
          refine wpAnyL_take (i := 1) (oi := ⟨some 17, _, _, _, _, _⟩) (v := .pointer (some ⟨b, 0, none⟩)) rfl (by kernel_rfl) (by kernel_rfl) (by kernel_rfl) (by kernel_rfl) (fun _ _ _ h => h) (Or.inl ⟨by rfl, fun w hSw => by (try dsimp only at hSw); obtain ⟨r0, r1, r2⟩ := hSw; go_simp⟩) s0 ?_
          refine wpAnyL_take (i := 2) (oi := ⟨some 18, _, _, _, _, _⟩) (v := .int .i64 1) rfl (by kernel_rfl) (by kernel_rfl) (by kernel_rfl) (by kernel_rfl) (fun _ _ _ h => h) (Or.inl ⟨by rfl, fun w hSw => by (go_simp; try rfl)⟩) s0 ?_
          try simp only [Act.put, List.setIfInBounds_toArray, List.set_cons_zero, List.set_cons_succ]
          refine wpAnyL_take (i := 3) (oi := ⟨some 19, _, _, _, _, _⟩) (v := .int .i64 0) rfl (by kernel_rfl) (by kernel_rfl) (by kernel_rfl) (by kernel_rfl) (fun _ _ _ h => h) (Or.inl ⟨by rfl, fun w hSw => by (go_simp; try rfl)⟩) s0 ?_
          try simp only [Act.put, List.setIfInBounds_toArray, List.set_cons_zero, List.set_cons_succ]
          refine wpAnyL_take (i := 4) (oi := ⟨some 20, _, _, _, _, _⟩) (v := .pointer (some ⟨b, 0, none⟩)) rfl (by kernel_rfl) (by kernel_rfl) (by kernel_rfl) (by kernel_rfl) (fun _ _ _ h => h) (Or.inl ⟨by rfl, fun w hSw => by (go_simp; try rfl)⟩) s0 ?_
          try simp only [Act.put, List.setIfInBounds_toArray, List.set_cons_zero, List.set_cons_succ]
          refine wpAnyL_take (i := 5) (oi := ⟨some 21, _, _, _, _, _⟩) (v := .pointer (some ⟨b, 4, none⟩)) rfl (by kernel_rfl) (by kernel_rfl) (by kernel_rfl) (by kernel_rfl) (fun _ _ _ h => h) (Or.inl ⟨by rfl, fun w hSw => by (go_simp; try rfl)⟩) s0 ?_
          try simp only [Act.put, List.setIfInBounds_toArray, List.set_cons_zero, List.set_cons_succ]
          refine wpAnyL_take (i := 6) (oi := ⟨some 22, _, _, _, _, _⟩) (v := .pointer (some ⟨b, 4, none⟩)) rfl (by kernel_rfl) (by kernel_rfl) (by kernel_rfl) (by kernel_rfl) (fun _ _ _ h => h) (Or.inl ⟨by rfl, fun w hSw => by (go_simp; try rfl)⟩) s0 ?_
          try simp only [Act.put, List.setIfInBounds_toArray, List.set_cons_zero, List.set_cons_succ]
          refine wpAnyL_take (i := 7) (oi := ⟨some 23, _, _, _, _, _⟩) (v := .pointer pl) rfl (by kernel_rfl) (by kernel_rfl) (by kernel_rfl) (by kernel_rfl) (fun _ _ _ h => h) (Or.inl ⟨by rfl, fun w hSw => by (try dsimp only at hSw); obtain ⟨r0, r1, r2⟩ := hSw; go_simp⟩) s0 ?_
          try simp only [Act.put, List.setIfInBounds_toArray, List.set_cons_zero, List.set_cons_succ]
          refine wpAnyL_one (i := 8) (o := ⟨some 24, .call ⟨.value (.func 40), #[.tmp 23], #[71]⟩, _, _, _, _⟩) rfl (by kernel_rfl) (fun K hK => ?_)
          rw [if_pos (by rfl)]
          go_simp
          refine (HH).mono ?_
          rintro e w3 ⟨rfl, hw3⟩
          have M3 := M0.below' hw3
          have s1 := hS3 M3
          refine hK.out _ _ (fun _ => s1) ?_
          clear hK K
          try simp only [Act.put, List.setIfInBounds_toArray, List.set_cons_zero, List.set_cons_succ]
          try simp only [Act.put, List.setIfInBounds_toArray, List.set_cons_zero, List.set_cons_succ]
          refine wpAnyL_one (i := 9) (o := ⟨some 25, .buildSlice 48 1 #[(0, .tmp 24)], _, _, _, _⟩) rfl (by kernel_rfl) (fun K hK => ?_)
          rw [if_pos (by rfl)]
          refine wp_runK (.slice (some ⟨w3.heap.size, 0, none⟩) 1 1) (w3.alloc (.cells #[sv dg] 9)) (run_bsl1 _ rfl rfl) ?_
          have hw4 : Below w3.heap.size w3 (w3.alloc (.cells #[sv dg] 9)) := (Below.refl _ _).alloc (Nat.le_refl _) _
          have hb4 := Blk.new w3 #[sv dg] 9
          generalize w3.alloc (.cells #[sv dg] 9) = w4 at *
          have M4 := M3.below' hw4
          have s2 := hS3 M4
          refine hK.out _ _ (fun _ => s2) ?_
          clear hK K
          try simp only [Act.put, List.setIfInBounds_toArray, List.set_cons_zero, List.set_cons_succ]
          refine wpAnyL_one (i := 10) (o := ⟨some 26, .call ⟨.builtin .append, #[.tmp 16, .tmp 25], #[48, 48]⟩, _, _, _, _⟩) rfl (by kernel_rfl) (fun K hK => ?_)
          refine step_appGL rfl _ _ 48 9 rfl 1 lo sl _ M4.size rfl M4.gl w3.heap.size 1 rfl [sv dg] rfl (by simp [sv, Value.oneCell']) 9 hb4 i9' (.string ⟨#[]⟩) rfl Tryd.underlying48 hi9 hz9 hs9 hby9 (by rw [List.length_map]; omega) ?_
          intro w5 sl5 hg5 hG5
          have M5 := M4.app hg5 hG5 hlo hlt
          have s3 : w5.cell? ⟨w.heap.size, 0, none⟩ = some (.pointer (some ⟨b, 0, none⟩)) ∧ w5.cell? ⟨w.heap.size + 1, 0, none⟩ = some sl ∧ w5.cell? ⟨b, 4, none⟩ = some (.pointer pl) := ⟨M5.h.cell 0, M5.s.cell 0, hcb M5.below c4⟩
          have NC5 : NC W w5 := (((NC.below (Below.refl W.heap.size W).drew).trans (NC.below hw3)).trans (NC.below hw4)).trans (NC.app hg5 M4.gl)
          obtain ⟨a5, k5, e5, _⟩ := hG5.sl
          generalize List.length _ = n5 at e5
          subst e5
          refine hK.out _ _ (fun _ => s3) ?_
          clear hK K
          try simp only [Act.put, List.setIfInBounds_toArray, List.set_cons_zero, List.set_cons_succ]
          refine wpAnyL_one (i := 11) (o := ⟨none, .store 48 (.tmp 6) (.tmp 26), _, _, _, _⟩) rfl (by kernel_rfl) (fun K hK => ?_)
          rw [if_pos (by rfl)]
          have f5 := M5.s.frozen 0
          obtain ⟨_, s31, _⟩ := s3
          go_simp
          have M6 := M5.put hlo hBs1
          have NC6 := NC5.trans (NC.blk (grown_setCell (w.heap.size + 1) (.slice a5 n5 k5) 0 w5) M5.s)
          refine hK.out _ _ (fun h => absurd rfl h) ?_
          clear hK K
          try simp only [Act.put, List.setIfInBounds_toArray, List.set_cons_zero, List.set_cons_succ]
          refine wpAnyL_done (by kernel_rfl) ?_ _
          generalize w5.setCell ⟨w.heap.size + 1, 0, none⟩ (.slice a5 n5 k5) = w6 at *
          have q0 : w6.cell? ⟨w.heap.size, 0, none⟩ = some (.pointer (some ⟨b, 0, none⟩)) := M6.h.cell 0
          have q1 := M6.h.frozen 0
          have q2 : w6.cell? ⟨b, 5, none⟩ = some (.pointer pr) := hcb M6.below c5
          gi_wp2
          have M7 := M6.move (qn := pr) hlo hBs1
          have NC7 := NC6.trans (NC.blk (grown_setCell w.heap.size (.pointer pr) 0 w6) M6.h)
          refine ⟨NC7.from _, fun _ => M7.path, tr, pr, _, _, M7, hr, by omega, by simp; omega, fun hW => ?_⟩
          rw [List.length_append, List.length_singleton, ← hdg]
          have e := hxe hW
          exact (hFI' hW).right (by rw [← e]; exact hb1)
  case done =>
    rintro D ys W hD rfl ⟨td, qh, sl, bs, hM, hf, hcn, hbl, hFI⟩ hK
    have hfin : FE t p td bs := by
      have := hFI.out IsW.all
      rw [allW_len] at this
      exact this.fin this.at256
    have d0 : W.drew.cell? ⟨w.heap.size, 0, none⟩ = some (.pointer qh) ∧ W.drew.cell? ⟨w.heap.size + 1, 0, none⟩ = some sl := ⟨hM.h.drew.cell 0, hM.s.drew.cell 0⟩
    obtain ⟨a, k, rfl, hGa⟩ := hM.gl.sl
    go_upto_region 7 with fail
    go_region_held3 (fun V => V.cell? ⟨w.heap.size, 0, none⟩ = some (.pointer qh) ∧ V.cell? ⟨w.heap.size + 1, 0, none⟩ = some (.slice a (bs.map fun x => [sv x]).length k)) (assumption) (fail)
    go_wp2_with fail
    have hKd : W.drew.heap[D]? = some (.deferred (some [])) := hK
    refine ⟨by simp, .inl ⟨_, _, rfl, run_takeDeferred hKd, ?_⟩⟩
    have hG8 := hM.gl.drew.turn (grownBy_putObj' W.drew D (.deferred none)) (fun r e => by cases e; exact ⟨_, hKd, rfl⟩)
    have hB8 : Below w.heap.size w W.drew := hM.below.drew
    refine ⟨_, results_tmp2 rfl _ _ _, a, k, bs, td, qh, rfl, hG8.xa, (fun g o e => by have := (hG8.lt g (by rw [e]; rfl)).1; omega), hf, lone_cnt hfin.lone, hfin, hB8.trans (belowK_b (w := w) (Nat.le_refl _) W.drew D _ _ (by omega) hKd rfl rfl)⟩
  case stop =>
    rintro D c pre W hD ⟨j, hj, rfl⟩ ⟨rfl, td, qh, sl, bs, hM, hf, h2, hFI⟩ hK
    have hfin : FE t p td bs := (hFI.out (IsW.take hj)).fin (hf.lone h2)
    have d0 : W.drew.cell? ⟨w.heap.size, 0, none⟩ = some (.pointer qh) ∧ W.drew.cell? ⟨w.heap.size + 1, 0, none⟩ = some sl := ⟨hM.h.drew.cell 0, hM.s.drew.cell 0⟩
    obtain ⟨a, k, rfl, hGa⟩ := hM.gl.sl
    refine wpIn_exit ?_
    go_upto_region 7 with fail
    go_region_held3 (fun V => V.cell? ⟨w.heap.size, 0, none⟩ = some (.pointer qh) ∧ V.cell? ⟨w.heap.size + 1, 0, none⟩ = some (.slice a (bs.map fun x => [sv x]).length k)) (assumption) (fail)
    go_wp2_with fail
    have hKd : W.drew.heap[D]? = some (.deferred (some [])) := hK
    refine ⟨by simp, .inl ⟨_, _, rfl, run_takeDeferred hKd, ?_⟩⟩
    have hG8 := hM.gl.drew.turn (grownBy_putObj' W.drew D (.deferred none)) (fun r e => by cases e; exact ⟨_, hKd, rfl⟩)
    have hB8 : Below w.heap.size w W.drew := hM.below.drew
    refine ⟨_, results_tmp2 rfl _ _ _, a, k, bs, td, qh, rfl, hG8.xa, (fun g o e => by have := (hG8.lt g (by rw [e]; rfl)).1; omega), hf, lone_cnt hfin.lone, hfin, hB8.trans (belowK_b (w := w) (Nat.le_refl _) W.drew D _ _ (by omega) hKd rfl rfl)⟩
end
end Go.Proofs.YtmeolaeoaoldoaaDoor.Sh
