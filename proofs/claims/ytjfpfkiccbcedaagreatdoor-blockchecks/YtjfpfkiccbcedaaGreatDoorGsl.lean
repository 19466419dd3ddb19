/- The way of a path: a function that is ranged over. A slice of things of so many cells each that grows, or nil: what it holds, and appending to it; all but its own block is as it was. -/
import Derived.Test.YtjfpfkiccbcedaaGreatDoorShc
import Derived.Test.YtjfpfkiccbcedaaGreatDoorSSl
namespace Go.Proofs.YtjfpfkiccbcedaaGreatDoor.Sh
open Go Go.RowKit Go.Shelf
set_option maxRecDepth 100000 in
theorem way_any (p : List UInt8) (w : World) : Calls Tryz.prog 181 #[.string ⟨p.toArray⟩] w fun e w' => e = .returned (.func (.func 203) #[] #[.pointer (some ⟨w.heap.size, 0, none⟩)]) ∧ Blk w' w.heap.size #[.string ⟨p.toArray⟩] 9 ∧ Below w.heap.size w w' := by
  go_enter Tryz.func181, Tryz.ntmps181
  go_wp2_with fail
  go_ret
  exact ⟨rfl, Blk.new _ _ _, (Below.refl _ _).alloc (Nat.le_refl _) _⟩
abbrev encW (p : List UInt8) (i : Fin 256) : Array Value := #[.int .i64 ((i.1 : Nat) : Int), .int .i64 ((bitD p i.1 : Nat) : Int)]
def allW : List (Fin 256) := List.finRange 256
theorem allW_len : allW.length = 256 := List.length_finRange
theorem allW_take {k : Nat} (h : k < 256) : allW.take (k + 1) = allW.take k ++ [⟨k, h⟩] := by
  rw [List.take_succ_eq_append_getElem (by rw [allW_len]; exact h)]
  congr 2
  unfold allW
  rw [List.getElem_finRange]
  rfl
abbrev KpW (B : Nat) (p : List UInt8) (W W' : World) : Prop := Blk W B #[.string ⟨p.toArray⟩] 9 → Blk W' B #[.string ⟨p.toArray⟩] 9
section
attribute [local go_sem] Oper.semAt_some
set_option maxRecDepth 100000 in
set_option maxHeartbeats 2000000 in
theorem way1_in (n : Nat) (hn : 1 ≤ n) (l B : Nat) (p : List UInt8) (hp : p.length = 32) (J Jx : List (Fin 256) → World → Prop)
    (hY : ∀ pre x W, J pre W → pre.length < 256 → YieldAt Fence.wide (n - 1) Tryz.prog l (encW p x) W fun e W' =>
      (e = .returned (.bool true) ∧ J (pre ++ [x]) W' ∧ KpW B p W W') ∨ (e = .returned (.bool false) ∧ Jx (pre ++ [x]) W'))
    (W : World) (hI : Blk W B #[.string ⟨p.toArray⟩] 9) (h0 : J [] W) :
    CallsIn Fence.wide n Tryz.prog 203 #[.func (.yield l) #[] #[], .pointer (some ⟨B, 0, none⟩)] W fun e W' => (∃ v, e = .returned v) ∧
      ((∃ ys, ys = allW ∧ J ys W') ∨ (∃ pre, (∃ k, k ≤ 256 ∧ pre = allW.take k) ∧ Jx pre W')) := by
  refine callsIn_of_wp Tryz.func203 rfl trivial ?_ rfl
  simp only [Tryz.ntmps203, List.size_toArray, List.length_cons, List.length_nil, Nat.reduceAdd, Nat.reduceSub, Array.replicate_succ, Array.replicate_zero, List.push_toArray, List.append_toArray, List.nil_append, List.cons_append]
  gi_wp2
  gi_loopw [4] (fun i wr => ∃ k : Nat, k ≤ 256 ∧ i = .int .i64 k ∧ J (allW.take k) wr ∧ Blk wr B #[.string ⟨p.toArray⟩] 9)
    (fun i _ => 256 - (intOf i).toNat)
  case atStart => exact ⟨0, Nat.zero_le _, rfl, h0, hI⟩
  case round =>
    obtain ⟨k, hk, rfl, hJs, hIr⟩ := hrel
    by_cases hlt : k < 256
    · have hTk := allW_take hlt
      have HS := fun w1 => side_any p k w1 hlt hp
      obtain ⟨fn, tmps, assign, body, hy, hR⟩ := hY _ ⟨k, hlt⟩ wr hJs (by rw [List.length_take]; omega)
      rw [← hTk] at hR
      clear hTk
      dsimp only [encW] at hy
      generalize bitD p k = bt at *
      have hc : wr.cell? ⟨B, 0, none⟩ = some (.string ⟨p.toArray⟩) := hIr.cell 0
      have hi1 : (k : Int) < 256 := by omega
      gi_wp2_with (refine ⟨trivial, ?_⟩; gi_at_call 204; refine (callsIn_wide.2 (HS _)).mono ?_; rintro e w3 ⟨rfl, hw3⟩; have hw3 := hw3.symm; subst hw3)
      refine hR.mono ?_
      rintro e W3 (⟨rfl, hJ3, hk3⟩ | ⟨rfl, hJx3⟩)
      · gi_wp2
        go_roundw
        case rel => exact ⟨k + 1, by omega, by go_num, hJ3, hk3 hIr⟩
        case measure => simp [intOf]; omega
      · gi_wp2
        refine bodyPost_ret (results_none rfl _ _ _) rfl ?_
        exact ⟨⟨_, rfl⟩, .inr ⟨_, ⟨k + 1, by omega, rfl⟩, hJx3⟩⟩
    · obtain rfl : k = 256 := by omega
      gi_wp2
      go_end0
      exact ⟨⟨_, rfl⟩, .inl ⟨_, by rw [List.take_of_length_le (by rw [allW_len]; exact Nat.le_refl _)], hJs⟩⟩
end
theorem way_stops (n : Nat) (hn : 1 ≤ n) (B : Nat) (p : List UInt8) (hp : p.length = 32) (w : World) (hI : Blk w B #[.string ⟨p.toArray⟩] 9) :
    SeqStopsK Fence.wide n Tryz.prog 203 #[.pointer (some ⟨B, 0, none⟩)] (encW p) (KpW B p) (fun ys => ys = allW) (fun pre => ∃ k, k ≤ 256 ∧ pre = allW.take k) 256 w :=
  fun l J Jx W hW _ _ hY h0 => way1_in n hn l B p hp J Jx hY W (hI.belowSize hW) h0
theorem Blk.turn {w w' : World} {b : Nat} {c : Array Value} {t : TypeId} {row : Option Nat} (h : Blk w b c t) (hg : w.grownBy w' row) (hr : ∀ r, row = some r → ∃ o : Obj, w.heap[r]? = some o ∧ o.isCells = false) : Blk w' b c t := h.grown hg (fun e => by
  obtain ⟨o, ho, hc⟩ := hr b e.symm
  rw [h.out] at ho
  cases ho
  cases hc)
theorem kpW_t {B : Nat} {p : List UInt8} {A C D : World} (h : KpW B p A C) (k : KpW B p C D) : KpW B p A D := fun hi => k (h hi)
theorem kpW_b {B : Nat} {p : List UInt8} {w : World} (W : World) (l : Nat) (o o' : Obj) (_ : w.heap.size ≤ l) (h : W.heap[l]? = some o) (hc : o.isCells = false) (_ : o.isWalk = false) : KpW B p W (W.putObj l o') := fun hi => hi.turn (grownBy_putObj' W l o') (fun r e => by
  have e := Option.some.inj e
  subst e
  exact ⟨o, h, hc⟩)
end Go.Proofs.YtjfpfkiccbcedaaGreatDoor.Sh
namespace Go.Proofs.YtjfpfkiccbcedaaGreatDoor.Sh
open Go Go.RowKit
theorem flat_len {k : Nat} : ∀ {l : List (List Value)}, (∀ x ∈ l, x.length = k) → l.flatten.length = l.length * k
  | [], _ => by simp
  | x :: r, h => by
    rw [List.flatten_cons, List.length_append, flat_len (fun y hy => h y (List.mem_cons_of_mem _ hy)), h x (List.mem_cons_self ..), List.length_cons, Nat.succ_mul]
    omega
theorem flat_get {k : Nat} : ∀ {l : List (List Value)} (_ : ∀ x ∈ l, x.length = k) (i : Nat) (hi : i < l.length) (j : Nat) (v : Value), (l[i])[j]? = some v → l.flatten[i * k + j]? = some v
  | x :: r, h, 0, _, j, v, hv => by
    have hj : j < x.length := (List.getElem?_eq_some_iff.1 hv).1
    rw [List.flatten_cons, Nat.zero_mul, Nat.zero_add, List.getElem?_append_left hj]
    exact hv
  | x :: r, h, i + 1, hi, j, v, hv => by
    have hx := h x (List.mem_cons_self ..)
    rw [List.flatten_cons, List.getElem?_append_right (by rw [hx, Nat.succ_mul]; omega), hx, show (i + 1) * k + j - k = i * k + j by rw [Nat.succ_mul]; omega]
    exact flat_get (fun y hy => h y (List.mem_cons_of_mem _ hy)) i (by simpa using hi) j v hv
/-- Block g holds a slice's things l, of k cells each, with room for cap. -/
structure GS (w : World) (t : TypeId) (k g cap : Nat) (l : List (List Value)) : Prop where
  out : ∃ cur : Array Value, w.heap[g]? = some (.cells cur t (0, 0)) ∧ l.length ≤ cap ∧ cap * k ≤ cur.size ∧ ∀ (j : Nat) (v : Value), l.flatten[j]? = some v → cur[j]? = some v
/-- The value sl is a slice of the things l, from block lo on, or nil where there are none. -/
def GL (w : World) (t : TypeId) (k lo : Nat) (sl : Value) (l : List (List Value)) : Prop :=
  (∀ x ∈ l, x.length = k) ∧ ((l = [] ∧ sl = .slice none 0 0) ∨ ∃ g cap, lo ≤ g ∧ sl = .slice (some ⟨g, 0, none⟩) l.length cap ∧ GS w t k g cap l)
/-- The block that a slice lies in. -/
def slBlk : Value → Option Nat
  | .slice (some a) _ _ => some a.block
  | _ => none
theorem GS.lt {w : World} {t : TypeId} {k g cap : Nat} {l : List (List Value)} (h : GS w t k g cap l) : g < w.heap.size := by
  obtain ⟨cur, h1, _⟩ := h.out
  exact (Array.getElem?_eq_some_iff.1 h1).1
theorem GS.cell {w : World} {t : TypeId} {k g cap : Nat} {l : List (List Value)} (h : GS w t k g cap l) (j : Nat) (v : Value) (hv : l.flatten[j]? = some v) : w.cell? ⟨g, j, none⟩ = some v := by
  obtain ⟨cur, h1, _, _, h4⟩ := h.out
  simp [World.cell?, h1, h4 j v hv]
theorem GS.grown {w w' : World} {t : TypeId} {k g cap : Nat} {l : List (List Value)} {row : Option Nat} (h : GS w t k g cap l) (hb : w.grownBy w' row) (hr : some g ≠ row) : GS w' t k g cap l := by
  obtain ⟨cur, h1, hr'⟩ := h.out
  exact ⟨cur, by rw [hb.block g h.lt hr]; exact h1, hr'⟩
theorem GL.nil (w : World) (t : TypeId) (k lo : Nat) : GL w t k lo (.slice none 0 0) [] := ⟨(fun _ hx => nomatch hx), .inl ⟨rfl, rfl⟩⟩
theorem GL.lt {w : World} {t : TypeId} {k lo : Nat} {sl : Value} {l : List (List Value)} (h : GL w t k lo sl l) : ∀ r, slBlk sl = some r → lo ≤ r ∧ r < w.heap.size := fun r e => by
  rcases h.2 with ⟨_, rfl⟩ | ⟨g, cap, h1, rfl, h3⟩
  · cases e
  · cases e
    exact ⟨h1, h3.lt⟩
theorem GL.grown {w w' : World} {t : TypeId} {k lo : Nat} {sl : Value} {l : List (List Value)} {row : Option Nat} (h : GL w t k lo sl l) (hb : w.grownBy w' row) (hr : ∀ r, slBlk sl = some r → some r ≠ row) : GL w' t k lo sl l := by
  refine ⟨h.1, ?_⟩
  rcases h.2 with h | ⟨g, cap, h1, rfl, h3⟩
  · exact .inl h
  · exact .inr ⟨g, cap, h1, rfl, h3.grown hb (hr g rfl)⟩
theorem GL.below {w w' : World} {t : TypeId} {k lo : Nat} {sl : Value} {l : List (List Value)} (h : GL w t k lo sl l) (hb : Below w.heap.size w w') : GL w' t k lo sl l := h.grown (row := none) (grown_of_below hb) (fun _ _ e => nomatch e)
theorem GL.drew {w : World} {t : TypeId} {k lo : Nat} {sl : Value} {l : List (List Value)} (h : GL w t k lo sl l) : GL w.drew t k lo sl l := h.below (Below.refl _ _).drew
/-- A block of another kind is not the slice's. -/
theorem GL.ne {w : World} {t ty : TypeId} {k lo i : Nat} {sl : Value} {l : List (List Value)} {c : Array Value} (h : GL w t k lo sl l) (hb : Blk w i c ty) (ht : ty ≠ t ∨ i < lo) : ∀ r, slBlk sl = some r → some r ≠ some i := fun r e e2 => by
  have e2 := Option.some.inj e2
  subst e2
  rcases ht with ht | ht
  · rcases h.2 with ⟨_, rfl⟩ | ⟨g, cap, h1, rfl, h3⟩
    · cases e
    · cases e
      obtain ⟨cur, h4, _⟩ := h3.out
      have h5 := hb.out
      rw [h4] at h5
      simp only [Option.some.injEq, Obj.cells.injEq] at h5
      exact ht h5.2.1.symm
  · have := (h.lt r e).1
    omega
theorem GL.turn {w w' : World} {t : TypeId} {k lo : Nat} {sl : Value} {l : List (List Value)} {row : Option Nat} (h : GL w t k lo sl l) (hg : w.grownBy w' row) (hr : ∀ r, row = some r → ∃ o : Obj, w.heap[r]? = some o ∧ o.isCells = false) : GL w' t k lo sl l := by
  refine h.grown hg (fun r e e2 => ?_)
  obtain ⟨o, ho, hc⟩ := hr r e2.symm
  rcases h.2 with ⟨_, rfl⟩ | ⟨g, cap, h1, rfl, h3⟩
  · cases e
  · cases e
    obtain ⟨cur, h4, _⟩ := h3.out
    rw [h4] at ho
    cases ho
    cases hc
theorem GL.sl {w : World} {t : TypeId} {k lo : Nat} {sl : Value} {l : List (List Value)} (h : GL w t k lo sl l) : ∃ a cap, sl = .slice a l.length cap ∧ ∀ i (hi : i < l.length), ∃ g, a = some ⟨g, 0, none⟩ ∧ ∀ j v, (l[i])[j]? = some v → w.cell? ⟨g, i * k + j, none⟩ = some v := by
  rcases h.2 with ⟨rfl, rfl⟩ | ⟨g, cap, _, rfl, h3⟩
  · exact ⟨none, 0, rfl, fun i hi => by simp at hi⟩
  · exact ⟨_, cap, rfl, fun i hi => ⟨g, rfl, fun j v hv => h3.cell _ _ (flat_get h.1 i hi j v hv)⟩⟩
section
variable {P : Program} {ops : Array Oper} {rest : List Oper} {op : Oper} {a : Act} {w : World} {Q : Exit → Act → World → Prop} {K : Act → World → Prop} {E : Prop}
theorem run_appendGL (st ty t : TypeId) (k lo : Nat) (sl : Value) (l : List (List Value)) (hlo : lo ≤ w.heap.size) (hsl : GL w t k lo sl l) (g2 c : Nat) (o : List Value) (hok : o.length = k) (ho1 : ∀ u ∈ o, u.oneCell' = true) (t2 : TypeId) (hb2 : Blk w g2 o.toArray t2) (i : TypeInfo) (z : Value) (hz1 : z.cells.size = k)
    (hu : P.underlying st = some (.slice t)) (hi : P.info? t = some i) (hz : i.zero = some z) (hs : i.size = k) (hby : i.bytes ≤ 64) (hlen : l.length ≤ 1000000) :
    ∃ (w1 : World) (sl1 : Value), (Builtin.append_ #[st, st] ty #[sl, .slice (some ⟨g2, 0, none⟩) 1 c]).run P w = .ok sl1 w1 ∧ w.grownBy w1 (slBlk sl) ∧ GL w1 t k lo sl1 (l ++ [o]) := by
  have hsrc : Src P i.size st (.slice (some ⟨g2, 0, none⟩) 1 c) 1 o w :=
    Src.ofSlice w hu ⟨g2, 0, none⟩ 1 c _ (by rw [hs, Nat.one_mul]; exact hok) (fun j u hj => by
      rw [Addr.add_mid, Nat.zero_add, hb2.cell]
      simpa using hj)
      ho1
  have hall : ∀ x ∈ l ++ [o], x.length = k := fun x hx => by
    rcases List.mem_append.1 hx with hx | hx
    · exact hsl.1 x hx
    · rw [List.mem_singleton.1 hx]; exact hok
  have hfl := flat_len hsl.1
  have hfs : (l ++ [o]).flatten = l.flatten ++ o := by simp
  have hgrow : ∀ (base : Option Addr) (cap : Nat), cap < l.length + 1 → (Builtin.firstCells i.size l.length (.slice base l.length cap)).run P w.drew = .ok l.flatten.toArray w.drew →
      ∃ (w1 : World) (sl1 : Value), (Builtin.append_ #[st, st] ty #[.slice base l.length cap, .slice (some ⟨g2, 0, none⟩) 1 c]).run P w = .ok sl1 w1 ∧ w.grownBy w1 (slBlk (.slice base l.length cap)) ∧ GL w1 t k lo sl1 (l ++ [o]) := by
    intro base cap hcap hold
    have hr := run_append_grow_src (P := P) w st st ty t i _ hu hi hz base l.length cap _ hold _ 1 _ hsrc hcap (by omega) (growslice_fits hcap (Nat.le_trans (Nat.mul_le_mul (show l.length + 1 ≤ 1000001 by omega) hby) (by decide)))
    have hge : l.length + 1 ≤ grownCap w (l.length + 1) cap t := grownCap_ge w _ _ _
    refine ⟨_, _, hr, grown_of_below ((Below.refl w.heap.size w).drew.alloc (Nat.le_refl _) _), hall, .inr ⟨w.heap.size, _, hlo, by rw [List.length_append]; rfl, ?_⟩⟩
    refine ⟨_, heap_alloc_last w.drew _, by rw [List.length_append]; exact hge, ?_, ?_⟩
    · simp only [Array.size_append, List.size_toArray, List.length_append, hfl, hok, size_zeroCells, hz1]
      have h9 : grownCap w (l.length + 1) cap t * k = l.length * k + k + (grownCap w (l.length + 1) cap t - (l.length + 1)) * k := by
        rw [Nat.sub_mul, Nat.succ_mul]
        have := Nat.mul_le_mul_right k hge
        rw [Nat.succ_mul] at this
        omega
      omega
    · intro j v hj
      rw [hfs] at hj
      have hjl := (List.getElem?_eq_some_iff.1 hj).1
      rw [Array.getElem?_append_left (by simpa using hjl)]
      simpa using hj
  rcases hsl.2 with ⟨rfl, rfl⟩ | ⟨g, cap, hg, rfl, hS⟩
  · exact hgrow none 0 (by simp) (run_firstCells_none (w := w.drew) i.size 0 0 0)
  · by_cases hroom : l.length + 1 ≤ cap
    · obtain ⟨cur, h1, h2, h4, h5⟩ := hS.out
      have hmul : l.length * k + k ≤ cur.size := by
        have := Nat.mul_le_mul_right k hroom
        rw [Nat.succ_mul] at this
        omega
      have hcell : ∀ j, j < o.length → (w.cell? ⟨g, l.length * k + j, none⟩).isSome = true := fun j hj => by
        simp only [World.cell?, h1]
        rw [Array.getElem?_eq_getElem (by omega)]; rfl
      have hfro : ∀ j, j < o.length → w.frozen? ⟨g, l.length * k + j, none⟩ = false := fun j hj => by
        simp [World.frozen?, h1]
      have hr := run_append_room_src (P := P) w st st ty t i hu hi g 0 l.length cap _ 1 _ hsrc hroom
        (fun j hj => by rw [hs, Nat.zero_add]; exact hcell j hj)
        (fun j hj => by rw [hs, Nat.zero_add]; exact hfro j hj)
      rw [hs, Nat.zero_add] at hr
      have hgr := grown_setCells g o (l.length * k) w
      refine ⟨_, _, hr, hgr, hall, .inr ⟨g, cap, hg, by rw [List.length_append]; rfl, ?_⟩⟩
      have hblk : Blk w g cur t := ⟨h1⟩
      refine ⟨_, (hblk.setCells o (l.length * k)).out, by rw [List.length_append]; exact hroom, by rw [spl_size]; exact h4, ?_⟩
      intro j v hj
      rw [spl_get _ _ _ _ (by rw [hok]; exact hmul), hok]
      rw [hfs] at hj
      by_cases hjl : j < l.length * k
      · rw [if_neg (by omega)]
        rw [List.getElem?_append_left (by rw [hfl]; exact hjl)] at hj
        exact h5 j v hj
      · have hj3 := (List.getElem?_eq_some_iff.1 hj).1
        rw [List.length_append, hfl, hok] at hj3
        rw [if_pos (by omega)]
        rw [List.getElem?_append_right (by rw [hfl]; omega), hfl] at hj
        exact hj
    · exact hgrow (some ⟨g, 0, none⟩) cap (by omega) (run_firstCells_some w.drew i.size l.length ⟨g, 0, none⟩ l.length cap _ (by rw [hfl, hs]) (fun j u hj => by
        rw [Addr.add_mid, Nat.zero_add]
        exact (GS.grown hS (row := none) (grown_of_below ((Below.refl w.heap.size w).drew)) (fun e => nomatch e)).cell j u hj))
theorem wpList_appendGL (hgd : op.guard = none) (x y : Operand) (st t : TypeId) (ho : op.op = .call { callee := .builtin .append, args := #[x, y], argTypes := #[st, st] })
    (k lo : Nat) (sl : Value) (l : List (List Value)) (hlo : lo ≤ w.heap.size) (hx : a.eval x = sl) (hsl : GL w t k lo sl l) (g2 c : Nat) (hy : a.eval y = .slice (some ⟨g2, 0, none⟩) 1 c) (o : List Value) (hok : o.length = k) (ho1 : ∀ u ∈ o, u.oneCell' = true) (t2 : TypeId) (hb2 : Blk w g2 o.toArray t2) (i : TypeInfo) (z : Value) (hz1 : z.cells.size = k)
    (hu : P.underlying st = some (.slice t)) (hi : P.info? t = some i) (hz : i.zero = some z) (hs : i.size = k) (hby : i.bytes ≤ 64) (hlen : l.length ≤ 1000000)
    (h : ∀ (w1 : World) (sl1 : Value), w.grownBy w1 (slBlk sl) → GL w1 t k lo sl1 (l ++ [o]) → wpList P ops Q rest (a.put op.dst sl1) w1) : wpList P ops Q (op :: rest) a w := by
  obtain ⟨w1, sl1, hr, hb, hl⟩ := run_appendGL (P := P) (w := w) st op.type t k lo sl l hlo hsl g2 c o hok ho1 t2 hb2 i z hz1 hu hi hz hs hby hlen
  refine wpList_run hgd _ _ ?_ (h w1 sl1 hb hl)
  unfold execOp
  simp only [ho]
  simp [resolve, invoke, builtin, hx, hy, hr, Result.andThen]
theorem step_appGL (hgd : op.guard = none) (x y : Operand) (st t : TypeId) (ho : op.op = .call { callee := .builtin .append, args := #[x, y], argTypes := #[st, st] })
    (k lo : Nat) (sl : Value) (l : List (List Value)) (hlo : lo ≤ w.heap.size) (hx : a.eval x = sl) (hsl : GL w t k lo sl l) (g2 c : Nat) (hy : a.eval y = .slice (some ⟨g2, 0, none⟩) 1 c) (o : List Value) (hok : o.length = k) (ho1 : ∀ u ∈ o, u.oneCell' = true) (t2 : TypeId) (hb2 : Blk w g2 o.toArray t2) (i : TypeInfo) (z : Value) (hz1 : z.cells.size = k)
    (hu : P.underlying st = some (.slice t)) (hi : P.info? t = some i) (hz : i.zero = some z) (hs : i.size = k) (hby : i.bytes ≤ 64) (hlen : l.length ≤ 1000000)
    (h : ∀ (w1 : World) (sl1 : Value), w.grownBy w1 (slBlk sl) → GL w1 t k lo sl1 (l ++ [o]) → K (a.put op.dst sl1) w1) :
    if Region.wanted op (yielded ops a.tmps) = true then Oper.wp P op a w K Q else E := by
  have hw : Region.wanted op (yielded ops a.tmps) = true := by simp [Region.wanted, hgd]
  rw [if_pos hw]
  obtain ⟨w1, sl1, hr, hb, hl⟩ := run_appendGL (P := P) (w := w) st op.type t k lo sl l hlo hsl g2 c o hok ho1 t2 hb2 i z hz1 hu hi hz hs hby hlen
  unfold Oper.wp
  simp [execOp, ho, resolve, invoke, builtin, hx, hy, hr, Result.andThen]
  exact h w1 sl1 hb hl
end
/-- Whatever is no cells is as it was. -/
structure NC (w w' : World) : Prop where
  size : w.heap.size ≤ w'.heap.size
  all : ∀ (i : Nat) (o : Obj), w.heap[i]? = some o → o.isCells = false → w'.heap[i]? = some o
theorem NC.refl (w : World) : NC w w := ⟨Nat.le_refl _, fun _ _ h _ => h⟩
theorem NC.trans {a b c : World} (h : NC a b) (k : NC b c) : NC a c := ⟨Nat.le_trans h.size k.size, fun i o ho hc => k.all i o (h.all i o ho hc) hc⟩
theorem NC.below {w w' : World} (h : Below w.heap.size w w') : NC w w' := ⟨h.size, fun i o ho _ => by rw [h.block i (Array.getElem?_eq_some_iff.1 ho).1]; exact ho⟩
theorem NC.grown {w w' : World} {row : Option Nat} (h : w.grownBy w' row) (hr : ∀ r, row = some r → ∃ c t fr, w.heap[r]? = some (.cells c t fr)) : NC w w' := ⟨h.size, fun i o ho hc => by
  rw [h.block i (Array.getElem?_eq_some_iff.1 ho).1 (fun e => by
    obtain ⟨c, t, fr, h1⟩ := hr i e.symm
    rw [ho] at h1
    cases h1
    cases hc)]
  exact ho⟩
theorem NC.blk {w w' : World} {b : Nat} {c : Array Value} {t : TypeId} (h : w.grownBy w' (some b)) (k : Blk w b c t) : NC w w' := NC.grown h (fun r e => by cases e; exact ⟨c, t, _, k.out⟩)
theorem NC.app {w w' : World} {t : TypeId} {k lo : Nat} {sl : Value} {l : List (List Value)} (h : w.grownBy w' (slBlk sl)) (hs : GL w t k lo sl l) : NC w w' := NC.grown h (fun r e => by
  rcases hs.2 with ⟨_, rfl⟩ | ⟨g, cap, h1, rfl, h3⟩
  · cases e
  · cases e
    obtain ⟨cur, h4, _⟩ := h3.out
    exact ⟨cur, t, _, h4⟩)
theorem NC.from {w w' : World} (h : NC w w') (B : Nat) : KeepsFrom B w w' := ⟨h.size, fun i o _ hi hc => h.all i o hi hc⟩
end Go.Proofs.YtjfpfkiccbcedaaGreatDoor.Sh
