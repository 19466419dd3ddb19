/- Slices of texts that lie anywhere in their block: what they hold, and appending to them. What copyCheck and WriteString of a strings.Builder do at this program. What inTurn does: step behind step, up to the first one that fails. What struck and isFull of a disk do, where no fall is planned. -/
import Derived.Test.YtaiiojbakmminaaGreatDoorKRgr
import Derived.Test.YtaiiojbakmminaaGreatDoorWsh
import Derived.Test.YtaiiojbakmminaaGreatDoorUfr
import Derived.Test.YtaiiojbakmminaaGreatDoorChecked
namespace Go.Proofs.YtaiiojbakmminaaGreatDoor
open Go Go.RowKit
def sv (t : B) : Value := .string ⟨t.toArray⟩
/-- The value v is a slice of the texts l, which lies in block b. -/
structure TS (w : World) (v : Value) (b : Option Nat) (l : List B) : Prop where
  out : (v = .slice none 0 0 ∧ b = none ∧ l = []) ∨ ∃ g o cap cur, v = .slice (some ⟨g, o, none⟩) l.length cap ∧ b = some g ∧ w.heap[g]? = some (.cells cur 9 (0, 0)) ∧ l.length ≤ cap ∧ o + cap ≤ cur.size ∧ ∀ j x, l[j]? = some x → cur[o + j]? = some (sv x)
theorem TS.nil (w : World) : TS w (.slice none 0 0) none [] := ⟨.inl ⟨rfl, rfl, rfl⟩⟩
theorem TS.lt {w : World} {v : Value} {b : Option Nat} {l : List B} (h : TS w v b l) : ∀ k, b = some k → k < w.heap.size := fun k e => by
  rcases h.out with ⟨_, hb, _⟩ | ⟨g, o, cap, cur, _, hb, hg, _⟩
  · rw [hb] at e; cases e
  · rw [hb] at e
    cases e
    exact (Array.getElem?_eq_some_iff.1 hg).1
theorem TS.keep {w w' : World} {v : Value} {b : Option Nat} {l : List B} (h : TS w v b l) (hk : ∀ k, b = some k → w'.heap[k]? = w.heap[k]?) : TS w' v b l := by
  rcases h.out with h | ⟨g, o, cap, cur, h1, h2, h3, h4⟩
  · exact ⟨.inl h⟩
  · exact ⟨.inr ⟨g, o, cap, cur, h1, h2, (hk g h2).trans h3, h4⟩⟩
theorem TS.below {w w' : World} {v : Value} {b : Option Nat} {l : List B} (h : TS w v b l) (hb : Below w.heap.size w w') : TS w' v b l := h.keep fun k e => hb.block k (h.lt k e)
theorem TS.grown {w w' : World} {v : Value} {b row : Option Nat} {l : List B} (h : TS w v b l) (hb : w.grownBy w' row) (hr : ∀ k, b = some k → some k ≠ row) : TS w' v b l := h.keep fun k e => hb.block k (h.lt k e) (hr k e)
theorem TS.sl {w : World} {v : Value} {b : Option Nat} {l : List B} (h : TS w v b l) : ∃ a cap, v = .slice a l.length cap ∧ (∀ j x, l[j]? = some x → ∃ g o, a = some ⟨g, o, none⟩ ∧ w.cell? ⟨g, o + j, none⟩ = some (sv x)) ∧ v.cells = #[v] ∧ v.oneCell' = true := by
  rcases h.out with ⟨rfl, _, rfl⟩ | ⟨g, o, cap, cur, rfl, _, hg, _, _, hc⟩
  · exact ⟨none, 0, rfl, fun j x hx => by simp at hx, rfl, rfl⟩
  · exact ⟨_, cap, rfl, fun j x hx => ⟨g, o, rfl, by simp only [World.cell?, hg]; exact hc j x hx⟩, rfl, rfl⟩
/-- Texts that can be read at an address. -/
structure TA (w : World) (a : Option Addr) (l : List B) : Prop where
  out : l = [] ∨ ∃ g o cur fr, a = some ⟨g, o, none⟩ ∧ w.heap[g]? = some (.cells cur 9 fr) ∧ ∀ j x, l[j]? = some x → cur[o + j]? = some (sv x)
theorem TA.nil (w : World) (a : Option Addr) : TA w a [] := ⟨.inl rfl⟩
theorem TA.at {w : World} {a : Option Addr} {l : List B} (h : TA w a l) (j : Nat) (x : B) (hx : l[j]? = some x) : ∃ g o, a = some ⟨g, o, none⟩ ∧ g < w.heap.size ∧ w.cell? ⟨g, o + j, none⟩ = some (sv x) := by
  rcases h.out with rfl | ⟨g, o, cur, fr, h1, h2, h3⟩
  · simp at hx
  · refine ⟨g, o, h1, (Array.getElem?_eq_some_iff.1 h2).1, ?_⟩
    simp only [World.cell?, h2]
    exact h3 j x hx
theorem TA.below {w w' : World} {a : Option Addr} {l : List B} (h : TA w a l) (hb : Below w.heap.size w w') : TA w' a l := by
  rcases h.out with h | ⟨g, o, cur, fr, h1, h2, h3⟩
  · exact ⟨.inl h⟩
  · exact ⟨.inr ⟨g, o, cur, fr, h1, (hb.block g (Array.getElem?_eq_some_iff.1 h2).1).trans h2, h3⟩⟩
theorem TS.ta {w : World} {a : Option Addr} {n cap : Nat} {b : Option Nat} {l : List B} (h : TS w (.slice a n cap) b l) : TA w a l := by
  rcases h.out with ⟨_, _, rfl⟩ | ⟨g, o, c, cur, h1, h2, h3, _, _, h4⟩
  · exact ⟨.inl rfl⟩
  · simp only [Value.slice.injEq] at h1
    exact ⟨.inr ⟨g, o, cur, (0, 0), h1.1, h3, h4⟩⟩
theorem flat_one : ∀ l : List B, (l.map fun n => [Value.string ⟨n.toArray⟩]).flatten = l.map sv
  | [] => rfl
  | y :: r => by rw [List.map_cons, List.flatten_cons, flat_one r]; rfl
theorem XL.ta {w : World} {lo : Nat} {a : Option Addr} {n cap : Nat} {l : List B} (h : XL w lo (.slice a n cap) l) : TA w a l := by
  rcases h.2 with ⟨h1, _⟩ | ⟨g, c, _, h2, h3⟩
  · exact ⟨.inl (by simpa using h1)⟩
  · simp only [Value.slice.injEq] at h2
    obtain ⟨cur, h4, _, _, h5⟩ := h3.out
    refine ⟨.inr ⟨g, 0, cur, (0, 0), h2.1, h4, fun j x hx => ?_⟩⟩
    rw [Nat.zero_add]
    refine h5 j _ ?_
    have e : (l.map fun n => [Value.string ⟨n.toArray⟩]).flatten = l.map sv := flat_one l
    rw [e, List.getElem?_map, hx]
    rfl
theorem XL.ts {w : World} {lo : Nat} {v : Value} {l : List B} (h : XL w lo v l) : TS w v (slBlk v) l ∧ ∀ k, slBlk v = some k → lo ≤ k := by
  refine ⟨?_, fun k e => (GL.lt h k e).1⟩
  rcases h.2 with ⟨h1, h2⟩ | ⟨g, c, _, h2, h3⟩
  · exact ⟨.inl ⟨h2, by rw [h2]; rfl, by simpa using h1⟩⟩
  · obtain ⟨cur, h4, h5, h6, h7⟩ := h3.out
    subst h2
    rw [List.length_map] at h5 h
    rcases (XL.ta (a := some ⟨g, 0, none⟩) (n := l.length) (cap := c) h).out with rfl | ⟨g', o, cur', fr, e1, e2, e3⟩
    · exact ⟨.inr ⟨g, 0, c, cur, by simp, rfl, h4, by simp, by omega, fun j x hx => by simp at hx⟩⟩
    · have e1 := Option.some.inj e1
      simp only [Addr.mk.injEq] at e1
      obtain ⟨rfl, rfl, _⟩ := e1
      rw [h4] at e2
      simp only [Option.some.injEq, Obj.cells.injEq] at e2
      obtain ⟨rfl, _, _⟩ := e2
      exact ⟨.inr ⟨g, 0, c, cur, by simp, rfl, h4, h5, by omega, e3⟩⟩
section
variable {P : Program} {ops : Array Oper} {rest : List Oper} {op : Oper} {a : Act} {w : World} {Q : Exit → Act → World → Prop}
theorem heap_setC {b : Nat} {t : TypeId} {fr : Nat × Nat} : ∀ (vs : List Value) (o : Nat) {w : World} {c : Array Value}, w.heap[b]? = some (.cells c t fr) → (w.setCells b o vs).heap[b]? = some (.cells (spl c o vs) t fr)
  | [], _, _, _, h => h
  | v :: vs, o, w, c, h => by
    have h1 : (w.setCell ⟨b, o, none⟩ v).heap[b]? = some (.cells (c.setIfInBounds o v) t fr) := by
      simp [World.setCell, Array.getElem?_modify, h]
    exact heap_setC vs (o + 1) h1
theorem src_ta {t : TypeId} (hu : P.underlying t = some (.slice 9)) (x : Option Addr) (m : List B) (c : Nat) (h : TA w x m) : Src P 1 t (.slice x m.length c) m.length (m.map sv) w := by
  have hone : ∀ u ∈ m.map sv, u.oneCell' = true := fun u hu => by
    obtain ⟨y, _, rfl⟩ := List.mem_map.1 hu
    rfl
  cases x with
  | none =>
    rcases h.out with rfl | ⟨g, o, cur, fr, h1, _⟩
    · exact Src.ofNil w hu c
    · cases h1
  | some ad =>
    refine Src.ofSlice w hu ad m.length c (m.map sv) (by simp) (fun j u hj => ?_) hone
    rw [List.getElem?_map] at hj
    obtain ⟨y, hy, rfl⟩ := Option.map_eq_some_iff.1 hj
    obtain ⟨g, o, ha, _, hc⟩ := h.at j y hy
    have ha := Option.some.inj ha
    subst ha
    rw [Addr.add_mid, hc]
theorem run_appendTS (t ty : TypeId) (v : Value) (b : Option Nat) (l : List B) (hv : TS w v b l) (x : Option Addr) (c : Nat) (m : List B) (hm : TA w x m) (i : TypeInfo)
    (hu : P.underlying t = some (.slice 9)) (hi : P.info? 9 = some i) (hz : i.zero = some (.string ⟨#[]⟩)) (hs : i.size = 1) (hby : i.bytes ≤ 256) (hlen : l.length + m.length ≤ 1000000) :
    ∃ (w1 : World) (v1 : Value) (b1 : Option Nat), (Builtin.append_ #[t, t] ty #[v, .slice x m.length c]).run P w = .ok v1 w1 ∧ w.grownBy w1 b ∧ (∀ k, b1 = some k → b = some k ∨ w.heap.size ≤ k) ∧ TS w1 v1 b1 (l ++ m) := by
  have hsrc : Src P i.size t (.slice x m.length c) m.length (m.map sv) w := by rw [hs]; exact src_ta hu x m c hm
  have hone : ∀ j : Nat, ∀ y, (l ++ m)[j]? = some y → ((l ++ m).map sv)[j]? = some (sv y) := fun j y hy => by rw [List.getElem?_map, hy]; rfl
  have hgrow : ∀ (base : Option Addr) (cap : Nat), cap < l.length + m.length → (Builtin.firstCells i.size l.length (.slice base l.length cap)).run P w.drew = .ok (l.map sv).toArray w.drew →
      ∃ (w1 : World) (v1 : Value) (b1 : Option Nat), (Builtin.append_ #[t, t] ty #[.slice base l.length cap, .slice x m.length c]).run P w = .ok v1 w1 ∧ w.grownBy w1 b ∧ (∀ k, b1 = some k → b = some k ∨ w.heap.size ≤ k) ∧ TS w1 v1 b1 (l ++ m) := by
    intro base cap hcap hold
    have hr := run_append_grow_src (P := P) w t t ty 9 i _ hu hi hz base l.length cap _ hold _ m.length _ hsrc hcap (by omega) (growslice_fits hcap (Nat.le_trans (Nat.mul_le_mul (show l.length + m.length ≤ 1000001 by omega) hby) (by decide)))
    have hge : l.length + m.length ≤ grownCap w (l.length + m.length) cap 9 := grownCap_ge w _ _ _
    refine ⟨_, _, some w.heap.size, hr, grown_of_below ((Below.refl w.heap.size w).drew.alloc (Nat.le_refl _) _), fun k e => .inr (Nat.le_of_eq (Option.some.inj e)), ⟨.inr ⟨w.heap.size, 0, _, _, by rw [List.length_append], rfl, heap_alloc_last w.drew _, by rw [List.length_append]; exact hge, ?_, fun j y hy => ?_⟩⟩⟩
    · simp [size_zeroCells, Value.cells]; omega
    · have hj : j < l.length + m.length := by have := (List.getElem?_eq_some_iff.1 hy).1; simpa using this
      rw [Nat.zero_add, Array.getElem?_append_left (by simp; omega)]
      simp only [List.getElem?_toArray]
      rw [show (l.map sv ++ m.map sv) = (l ++ m).map sv from by simp]
      exact hone j y hy
  rcases hv.out with ⟨rfl, rfl, rfl⟩ | ⟨g, o, cap, cur, rfl, rfl, hg, h4, h5, h6⟩
  · by_cases hm0 : m.length = 0
    · have hm0 : m = [] := List.length_eq_zero_iff.1 hm0
      subst hm0
      have hr : (Builtin.append_ #[t, t] ty #[.slice none 0 0, .slice x 0 c]).run P w = .ok (.slice none 0 0) w := by
        have hl0 := hsrc.len
        have hc0 := hsrc.cells
        simp only [List.length_nil, List.map_nil] at hl0 hc0
        rcases hsrc.kind with ⟨e', hk⟩ | hk <;> simp [Builtin.append_, run_underlying hu, Go.sizeOf, typeInfo, hi, hl0, hc0]
      exact ⟨_, _, none, hr, grown_of_below (Below.refl _ _), fun k e => (by cases e), TS.nil _⟩
    · exact hgrow none 0 (by simp; omega) (run_firstCells_none (w := w.drew) i.size 0 0 0)
  · by_cases hroom : l.length + m.length ≤ cap
    · have hr := run_append_room_src (P := P) w t t ty 9 i hu hi g o l.length cap _ m.length _ hsrc hroom
        (fun j hj => by
          rw [hs, Nat.mul_one]
          simp only [World.cell?, hg]
          rw [Array.getElem?_eq_getElem (by simp at hj; omega)]; rfl)
        (fun j hj => by
          rw [hs, Nat.mul_one]
          simp only [World.frozen?, hg]
          simp)
      rw [hs, Nat.mul_one] at hr
      have hset : (w.setCells g (o + l.length) (m.map sv)).heap[g]? = some (.cells (spl cur (o + l.length) (m.map sv)) 9 (0, 0)) := heap_setC (m.map sv) (o + l.length) hg
      refine ⟨_, _, some g, hr, grown_setCells _ _ _ _, fun k e => .inl e, ⟨.inr ⟨g, o, cap, _, by rw [List.length_append], rfl, hset, by rw [List.length_append]; exact hroom, by rw [spl_size]; exact h5, fun j y hy => ?_⟩⟩⟩
      have hj : j < l.length + m.length := by have := (List.getElem?_eq_some_iff.1 hy).1; simpa using this
      rw [spl_get _ _ _ _ (by simp; omega)]
      by_cases hjl : j < l.length
      · rw [if_neg (by simp; omega)]
        rw [List.getElem?_append_left hjl] at hy
        exact h6 j y hy
      · rw [if_pos (by simp; omega)]
        rw [List.getElem?_append_right (by omega)] at hy
        rw [List.getElem?_map, show o + j - (o + l.length) = j - l.length by omega, hy]
        rfl
    · refine hgrow (some ⟨g, o, none⟩) cap (by omega) (run_firstCells_some w.drew i.size l.length ⟨g, o, none⟩ l.length cap _ (by simp [hs]) (fun j u hj => ?_))
      rw [List.getElem?_map] at hj
      obtain ⟨y, hy, rfl⟩ := Option.map_eq_some_iff.1 hj
      rw [Addr.add_mid]
      show w.cell? _ = _
      simp only [World.cell?, hg]
      exact h6 j y hy
end
end Go.Proofs.YtaiiojbakmminaaGreatDoor
namespace Go.Proofs.YtaiiojbakmminaaGreatDoor
open Go Go.RowKit Go.Shelf
theorem bSize : (Tryz.prog.info? 100).map (·.size) = some 2 := by kernel_rfl
theorem bLies : liesAt Tryz.prog Tryz.prog.depth 100 (2 / Tryz.prog.cellsOf 100) 0 100 1 = true := by kernel_rfl
theorem bByte : (Tryz.prog.info? 5).map (fun i => (i.zero, i.size, i.bytes)) = some (some (.int .u8 0), 1, 1) := by kernel_rfl
set_option maxHeartbeats 1000000 in
set_option maxRecDepth 100000 in
theorem bCheck_used (b : Nat) (w : World) (h0 : w.cell? ⟨b, 0, none⟩ = some (.pointer (some ⟨b, 0, none⟩))) :
    Calls Tryz.prog 97 #[.pointer (some ⟨b, 0, none⟩)] w fun e w' => e = .returned (.tuple #[]) ∧ w' = w := by
  obtain ⟨j, hj, _⟩ := Option.map_eq_some_iff.1 bSize
  go_enter Tryz.func97, Tryz.ntmps97
  go_wp2
  rw [Lib.run_neq_ptr_same w _ Tryz.underlying98 hj]
  go_wp2
  go_end0
  exact ⟨rfl, rfl⟩
set_option maxHeartbeats 1000000 in
set_option maxRecDepth 100000 in
theorem bCheck_fresh (b : Nat) (w : World) (h0 : w.cell? ⟨b, 0, none⟩ = some (.pointer none)) (hsh : w.shape? b = some (100, 2)) (hfz : w.frozen? ⟨b, 0, none⟩ = false) :
    Calls Tryz.prog 97 #[.pointer (some ⟨b, 0, none⟩)] w fun e w' => e = .returned (.tuple #[]) ∧ w' = w.setCell ⟨b, 0, none⟩ (.pointer (some ⟨b, 0, none⟩)) := by
  obtain ⟨j, hj, hjs⟩ := Option.map_eq_some_iff.1 bSize
  go_enter Tryz.func97, Tryz.ntmps97
  go_wp2
  rw [Lib.run_to_unsafe w ⟨b, 0, none⟩ Tryz.underlying98 Tryz.underlying144 hj (by rw [hjs]; decide) hsh (Nat.zero_lt_succ 1)]
  simp only [Result.andThen]
  rw [Oper.upon_value]
  go_wp2
  rw [run_callFunc_extern Tryz.func119 (by kernel_rfl) (by kernel_rfl) (by kernel_rfl) (e := Extern.AbiNoEscape.same) (by kernel_rfl)]
  rw [Lib.run_noEscape]
  simp only [Result.andThen]
  rw [Oper.upon_value]
  go_wp2
  rw [Lib.run_from_unsafe w ⟨b, 0, none⟩ Tryz.underlying144 Tryz.underlying98 hj hsh bLies]
  simp only [Result.andThen]
  rw [Oper.upon_value]
  go_wp2
  go_end0
  exact ⟨rfl, rfl⟩
theorem bCheck (B b : Nat) (bs : List Value) (w : World) (h : Lib.IsBuilder 100 5 B b bs w) :
    Calls Tryz.prog 97 #[.pointer (some ⟨b, 0, none⟩)] w fun e w' => e = .returned (.tuple #[]) ∧ (Lib.BuilderAt 100 5 B b (.pointer (some ⟨b, 0, none⟩)) bs w' ∧ Below B w w') := by
  rcases h with h | h
  · refine (bCheck_fresh b w h.cell0 h.shape h.frozen0).mono ?_
    rintro e w' ⟨rfl, rfl⟩
    exact ⟨rfl, h.used _, (Below.refl B w).setCell (p := ⟨b, 0, none⟩) h.1 _⟩
  · refine (bCheck_used b w h.cell0).mono ?_
    rintro e w' ⟨rfl, rfl⟩
    exact ⟨rfl, h, Below.refl B _⟩
set_option maxHeartbeats 2000000 in
set_option maxRecDepth 100000 in
theorem bWrite (B b : Nat) (bs : List Value) (s : ByteArray) (w : World) (h : Lib.IsBuilder 100 5 B b bs w) (hlen : bs.length + s.size ≤ 140737488355328) (hBw : B ≤ w.heap.size) :
    Calls Tryz.prog 69 #[.pointer (some ⟨b, 0, none⟩), .string s] w fun e w' => e = .returned (.tuple #[.int .i64 s.size, .nilIface]) ∧ (Lib.BuilderAt 100 5 B b (.pointer (some ⟨b, 0, none⟩)) (bs ++ Lib.strCells s) w' ∧ Below B w w') := by
  obtain ⟨i0, hi, hz0, hz1, hz2⟩ := info_parts bByte
  have HC := bCheck B b bs w h
  go_enter Tryz.func69, Tryz.ntmps69
  go_wp2_with (go_at_call 97; refine HC.mono ?_)
  rintro e w1 ⟨rfl, h1, hb1⟩
  obtain ⟨hB, v, hbk, hown, hne⟩ := h1
  have c0 : w1.cell? ⟨b, 0, none⟩ = some (.pointer (some ⟨b, 0, none⟩)) := by rw [Lib.cell_of_heap hbk]; rfl
  have c1 : w1.cell? ⟨b, 1, none⟩ = some v := by rw [Lib.cell_of_heap hbk]; rfl
  go_wp2_with (at_builtin; refine Lib.wpList_append_own_string _ rfl _ _ 50 9 rfl B 5 i0 Tryz.underlying50 Tryz.underlying9 hi hz0 hz1 hz2 _ _ _ rfl hown s rfl ?c3 ?c4 ?c5 ?_)
  case c3 => unfold maxLen; omega
  case c4 => omega
  case c5 => have := hb1.size; omega
  intro v' w2 hown' hgrow _
  have hlt : b < w1.heap.size := by
    rcases Nat.lt_or_ge b w1.heap.size with h' | h'
    · exact h'
    · simp [Array.getElem?_eq_none h'] at hbk
  have hb2 : w2.heap[b]? = some (.cells #[.pointer (some ⟨b, 0, none⟩), v] 100 (0, 0)) := by
    rw [hgrow.block b hlt (fun e => hne e.symm)]
    exact hbk
  have d0 : w2.cell? ⟨b, 0, none⟩ = some (.pointer (some ⟨b, 0, none⟩)) := by rw [Lib.cell_of_heap hb2]; rfl
  have d1 : w2.cell? ⟨b, 1, none⟩ = some v := by rw [Lib.cell_of_heap hb2]; rfl
  have f1 : w2.frozen? ⟨b, 1, none⟩ = false := Lib.frozen_of_heap hb2 1
  obtain ⟨ao, n', cap, rfl⟩ : ∃ ao n' cap, v' = .slice ao n' cap := by
    rcases hown'.2 with ⟨hv, _⟩ | ⟨g, cap, cur, hv, _⟩
    · exact ⟨_, _, _, hv⟩
    · exact ⟨_, _, _, hv⟩
  go_wp2
  go_ret2
  refine ⟨rfl, ?_, ?_⟩
  · exact Lib.BuilderAt.put (T := 100) (e := 5) hB hb2 (bs' := bs ++ Lib.strCells s) (by simpa [Lib.strCells_length] using hown') (by decide)
  · exact (hb1.grown hgrow (by have := hb1.size; omega) (fun k hk => (hown.lt k hk).1)).setCell (p := ⟨b, 1, none⟩) hB _
end Go.Proofs.YtaiiojbakmminaaGreatDoor
namespace Go.Proofs.YtaiiojbakmminaaGreatDoor
open Go Go.RowKit
/-- A function of the program that can be called. -/
structure Fn1 (P : Program) (g : Nat) : Prop where
  out : ∃ fn, P.funcs[g]? = some fn ∧ (fn.name == "runtime.NumGoroutine") = false ∧ fn.body.isNone = false
theorem run_callV {P : Program} {g : FuncId} {op : Oper} {a : Act} {w : World} (hf : Fn1 P g) (x : Operand) (ho : op.op = .call { callee := .value x, args := #[], argTypes := #[] }) (fs lb : Array Value) (hx : a.eval x = .func (.func g) fs lb) :
    (execOp a.eval op).run P w = .ok (.enter g (fs ++ lb)) w := by
  obtain ⟨fn, h1, h2, h3⟩ := hf.out
  unfold execOp
  simp only [ho]
  have hn' : ¬ fn.name = "runtime.NumGoroutine" := by simpa using h2
  have hb' : ¬ fn.body = none := fun e => by rw [e] at h3; cases h3
  simp [resolve, invoke, Deferred.ofValue, callFunc, hx, h1, hn', hb']
theorem wpList_callV {P : Program} {ops : Array Oper} {Q : Exit → Act → World → Prop} {rest : List Oper} {op : Oper} {a : Act} {w : World} {g : FuncId} (hf : Fn1 P g) (hgd : op.guard = none) (x : Operand) (ho : op.op = .call { callee := .value x, args := #[], argTypes := #[] }) (fs lb : Array Value) (hx : a.eval x = .func (.func g) fs lb)
    (R : Ending → World → Prop) (hc : Calls P g (fs ++ lb) w R) (h : ∀ e w', R e w' → ∃ v, e = .returned v ∧ wpList P ops Q rest (a.put op.dst v) w') : wpList P ops Q (op :: rest) a w := by
  refine wpList_plain hgd fun K hK => ?_
  unfold Oper.wp
  rw [run_callV hf x ho fs lb hx, Oper.upon_enter]
  refine hc.mono fun e w'' hh => ?_
  obtain ⟨v, rfl, h2⟩ := h e w'' hh
  exact hK _ _ h2
/-- A step's value, and what is called by it. -/
structure Stp (P : Program) (v : Value) (g : Nat) (args : Array Value) : Prop where
  fn : Fn1 P g
  out : ∃ fs lb, v = .func (.func g) fs lb ∧ fs ++ lb = args
theorem fn1_of {P : Program} {g : Nat} {fn : Func} (h : P.funcs[g]? = some fn) (h2 : (fn.name == "runtime.NumGoroutine") = false) (h3 : fn.body.isNone = false) : Fn1 P g := ⟨fn, h, h2, h3⟩
set_option maxRecDepth 100000 in
set_option maxHeartbeats 1000000 in
theorem inTurn_rule (ad : Option Addr) (n cap : Nat) (vs : Nat → Value) (Rel : Nat → World → Prop) (Post : Nat → World → Prop) (w : World) (hn : n ≤ 1000000)
    (hcells : ∀ i w, Rel i w → i < n → ∃ b o, ad = some ⟨b, o, none⟩ ∧ w.cell? ⟨b, o + i, none⟩ = some (vs i))
    (hstep : ∀ i w, Rel i w → i < n → ∃ g args, Stp Tryz.prog (vs i) g args ∧ Calls Tryz.prog g args w (fun e w' => ∃ c : Nat, e = .returned (.int .i64 (c : Nat)) ∧ (c = 0 → Rel (i + 1) w') ∧ (c ≠ 0 → Post c w')))
    (hend : ∀ w, Rel n w → Post 0 w) (h0 : Rel 0 w) :
    Calls Tryz.prog 37 #[.slice ad n cap] w (fun e w' => ∃ c : Nat, e = .returned (.int .i64 (c : Nat)) ∧ Post c w') := by
  go_enter Tryz.func37, Tryz.ntmps37
  go_wp2_with fail
  go_loopw [4, 5, 8] (fun _ _ v8 wl => ∃ i : Nat, i ≤ n ∧ v8 = .int .i64 i ∧ Rel i wl) (fun _ _ v8 _ => n - (intOf v8).toNat)
  case atStart => exact ⟨0, by omega, rfl, h0⟩
  case round =>
    obtain ⟨i, hin, rfl, hR⟩ := hrel
    by_cases hlt : i < n
    · have hz2 : (i : Int) < (n : Int) := by omega
      obtain ⟨b, o, rfl, hc⟩ := hcells i wr hR hlt
      obtain ⟨g, args, hs, hC⟩ := hstep i wr hR hlt
      obtain ⟨fs, lb, hv, hargs⟩ := hs.out
      have hfn := hs.fn
      rw [hv] at hc
      rw [← hargs] at hC
      clear hs hR hargs
      go_wp2_with (with_reducible refine at_list ?_; refine wpList_callV (op := ⟨some 13, _, _, _, _, _⟩) hfn rfl _ rfl fs lb rfl _ hC ?_; rintro e w2 ⟨c, rfl, h1, h2⟩; refine ⟨_, rfl, ?_⟩)
      · go_ret
        exact ⟨c, rfl, h2 (fun e => by subst e; simp_all)⟩
      · have hc0 : c = 0 := by
          apply Classical.byContradiction
          intro hne
          have : ¬ (c : Int) = 0 := by omega
          simp_all
        exact ⟨⟨i + 1, by omega, by go_num, h1 hc0⟩, by simp [intOf]; omega⟩
    · have hin2 : i = n := by omega
      subst hin2
      clear hstep hcells
      go_wp2_with fail
      go_ret
      exact ⟨0, rfl, hend _ hR⟩
end Go.Proofs.YtaiiojbakmminaaGreatDoor
namespace Go.Proofs.YtaiiojbakmminaaGreatDoor
open Go Go.RowKit
/-- A fall that is planned: when, which are kept, how much of one is torn. -/
structure FA where
  at_ : Int
  keep : Int
  torn : Int
def faC (f : FA) : List Value := [.int .i64 f.at_, .int .i64 f.keep, .int .i64 f.torn]
/-- The value v is a slice of that one fall. -/
structure PlA (w : World) (v : Value) (f : FA) : Prop where
  out : ∃ g o cap cur fr, v = .slice (some ⟨g, o, none⟩) 1 cap ∧ 1 ≤ cap ∧ w.heap[g]? = some (.cells cur 32 fr) ∧ ∀ j u, (faC f)[j]? = some u → cur[o + j]? = some u
theorem PlA.below {w w' : World} {v : Value} {f : FA} (h : PlA w v f) (hb : Below w.heap.size w w') : PlA w' v f := by
  obtain ⟨g, o, cap, cur, fr, h1, h2, h3, h4⟩ := h.out
  exact ⟨g, o, cap, cur, fr, h1, h2, (hb.block g (Array.getElem?_eq_some_iff.1 h3).1).trans h3, h4⟩
/-- No fall strikes at the next change. -/
def Calm (w : World) (m : DM) : Prop := (∃ a c, m.pv = .slice a 0 c) ∨ ∃ f : FA, PlA w m.pv f ∧ (m.ch : Int) < f.at_
theorem Calm.below {w w' : World} {m : DM} (h : Calm w m) (hb : Below w.heap.size w w') : Calm w' m := by
  rcases h with h | ⟨f, h1, h2⟩
  · exact .inl h
  · exact .inr ⟨f, h1.below hb, h2⟩
set_option maxRecDepth 100000 in
set_option maxHeartbeats 2000000 in
theorem struck_none (p : Nat) (b : Option Nat) (m : DM) (w : World) (h : DK w p b m) (hc : m.ch ≤ 1000000) (a : Option Addr) (cp : Nat) (hpv : m.pv = .slice a 0 cp) :
    Calls Tryz.prog 74 #[.pointer (some ⟨p, 0, none⟩)] w fun e w' => e = .returned (.bool false) ∧ Chg w w' p b b ∧ DK w' p b { m with ch := m.ch + 1 } := by
  obtain ⟨sl, hD, hF, hb⟩ := h.out
  have c4 : w.cell? ⟨p, 4, none⟩ = some (.slice a 0 cp) := (hD.cell 4).trans ((dC_g4 _ _).trans (congrArg some hpv))
  have hw1 : IntKind.i64.wrap ((m.ch : Int) + 1) = ((m.ch + 1 : Nat) : Int) := by rw [IntKind.wrap_i64]; omega
  clear hpv
  go_enter Tryz.func74, Tryz.ntmps74
  go_wp2_with fail
  go_loopw [4] (fun _ wl => wl = w) (fun _ _ => 0)
  case atStart => rfl
  case round =>
    have hw2 := hrel.symm
    subst hw2
    clear hrel
    go_wp2_with fail
    go_region
    go_wp2_with fail
    go_region
    have hD2 := hD.drew.drew
    have hF2 := hF.drew.drew
    have hB2 : Below w.heap.size w w.drew.drew := (Below.refl _ w).drew.drew
    go_wp2_with (with_reducible refine at_list ?_; first
      | (refine wpList_loadCell (op := ⟨some 55, _, _, _, _, _⟩) rfl _ _ rfl p 5 rfl _ _ hD2 _ Tryz.underlying3 rfl _ (dC_g5 _ _) ?_)
      | (refine wpList_storeCell (op := ⟨none, .store 3 (.tmp 58) (.tmp 56), _, _, _, _⟩) rfl _ _ _ rfl p 5 rfl (.int .i64 ((m.ch + 1 : Nat) : Int)) rfl _ _ hD2 iInt rfl rfl (by rw [dC_size]; decide) ?_; intro w1 hg1 hs1 hD3; rw [dC_s5] at hD3))
    go_ret
    exact ⟨rfl, (Chg.below hB2).trans (Chg.own hg1), ⟨sl, hD3, hF2.grown hg1 (hF2.ne hD2 (by decide)), hb⟩⟩
set_option maxRecDepth 100000 in
set_option maxHeartbeats 2000000 in
theorem struck_later (p : Nat) (b : Option Nat) (m : DM) (w : World) (h : DK w p b m) (hc : m.ch ≤ 1000000) (f : FA) (hP : PlA w m.pv f) (hlt : (m.ch : Int) < f.at_) :
    Calls Tryz.prog 74 #[.pointer (some ⟨p, 0, none⟩)] w fun e w' => e = .returned (.bool false) ∧ Chg w w' p b b ∧ DK w' p b { m with ch := m.ch + 1 } := by
  obtain ⟨sl, hD, hF, hb⟩ := h.out
  obtain ⟨g, o, cap, cur, fr, hpv, hcap, hg, hcell⟩ := hP.out
  have c4 : w.cell? ⟨p, 4, none⟩ = some (.slice (some ⟨g, o, none⟩) 1 cap) := (hD.cell 4).trans ((dC_g4 _ _).trans (congrArg some hpv))
  have c5 : w.cell? ⟨p, 5, none⟩ = some (.int .i64 (m.ch : Nat)) := (hD.cell 5).trans (dC_g5 _ _)
  have cA : w.cell? ⟨g, o, none⟩ = some (.int .i64 f.at_) := by
    simp only [World.cell?, hg]
    exact hcell 0 _ rfl
  have hw1 : IntKind.i64.wrap ((m.ch : Int) + 1) = ((m.ch + 1 : Nat) : Int) := by rw [IntKind.wrap_i64]; omega
  have d1 : decide (f.at_ < (m.ch : Int)) = false := decide_eq_false (by omega)
  have d2 : decide ((m.ch : Int) < f.at_) = true := decide_eq_true hlt
  clear hpv hcell hg hP
  go_enter Tryz.func74, Tryz.ntmps74
  go_wp2_with fail
  go_loopw [4] (fun _ wl => wl = w) (fun _ _ => 0)
  case atStart => rfl
  case round =>
    have hw2 := hrel.symm
    subst hw2
    clear hrel
    go_wp2_with fail
    go_region
    go_wp2_with fail
    go_region
    have hD2 := hD.drew.drew
    have hF2 := hF.drew.drew
    have hB2 : Below w.heap.size w w.drew.drew := (Below.refl _ w).drew.drew
    go_wp2_with (with_reducible refine at_list ?_; first
      | (refine wpList_loadCell (op := ⟨some 55, _, _, _, _, _⟩) rfl _ _ rfl p 5 rfl _ _ hD2 _ Tryz.underlying3 rfl _ (dC_g5 _ _) ?_)
      | (refine wpList_storeCell (op := ⟨none, .store 3 (.tmp 58) (.tmp 56), _, _, _, _⟩) rfl _ _ _ rfl p 5 rfl (.int .i64 ((m.ch + 1 : Nat) : Int)) rfl _ _ hD2 iInt rfl rfl (by rw [dC_size]; decide) ?_; intro w1 hg1 hs1 hD3; rw [dC_s5] at hD3))
    go_ret
    exact ⟨rfl, (Chg.below hB2).trans (Chg.own hg1), ⟨sl, hD3, hF2.grown hg1 (hF2.ne hD2 (by decide)), hb⟩⟩
theorem struck_any (p : Nat) (b : Option Nat) (m : DM) (w : World) (h : DK w p b m) (hc : m.ch ≤ 1000000) (hp : Calm w m) :
    Calls Tryz.prog 74 #[.pointer (some ⟨p, 0, none⟩)] w fun e w' => e = .returned (.bool false) ∧ Chg w w' p b b ∧ DK w' p b { m with ch := m.ch + 1 } := by
  rcases hp with ⟨a, c, e⟩ | ⟨f, h1, h2⟩
  · exact struck_none p b m w h hc a c e
  · exact struck_later p b m w h hc f h1 h2
/-- Is there no room for so many bytes more? -/
def fullE (m : DM) (d : Int) : Bool := m.lim && decide (0 < d) && decide (m.room - (usedL m.l : Nat) < d)
set_option maxRecDepth 100000 in
set_option maxHeartbeats 2000000 in
theorem isFull_any (p : Nat) (b : Option Nat) (m : DM) (d : Int) (w : World) (h : DK w p b m) (hl : m.l.length ≤ 1000000) (hu : usedL m.l ≤ 1000000000000) (hr : m.lim = true → 0 ≤ m.room ∧ m.room ≤ 9223372036854775807) :
    Calls Tryz.prog 86 #[.pointer (some ⟨p, 0, none⟩), .int .i64 d] w fun e w' => e = .returned (.bool (fullE m d)) ∧ Below w.heap.size w w' := by
  have HU := fun w1 (hB : Below w.heap.size w w1) => used_any p b m w1 (h.below hB) hl hu
  obtain ⟨sl, hD, hF, hb⟩ := h.out
  have c2 : w.cell? ⟨p, 2, none⟩ = some (.bool m.lim) := (hD.cell 2).trans (dC_g2 _ _)
  have c3 : w.cell? ⟨p, 3, none⟩ = some (.int .i64 m.room) := (hD.cell 3).trans (dC_g3 _ _)
  unfold fullE
  have hp := hD.lt
  clear hD hF hb h
  generalize m.lim = li at *
  cases li with
  | false =>
    simp only [Bool.false_and]
    clear HU c3 hr
    go_enter Tryz.func86, Tryz.ntmps86
    go_wp2_with fail
    go_region
    go_wp2_with fail
    go_ret
    exact ⟨rfl, (Below.refl _ _).drew⟩
  | true =>
    simp only [Bool.true_and]
    obtain ⟨hr1, hr2⟩ := hr rfl
    clear hr
    by_cases hd : 0 < d
    · have hd0 : decide (0 < d) = true := decide_eq_true hd
      rw [hd0, Bool.true_and]
      generalize usedL m.l = u at *
      generalize m.room = r at *
      have hw1 : IntKind.i64.wrap (r - (u : Int)) = r - (u : Int) := by rw [IntKind.wrap_i64]; omega
      go_enter Tryz.func86, Tryz.ntmps86
      go_wp2_with fail
      go_region_held3 (fun w' => w'.cell? ⟨p, 2, none⟩ = some (.bool true) ∧ w'.cell? ⟨p, 3, none⟩ = some (.int .i64 r)) ((go_split_ands; first | exact ⟨c2, c3⟩ | exact ⟨(hw1'.cell (by simpa using hp)).trans c2, (hw1'.cell (by simpa using hp)).trans c3⟩)) ((go_at_call 33; refine (HU _ ((Below.refl _ w).drew)).mono ?_; rintro e w1 ⟨rfl, hw1'⟩))
      go_wp2_with fail
      go_ret
      exact ⟨rfl, (Below.refl _ w).drew.trans hw1'⟩
    · have hd0 : decide (0 < d) = false := decide_eq_false hd
      rw [hd0, Bool.false_and]
      clear HU c3
      go_enter Tryz.func86, Tryz.ntmps86
      go_wp2_with fail
      go_region
      go_wp2_with fail
      go_ret
      exact ⟨rfl, (Below.refl _ _).drew⟩
end Go.Proofs.YtaiiojbakmminaaGreatDoor
