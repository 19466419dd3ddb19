/- What numbers and newest of the log do. -/
import Derived.Test.YtaiiojbakmminaaGreatDoorWfm
import Derived.Sort.OwnSortedInts
namespace Go.Proofs.YtaiiojbakmminaaGreatDoor
open Go Go.RowKit Go.Shelf Go.Sort
/-- The table of checks, and the error of syntax, lie where their variables lie. -/
structure Gw (w : World) : Prop where
  g : Glob w
  two : 2 ≤ w.heap.size
  er : ∃ ev, w.cell? ⟨1, 0, none⟩ = some ev ∧ (ev = .nilIface ∨ ∃ te pe, ev = .iface te pe)
theorem Gw.keep {w w' : World} (h : Gw w) (hs : w.heap.size ≤ w'.heap.size) (hk : ∀ k, k < 2 → w'.heap[k]? = w.heap[k]?) : Gw w' := by
  have hc : ∀ k o, k < 2 → w'.cell? ⟨k, o, none⟩ = w.cell? ⟨k, o, none⟩ := fun k o hk2 => by
    simp only [World.cell?, hk k hk2]
  refine ⟨⟨Nat.le_trans h.g.one hs, fun j hj => (hc 0 j (by omega)).trans (h.g.k j hj)⟩, Nat.le_trans h.two hs, ?_⟩
  obtain ⟨ev, h1, h2⟩ := h.er
  exact ⟨ev, (hc 1 0 (by omega)).trans h1, h2⟩
theorem Gw.below {w w' : World} (h : Gw w) (hb : Below w.heap.size w w') : Gw w' := h.keep hb.size fun k hk => hb.block k (Nat.lt_of_lt_of_le hk h.two)
/-- A slice of numbers that the call has made. -/
def NL (w : World) (lo : Nat) (sl : Value) (l : List Int) : Prop := GL w 3 1 lo sl (l.map fun n => [.int .i64 n])
theorem infoInt : ∃ i, Tryz.prog.info? 3 = some i ∧ i.zero = some (.int .i64 0) ∧ i.size = 1 ∧ i.bytes ≤ 256 := by
  have h : (Tryz.prog.info? 3).map (fun i => (i.zero, i.size, decide (i.bytes ≤ 256))) = some (some (.int .i64 0), 1, true) := by kernel_rfl
  cases hq : Tryz.prog.info? 3 with
  | none => rw [hq] at h; cases h
  | some i => rw [hq] at h; simp at h; exact ⟨i, rfl, h.1, h.2.1, h.2.2⟩
theorem isl1 (z : Int) (w : World) : (Instr.buildSlice 95 1 #[(0, .int .i64 z)]).run Tryz.prog w = .ok (.slice (some ⟨w.heap.size, 0, none⟩) 1 1) (w.alloc (.cells #[.int .i64 z] 3)) := by
  simp [Instr.buildSlice, run_underlying Tryz.underlying95, sizeOf_run iInt, Sem.run_bind, Instr.fill, newRow, Tryz.zeroValue3, Value.cells, krange1]
section
variable {ops : Array Oper} {rest : List Oper} {op : Oper} {a : Act} {w : World} {Q : Exit → Act → World → Prop}
theorem wpList_isl1 (hgd : op.guard = none) (x : Operand) (ho : op.op = .buildSlice 95 1 #[(0, x)]) (v : Int) (hx : a.eval x = .int .i64 v)
    (h : ∀ w1 : World, Below w.heap.size w w1 → Blk w1 w.heap.size #[.int .i64 v] 3 → wpList Tryz.prog ops Q rest (a.put op.dst (.slice (some ⟨w.heap.size, 0, none⟩) 1 1)) w1) : wpList Tryz.prog ops Q (op :: rest) a w := by
  have e : (#[(0, x)] : Array (Nat × Operand)).map (fun (i, x) => (i, a.eval x)) = #[(0, .int .i64 v)] := by simp [hx]
  refine wpList_run hgd _ _ ?_ (h _ ((Below.refl _ _).alloc (Nat.le_refl _) _) (Blk.new _ _ _))
  unfold execOp
  simp only [ho, Sem.run_bind, e, isl1, Result.andThen_ok]
  rfl
theorem wpList_appN (hgd : op.guard = none) (x y : Operand) (ho : op.op = .call { callee := .builtin .append, args := #[x, y], argTypes := #[95, 95] })
    (lo : Nat) (sl : Value) (l : List Int) (hlo : lo ≤ w.heap.size) (hx : a.eval x = sl) (hsl : NL w lo sl l) (g2 : Nat) (hy : a.eval y = .slice (some ⟨g2, 0, none⟩) 1 1) (v : Int) (hb2 : Blk w g2 #[.int .i64 v] 3) (hlen : l.length ≤ 1000000)
    (h : ∀ (w1 : World) (sl1 : Value), w.grownBy w1 (slBlk sl) → NL w1 lo sl1 (l ++ [v]) → wpList Tryz.prog ops Q rest (a.put op.dst sl1) w1) : wpList Tryz.prog ops Q (op :: rest) a w := by
  obtain ⟨i, hi, hz, hs, hby⟩ := infoInt
  refine wpList_appendGL hgd x y 95 3 ho 1 lo sl _ hlo hx hsl g2 1 hy [.int .i64 v] rfl (fun u hu => by rw [List.mem_singleton.1 hu]; rfl) 3 hb2 i _ rfl Tryz.underlying95 hi hz hs hby (by simpa using hlen) (fun w1 sl1 h1 h2 => h w1 sl1 h1 ?_)
  unfold NL
  rw [List.map_append]
  exact h2
end
theorem NL.below {w w' : World} {lo : Nat} {sl : Value} {l : List Int} (h : NL w lo sl l) (hb : Below w.heap.size w w') : NL w' lo sl l := GL.below h hb
theorem NL.grow {w w' : World} {lo : Nat} {sl : Value} {l : List Int} (h : NL w lo sl l) (hg : w.grownBy w' (slBlk sl)) (hlo : lo ≤ w.heap.size) : Below lo w w' := ⟨hg.os, hg.tape, hg.output, hg.size, fun k hk => hg.block k (by omega) (fun e => by have := (GL.lt h k e.symm).1; omega)⟩
theorem flat_oneI : ∀ l : List Int, (l.map fun n => [Value.int .i64 n]).flatten = l.map (Value.int .i64)
  | [] => rfl
  | y :: r => by rw [List.map_cons, List.flatten_cons, flat_oneI r]; rfl
/-- Numbers that can be read. -/
structure IS (w : World) (sl : Value) (l : List Int) : Prop where
  out : ∃ a cap, sl = .slice a l.length cap ∧ l.length ≤ cap ∧ ∀ j z, l[j]? = some z → ∃ g, a = some ⟨g, 0, none⟩ ∧ g < w.heap.size ∧ w.cell? ⟨g, j, none⟩ = some (.int .i64 z)
abbrev srtI (l : List Int) : List Int := l.mergeSort fun x y => decide (x ≤ y)
theorem sort_any (lo : Nat) (sl : Value) (l : List Int) (w : World) (h : NL w lo sl l) (hlo : lo ≤ w.heap.size) (hl : l.length ≤ 1000000) :
    Calls Tryz.prog 92 #[sl] w fun e w' => e = .returned (.tuple #[]) ∧ Below lo w w' ∧ IS w' sl (srtI l) := by
  rcases h.2 with ⟨h1, rfl⟩ | ⟨g, cap, hg, rfl, hS⟩
  · have h1 : l = [] := by simpa using h1
    subst h1
    refine (slices_Sort_int_none none 0 w).mono ?_
    rintro e w' ⟨rfl, hw⟩
    subst hw
    exact ⟨rfl, Below.refl _ _, ⟨none, 0, by simp [srtI], by simp [srtI], fun j z hz => by simp [srtI] at hz⟩⟩
  · obtain ⟨cur, h1, h2, h3, h4⟩ := hS.out
    rw [List.length_map] at h2 ⊢
    rw [flat_oneI] at h4
    have hH : Holds (Value.int .i64) w g 0 l.toArray := holds_of_blockI h1 (by
      apply List.ext_getElem?
      intro j
      rw [List.getElem?_take]
      split
      · rename_i hj
        have := h4 j (.int .i64 l[j]) (by rw [List.getElem?_map, List.getElem?_eq_getElem hj]; rfl)
        rw [← Array.getElem?_toList] at this
        rw [this, List.getElem?_map, List.getElem?_eq_getElem hj]
        rfl
      · rename_i hj
        rw [List.getElem?_eq_none (by simp; omega)])
    have hgl := (Array.getElem?_eq_some_iff.1 h1).1
    refine (slices_Sort_int g 0 cap l w hH hgl (by omega)).mono ?_
    rintro e w' ⟨rfl, nn, os, rfl⟩
    have hlen : (srtI l).length = l.length := by simp [srtI]
    have hgr := grownBy_sortedI (w := w) (g := g) (n := nn) (os := os) (srtI l).toArray
    refine ⟨rfl, below_of_grown hgr hg hlo, ⟨some ⟨g, 0, none⟩, cap, by rw [hlen], by rw [hlen]; omega, fun j z hz => ⟨g, rfl, Nat.lt_of_lt_of_le hgl hgr.size, ?_⟩⟩⟩
    have hj : j < l.length := by have := (List.getElem?_eq_some_iff.1 hz).1; omega
    have hP := holds_putRow (Value.int .i64) (Sort.ahead w nn) g 0 l.toArray (srtI l).toArray hH (by simp)
    have hc := (hP j (by simpa using hj)).1
    rw [Nat.zero_add] at hc
    rw [cell?_grow _ _ _ (by rw [size_putRow]; exact hgl)]
    rw [hc]
    obtain ⟨hj2, rfl⟩ := List.getElem?_eq_some_iff.1 hz
    simp [hj]
/-- The numbers of names that have nothing else behind a prefix, rising. -/
def fmI (pre : B) (names : List B) : List Int := (names.filterMap (numK pre)).map Int.ofNat
def numsP (pre : B) (names : List B) : List Int := srtI (fmI pre names)
/-- Names that the log meets. -/
structure Nms (pre : B) (names : List B) : Prop where
  len : names.length ≤ 1000
  short : ∀ x ∈ names, x.length ≤ 18
  small : ∀ x ∈ names, Lib.hasPrefix x pre = true → ∀ z, Lib.atoi (Lib.trimPrefix x pre) = some z → z < 100
theorem trim_len (x p : B) : (Lib.trimPrefix x p).length ≤ x.length := by
  unfold Lib.trimPrefix
  split
  · rw [List.length_drop]; omega
  · exact Nat.le_refl _
theorem fm_take {names : List B} {i : Nat} {x pre : B} (h : names[i]? = some x) : fmI pre (names.take (i + 1)) = fmI pre (names.take i) ++ (match numK pre x with | some n => [(n : Int)] | none => []) := by
  obtain ⟨hi, rfl⟩ := List.getElem?_eq_some_iff.1 h
  unfold fmI
  rw [List.take_succ_eq_append_getElem hi, List.filterMap_append, List.map_append]
  congr 1
  rw [List.filterMap_cons]
  cases numK pre names[i] <;> rfl
set_option maxRecDepth 100000 in
set_option maxHeartbeats 2000000 in
theorem numbers_any (names : List B) (ad : Option Addr) (cap : Nat) (pre : B) (w : World) (hT : TA w ad names) (hG : Gw w) (hN : Nms pre names) :
    Calls Tryz.prog 64 #[.slice ad names.length cap, .string ⟨pre.toArray⟩] w fun e w' => ∃ sl, e = .returned sl ∧ Below w.heap.size w w' ∧ IS w' sl (numsP pre names) := by
  have hnl := hN.len
  have HSo := fun w1 sl l (h : NL w1 w.heap.size sl l) h2 h3 => sort_any w.heap.size sl l w1 h h2 h3
  go_enter Tryz.func64, Tryz.ntmps64
  go_wp2_with fail
  go_loopw [5, 7, 8, 9, 10, 11, 14] (fun v5 _ _ _ _ _ v14 wl => ∃ i : Nat, i ≤ names.length ∧ v14 = .int .i64 i ∧ Below w.heap.size w wl ∧ NL wl w.heap.size v5 (fmI pre (names.take i))) (fun _ _ _ _ _ _ v14 _ => names.length - (intOf v14).toNat)
  case atStart => exact ⟨0, by omega, rfl, Below.refl _ _, GL.nil _ _ _ _⟩
  case round =>
    obtain ⟨i, hil, rfl, hB, hX⟩ := hrel
    have hsz := hB.size
    have htl : (fmI pre (names.take i)).length ≤ 1000 := by
      unfold fmI
      rw [List.length_map]
      refine Nat.le_trans (List.length_filterMap_le ..) ?_
      rw [List.length_take]
      omega
    by_cases hlt : i < names.length
    · have hz2 : (i : Int) < (names.length : Int) := by omega
      obtain ⟨x, hx⟩ : ∃ x, names[i]? = some x := ⟨_, List.getElem?_eq_getElem hlt⟩
      have hxm := List.mem_of_getElem? hx
      have hxs := hN.short x hxm
      have hxp := hN.small x hxm
      obtain ⟨g, o, rfl, hgl, hc⟩ := hT.at i x hx
      have hc2 : wr.cell? ⟨g, o + i, none⟩ = some (.string ⟨x.toArray⟩) := (hB.cell (p := ⟨g, o + i, none⟩) hgl).trans hc
      have e3 : Hid _ := fm_take (pre := pre) hx
      have HC : Calls Tryz.prog 90 #[.string ⟨x.toArray⟩, .string ⟨pre.toArray⟩] wr fun e w' => e = .returned (.tuple #[.string ⟨(Lib.trimPrefix x pre).toArray⟩, .bool (Lib.hasPrefix x pre)]) ∧ w' = wr := strings_CutPrefix ⟨x.toArray⟩ ⟨pre.toArray⟩ wr
      have hrl : (Lib.trimPrefix x pre).length ≤ 18 := Nat.le_trans (trim_len x pre) hxs
      have hk : Hid (numK pre x = if Lib.hasPrefix x pre = true then (match Lib.atoi (Lib.trimPrefix x pre) with
        | some n => if 1 ≤ n ∧ Lib.itoa n = Lib.trimPrefix x pre then some n.toNat else none
        | none => none) else none) := rfl
      have hGr := hG.below hB
      obtain ⟨ev, hev1, hev2⟩ := hGr.er
      have HA : Calls Tryz.prog 91 #[.string ⟨(Lib.trimPrefix x pre).toArray⟩] wr fun e w' => Below wr.heap.size wr w' ∧ match Lib.atoi (Lib.trimPrefix x pre) with
          | some z => e = .returned (.tuple #[.int .i64 z, .nilIface])
          | none => ∃ t N, e = .returned (.tuple #[.int .i64 0, .iface t (.pointer (some ⟨N, 0, none⟩))]) := by
        cases hat : Lib.atoi (Lib.trimPrefix x pre) with
        | some z =>
          refine (strconv_Atoi ⟨(Lib.trimPrefix x pre).toArray⟩ z (by rw [mk_len2]; exact hrl) hat wr).mono ?_
          rintro e w' ⟨rfl, t, rfl⟩
          exact ⟨Lib.bytesWorld_below _ _ _, rfl⟩
        | none =>
          refine (strconv_Atoi_err ⟨(Lib.trimPrefix x pre).toArray⟩ (by rw [mk_len2]; exact hrl) hat ev wr hev1 hev2).mono ?_
          rintro e w' ⟨N, rfl, _, _, hb⟩
          exact ⟨hb, _, N, rfl⟩
      clear hx hc hxm hev1 hev2 hGr
      generalize fmI pre (names.take i) = U at *
      generalize numK pre x = nk at *
      cases hf : Lib.hasPrefix x pre with
      | false =>
        rw [hf] at HC hk
        have hnk : nk = none := hk.out.trans (if_neg (by simp))
        subst hnk
        clear hk hxp
        cases hat : Lib.atoi (Lib.trimPrefix x pre) with
        | some z =>
          rw [hat] at HA
          clear hat
          generalize Lib.trimPrefix x pre = rs at *
          go_wp2_with (first
            | (go_at_call 90; refine HC.mono ?_; rintro e w' ⟨rfl, hw'⟩; have hw2 := hw'.symm; subst hw2; clear hw')
            | (go_at_call 91; refine HA.mono ?_; rintro e w2 ⟨hw2, rfl⟩))
          go_roundw
          case rel => exact ⟨i + 1, by omega, by go_num, hB.trans (hw2.mono hsz), by rw [e3.out]; simpa using hX.below hw2⟩
          case measure => simp [intOf]; omega
        | none =>
          rw [hat] at HA
          clear hat
          generalize Lib.trimPrefix x pre = rs at *
          go_wp2_with (first
            | (go_at_call 90; refine HC.mono ?_; rintro e w' ⟨rfl, hw'⟩; have hw2 := hw'.symm; subst hw2; clear hw')
            | (go_at_call 91; refine HA.mono ?_; rintro e w2 ⟨hw2, tt, NN, rfl⟩))
          go_roundw
          case rel => exact ⟨i + 1, by omega, by go_num, hB.trans (hw2.mono hsz), by rw [e3.out]; simpa using hX.below hw2⟩
          case measure => simp [intOf]; omega
      | true =>
        rw [hf] at HC hk
        have hxp2 := hxp hf
        clear hxp
        cases hat : Lib.atoi (Lib.trimPrefix x pre) with
        | none =>
          rw [hat] at HA hk
          have hnk : nk = none := hk.out.trans (if_pos rfl)
          subst hnk
          clear hk hxp2
          clear hat
          generalize Lib.trimPrefix x pre = rs at *
          go_wp2_with (first
            | (go_at_call 90; refine HC.mono ?_; rintro e w' ⟨rfl, hw'⟩; have hw2 := hw'.symm; subst hw2; clear hw')
            | (go_at_call 91; refine HA.mono ?_; rintro e w2 ⟨hw2, tt, NN, rfl⟩))
          go_roundw
          case rel => exact ⟨i + 1, by omega, by go_num, hB.trans (hw2.mono hsz), by rw [e3.out]; simpa using hX.below hw2⟩
          case measure => simp [intOf]; omega
        | some z =>
          rw [hat] at HA hk
          have hz100 := hxp2 z hat
          clear hxp2
          have hk2 : Hid (nk = if 1 ≤ z ∧ Lib.itoa z = Lib.trimPrefix x pre then some z.toNat else none) := hk.out.trans (if_pos rfl)
          clear hk
          by_cases hz1 : 1 ≤ z
          · obtain ⟨q, rfl⟩ := Int.eq_ofNat_of_zero_le (show 0 ≤ z by omega)
            have hq1 : q < 100 := by omega
            have HI := fun w1 => strconv_Itoa_small q hq1 w1
            have e6 : Lib.itoa ((q : Nat) : Int) = Lib.decDigits q := by rw [itoa_dg q hq1, dec_dg q hq1]
            rw [e6] at hk2
            clear hat e6
            generalize Lib.trimPrefix x pre = rs at *
            generalize Lib.decDigits q = dq at *
            by_cases hdr : dq = rs
            · have hnk : nk = some q := hk2.out.trans (if_pos ⟨hz1, hdr⟩)
              subst hnk
              subst hdr
              clear hk2
              have hU2 : U.length ≤ 1000000 := by omega
              go_wp2_with (first
                | (go_at_call 90; refine HC.mono ?_; rintro e w' ⟨rfl, hw'⟩; have hw2 := hw'.symm; subst hw2; clear hw')
                | (go_at_call 91; refine HA.mono ?_; rintro e w2 ⟨hw2, rfl⟩; have hX2 := hX.below hw2; have hB2 := hB.trans (hw2.mono hsz); have hsz2 := hB2.size)
                | (go_at_call 68; refine (HI _).mono ?_; rintro e w' ⟨rfl, hw'⟩; have hw3 := hw'.symm; subst hw3; clear hw')
                | (with_reducible refine at_list ?_; first
                  | (refine wpList_isl1 (op := ⟨some 46, _, _, _, _, _⟩) rfl _ rfl (q : Nat) rfl ?_; intro w3 hw3 hb3; have hX3 := hX2.below hw3; have hB3 := hB2.trans (hw3.mono hsz2))
                  | (refine wpList_appN (op := ⟨some 47, _, _, _, _, _⟩) rfl _ _ rfl w.heap.size u5 U (Nat.le_trans hsz2 hw3.size) (by with_unfolding_all exact rfl) hX3 w2.heap.size (by with_unfolding_all exact rfl) (q : Nat) hb3 hU2 ?_; intro w4 sl4 hg4 hX4; have hB4 := hB3.trans (hX3.grow hg4 (Nat.le_trans hsz2 hw3.size)))))
              go_roundw
              case rel => exact ⟨i + 1, by omega, by go_num, hB4, by rw [e3.out]; exact hX4⟩
              case measure => simp [intOf]; omega
            · have hnk : nk = none := hk2.out.trans (if_neg (fun e => hdr e.2))
              subst hnk
              clear hk2
              have hdb : (dq == rs) = false := by simpa using hdr
              clear hdr
              go_wp2_with (first
                | (go_at_call 90; refine HC.mono ?_; rintro e w' ⟨rfl, hw'⟩; have hw2 := hw'.symm; subst hw2; clear hw')
                | (go_at_call 91; refine HA.mono ?_; rintro e w2 ⟨hw2, rfl⟩)
                | (go_at_call 68; refine (HI _).mono ?_; rintro e w' ⟨rfl, hw'⟩; have hw3 := hw'.symm; subst hw3; clear hw'))
              go_roundw
              case rel => exact ⟨i + 1, by omega, by go_num, hB.trans (hw2.mono hsz), by rw [e3.out]; simpa using hX.below hw2⟩
              case measure => simp [intOf]; omega
          · have hnk : nk = none := hk2.out.trans (if_neg (fun e => hz1 e.1))
            subst hnk
            clear hk2
            clear hat
            generalize Lib.trimPrefix x pre = rs at *
            go_wp2_with (first
            | (go_at_call 90; refine HC.mono ?_; rintro e w' ⟨rfl, hw'⟩; have hw2 := hw'.symm; subst hw2; clear hw')
            | (go_at_call 91; refine HA.mono ?_; rintro e w2 ⟨hw2, rfl⟩))
            go_roundw
            case rel => exact ⟨i + 1, by omega, by go_num, hB.trans (hw2.mono hsz), by rw [e3.out]; simpa using hX.below hw2⟩
            case measure => simp [intOf]; omega
    · have hin : names.take i = names := List.take_of_length_le (by omega)
      rw [hin] at hX htl
      have HS2 := HSo wr _ _ hX hsz (by omega)
      clear HSo
      have e5 : Hid (numsP pre names = srtI (fmI pre names)) := rfl
      generalize fmI pre names = U at *
      go_wp2_with (go_at_call 92; refine HS2.mono ?_; rintro e w2 ⟨rfl, hw2, hI2⟩)
      go_ret
      exact ⟨_, rfl, hB.trans hw2, by rw [e5.out]; exact hI2⟩
/-- The greatest generation that has a base, or 0. -/
def newP (names : List B) : Int := (numsP preB names).getLast?.getD 0
set_option maxRecDepth 100000 in
set_option maxHeartbeats 1000000 in
theorem newest_any (names : List B) (ad : Option Addr) (cap : Nat) (w : World) (hT : TA w ad names) (hG : Gw w) (hN : Nms preB names) :
    Calls Tryz.prog 34 #[.slice ad names.length cap] w fun e w' => e = .returned (.int .i64 (newP names)) ∧ Below w.heap.size w w' := by
  have HN : Calls Tryz.prog 64 #[.slice ad names.length cap, .string ⟨#[98, 97, 115, 101, 45]⟩] w fun e w' => ∃ sl, e = .returned sl ∧ Below w.heap.size w w' ∧ IS w' sl (numsP preB names) := numbers_any names ad cap preB w hT hG hN
  have hl : (numsP preB names).length ≤ 1000 := by
    unfold numsP fmI
    rw [List.length_mergeSort, List.length_map]
    exact Nat.le_trans (List.length_filterMap_le ..) hN.len
  unfold newP
  generalize numsP preB names = U at *
  clear hT hG hN
  by_cases hU : U = []
  · subst hU
    have HN2 : Calls Tryz.prog 64 #[.slice ad names.length cap, .string ⟨#[98, 97, 115, 101, 45]⟩] w fun e w' => ∃ a cp, e = .returned (.slice a 0 cp) ∧ Below w.heap.size w w' := HN.mono (fun e w' ⟨sl, h1, h2, h3⟩ => by
      obtain ⟨a, cp, e2, _⟩ := h3.out
      exact ⟨a, cp, by rw [h1, e2]; rfl, h2⟩)
    clear HN
    go_enter Tryz.func34, Tryz.ntmps34
    go_wp2_with (go_at_call 64; refine HN2.mono ?_; rintro e w2 ⟨a, cp, rfl, hw2⟩)
    go_ret
    exact ⟨rfl, hw2⟩
  · have hpos : 0 < U.length := List.length_pos_iff.2 hU
    obtain ⟨q, hq⟩ : ∃ q, U.length = q + 1 := ⟨U.length - 1, by omega⟩
    obtain ⟨z, hz⟩ : ∃ z, U[q]? = some z := ⟨_, List.getElem?_eq_getElem (by omega)⟩
    have hlast : U.getLast? = some z := by rw [List.getLast?_eq_getElem?, hq]; exact hz
    rw [hlast]
    have HN2 : Calls Tryz.prog 64 #[.slice ad names.length cap, .string ⟨#[98, 97, 115, 101, 45]⟩] w fun e w' => ∃ g cp, e = .returned (.slice (some ⟨g, 0, none⟩) (q + 1) cp) ∧ Below w.heap.size w w' ∧ w'.cell? ⟨g, q, none⟩ = some (.int .i64 z) ∧ q + 1 ≤ cp := HN.mono (fun e w' ⟨sl, h1, h2, h3⟩ => by
      obtain ⟨a, cp, e2, hcp, hc⟩ := h3.out
      obtain ⟨g, rfl, _, hcell⟩ := hc q z hz
      exact ⟨g, cp, by rw [h1, e2, hq], h2, hcell, by omega⟩)
    clear HN hlast hz hpos hU
    rw [hq] at hl
    clear hq
    have hw1 : IntKind.i64.wrap (q : Int) = (q : Int) := by rw [IntKind.wrap_i64]; omega
    have hz1 : (0 : Int) < ((q : Int) + 1) := by omega
    go_enter Tryz.func34, Tryz.ntmps34
    go_wp2_with (go_at_call 64; refine HN2.mono ?_; rintro e w2 ⟨g, cp, rfl, hw2, hcell, hcp⟩)
    go_ret
    exact ⟨rfl, hw2⟩
end Go.Proofs.YtaiiojbakmminaaGreatDoor
