/- What numbers and newest of the log do. Bytes as frames, plainly, up to the first one that is not whole and right; what the log's unframe does. -/
import Derived.Test.YtaiiojbakmminaaGreatDoorWfm
import Derived.Sort.OwnSortedInts
namespace Go.Proofs.YtaiiojbakmminaaGreatDoor
open Go Go.RowKit Go.Shelf Go.Sort
/-- The table of checks, and the error of syntax, lie where their variables lie. -/
structure Gw (w : World) : Prop where
  g : Glob w
  two : 2 ≤ w.heap.size
  er : ∃ ev, w.cell? ⟨1, 0, none⟩ = some ev ∧ (ev = .nilIface ∨ ∃ te pe, ev = .iface te pe)
theorem Gw.keep {w w' : World} (h : Gw w) (hs : w.heap.size ≤ w'.heap.size) (hk : ∀ k, k < 2 → w'.heap[k]? = w.heap[k]?) : Gw w' := by
  have hc : ∀ k o, k < 2 → w'.cell? ⟨k, o, none⟩ = w.cell? ⟨k, o, none⟩ := fun k o hk2 => by
    simp only [World.cell?, hk k hk2]
  refine ⟨⟨Nat.le_trans h.g.one hs, fun j hj => (hc 0 j (by omega)).trans (h.g.k j hj)⟩, Nat.le_trans h.two hs, ?_⟩
  obtain ⟨ev, h1, h2⟩ := h.er
  exact ⟨ev, (hc 1 0 (by omega)).trans h1, h2⟩
theorem Gw.below {w w' : World} (h : Gw w) (hb : Below w.heap.size w w') : Gw w' := h.keep hb.size fun k hk => hb.block k (Nat.lt_of_lt_of_le hk h.two)
/-- A slice of numbers that the call has made. -/
def NL (w : World) (lo : Nat) (sl : Value) (l : List Int) : Prop := GL w 3 1 lo sl (l.map fun n => [.int .i64 n])
theorem infoInt : ∃ i, Tryz.prog.info? 3 = some i ∧ i.zero = some (.int .i64 0) ∧ i.size = 1 ∧ i.bytes ≤ 256 := by
  have h : (Tryz.prog.info? 3).map (fun i => (i.zero, i.size, decide (i.bytes ≤ 256))) = some (some (.int .i64 0), 1, true) := by kernel_rfl
  cases hq : Tryz.prog.info? 3 with
  | none => rw [hq] at h; cases h
  | some i => rw [hq] at h; simp at h; exact ⟨i, rfl, h.1, h.2.1, h.2.2⟩
theorem isl1 (z : Int) (w : World) : (Instr.buildSlice 95 1 #[(0, .int .i64 z)]).run Tryz.prog w = .ok (.slice (some ⟨w.heap.size, 0, none⟩) 1 1) (w.alloc (.cells #[.int .i64 z] 3)) := by
  simp [Instr.buildSlice, run_underlying Tryz.underlying95, sizeOf_run iInt, Sem.run_bind, Instr.fill, newRow, Tryz.zeroValue3, Value.cells, krange1]
section
variable {ops : Array Oper} {rest : List Oper} {op : Oper} {a : Act} {w : World} {Q : Exit → Act → World → Prop}
theorem wpList_isl1 (hgd : op.guard = none) (x : Operand) (ho : op.op = .buildSlice 95 1 #[(0, x)]) (v : Int) (hx : a.eval x = .int .i64 v)
    (h : ∀ w1 : World, Below w.heap.size w w1 → Blk w1 w.heap.size #[.int .i64 v] 3 → wpList Tryz.prog ops Q rest (a.put op.dst (.slice (some ⟨w.heap.size, 0, none⟩) 1 1)) w1) : wpList Tryz.prog ops Q (op :: rest) a w := by
  have e : (#[(0, x)] : Array (Nat × Operand)).map (fun (i, x) => (i, a.eval x)) = #[(0, .int .i64 v)] := by simp [hx]
  refine wpList_run hgd _ _ ?_ (h _ ((Below.refl _ _).alloc (Nat.le_refl _) _) (Blk.new _ _ _))
  unfold execOp
  simp only [ho, Sem.run_bind, e, isl1, Result.andThen_ok]
  rfl
theorem wpList_appN (hgd : op.guard = none) (x y : Operand) (ho : op.op = .call { callee := .builtin .append, args := #[x, y], argTypes := #[95, 95] })
    (lo : Nat) (sl : Value) (l : List Int) (hlo : lo ≤ w.heap.size) (hx : a.eval x = sl) (hsl : NL w lo sl l) (g2 : Nat) (hy : a.eval y = .slice (some ⟨g2, 0, none⟩) 1 1) (v : Int) (hb2 : Blk w g2 #[.int .i64 v] 3) (hlen : l.length ≤ 1000000)
    (h : ∀ (w1 : World) (sl1 : Value), w.grownBy w1 (slBlk sl) → NL w1 lo sl1 (l ++ [v]) → wpList Tryz.prog ops Q rest (a.put op.dst sl1) w1) : wpList Tryz.prog ops Q (op :: rest) a w := by
  obtain ⟨i, hi, hz, hs, hby⟩ := infoInt
  refine wpList_appendGL hgd x y 95 3 ho 1 lo sl _ hlo hx hsl g2 1 hy [.int .i64 v] rfl (fun u hu => by rw [List.mem_singleton.1 hu]; rfl) 3 hb2 i _ rfl Tryz.underlying95 hi hz hs hby (by simpa using hlen) (fun w1 sl1 h1 h2 => h w1 sl1 h1 ?_)
  unfold NL
  rw [List.map_append]
  exact h2
end
theorem NL.below {w w' : World} {lo : Nat} {sl : Value} {l : List Int} (h : NL w lo sl l) (hb : Below w.heap.size w w') : NL w' lo sl l := GL.below h hb
theorem NL.grow {w w' : World} {lo : Nat} {sl : Value} {l : List Int} (h : NL w lo sl l) (hg : w.grownBy w' (slBlk sl)) (hlo : lo ≤ w.heap.size) : Below lo w w' := ⟨hg.os, hg.tape, hg.output, hg.size, fun k hk => hg.block k (by omega) (fun e => by have := (GL.lt h k e.symm).1; omega)⟩
theorem flat_oneI : ∀ l : List Int, (l.map fun n => [Value.int .i64 n]).flatten = l.map (Value.int .i64)
  | [] => rfl
  | y :: r => by rw [List.map_cons, List.flatten_cons, flat_oneI r]; rfl
/-- Numbers that can be read. -/
structure IS (w : World) (sl : Value) (l : List Int) : Prop where
  out : ∃ a cap, sl = .slice a l.length cap ∧ l.length ≤ cap ∧ ∀ j z, l[j]? = some z → ∃ g, a = some ⟨g, 0, none⟩ ∧ g < w.heap.size ∧ w.cell? ⟨g, j, none⟩ = some (.int .i64 z)
abbrev srtI (l : List Int) : List Int := l.mergeSort fun x y => decide (x ≤ y)
theorem sort_any (lo : Nat) (sl : Value) (l : List Int) (w : World) (h : NL w lo sl l) (hlo : lo ≤ w.heap.size) (hl : l.length ≤ 1000000) :
    Calls Tryz.prog 92 #[sl] w fun e w' => e = .returned (.tuple #[]) ∧ Below lo w w' ∧ IS w' sl (srtI l) := by
  rcases h.2 with ⟨h1, rfl⟩ | ⟨g, cap, hg, rfl, hS⟩
  · have h1 : l = [] := by simpa using h1
    subst h1
    refine (slices_Sort_int_none none 0 w).mono ?_
    rintro e w' ⟨rfl, hw⟩
    subst hw
    exact ⟨rfl, Below.refl _ _, ⟨none, 0, by simp [srtI], by simp [srtI], fun j z hz => by simp [srtI] at hz⟩⟩
  · obtain ⟨cur, h1, h2, h3, h4⟩ := hS.out
    rw [List.length_map] at h2 ⊢
    rw [flat_oneI] at h4
    have hH : Holds (Value.int .i64) w g 0 l.toArray := holds_of_blockI h1 (by
      apply List.ext_getElem?
      intro j
      rw [List.getElem?_take]
      split
      · rename_i hj
        have := h4 j (.int .i64 l[j]) (by rw [List.getElem?_map, List.getElem?_eq_getElem hj]; rfl)
        rw [← Array.getElem?_toList] at this
        rw [this, List.getElem?_map, List.getElem?_eq_getElem hj]
        rfl
      · rename_i hj
        rw [List.getElem?_eq_none (by simp; omega)])
    have hgl := (Array.getElem?_eq_some_iff.1 h1).1
    refine (slices_Sort_int g 0 cap l w hH hgl (by omega)).mono ?_
    rintro e w' ⟨rfl, nn, os, rfl⟩
    have hlen : (srtI l).length = l.length := by simp [srtI]
    have hgr := grownBy_sortedI (w := w) (g := g) (n := nn) (os := os) (srtI l).toArray
    refine ⟨rfl, below_of_grown hgr hg hlo, ⟨some ⟨g, 0, none⟩, cap, by rw [hlen], by rw [hlen]; omega, fun j z hz => ⟨g, rfl, Nat.lt_of_lt_of_le hgl hgr.size, ?_⟩⟩⟩
    have hj : j < l.length := by have := (List.getElem?_eq_some_iff.1 hz).1; omega
    have hP := holds_putRow (Value.int .i64) (Sort.ahead w nn) g 0 l.toArray (srtI l).toArray hH (by simp)
    have hc := (hP j (by simpa using hj)).1
    rw [Nat.zero_add] at hc
    rw [cell?_grow _ _ _ (by rw [size_putRow]; exact hgl)]
    rw [hc]
    obtain ⟨hj2, rfl⟩ := List.getElem?_eq_some_iff.1 hz
    simp [hj]
/-- The numbers of names that have nothing else behind a prefix, rising. -/
def fmI (pre : B) (names : List B) : List Int := (names.filterMap (numK pre)).map Int.ofNat
def numsP (pre : B) (names : List B) : List Int := srtI (fmI pre names)
/-- Names that the log meets. -/
structure Nms (pre : B) (names : List B) : Prop where
  len : names.length ≤ 1000
  short : ∀ x ∈ names, x.length ≤ 18
  small : ∀ x ∈ names, Lib.hasPrefix x pre = true → ∀ z, Lib.atoi (Lib.trimPrefix x pre) = some z → z < 100
theorem trim_len (x p : B) : (Lib.trimPrefix x p).length ≤ x.length := by
  unfold Lib.trimPrefix
  split
  · rw [List.length_drop]; omega
  · exact Nat.le_refl _
theorem fm_take {names : List B} {i : Nat} {x pre : B} (h : names[i]? = some x) : fmI pre (names.take (i + 1)) = fmI pre (names.take i) ++ (match numK pre x with | some n => [(n : Int)] | none => []) := by
  obtain ⟨hi, rfl⟩ := List.getElem?_eq_some_iff.1 h
  unfold fmI
  rw [List.take_succ_eq_append_getElem hi, List.filterMap_append, List.map_append]
  congr 1
  rw [List.filterMap_cons]
  cases numK pre names[i] <;> rfl
set_option maxRecDepth 100000 in
set_option maxHeartbeats 2000000 in
theorem numbers_any (names : List B) (ad : Option Addr) (cap : Nat) (pre : B) (w : World) (hT : TA w ad names) (hG : Gw w) (hN : Nms pre names) :
    Calls Tryz.prog 64 #[.slice ad names.length cap, .string ⟨pre.toArray⟩] w fun e w' => ∃ sl, e = .returned sl ∧ Below w.heap.size w w' ∧ IS w' sl (numsP pre names) := by
  have hnl := hN.len
  have HSo := fun w1 sl l (h : NL w1 w.heap.size sl l) h2 h3 => sort_any w.heap.size sl l w1 h h2 h3
  go_enter Tryz.func64, Tryz.ntmps64
  go_wp2_with fail
  go_loopw [5, 7, 8, 9, 10, 11, 14] (fun v5 _ _ _ _ _ v14 wl => ∃ i : Nat, i ≤ names.length ∧ v14 = .int .i64 i ∧ Below w.heap.size w wl ∧ NL wl w.heap.size v5 (fmI pre (names.take i))) (fun _ _ _ _ _ _ v14 _ => names.length - (intOf v14).toNat)
  case atStart => exact ⟨0, by omega, rfl, Below.refl _ _, GL.nil _ _ _ _⟩
  case round =>
    obtain ⟨i, hil, rfl, hB, hX⟩ := hrel
    have hsz := hB.size
    have htl : (fmI pre (names.take i)).length ≤ 1000 := by
      unfold fmI
      rw [List.length_map]
      refine Nat.le_trans (List.length_filterMap_le ..) ?_
      rw [List.length_take]
      omega
    by_cases hlt : i < names.length
    · have hz2 : (i : Int) < (names.length : Int) := by omega
      obtain ⟨x, hx⟩ : ∃ x, names[i]? = some x := ⟨_, List.getElem?_eq_getElem hlt⟩
      have hxm := List.mem_of_getElem? hx
      have hxs := hN.short x hxm
      have hxp := hN.small x hxm
      obtain ⟨g, o, rfl, hgl, hc⟩ := hT.at i x hx
      have hc2 : wr.cell? ⟨g, o + i, none⟩ = some (.string ⟨x.toArray⟩) := (hB.cell (p := ⟨g, o + i, none⟩) hgl).trans hc
      have e3 : Hid _ := fm_take (pre := pre) hx
      have HC : Calls Tryz.prog 90 #[.string ⟨x.toArray⟩, .string ⟨pre.toArray⟩] wr fun e w' => e = .returned (.tuple #[.string ⟨(Lib.trimPrefix x pre).toArray⟩, .bool (Lib.hasPrefix x pre)]) ∧ w' = wr := strings_CutPrefix ⟨x.toArray⟩ ⟨pre.toArray⟩ wr
      have hrl : (Lib.trimPrefix x pre).length ≤ 18 := Nat.le_trans (trim_len x pre) hxs
      have hk : Hid (numK pre x = if Lib.hasPrefix x pre = true then (match Lib.atoi (Lib.trimPrefix x pre) with
        | some n => if 1 ≤ n ∧ Lib.itoa n = Lib.trimPrefix x pre then some n.toNat else none
        | none => none) else none) := rfl
      have hGr := hG.below hB
      obtain ⟨ev, hev1, hev2⟩ := hGr.er
      have HA : Calls Tryz.prog 91 #[.string ⟨(Lib.trimPrefix x pre).toArray⟩] wr fun e w' => Below wr.heap.size wr w' ∧ match Lib.atoi (Lib.trimPrefix x pre) with
          | some z => e = .returned (.tuple #[.int .i64 z, .nilIface])
          | none => ∃ t N, e = .returned (.tuple #[.int .i64 0, .iface t (.pointer (some ⟨N, 0, none⟩))]) := by
        cases hat : Lib.atoi (Lib.trimPrefix x pre) with
        | some z =>
          refine (strconv_Atoi ⟨(Lib.trimPrefix x pre).toArray⟩ z (by rw [mk_len2]; exact hrl) hat wr).mono ?_
          rintro e w' ⟨rfl, t, rfl⟩
          exact ⟨Lib.bytesWorld_below _ _ _, rfl⟩
        | none =>
          refine (strconv_Atoi_err ⟨(Lib.trimPrefix x pre).toArray⟩ (by rw [mk_len2]; exact hrl) hat ev wr hev1 hev2).mono ?_
          rintro e w' ⟨N, rfl, _, _, hb⟩
          exact ⟨hb, _, N, rfl⟩
      clear hx hc hxm hev1 hev2 hGr
      generalize fmI pre (names.take i) = U at *
      generalize numK pre x = nk at *
      cases hf : Lib.hasPrefix x pre with
      | false =>
        rw [hf] at HC hk
        have hnk : nk = none := hk.out.trans (if_neg (by simp))
        subst hnk
        clear hk hxp
        cases hat : Lib.atoi (Lib.trimPrefix x pre) with
        | some z =>
          rw [hat] at HA
          clear hat
          generalize Lib.trimPrefix x pre = rs at *
          go_wp2_with (first
            | (go_at_call 90; refine HC.mono ?_; rintro e w' ⟨rfl, hw'⟩; have hw2 := hw'.symm; subst hw2; clear hw')
            | (go_at_call 91; refine HA.mono ?_; rintro e w2 ⟨hw2, rfl⟩))
          go_roundw
          case rel => exact ⟨i + 1, by omega, by go_num, hB.trans (hw2.mono hsz), by rw [e3.out]; simpa using hX.below hw2⟩
          case measure => simp [intOf]; omega
        | none =>
          rw [hat] at HA
          clear hat
          generalize Lib.trimPrefix x pre = rs at *
          go_wp2_with (first
            | (go_at_call 90; refine HC.mono ?_; rintro e w' ⟨rfl, hw'⟩; have hw2 := hw'.symm; subst hw2; clear hw')
            | (go_at_call 91; refine HA.mono ?_; rintro e w2 ⟨hw2, tt, NN, rfl⟩))
          go_roundw
          case rel => exact ⟨i + 1, by omega, by go_num, hB.trans (hw2.mono hsz), by rw [e3.out]; simpa using hX.below hw2⟩
          case measure => simp [intOf]; omega
      | true =>
        rw [hf] at HC hk
        have hxp2 := hxp hf
        clear hxp
        cases hat : Lib.atoi (Lib.trimPrefix x pre) with
        | none =>
          rw [hat] at HA hk
          have hnk : nk = none := hk.out.trans (if_pos rfl)
          subst hnk
          clear hk hxp2
          clear hat
          generalize Lib.trimPrefix x pre = rs at *
          go_wp2_with (first
            | (go_at_call 90; refine HC.mono ?_; rintro e w' ⟨rfl, hw'⟩; have hw2 := hw'.symm; subst hw2; clear hw')
            | (go_at_call 91; refine HA.mono ?_; rintro e w2 ⟨hw2, tt, NN, rfl⟩))
          go_roundw
          case rel => exact ⟨i + 1, by omega, by go_num, hB.trans (hw2.mono hsz), by rw [e3.out]; simpa using hX.below hw2⟩
          case measure => simp [intOf]; omega
        | some z =>
          rw [hat] at HA hk
          have hz100 := hxp2 z hat
          clear hxp2
          have hk2 : Hid (nk = if 1 ≤ z ∧ Lib.itoa z = Lib.trimPrefix x pre then some z.toNat else none) := hk.out.trans (if_pos rfl)
          clear hk
          by_cases hz1 : 1 ≤ z
          · obtain ⟨q, rfl⟩ := Int.eq_ofNat_of_zero_le (show 0 ≤ z by omega)
            have hq1 : q < 100 := by omega
            have HI := fun w1 => strconv_Itoa_small q hq1 w1
            have e6 : Lib.itoa ((q : Nat) : Int) = Lib.decDigits q := by rw [itoa_dg q hq1, dec_dg q hq1]
            rw [e6] at hk2
            clear hat e6
            generalize Lib.trimPrefix x pre = rs at *
            generalize Lib.decDigits q = dq at *
            by_cases hdr : dq = rs
            · have hnk : nk = some q := hk2.out.trans (if_pos ⟨hz1, hdr⟩)
              subst hnk
              subst hdr
              clear hk2
              have hU2 : U.length ≤ 1000000 := by omega
              go_wp2_with (first
                | (go_at_call 90; refine HC.mono ?_; rintro e w' ⟨rfl, hw'⟩; have hw2 := hw'.symm; subst hw2; clear hw')
                | (go_at_call 91; refine HA.mono ?_; rintro e w2 ⟨hw2, rfl⟩; have hX2 := hX.below hw2; have hB2 := hB.trans (hw2.mono hsz); have hsz2 := hB2.size)
                | (go_at_call 68; refine (HI _).mono ?_; rintro e w' ⟨rfl, hw'⟩; have hw3 := hw'.symm; subst hw3; clear hw')
                | (with_reducible refine at_list ?_; first
                  | (refine wpList_isl1 (op := ⟨some 46, _, _, _, _, _⟩) rfl _ rfl (q : Nat) rfl ?_; intro w3 hw3 hb3; have hX3 := hX2.below hw3; have hB3 := hB2.trans (hw3.mono hsz2))
                  | (refine wpList_appN (op := ⟨some 47, _, _, _, _, _⟩) rfl _ _ rfl w.heap.size u5 U (Nat.le_trans hsz2 hw3.size) (by with_unfolding_all exact rfl) hX3 w2.heap.size (by with_unfolding_all exact rfl) (q : Nat) hb3 hU2 ?_; intro w4 sl4 hg4 hX4; have hB4 := hB3.trans (hX3.grow hg4 (Nat.le_trans hsz2 hw3.size)))))
              go_roundw
              case rel => exact ⟨i + 1, by omega, by go_num, hB4, by rw [e3.out]; exact hX4⟩
              case measure => simp [intOf]; omega
            · have hnk : nk = none := hk2.out.trans (if_neg (fun e => hdr e.2))
              subst hnk
              clear hk2
              have hdb : (dq == rs) = false := by simpa using hdr
              clear hdr
              go_wp2_with (first
                | (go_at_call 90; refine HC.mono ?_; rintro e w' ⟨rfl, hw'⟩; have hw2 := hw'.symm; subst hw2; clear hw')
                | (go_at_call 91; refine HA.mono ?_; rintro e w2 ⟨hw2, rfl⟩)
                | (go_at_call 68; refine (HI _).mono ?_; rintro e w' ⟨rfl, hw'⟩; have hw3 := hw'.symm; subst hw3; clear hw'))
              go_roundw
              case rel => exact ⟨i + 1, by omega, by go_num, hB.trans (hw2.mono hsz), by rw [e3.out]; simpa using hX.below hw2⟩
              case measure => simp [intOf]; omega
          · have hnk : nk = none := hk2.out.trans (if_neg (fun e => hz1 e.1))
            subst hnk
            clear hk2
            clear hat
            generalize Lib.trimPrefix x pre = rs at *
            go_wp2_with (first
            | (go_at_call 90; refine HC.mono ?_; rintro e w' ⟨rfl, hw'⟩; have hw2 := hw'.symm; subst hw2; clear hw')
            | (go_at_call 91; refine HA.mono ?_; rintro e w2 ⟨hw2, rfl⟩))
            go_roundw
            case rel => exact ⟨i + 1, by omega, by go_num, hB.trans (hw2.mono hsz), by rw [e3.out]; simpa using hX.below hw2⟩
            case measure => simp [intOf]; omega
    · have hin : names.take i = names := List.take_of_length_le (by omega)
      rw [hin] at hX htl
      have HS2 := HSo wr _ _ hX hsz (by omega)
      clear HSo
      have e5 : Hid (numsP pre names = srtI (fmI pre names)) := rfl
      generalize fmI pre names = U at *
      go_wp2_with (go_at_call 92; refine HS2.mono ?_; rintro e w2 ⟨rfl, hw2, hI2⟩)
      go_ret
      exact ⟨_, rfl, hB.trans hw2, by rw [e5.out]; exact hI2⟩
/-- The greatest generation that has a base, or 0. -/
def newP (names : List B) : Int := (numsP preB names).getLast?.getD 0
set_option maxRecDepth 100000 in
set_option maxHeartbeats 1000000 in
theorem newest_any (names : List B) (ad : Option Addr) (cap : Nat) (w : World) (hT : TA w ad names) (hG : Gw w) (hN : Nms preB names) :
    Calls Tryz.prog 34 #[.slice ad names.length cap] w fun e w' => e = .returned (.int .i64 (newP names)) ∧ Below w.heap.size w w' := by
  have HN : Calls Tryz.prog 64 #[.slice ad names.length cap, .string ⟨#[98, 97, 115, 101, 45]⟩] w fun e w' => ∃ sl, e = .returned sl ∧ Below w.heap.size w w' ∧ IS w' sl (numsP preB names) := numbers_any names ad cap preB w hT hG hN
  have hl : (numsP preB names).length ≤ 1000 := by
    unfold numsP fmI
    rw [List.length_mergeSort, List.length_map]
    exact Nat.le_trans (List.length_filterMap_le ..) hN.len
  unfold newP
  generalize numsP preB names = U at *
  clear hT hG hN
  by_cases hU : U = []
  · subst hU
    have HN2 : Calls Tryz.prog 64 #[.slice ad names.length cap, .string ⟨#[98, 97, 115, 101, 45]⟩] w fun e w' => ∃ a cp, e = .returned (.slice a 0 cp) ∧ Below w.heap.size w w' := HN.mono (fun e w' ⟨sl, h1, h2, h3⟩ => by
      obtain ⟨a, cp, e2, _⟩ := h3.out
      exact ⟨a, cp, by rw [h1, e2]; rfl, h2⟩)
    clear HN
    go_enter Tryz.func34, Tryz.ntmps34
    go_wp2_with (go_at_call 64; refine HN2.mono ?_; rintro e w2 ⟨a, cp, rfl, hw2⟩)
    go_ret
    exact ⟨rfl, hw2⟩
  · have hpos : 0 < U.length := List.length_pos_iff.2 hU
    obtain ⟨q, hq⟩ : ∃ q, U.length = q + 1 := ⟨U.length - 1, by omega⟩
    obtain ⟨z, hz⟩ : ∃ z, U[q]? = some z := ⟨_, List.getElem?_eq_getElem (by omega)⟩
    have hlast : U.getLast? = some z := by rw [List.getLast?_eq_getElem?, hq]; exact hz
    rw [hlast]
    have HN2 : Calls Tryz.prog 64 #[.slice ad names.length cap, .string ⟨#[98, 97, 115, 101, 45]⟩] w fun e w' => ∃ g cp, e = .returned (.slice (some ⟨g, 0, none⟩) (q + 1) cp) ∧ Below w.heap.size w w' ∧ w'.cell? ⟨g, q, none⟩ = some (.int .i64 z) ∧ q + 1 ≤ cp := HN.mono (fun e w' ⟨sl, h1, h2, h3⟩ => by
      obtain ⟨a, cp, e2, hcp, hc⟩ := h3.out
      obtain ⟨g, rfl, _, hcell⟩ := hc q z hz
      exact ⟨g, cp, by rw [h1, e2, hq], h2, hcell, by omega⟩)
    clear HN hlast hz hpos hU
    rw [hq] at hl
    clear hq
    have hw1 : IntKind.i64.wrap (q : Int) = (q : Int) := by rw [IntKind.wrap_i64]; omega
    have hz1 : (0 : Int) < ((q : Int) + 1) := by omega
    go_enter Tryz.func34, Tryz.ntmps34
    go_wp2_with (go_at_call 64; refine HN2.mono ?_; rintro e w2 ⟨g, cp, rfl, hw2, hcell, hcp⟩)
    go_ret
    exact ⟨rfl, hw2⟩
end Go.Proofs.YtaiiojbakmminaaGreatDoor
namespace Go.Proofs.YtaiiojbakmminaaGreatDoor
open Go Go.RowKit Go.Shelf
theorem R.number_good {r : R} (hk : r.ok) (h : (r.number 4).1.err = 0) : r.err = 0 ∧ r.pos + 4 ≤ r.s.length ∧ r.number 4 = (⟨r.s, r.pos + 4, 0⟩, val ((r.s.drop r.pos).take 4)) := by
  have e : r.early 4 = r := if_neg (by omega)
  unfold R.number at h ⊢
  rw [e] at h ⊢
  obtain ⟨h1, h2, h3, _⟩ := R.bytes_good (n := 4) hk h
  have h3 : r.bytes 4 = (⟨r.s, r.pos + 4, 0⟩, (r.s.drop r.pos).take 4) := h3
  rw [h3]
  exact ⟨h1, h2, rfl⟩
theorem unframe_one (x : List UInt8) (h : (unframe x 0).2.2 = 0) : ∃ n : Nat, (unframe x 0).2.1 = n ∧ n ≤ x.length ∧ x.take n = frame (unframe x 0).1 ∧ (unframe x 0).1.length ≤ x.length := by
  unfold unframe at h ⊢
  rw [if_neg (by omega)] at h ⊢
  have e0 : x.drop (Int.toNat 0) = x := rfl
  rw [e0] at h ⊢
  unfold unfR at h ⊢
  by_cases h1 : (rdC x).1.err = 0
  · rw [if_neg (by simpa using h1)] at h ⊢
    by_cases h2 : (rdB x).2 = (fcheck (rdC x).2).toNat
    · rw [if_neg (by simpa using h2)]
      obtain ⟨b1, b2, b3, b4⟩ := R.bytes_good (rdB_ok x) h1
      obtain ⟨a1, a2, a3⟩ := R.number_good (rdA_ok x) b1
      have hn : (⟨x, 0, 0⟩ : R).count 2147483647 = (⟨x, 0, 0⟩ : R).number 4 ∧ ((⟨x, 0, 0⟩ : R).number 4).1.err = 0 := by
        by_cases hc : (2147483647 : Int) < 0 ∨ (2147483647 : Int) < ((⟨x, 0, 0⟩ : R).number 4).2
        · have hco := R.count_out hc
          have hr : (rdA x).1 = ((⟨x, 0, 0⟩ : R).number 4).1.refuse 0 3 := by unfold rdA; rw [hco]
          rw [hr] at a1
          unfold R.refuse R.fail at a1
          simp only at a1
          split at a1
          · cases a1
          · rename_i hne
            exact absurd a1 hne
        · have hci := R.count_in hc
          refine ⟨hci, ?_⟩
          have hr : (rdA x).1 = ((⟨x, 0, 0⟩ : R).number 4).1 := by unfold rdA; rw [hci]
          rw [← hr]
          exact a1
      obtain ⟨_, c2, c3⟩ := R.number_good (r := ⟨x, 0, 0⟩) (Nat.zero_le _) hn.2
      have hA : rdA x = (⟨x, 4, 0⟩, val (x.take 4)) := by unfold rdA; rw [hn.1, c3]; rfl
      have hB : rdB x = (⟨x, 8, 0⟩, val ((x.drop 4).take 4)) := by
        have : rdB x = (⟨(rdA x).1.s, (rdA x).1.pos + 4, 0⟩, val (((rdA x).1.s.drop (rdA x).1.pos).take 4)) := a3
        rw [hA] at this
        exact this
      have hC : rdC x = (⟨x, 8 + val (x.take 4), 0⟩, (x.drop 8).take (val (x.take 4))) := by
        have : rdC x = (⟨(rdB x).1.s, (rdB x).1.pos + (rdA x).2, 0⟩, ((rdB x).1.s.drop (rdB x).1.pos).take (rdA x).2) := b3
        rw [hA, hB] at this
        exact this
      rw [hA, hB] at b2
      have b2 : 8 + val (x.take 4) ≤ x.length := b2
      have b4 : (rdC x).2.length = (rdA x).2 := b4
      rw [hC, hA] at b4
      have b4 : ((x.drop 8).take (val (x.take 4))).length = val (x.take 4) := b4
      rw [hC] at h2 ⊢
      rw [hB] at h2
      simp only at h2 ⊢
      refine ⟨8 + val (x.take 4), by omega, b2, ?_, by rw [b4]; omega⟩
      have l4 : (x.take 4).length = 4 := by rw [List.length_take]; omega
      have l44 : ((x.drop 4).take 4).length = 4 := by rw [List.length_take, List.length_drop]; omega
      unfold frame
      rw [b4, num_val 4 _ l4]
      have hfc : (crc (x.take 4 ++ (x.drop 8).take (val (x.take 4)))).toNat = val ((x.drop 4).take 4) := by
        rw [h2]
        unfold fcheck
        rw [b4, num_val 4 _ l4]
      rw [hfc, num_val 4 _ l44]
      rw [show (8 + val (x.take 4)) = 4 + (4 + val (x.take 4)) from by omega, List.take_add, List.take_add, List.drop_drop]
    · rw [if_pos (by simpa using h2)] at h
      cases h
  · rw [if_pos h1] at h
    exact absurd h h1
theorem unframe_at (s : B) (p : Nat) (h : p ≤ s.length) : unframe s (p : Nat) = unfR p (rdB (s.drop p)).2 (rdC (s.drop p)) := by
  unfold unframe
  rw [if_neg (by omega), Int.toNat_natCast]
/-- What a frame at a place is, is what it is ahead. -/
theorem unframe_drop (s : B) (p : Nat) (h : p ≤ s.length) : (unframe s (p : Nat)).1 = (unframe (s.drop p) 0).1 ∧ (unframe s (p : Nat)).2.2 = (unframe (s.drop p) 0).2.2 ∧ ((unframe (s.drop p) 0).2.2 = 0 → (unframe s (p : Nat)).2.1 = (p : Int) + (unframe (s.drop p) 0).2.1) := by
  have h0 := unframe_at (s.drop p) 0 (Nat.zero_le _)
  rw [unframe_at s p h, show ((0 : Int)) = ((0 : Nat) : Int) from rfl, h0, List.drop_zero]
  unfold unfR
  split
  · rename_i he
    exact ⟨rfl, rfl, fun e => absurd e he⟩
  · split
    · exact ⟨rfl, rfl, fun e => absurd e (by decide)⟩
    · exact ⟨rfl, rfl, fun _ => by simp⟩
def unfF : Nat → B → List B × Nat
  | 0, _ => ([], 0)
  | k + 1, s => if s = [] then ([], 0) else if (unframe s 0).2.2 = 0 then ((unframe s 0).1 :: (unfF k (s.drop (unframe s 0).2.1.toNat)).1, (unframe s 0).2.1.toNat + (unfF k (s.drop (unframe s 0).2.1.toNat)).2) else ([], 0)
/-- The texts of the frames of bytes, and where the first begins that is not right. -/
def unfT (s : B) : List B × Nat := unfF s.length s
theorem unf_pos {s : B} (h : (unframe s 0).2.2 = 0) : ∃ n : Nat, (unframe s 0).2.1 = n ∧ 8 ≤ n ∧ n ≤ s.length ∧ s.take n = frame (unframe s 0).1 ∧ n = (unframe s 0).1.length + 8 := by
  obtain ⟨n, h1, h2, h3, h4⟩ := unframe_one s h
  have h5 := congrArg List.length h3
  rw [frame_len, List.length_take, Nat.min_eq_left h2] at h5
  exact ⟨n, h1, by omega, h2, h3, h5⟩
theorem unfF_fuel : ∀ (k j : Nat) (s : B), s.length ≤ k → s.length ≤ j → unfF k s = unfF j s
  | 0, 0, _, _, _ => rfl
  | 0, j + 1, s, h, _ => by
    have : s = [] := List.length_eq_zero_iff.1 (by omega)
    subst this
    rfl
  | k + 1, 0, s, _, h => by
    have : s = [] := List.length_eq_zero_iff.1 (by omega)
    subst this
    rfl
  | k + 1, j + 1, s, h, h2 => by
    unfold unfF
    by_cases hs : s = []
    · rw [if_pos hs, if_pos hs]
    · rw [if_neg hs, if_neg hs]
      by_cases he : (unframe s 0).2.2 = 0
      · obtain ⟨n, e1, e2, e3, _⟩ := unf_pos he
        rw [if_pos he, if_pos he, e1, Int.toNat_natCast, unfF_fuel k j (s.drop n) (by rw [List.length_drop]; omega) (by rw [List.length_drop]; omega)]
      · rw [if_neg he, if_neg he]
theorem unfT_nil : unfT [] = ([], 0) := rfl
theorem unfT_bad {s : B} (h : (unframe s 0).2.2 ≠ 0) : unfT s = ([], 0) := by
  unfold unfT
  cases hs : s.length with
  | zero => rfl
  | succ k =>
    unfold unfF
    rw [if_neg h]
    split <;> rfl
theorem unfT_step {s : B} {n : Nat} (hs : s ≠ []) (h : (unframe s 0).2.2 = 0) (hn : (unframe s 0).2.1 = n) : unfT s = ((unframe s 0).1 :: (unfT (s.drop n)).1, n + (unfT (s.drop n)).2) := by
  obtain ⟨m, e1, e2, e3, _⟩ := unf_pos h
  have hmn : m = n := by rw [hn] at e1; omega
  subst hmn
  unfold unfT
  cases hl : s.length with
  | zero => exact absurd (List.length_eq_zero_iff.1 hl) hs
  | succ k =>
    conv => lhs; unfold unfF
    rw [if_neg hs, if_pos h, hn, Int.toNat_natCast, unfF_fuel k (s.drop m).length (s.drop m) (by rw [List.length_drop]; omega) (Nat.le_refl _)]
theorem frame_ne (x : B) (m : B) : frame x ++ m ≠ [] := fun e => by
  have := congrArg List.length e
  rw [List.length_append, frame_len] at this
  simp at this
/-- Right frames ahead of bytes are read. -/
theorem unfT_app : ∀ (l : List B) (r : B), (∀ x ∈ l, x.length ≤ 2147483647) → unfT (frs l ++ r) = (l ++ (unfT r).1, (frs l).length + (unfT r).2)
  | [], r, _ => by simp [frs]
  | x :: l, r, h => by
    have ih := unfT_app l r (fun y hy => h y (List.mem_cons_of_mem _ hy))
    have e : frs (x :: l) ++ r = frame x ++ (frs l ++ r) := by unfold frs; simp
    have hu := unframe_frame x (frs l ++ r) (h x (List.mem_cons_self ..))
    have hl := frame_len x
    rw [e, unfT_step (n := x.length + 8) (frame_ne _ _) (by rw [hu]) (by rw [hu]; simp), hu, ← hl, List.drop_left' rfl, ih]
    simp only [List.cons_append, Prod.mk.injEq, true_and]
    have : (frs (x :: l)).length = (frame x).length + (frs l).length := by unfold frs; simp
    omega
theorem unfT_frs (l : List B) (h : ∀ x ∈ l, x.length ≤ 2147483647) : unfT (frs l) = (l, (frs l).length) := by
  have := unfT_app l [] h
  rw [List.append_nil, unfT_nil] at this
  simpa using this
/-- What is read is frames. -/
theorem unfF_take : ∀ (k : Nat) (s : B), (unfF k s).2 ≤ s.length ∧ s.take (unfF k s).2 = frs (unfF k s).1
  | 0, s => by simp [unfF, frs]
  | k + 1, s => by
    unfold unfF
    by_cases hs : s = []
    · rw [if_pos hs]
      simp [frs]
    · rw [if_neg hs]
      by_cases he : (unframe s 0).2.2 = 0
      · obtain ⟨n, e1, e2, e3, e4, _⟩ := unf_pos he
        rw [if_pos he, e1, Int.toNat_natCast]
        obtain ⟨h1, h2⟩ := unfF_take k (s.drop n)
        rw [List.length_drop] at h1
        refine ⟨by dsimp only; omega, ?_⟩
        show s.take (n + _) = _
        rw [List.take_add, e4, h2]
        unfold frs
        simp
      · rw [if_neg he]
        simp [frs]
theorem unfT_take (s : B) : (unfT s).2 ≤ s.length ∧ s.take (unfT s).2 = frs (unfT s).1 := unfF_take _ s
theorem unfF_len : ∀ (k : Nat) (s : B), (unfF k s).1.length ≤ s.length
  | 0, s => by simp [unfF]
  | k + 1, s => by
    unfold unfF
    by_cases hs : s = []
    · rw [if_pos hs]; simp
    · rw [if_neg hs]
      by_cases he : (unframe s 0).2.2 = 0
      · obtain ⟨n, e1, e2, e3, e4, _⟩ := unf_pos he
        rw [if_pos he, e1, Int.toNat_natCast]
        have h1 := unfF_len k (s.drop n)
        rw [List.length_drop] at h1
        simp only [List.length_cons]
        omega
      · rw [if_neg he]; simp
set_option maxRecDepth 100000 in
set_option maxHeartbeats 1000000 in
theorem wunframe_any (s : B) (w : World) (hG : Glob w) (hl : s.length ≤ 4000000) :
    Calls Tryz.prog 94 #[.string ⟨s.toArray⟩] w fun e w' => ∃ sl, e = .returned (.tuple #[sl, .int .i64 ((unfT s).2 : Nat)]) ∧ Below w.heap.size w w' ∧ XL w' w.heap.size sl (unfT s).1 := by
  go_enter Tryz.func94, Tryz.ntmps94
  go_wp2_with fail
  go_loopw [4, 5, 6, 7, 8] (fun v4 v5 _ _ _ wl => ∃ (i : Nat) (ts : List B), i ≤ s.length ∧ v5 = .int .i64 i ∧ Below w.heap.size w wl ∧ XL wl w.heap.size v4 ts ∧ 8 * ts.length ≤ i ∧ Hid (unfT s = (ts ++ (unfT (s.drop i)).1, i + (unfT (s.drop i)).2))) (fun _ v5 _ _ _ _ => s.length - (intOf v5).toNat)
  case atStart => exact ⟨0, [], by omega, rfl, Below.refl _ _, XL.nil _ _, by simp, (by show unfT s = _; simp)⟩
  case round =>
    obtain ⟨i, ts, hil, rfl, hB, hX, htl, hH⟩ := hrel
    have hsz := hB.size
    by_cases hlt : i < s.length
    · have hz2 : (i : Int) < (s.length : Int) := by omega
      have HU := unframe_any s (i : Nat) wr (hG.belowSize hB) (by omega)
      obtain ⟨d1, d2, d3⟩ := unframe_drop s i hil
      have hne : s.drop i ≠ [] := fun e => by have := congrArg List.length e; rw [List.length_drop] at this; simp at this; omega
      by_cases he : (unframe (s.drop i) 0).2.2 = 0
      · obtain ⟨n, e1, e2, e3, -, -⟩ := unf_pos he
        have hst : Hid (unfT (s.drop i) = ((unframe (s.drop i) 0).1 :: (unfT ((s.drop i).drop n)).1, n + (unfT ((s.drop i).drop n)).2)) := unfT_step hne he e1
        have e4 := d3 he
        rw [List.length_drop] at e3
        rw [d1, d2, he, e4, e1] at HU
        have hadd : ((i : Int) + (n : Int)) = ((i + n : Nat) : Int) := by omega
        rw [hadd] at HU
        clear d1 d2 d3 he e1 e4 hne hadd
        generalize (unframe (s.drop i) 0).1 = tx at *
        have htl2 : ts.length ≤ 1000000 := by omega
        go_wp2_with (first
          | (go_at_call 113; refine HU.mono ?_; rintro e w2 ⟨rfl, hw2⟩; have hX2 := hX.below hw2; have hB2 := hB.trans (hw2.mono hsz); have hsz2 := hB2.size)
          | (with_reducible refine at_list ?_; first
            | (refine wpList_tsl1 (op := ⟨some 24, _, _, _, _, _⟩) rfl _ rfl tx rfl ?_; intro w3 hw3 hb3; have hX3 := hX2.below hw3; have hB3 := hB2.trans (hw3.mono hsz2))
            | (refine wpList_appX (op := ⟨some 25, _, _, _, _, _⟩) rfl _ _ rfl w.heap.size u4 ts (Nat.le_trans hsz2 hw3.size) (by with_unfolding_all exact rfl) hX3 w2.heap.size (by with_unfolding_all exact rfl) tx hb3 htl2 ?_; intro w4 sl4 hg4 hX4; have hB4 := hB3.trans (hX3.grow hg4 (Nat.le_trans hsz2 hw3.size)))))
        go_roundw
        case rel =>
          refine ⟨i + n, ts ++ [tx], by omega, rfl, hB4, hX4, by simp; omega, ?_⟩
          show unfT s = _
          rw [hH.out, hst.out, List.drop_drop]
          simp
          omega
        case measure => simp [intOf]; omega
      · have hbad := unfT_bad he
        have hR : Hid (unfT s = (ts, i)) := by
          show unfT s = _
          rw [hH.out, hbad]
          simp
        rw [d2] at HU
        generalize (unframe (s.drop i) 0).2.2 = ec at *
        clear hH d1 d2 d3 hne hbad
        have hez : (ec != 0) = true := by simpa using he
        go_wp2_with (go_at_call 113; refine HU.mono ?_; rintro e w2 ⟨rfl, hw2⟩; have hX2 := hX.below hw2; have hB2 := hB.trans (hw2.mono hsz))
        go_ret2
        exact ⟨_, by rw [hR.out]; rfl, hB2, by rw [hR.out]; exact hX2⟩
    · have hR : Hid (unfT s = (ts, i)) := by
        show unfT s = _
        rw [hH.out, List.drop_of_length_le (by omega), unfT_nil]
        simp
      clear hH
      go_wp2_with fail
      go_ret2
      exact ⟨_, by rw [hR.out]; rfl, hB, by rw [hR.out]; exact hX⟩
end Go.Proofs.YtaiiojbakmminaaGreatDoor
