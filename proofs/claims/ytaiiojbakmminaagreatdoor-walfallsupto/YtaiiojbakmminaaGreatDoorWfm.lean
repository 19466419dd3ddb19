/- A log in memory; what baseName, segmentsPrefix, segmentName and isOther of a log do. What frames and unframe of the log do. -/
import Derived.Test.YtaiiojbakmminaaGreatDoorWsh
import Derived.Test.YtaiiojbakmminaaGreatDoorWpn
import Derived.Test.YtaiiojbakmminaaGreatDoorBld
import Derived.Test.YtaiiojbakmminaaGreatDoorKNd
import Derived.Test.YtaiiojbakmminaaGreatDoorKStk
import Derived.Test.YtaiiojbakmminaaGreatDoorKNam
namespace Go.Proofs.YtaiiojbakmminaaGreatDoor
open Go Go.RowKit
/-- A log: how long segments may be, its generation, its snapshot, its records, how many segments, how long the last one is. -/
structure LG where
  most : Int
  g : Nat
  snap : B
  recs : List B
  segs : Nat
  last : Nat
def lC (p : Nat) (L : LG) (rv : Value) : Array Value := #[.pointer (some ⟨p, 0, none⟩), .int .i64 L.most, .int .i64 (L.g : Nat), .string ⟨L.snap.toArray⟩, rv, .int .i64 (L.segs : Nat), .int .i64 (L.last : Nat)]
theorem lC_size (p : Nat) (L : LG) (rv : Value) : (lC p L rv).size = 7 := rfl
theorem lC_g0 (p : Nat) (L : LG) (rv : Value) : (lC p L rv)[0]? = some (.pointer (some ⟨p, 0, none⟩)) := rfl
theorem lC_g1 (p : Nat) (L : LG) (rv : Value) : (lC p L rv)[1]? = some (.int .i64 L.most) := rfl
theorem lC_g2 (p : Nat) (L : LG) (rv : Value) : (lC p L rv)[2]? = some (.int .i64 (L.g : Nat)) := rfl
theorem lC_g3 (p : Nat) (L : LG) (rv : Value) : (lC p L rv)[3]? = some (.string ⟨L.snap.toArray⟩) := rfl
theorem lC_g4 (p : Nat) (L : LG) (rv : Value) : (lC p L rv)[4]? = some rv := rfl
theorem lC_g5 (p : Nat) (L : LG) (rv : Value) : (lC p L rv)[5]? = some (.int .i64 (L.segs : Nat)) := rfl
theorem lC_g6 (p : Nat) (L : LG) (rv : Value) : (lC p L rv)[6]? = some (.int .i64 (L.last : Nat)) := rfl
theorem lC_s2 (p : Nat) (L : LG) (rv : Value) (n : Nat) : (lC p L rv).setIfInBounds 2 (.int .i64 (n : Nat)) = lC p { L with g := n } rv := rfl
theorem lC_s3 (p : Nat) (L : LG) (rv : Value) (s : B) : (lC p L rv).setIfInBounds 3 (.string ⟨s.toArray⟩) = lC p { L with snap := s } rv := rfl
theorem lC_s4 (p : Nat) (L : LG) (rv v : Value) (l : List B) : (lC p L rv).setIfInBounds 4 v = lC p { L with recs := l } v := rfl
theorem lC_s5 (p : Nat) (L : LG) (rv : Value) (n : Nat) : (lC p L rv).setIfInBounds 5 (.int .i64 (n : Nat)) = lC p { L with segs := n } rv := rfl
theorem lC_s6 (p : Nat) (L : LG) (rv : Value) (n : Nat) : (lC p L rv).setIfInBounds 6 (.int .i64 (n : Nat)) = lC p { L with last := n } rv := rfl
theorem mkA2 (x y : List UInt8) : (ByteArray.mk x.toArray ++ ByteArray.mk y.toArray) = ByteArray.mk (x ++ y).toArray := ByteArray.mk_append_mk x y
section
attribute [local go_sem] mkA2
set_option maxRecDepth 100000 in
theorem baseName_any (g : Nat) (hg : g < 100) (w : World) : Calls Tryz.prog 36 #[.int .i64 (g : Nat)] w fun e w' => e = .returned (.string ⟨(baseN g).toArray⟩) ∧ w' = w := by
  have HI := strconv_Itoa_small g hg w
  rw [dec_dg g hg] at HI
  have hl := dg_len hg
  have e1 : Hid (baseN g = preB ++ dg g) := rfl
  rw [e1.out]
  have hlen : ¬ 9223372036854775807 < preB.length + (dg g).length := by unfold preB; simp; omega
  unfold preB at *
  generalize dg g = d at *
  go_enter Tryz.func36, Tryz.ntmps36
  go_wp2_with (go_at_call 68; refine HI.mono ?_; rintro e w' ⟨rfl, hw'⟩; have hw2 := hw'.symm; subst hw2; clear hw')
  go_ret
  exact ⟨rfl, rfl⟩
set_option maxRecDepth 100000 in
theorem segPre_any (q p : Nat) (L : LG) (rv : Value) (hg : L.g < 100) (w : World) (hL : Blk w q (lC p L rv) 64) : Calls Tryz.prog 83 #[.pointer (some ⟨q, 0, none⟩)] w fun e w' => e = .returned (.string ⟨(segP L.g).toArray⟩) ∧ w' = w := by
  have HI := strconv_Itoa_small L.g hg w
  rw [dec_dg L.g hg] at HI
  have hl := dg_len hg
  have c2 : w.cell? ⟨q, 2, none⟩ = some (.int .i64 (L.g : Nat)) := (hL.cell 2).trans (lC_g2 _ _ _)
  have e1 : Hid (segP L.g = preS ++ dg L.g ++ [45]) := rfl
  rw [e1.out]
  unfold preS at *
  generalize dg L.g = d at *
  go_enter Tryz.func83, Tryz.ntmps83
  go_wp2_with (go_at_call 68; refine HI.mono ?_; rintro e w' ⟨rfl, hw'⟩; have hw2 := hw'.symm; subst hw2; clear hw')
  go_ret
  exact ⟨by simp, rfl⟩
set_option maxRecDepth 100000 in
theorem segName_any (q p : Nat) (L : LG) (rv : Value) (n : Nat) (hg : L.g < 100) (hn : n < 100) (w : World) (hL : Blk w q (lC p L rv) 64) : Calls Tryz.prog 48 #[.pointer (some ⟨q, 0, none⟩), .int .i64 (n : Nat)] w fun e w' => e = .returned (.string ⟨(segN L.g n).toArray⟩) ∧ w' = w := by
  have HI := strconv_Itoa_small n hn w
  rw [dec_dg n hn] at HI
  have HS := segPre_any q p L rv hg w hL
  have hl := dg_len hn
  have hl2 : (segP L.g).length ≤ 15 := by have := (WN.seg L.g n hg hn).len; unfold segN at this; rw [List.length_append] at this; omega
  have e1 : Hid (segN L.g n = segP L.g ++ dg n) := rfl
  rw [e1.out]
  generalize dg n = d at *
  generalize segP L.g = s at *
  go_enter Tryz.func48, Tryz.ntmps48
  go_wp2_with (first
    | (go_at_call 68; refine HI.mono ?_; rintro e w' ⟨rfl, hw'⟩; have hw2 := hw'.symm; subst hw2; clear hw')
    | (go_at_call 83; refine HS.mono ?_; rintro e w' ⟨rfl, hw'⟩; have hw2 := hw'.symm; subst hw2; clear hw'))
  go_ret
  exact ⟨rfl, rfl⟩
end
set_option maxRecDepth 100000 in
theorem isOther_any (q p : Nat) (L : LG) (rv : Value) (x : B) (hg : L.g < 100) (w : World) (hL : Blk w q (lC p L rv) 64) : Calls Tryz.prog 76 #[.pointer (some ⟨q, 0, none⟩), .string ⟨x.toArray⟩] w fun e w' => e = .returned (.bool (othK L.g x)) ∧ w' = w := by
  have HB : Calls Tryz.prog 104 #[.string ⟨x.toArray⟩, .string ⟨#[98, 97, 115, 101, 45]⟩] w fun e w' => e = .returned (.bool (Lib.hasPrefix x preB)) ∧ w' = w := strings_HasPrefix _ _ w
  have HS : Calls Tryz.prog 104 #[.string ⟨x.toArray⟩, .string ⟨#[115, 101, 103, 45]⟩] w fun e w' => e = .returned (.bool (Lib.hasPrefix x preS)) ∧ w' = w := strings_HasPrefix _ _ w
  have HP : Calls Tryz.prog 104 #[.string ⟨x.toArray⟩, .string ⟨(segP L.g).toArray⟩] w fun e w' => e = .returned (.bool (Lib.hasPrefix x (segP L.g))) ∧ w' = w := strings_HasPrefix _ _ w
  have HN := baseName_any L.g hg w
  have HG := segPre_any q p L rv hg w hL
  have c2 : w.cell? ⟨q, 2, none⟩ = some (.int .i64 (L.g : Nat)) := (hL.cell 2).trans (lC_g2 _ _ _)
  have e0 : othK L.g x = (if Lib.hasPrefix x preB = true then !decide (x = baseN L.g) else Lib.hasPrefix x preS && !Lib.hasPrefix x (segP L.g)) := rfl
  rw [e0]
  clear e0 hL
  generalize baseN L.g = bn at *
  generalize Lib.hasPrefix x preB = b1 at *
  generalize Lib.hasPrefix x preS = b2 at *
  generalize Lib.hasPrefix x (segP L.g) = b3 at *
  generalize segP L.g = sp at *
  cases b1 with
  | true =>
    clear HS HP HG
    rw [if_pos rfl]
    go_enter Tryz.func76, Tryz.ntmps76
    go_wp2_with (first
      | (go_at_call 104; refine HB.mono ?_; rintro e w' ⟨rfl, hw'⟩; have hw2 := hw'.symm; subst hw2; clear hw')
      | (go_at_call 36; refine HN.mono ?_; rintro e w' ⟨rfl, hw'⟩; have hw2 := hw'.symm; subst hw2; clear hw'))
    go_ret
    refine ⟨?_, rfl⟩
    rw [show decide (x = bn) = (x == bn) from by by_cases h : x = bn <;> simp [h]]
    rfl
  | false =>
    clear HN c2
    rw [if_neg (by simp)]
    have f0 : Hid (1 = 1) := rfl
    cases b2 with
    | false =>
      clear HP HG
      go_enter Tryz.func76, Tryz.ntmps76
      go_wp2_with (first
        | (go_at_call 104; clear f0; refine HB.mono ?_; rintro e w' ⟨rfl, hw'⟩; have hw2 := hw'.symm; subst hw2; clear hw')
        | (go_at_call 104; refine HS.mono ?_; rintro e w' ⟨rfl, hw'⟩; have hw2 := hw'.symm; subst hw2; clear hw'))
      go_ret
      exact ⟨rfl, rfl⟩
    | true =>
      have f1 : Hid (1 = 1) := rfl
      go_enter Tryz.func76, Tryz.ntmps76
      go_wp2_with (first
        | (go_at_call 104; clear f0; refine HB.mono ?_; rintro e w' ⟨rfl, hw'⟩; have hw2 := hw'.symm; subst hw2; clear hw')
        | (go_at_call 104; clear f1; refine HS.mono ?_; rintro e w' ⟨rfl, hw'⟩; have hw2 := hw'.symm; subst hw2; clear hw')
        | (go_at_call 104; refine HP.mono ?_; rintro e w' ⟨rfl, hw'⟩; have hw2 := hw'.symm; subst hw2; clear hw')
        | (go_at_call 83; refine HG.mono ?_; rintro e w' ⟨rfl, hw'⟩; have hw2 := hw'.symm; subst hw2; clear hw'))
      go_ret
      exact ⟨rfl, rfl⟩
end Go.Proofs.YtaiiojbakmminaaGreatDoor
namespace Go.Proofs.YtaiiojbakmminaaGreatDoor
open Go Go.RowKit Go.Shelf
/-- The frames of texts, one behind the other. -/
def frs (l : List B) : B := (l.map frame).flatten
theorem frs_app (l m : List B) : frs (l ++ m) = frs l ++ frs m := by unfold frs; simp
theorem frs_one (x : B) : frs [x] = frame x := by unfold frs; simp
theorem frs_take {l : List B} {i : Nat} {x : B} (h : l[i]? = some x) : frs (l.take (i + 1)) = frs (l.take i) ++ frame x := by
  obtain ⟨hi, rfl⟩ := List.getElem?_eq_some_iff.1 h
  rw [List.take_succ_eq_append_getElem hi, frs_app, frs_one]
theorem frs_take_len (l : List B) (i : Nat) : (frs (l.take i)).length ≤ (frs l).length := by
  conv => rhs; rw [← List.take_append_drop i l, frs_app]
  simp
theorem frame_len (x : B) : (frame x).length = x.length + 8 := by
  unfold frame
  rw [List.length_append, List.length_append, num_length, num_length]
  omega
theorem frs_mem {l : List B} {x : B} (h : x ∈ l) : x.length ≤ (frs l).length := by
  obtain ⟨A, R, rfl⟩ := List.append_of_mem h
  rw [show A ++ x :: R = A ++ ([x] ++ R) by simp, frs_app, frs_app, frs_one]
  have := frame_len x
  simp
  omega
theorem zBld : (∀ w, (zeroValue 100).run Tryz.prog w = .ok (.agg #[.pointer none, .slice none 0 0]) w) ∧ (Tryz.prog.info? 100).map (·.size) = some 2 := zero_of_info (by kernel_rfl)
theorem byteCells_app (a b : B) : Lib.byteCells (a ++ b) = Lib.byteCells a ++ Lib.byteCells b := by unfold Lib.byteCells; simp
theorem bAt_below {T e : TypeId} {B b : Nat} {p : Value} {bs : List Value} {w w' : World} (h : Lib.BuilderAt T e B b p bs w) (hb : Below w.heap.size w w') : Lib.BuilderAt T e B b p bs w' := by
  have hlt := h.lt
  obtain ⟨hB, v, h1, ⟨h2, h3⟩, h4⟩ := h
  refine ⟨hB, v, (hb.block b hlt).trans h1, ⟨h2, ?_⟩, h4⟩
  rcases h3 with h3 | ⟨g, cap, cur, k1, k2, k3, k4⟩
  · exact .inl h3
  · exact .inr ⟨g, cap, cur, k1, k2, (hb.block g (Array.getElem?_eq_some_iff.1 k3).1).trans k3, k4⟩
theorem isB_below {T e : TypeId} {B b : Nat} {bs : List Value} {w w' : World} (h : Lib.IsBuilder T e B b bs w) (hb : Below w.heap.size w w') : Lib.IsBuilder T e B b bs w' := by
  rcases h with h | h
  · exact .inl (bAt_below h hb)
  · exact .inr (bAt_below h hb)
theorem mk_len2 (x : B) : (ByteArray.mk x.toArray).size = x.length := by simp [ByteArray.size]
set_option maxRecDepth 100000 in
set_option maxHeartbeats 1000000 in
theorem frames_any (l : List B) (ad : Option Addr) (cap : Nat) (w : World) (hT : TA w ad l) (hG : Glob w) (hl : l.length ≤ 1000000) (hf : (frs l).length ≤ 100000000000) :
    Calls Tryz.prog 39 #[.slice ad l.length cap] w fun e w' => e = .returned (.string ⟨(frs l).toArray⟩) ∧ Below w.heap.size w w' := by
  have HS := fun w1 (h : Lib.IsBuilder 100 5 w.heap.size w.heap.size (Lib.byteCells (frs l)) w1) (hw : w.heap.size ≤ w1.heap.size) => Builder_String_any w.heap.size w.heap.size (frs l) w1 h hw
  go_enter Tryz.func39, Tryz.ntmps39
  go_wp2_with (with_reducible refine at_list ?_; refine wpList_allocRow (op := ⟨some 3, _, _, _, _, _⟩) rfl _ rfl _ zBld.1 ?_; intro w1 hw1 hs1 hQ1; clear hs1)
  have hI1 : Lib.IsBuilder 100 5 w.heap.size w.heap.size (Lib.byteCells (frs (l.take 0))) w1 := .inl ⟨Nat.le_refl _, .slice none 0 0, hQ1.out, ⟨rfl, .inl ⟨rfl, rfl⟩⟩, by simp [Value.ownBlock]⟩
  go_loopw [5, 8] (fun _ v8 wl => ∃ i : Nat, i ≤ l.length ∧ v8 = .int .i64 i ∧ Below w.heap.size w wl ∧ Lib.IsBuilder 100 5 w.heap.size w.heap.size (Lib.byteCells (frs (l.take i))) wl) (fun _ v8 _ => l.length - (intOf v8).toNat)
  case atStart => exact ⟨0, by omega, rfl, hw1, hI1⟩
  case round =>
    obtain ⟨i, hil, rfl, hB, hI⟩ := hrel
    have hsz := hB.size
    by_cases hlt : i < l.length
    · have hz2 : (i : Int) < (l.length : Int) := by omega
      obtain ⟨x, hx⟩ : ∃ x, l[i]? = some x := ⟨_, List.getElem?_eq_getElem hlt⟩
      obtain ⟨g, o, rfl, hgl, hc⟩ := hT.at i x hx
      have hc2 : wr.cell? ⟨g, o + i, none⟩ = some (.string ⟨x.toArray⟩) := (hB.cell (p := ⟨g, o + i, none⟩) hgl).trans hc
      have hxl : x.length ≤ (frs l).length := frs_mem (List.mem_of_getElem? hx)
      have hfl := frame_len x
      have htl := frs_take_len l i
      have e3 : Hid (frs (l.take (i + 1)) = frs (l.take i) ++ frame x) := frs_take hx
      have HF := frame_any x wr (hG.belowSize hB) (by omega)
      have HW := fun w2 (h : Lib.IsBuilder 100 5 w.heap.size w.heap.size (Lib.byteCells (frs (l.take i))) w2) (hw : w.heap.size ≤ w2.heap.size) => bWrite w.heap.size w.heap.size (Lib.byteCells (frs (l.take i))) ⟨(frame x).toArray⟩ w2 h (by rw [mk_len2, hfl]; simp [Lib.byteCells]; omega) hw
      clear hx
      generalize hfr : frame x = fx at *
      go_wp2_with (first
        | (go_at_call 70; refine HF.mono ?_; rintro e w2 ⟨rfl, hw2⟩; have hI2 : Lib.IsBuilder 100 5 w.heap.size w.heap.size (Lib.byteCells (frs (l.take i))) w2 := isB_below hI hw2)
        | (go_at_call 69; refine (HW _ hI2 (Nat.le_trans hsz hw2.size)).mono ?_; rintro e w3 ⟨rfl, hA3, hw3⟩))
      go_roundw
      case rel => exact ⟨i + 1, by omega, by go_num, (hB.trans (hw2.mono hsz)).trans hw3, .inr (by rw [e3.out, byteCells_app]; exact hA3)⟩
      case measure => simp [intOf]; omega
    · have hin2 : l.take i = l := List.take_of_length_le (by omega)
      rw [hin2] at hI
      have HS2 := HS wr hI hsz
      clear HS
      go_wp2_with (go_at_call 71; refine HS2.mono ?_; rintro e w3 ⟨rfl, hw3⟩)
      go_ret
      exact ⟨rfl, hB.trans hw3⟩
end Go.Proofs.YtaiiojbakmminaaGreatDoor
