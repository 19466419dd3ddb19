/- What frames and unframe of the log do. -/
import Derived.Test.YtaiiojbakmminabGreatDoorKStk
import Derived.Test.YtaiiojbakmminabGreatDoorKNam
namespace Go.Proofs.YtaiiojbakmminabGreatDoor
open Go Go.RowKit Go.Shelf
/-- The frames of texts, one behind the other. -/
def frs (l : List B) : B := (l.map frame).flatten
theorem frs_app (l m : List B) : frs (l ++ m) = frs l ++ frs m := by unfold frs; simp
theorem frs_one (x : B) : frs [x] = frame x := by unfold frs; simp
theorem frs_take {l : List B} {i : Nat} {x : B} (h : l[i]? = some x) : frs (l.take (i + 1)) = frs (l.take i) ++ frame x := by
  obtain ⟨hi, rfl⟩ := List.getElem?_eq_some_iff.1 h
  rw [List.take_succ_eq_append_getElem hi, frs_app, frs_one]
theorem frs_take_len (l : List B) (i : Nat) : (frs (l.take i)).length ≤ (frs l).length := by
  conv => rhs; rw [← List.take_append_drop i l, frs_app]
  simp
theorem frame_len (x : B) : (frame x).length = x.length + 8 := by
  unfold frame
  rw [List.length_append, List.length_append, num_length, num_length]
  omega
theorem frs_mem {l : List B} {x : B} (h : x ∈ l) : x.length ≤ (frs l).length := by
  obtain ⟨A, R, rfl⟩ := List.append_of_mem h
  rw [show A ++ x :: R = A ++ ([x] ++ R) by simp, frs_app, frs_app, frs_one]
  have := frame_len x
  simp
  omega
theorem zBld : (∀ w, (zeroValue 68).run Tryz.prog w = .ok (.agg #[.pointer none, .slice none 0 0]) w) ∧ (Tryz.prog.info? 68).map (·.size) = some 2 := zero_of_info (by kernel_rfl)
theorem byteCells_app (a b : B) : Lib.byteCells (a ++ b) = Lib.byteCells a ++ Lib.byteCells b := by unfold Lib.byteCells; simp
theorem bAt_below {T e : TypeId} {B b : Nat} {p : Value} {bs : List Value} {w w' : World} (h : Lib.BuilderAt T e B b p bs w) (hb : Below w.heap.size w w') : Lib.BuilderAt T e B b p bs w' := by
  have hlt := h.lt
  obtain ⟨hB, v, h1, ⟨h2, h3⟩, h4⟩ := h
  refine ⟨hB, v, (hb.block b hlt).trans h1, ⟨h2, ?_⟩, h4⟩
  rcases h3 with h3 | ⟨g, cap, cur, k1, k2, k3, k4⟩
  · exact .inl h3
  · exact .inr ⟨g, cap, cur, k1, k2, (hb.block g (Array.getElem?_eq_some_iff.1 k3).1).trans k3, k4⟩
theorem isB_below {T e : TypeId} {B b : Nat} {bs : List Value} {w w' : World} (h : Lib.IsBuilder T e B b bs w) (hb : Below w.heap.size w w') : Lib.IsBuilder T e B b bs w' := by
  rcases h with h | h
  · exact .inl (bAt_below h hb)
  · exact .inr (bAt_below h hb)
theorem mk_len2 (x : B) : (ByteArray.mk x.toArray).size = x.length := by simp [ByteArray.size]
set_option maxRecDepth 100000 in
set_option maxHeartbeats 1000000 in
theorem frames_any (l : List B) (ad : Option Addr) (cap : Nat) (w : World) (hT : TA w ad l) (hG : Glob w) (hl : l.length ≤ 1000000) (hf : (frs l).length ≤ 100000000000) :
    Calls Tryz.prog 23 #[.slice ad l.length cap] w fun e w' => e = .returned (.string ⟨(frs l).toArray⟩) ∧ Below w.heap.size w w' := by
  have HS := fun w1 (h : Lib.IsBuilder 68 5 w.heap.size w.heap.size (Lib.byteCells (frs l)) w1) (hw : w.heap.size ≤ w1.heap.size) => Builder_String_any w.heap.size w.heap.size (frs l) w1 h hw
  go_enter Tryz.func23, Tryz.ntmps23
  go_wp2_with (with_reducible refine at_list ?_; refine wpList_allocRow (op := ⟨some 3, _, _, _, _, _⟩) rfl _ rfl _ zBld.1 ?_; intro w1 hw1 hs1 hQ1; clear hs1)
  have hI1 : Lib.IsBuilder 68 5 w.heap.size w.heap.size (Lib.byteCells (frs (l.take 0))) w1 := .inl ⟨Nat.le_refl _, .slice none 0 0, hQ1.out, ⟨rfl, .inl ⟨rfl, rfl⟩⟩, by simp [Value.ownBlock]⟩
  go_loopw [5, 8] (fun _ v8 wl => ∃ i : Nat, i ≤ l.length ∧ v8 = .int .i64 i ∧ Below w.heap.size w wl ∧ Lib.IsBuilder 68 5 w.heap.size w.heap.size (Lib.byteCells (frs (l.take i))) wl) (fun _ v8 _ => l.length - (intOf v8).toNat)
  case atStart => exact ⟨0, by omega, rfl, hw1, hI1⟩
  case round =>
    obtain ⟨i, hil, rfl, hB, hI⟩ := hrel
    have hsz := hB.size
    by_cases hlt : i < l.length
    · have hz2 : (i : Int) < (l.length : Int) := by omega
      obtain ⟨x, hx⟩ : ∃ x, l[i]? = some x := ⟨_, List.getElem?_eq_getElem hlt⟩
      obtain ⟨g, o, rfl, hgl, hc⟩ := hT.at i x hx
      have hc2 : wr.cell? ⟨g, o + i, none⟩ = some (.string ⟨x.toArray⟩) := (hB.cell (p := ⟨g, o + i, none⟩) hgl).trans hc
      have hxl : x.length ≤ (frs l).length := frs_mem (List.mem_of_getElem? hx)
      have hfl := frame_len x
      have htl := frs_take_len l i
      have e3 : Hid (frs (l.take (i + 1)) = frs (l.take i) ++ frame x) := frs_take hx
      have HF := frame_any x wr (hG.belowSize hB) (by omega)
      have HW := fun w2 (h : Lib.IsBuilder 68 5 w.heap.size w.heap.size (Lib.byteCells (frs (l.take i))) w2) (hw : w.heap.size ≤ w2.heap.size) => bWrite w.heap.size w.heap.size (Lib.byteCells (frs (l.take i))) ⟨(frame x).toArray⟩ w2 h (by rw [mk_len2, hfl]; simp [Lib.byteCells]; omega) hw
      clear hx
      generalize hfr : frame x = fx at *
      go_wp2_with (first
        | (go_at_call 50; refine HF.mono ?_; rintro e w2 ⟨rfl, hw2⟩; have hI2 : Lib.IsBuilder 68 5 w.heap.size w.heap.size (Lib.byteCells (frs (l.take i))) w2 := isB_below hI hw2)
        | (go_at_call 49; refine (HW _ hI2 (Nat.le_trans hsz hw2.size)).mono ?_; rintro e w3 ⟨rfl, hA3, hw3⟩))
      go_roundw
      case rel => exact ⟨i + 1, by omega, by go_num, (hB.trans (hw2.mono hsz)).trans hw3, .inr (by rw [e3.out, byteCells_app]; exact hA3)⟩
      case measure => simp [intOf]; omega
    · have hin2 : l.take i = l := List.take_of_length_le (by omega)
      rw [hin2] at hI
      have HS2 := HS wr hI hsz
      clear HS
      go_wp2_with (go_at_call 51; refine HS2.mono ?_; rintro e w3 ⟨rfl, hw3⟩)
      go_ret
      exact ⟨rfl, hB.trans hw3⟩
end Go.Proofs.YtaiiojbakmminabGreatDoor
