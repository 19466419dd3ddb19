/- What TakeMembers, Take and Decode do at the bytes of a header that may be. -/
import Derived.Test.YtdolgkegeomafaaDoorHmc
import Derived.Test.YtdolgkegeomafaaDoorHvl
namespace Go.Proofs.YtdolgkegeomafaaDoor
open Go Go.RowKit
theorem OkM.take {l : List Int} (h : OkM l) {i : Nat} (h0 : 0 < i) : OkM (l.take i) :=
  ⟨fun e => by
    have := congrArg List.length e
    rw [List.length_take, List.length_nil] at this
    have := h.pos
    omega, fun m hm => h.each m (List.mem_of_mem_take hm), h.up.sublist (List.take_sublist _ _)⟩
/-- A reader at the next of who takes part. -/
theorem mem_at (a c : List UInt8) (l : List Int) (hl : ∀ m ∈ l, 0 ≤ m ∧ m ≤ 15) (i : Nat) (hlt : i < l.length) :
    (⟨a ++ (memB l ++ c), a.length + 1 + i, 0⟩ : R).number 1 = (⟨a ++ (memB l ++ c), a.length + 1 + (i + 1), 0⟩, (l.getD i 0).toNat) := by
  have hd : memsB l = memsB (l.take i) ++ (num l[i].toNat 1 ++ memsB (l.drop (i + 1))) := by
    conv => lhs; rw [← List.take_append_drop i l, List.drop_eq_getElem_cons hlt]
    unfold memsB
    rw [List.flatMap_append, List.flatMap_cons]
  obtain ⟨hm0, hm1⟩ := hl _ (List.getElem_mem hlt)
  have h3 := R.number_at (a ++ num l.length 1 ++ memsB (l.take i)) (num l[i].toNat 1) (memsB (l.drop (i + 1)) ++ c) 1 (by rw [num_length]; rfl) (by rw [num_length]; omega)
  have e : a ++ num l.length 1 ++ memsB (l.take i) ++ (num l[i].toNat 1 ++ (memsB (l.drop (i + 1)) ++ c)) = a ++ (memB l ++ c) := by rw [memB, hd]; simp only [List.append_assoc]
  rw [e, List.length_append, List.length_append, num_length, memsB_len, List.length_take, Nat.min_eq_left (Nat.le_of_lt hlt), num_length, val_num, show l[i].toNat % 256 ^ 1 = l[i].toNat from Nat.mod_eq_of_lt (by omega)] at h3
  rw [h3, List.getD_eq_getElem?_getD, List.getElem?_eq_getElem hlt]
  rfl
theorem many_at (a c : List UInt8) (l : List Int) (hl : l.length ≤ 16) :
    (⟨a ++ (memB l ++ c), a.length, 0⟩ : R).number 1 = (⟨a ++ (memB l ++ c), a.length + 1 + 0, 0⟩, l.length) := by
  have h1 := R.number_at a (num l.length 1) (memsB l ++ c) 1 (by rw [num_length]; rfl) (by rw [num_length]; omega)
  have e : a ++ (memB l ++ c) = a ++ (num l.length 1 ++ (memsB l ++ c)) := by rw [memB]; simp only [List.append_assoc]
  rw [num_length, val_num, show l.length % 256 ^ 1 = l.length from Nat.mod_eq_of_lt (by omega)] at h1
  rw [e, h1]
/-- What TakeMembers leaves. -/
def TakeMP (b : Nat) (w : World) (r : R) (l : List Int) (e : Ending) (w' : World) : Prop :=
  ∃ sl, e = .returned sl ∧ VL w' 3 w.heap.size sl (l.map fun x => .int .i64 x) ∧ To w w' b r
theorem map_snoc (l : List Int) (i : Nat) (h : i < l.length) : (l.take (i + 1)).map (fun x => Value.int .i64 x) = (l.take i).map (fun x => Value.int .i64 x) ++ [.int .i64 (l.getD i 0)] := by
  rw [List.take_succ_eq_append_getElem h, List.map_append, List.getD_eq_getElem?_getD, List.getElem?_eq_getElem h]
  rfl
set_option maxRecDepth 100000 in
set_option maxHeartbeats 4000000 in
theorem takeM_at (b : Nat) (x c : List UInt8) (l : List Int) (hl : OkM l) (w : World) (h : RD w b ⟨x ++ (memB l ++ c), x.length, 0⟩) (hs : (x ++ (memB l ++ c)).length ≤ 140737488355328) :
    Calls Tryd.prog 31 #[.pointer (some ⟨b, 0, none⟩)] w (TakeMP b w ⟨x ++ (memB l ++ c), x.length + 1 + l.length, 0⟩ l) := by
  have hbl := h.lt
  obtain ⟨ii, hi, hz, hsz, hby⟩ := infoI
  have h16 := hl.len
  have hpos := hl.pos
  have hN0 := many_at x c l h16
  have hN : Hid (∀ i, i < l.length → (⟨x ++ (memB l ++ c), x.length + 1 + i, 0⟩ : R).number 1 = (⟨x ++ (memB l ++ c), x.length + 1 + (i + 1), 0⟩, (l.getD i 0).toNat)) := fun i hi => mem_at x c l hl.each i hi
  have hSl : (x ++ (memB l ++ c)).length = x.length + (1 + l.length + c.length) := by rw [List.length_append, List.length_append, memB_len]
  have hok0 : (⟨x ++ (memB l ++ c), x.length, 0⟩ : R).ok := by show x.length ≤ (x ++ (memB l ++ c)).length; omega
  have hokI : Hid (∀ i, i ≤ l.length → (⟨x ++ (memB l ++ c), x.length + 1 + i, 0⟩ : R).ok) := fun i hi => by show x.length + 1 + i ≤ (x ++ (memB l ++ c)).length; omega
  have H1 := fun w (h : RD w b ⟨x ++ (memB l ++ c), x.length, 0⟩) => number_r b ⟨x ++ (memB l ++ c), x.length, 0⟩ 1 w h hok0 hs
  rw [hN0] at H1
  clear hN0 hSl hok0
  generalize x ++ (memB l ++ c) = S at *
  generalize x.length + 1 = n at *
  dsimp only at H1
  have hd0 : ((l.length : Int) == 0) = false := by rw [beq_eq_false_iff_ne]; omega
  have hd1 : decide (16 < (l.length : Int)) = false := decide_eq_false (by omega)
  go_enter Tryd.func31, Tryd.ntmps31
  go_wp2_with (go_at_call 29; refine (H1 _ h).mono ?_; rintro e w1 ⟨rfl, hT1⟩; clear H1)
  clear hd0 hd1
  go_loopw [4, 16] (fun v4 v16 wl => ∃ i : Nat, i ≤ l.length ∧ v16 = .int .u64 i ∧ VL wl 3 w.heap.size v4 ((l.take i).map fun x => .int .i64 x) ∧ To w wl b ⟨S, n + i, 0⟩) (fun _ v16 _ => l.length - (intOf v16).toNat)
  case atStart => exact ⟨0, by omega, rfl, by rw [List.take_zero]; exact VL.nil _ _ _, hT1⟩
  case round =>
    obtain ⟨i, hil, rfl, hV, hT⟩ := hrel
    clear hT1 h
    by_cases hlt : i < l.length
    · have HN := fun w (h : RD w b ⟨S, n + i, 0⟩) => number_r b ⟨S, n + i, 0⟩ 1 w h (hokI.out i hil) hs
      rw [hN.out i hlt] at HN
      dsimp only at HN
      have hx := hl.each (l.getD i 0) (by rw [List.getD_eq_getElem?_getD, List.getElem?_eq_getElem hlt]; exact List.getElem_mem hlt)
      obtain ⟨L1, hE1⟩ : ∃ L1, Hid (L1 = l.take (i + 1)) := ⟨_, rfl⟩
      have hL : Hid (L1.map (fun x => Value.int .i64 x) = (l.take i).map (fun x => Value.int .i64 x) ++ [.int .i64 (l.getD i 0)]) := by show L1.map _ = _; rw [hE1.out]; exact map_snoc l i hlt
      obtain ⟨k, hk⟩ : ∃ k : Nat, l.getD i 0 = (k : Int) := ⟨(l.getD i 0).toNat, by omega⟩
      rw [hk] at hx hL
      rw [hk, Int.toNat_natCast] at HN
      clear hk
      have hll : ((l.take i).map (fun x => Value.int .i64 x)).length ≤ 16 := by rw [List.length_map, List.length_take]; omega
      have HM := fun a cap w (hA : IA w a L1) => members_any L1 a cap w hA true (by show okM L1 = true; rw [hE1.out]; exact okM_iff.2 (hl.take (by omega)))
      have hwr : IntKind.i64.wrap (k : Int) = (k : Int) := by rw [IntKind.wrap_i64]; omega
      have hz2 : (i : Int) < (l.length : Int) := by omega
      have hgl : Hid (w.heap.size ≤ wr.heap.size) := hT.grown.size
      generalize (l.take i).map (fun x => Value.int .i64 x) = Li at *
      go_wp2_with (first
        | (go_at_call 29; refine (HN _ hT.rd).mono ?_; rintro e w2 ⟨rfl, hT2⟩; clear HN; have hV2 := hV.grown7 hT2.grown hbl; have hT3 := hT.trans hT2)
        | (go_at_call 9; refine (HM _ _ _ hIA).mono ?_; rintro e w5 ⟨rfl, hw5⟩; have hw5 := hw5.symm; subst hw5; clear HM hIA)
        | (with_reducible refine at_list ?_; first
          | (refine wpList_bsl1I (op := ⟨some 22, _, _, _, _, _⟩) rfl _ rfl (k : Int) rfl ?_; intro w3 hw3 hs3 hb3; replace hs3 := hs3.symm; have hV3 := hV2.below hw3; have hT4 : To w w3 b _ := ⟨grown_trans hT3.grown (grown_of_below hw3), hT3.rd.below hw3⟩)
          | (refine wpList_appendVL (op := ⟨some 23, _, _, _, _, _⟩) rfl _ _ _ _ rfl w.heap.size u4 Li hT4.grown.size rfl hV3 w2.heap.size 1 rfl (.int .i64 (k : Int)) 3 rfl hb3 ii (.int .i64 0) rfl Tryd.underlying23 hi hz hsz hby (Nat.le_trans hll (by decide)) ?_; intro w4 sl4 hw4 hV4; have hT5 := hT4.low hw4 (hT4.rd.lowB hw4 hbl); rw [← hL.out] at hV4; obtain ⟨a4, cap4, rfl, hIA⟩ := hV4.ia)))
      go_roundw
      case rel => exact ⟨i + 1, by omega, by go_num, by rw [← hE1.out]; exact hV4, hT5⟩
      case measure => simp [intOf]; omega
    · have hz2 : ¬ (i : Int) < (l.length : Int) := by omega
      have hie : i = l.length := by omega
      rw [hie, List.take_length] at hV
      rw [hie] at hT
      clear hie
      have HE := fun w (h : RD w b ⟨S, n + l.length, 0⟩) => err_any b ⟨S, n + l.length, 0⟩ w h
      dsimp only at HE
      go_wp2_with (go_at_call 33; refine (HE _ hT.rd).mono ?_; rintro e w2 ⟨rfl, hw2⟩; have hw2 := hw2.symm; subst hw2)
      go_ret
      exact ⟨u4, rfl, hV, hT⟩
end Go.Proofs.YtdolgkegeomafaaDoor
