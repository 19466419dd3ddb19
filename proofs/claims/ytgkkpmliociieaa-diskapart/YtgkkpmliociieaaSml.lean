/- What the small functions of a disk do: comparing, names, whether it is dead. -/
import Derived.Test.YtgkkpmliociieaaDsk
import Derived.Laws.Externs
namespace Go.Proofs.Ytgkkpmliociieaa
open Go Go.RowKit
set_option maxRecDepth 100000 in
theorem cmpS_any (a b : B) (w : World) : Calls Try.prog 78 #[.string ⟨a.toArray⟩, .string ⟨b.toArray⟩] w fun e w' => e = .returned (.int .i64 (Lib.compareBytes a b)) ∧ w' = w := by
  go_enter Try.func78, Try.ntmps78
  go_wp2
  rw [run_callFunc_extern Try.func81 (by kernel_rfl) (by kernel_rfl) (by kernel_rfl) (e := Extern.BytealgCompare.compare) (by kernel_rfl), Lib.run_compareString]
  simp only [Result.andThen]
  rw [Oper.upon_value]
  go_wp2
  go_ret
  exact ⟨rfl, rfl⟩
set_option maxRecDepth 100000 in
theorem compare_any (a b : B) (w : World) : Calls Try.prog 74 #[.string ⟨a.toArray⟩, .string ⟨b.toArray⟩] w fun e w' => e = .returned (.int .i64 (Lib.compareBytes a b)) ∧ w' = w := by
  go_enter Try.func74, Try.ntmps74
  go_wp2_with (go_at_call 78; refine (cmpS_any a b w).mono ?_; rintro e w' ⟨rfl, rfl⟩)
  go_ret
  exact ⟨rfl, rfl⟩
set_option maxRecDepth 100000 in
theorem place1_any (f : F) (n : B) (w : World) : Calls Try.prog 73 #[.agg (fC f), .string ⟨n.toArray⟩] w fun e w' => e = .returned (.int .i64 (Lib.compareBytes f.name n)) ∧ Below w.heap.size w w' := by
  go_enter Try.func73, Try.ntmps73
  go_wp2_with (first
    | (go_at_call 74; refine (compare_any f.name n _).mono ?_; rintro e w' ⟨rfl, hw'⟩; subst hw')
    | (with_reducible refine at_list ?_; first
      | (refine wpList_boxRow (op := ⟨some 2, _, _, _, _, _⟩) rfl _ _ rfl _ rfl ?_; intro w1 hw1 hs1 hb1; clear hs1)
      | (refine wpList_loadCell (op := ⟨some 6, _, _, _, _, _⟩) rfl _ _ rfl w.heap.size 0 rfl _ _ hb1 _ Try.underlying9 rfl _ (fC_g0 f) ?_)))
  go_ret
  exact ⟨rfl, hw1⟩
/-- May a byte stand in a name? -/
def okB (b : UInt8) : Bool := (decide (97 ≤ b) && decide (b ≤ 122)) || (decide (48 ≤ b) && decide (b ≤ 57)) || b == 46 || b == 45
def okN (s : B) : Bool := s.all okB && decide (0 < s.length) && decide (s.length ≤ 32)
set_option maxRecDepth 100000 in
set_option maxHeartbeats 1000000 in
theorem ofName_any (b : UInt8) (w : World) : Calls Try.prog 47 #[.int .u8 (b.toNat : Int)] w fun e w' => e = .returned (.bool (okB b)) ∧ w' = w := by
  have h1 : decide (97 ≤ b) = decide ((97 : Int) ≤ (b.toNat : Int)) := by simp only [UInt8.le_iff_toNat_le, decide_eq_decide]; show 97 ≤ _ ↔ _; omega
  have h2 : decide (b ≤ 122) = decide ((b.toNat : Int) ≤ 122) := by simp only [UInt8.le_iff_toNat_le, decide_eq_decide]; show _ ≤ 122 ↔ _; omega
  have h3 : decide (48 ≤ b) = decide ((48 : Int) ≤ (b.toNat : Int)) := by simp only [UInt8.le_iff_toNat_le, decide_eq_decide]; show 48 ≤ _ ↔ _; omega
  have h4 : decide (b ≤ 57) = decide ((b.toNat : Int) ≤ 57) := by simp only [UInt8.le_iff_toNat_le, decide_eq_decide]; show _ ≤ 57 ↔ _; omega
  have h5 : (b == 46) = decide ((b.toNat : Int) = 46) := by rw [Bool.eq_iff_iff]; simp only [beq_iff_eq, ← UInt8.toNat_inj, decide_eq_true_eq]; show _ = 46 ↔ _; omega
  have h6 : (b == 45) = decide ((b.toNat : Int) = 45) := by rw [Bool.eq_iff_iff]; simp only [beq_iff_eq, ← UInt8.toNat_inj, decide_eq_true_eq]; show _ = 45 ↔ _; omega
  have e : okB b = ((decide ((97 : Int) ≤ (b.toNat : Int)) && decide ((b.toNat : Int) ≤ 122)) || (decide ((48 : Int) ≤ (b.toNat : Int)) && decide ((b.toNat : Int) ≤ 57)) || decide ((b.toNat : Int) = 46) || decide ((b.toNat : Int) = 45)) := by
    unfold okB
    rw [h1, h2, h3, h4, h5, h6]
  rw [e]
  clear h1 h2 h3 h4 h5 h6 e
  generalize (b.toNat : Int) = z
  go_enter Try.func47, Try.ntmps47
  go_wp2
  all_goals (go_ret; refine ⟨congrArg (fun b => Ending.returned (.bool b)) ?_, rfl⟩; first | rfl | (rw [Bool.eq_iff_iff]; simp <;> omega))
/-- The k-th byte of a text. -/
def byteOf (l : B) (k : Nat) : UInt8 := l.getD k 0
theorem idx8 (l : B) (k : Nat) (h : k < (ByteArray.mk l.toArray).size) : (((ByteArray.mk l.toArray)[k]'h).toNat : Int) = ((byteOf l k).toNat : Int) := by
  have hk : k < l.length := by
    have : (ByteArray.mk l.toArray).size = l.length := by show l.toArray.size = _; simp
    omega
  have e : (ByteArray.mk l.toArray)[k]'h = byteOf l k := by
    rw [byteOf, List.getD_eq_getElem?_getD, List.getElem?_eq_getElem hk]
    rfl
  rw [e]
theorem all_take {l : B} {p : UInt8 → Bool} {n : Nat} (h : n < l.length) : (l.take (n + 1)).all p = ((l.take n).all p && p (byteOf l n)) := by
  rw [List.take_succ_eq_append_getElem h, List.all_append, byteOf, List.getD_eq_getElem?_getD, List.getElem?_eq_getElem h]
  simp
theorem all_no {l : B} {p : UInt8 → Bool} {n : Nat} (h : n < l.length) (hp : p (byteOf l n) = false) : l.all p = false := by
  rw [Bool.eq_false_iff]
  intro ha
  have := List.all_eq_true.1 ha (byteOf l n) (by
    rw [byteOf, List.getD_eq_getElem?_getD, List.getElem?_eq_getElem h]
    simp)
  rw [hp] at this
  cases this
section
attribute [local go_sem] idx8
set_option maxRecDepth 100000 in
set_option maxHeartbeats 1000000 in
theorem name_any (s : B) (w : World) (hs : s.length ≤ 9223372036854775807) : Calls Try.prog 24 #[.string ⟨s.toArray⟩] w fun e w' => e = .returned (.bool (okN s)) ∧ w' = w := by
  obtain ⟨R, hR⟩ : ∃ R, Hid (R = okN s) := ⟨_, rfl⟩
  rw [← hR.out]
  go_enter Try.func24, Try.ntmps24
  go_wp2_with fail
  go_loopw [3, 6] (fun _ v6 wl => ∃ n : Nat, n ≤ s.length ∧ v6 = .int .i64 n ∧ Hid ((s.take n).all okB = true) ∧ wl = w) (fun _ v6 _ => s.length - (intOf v6).toNat)
  case atStart => exact ⟨0, by omega, rfl, rfl, rfl⟩
  case round =>
    obtain ⟨n, hn, rfl, hI, hw⟩ := hrel
    have hw2 := hw.symm
    subst hw2
    clear hw
    by_cases hlt : n < s.length
    · have hd : decide ((n : Int) < (s.length : Int)) = true := decide_eq_true (by omega)
      have HO := ofName_any (byteOf s n)
      cases hb : okB (byteOf s n)
      · have hRf : R = false := by
          rw [hR.out]
          unfold okN
          rw [all_no hlt hb]
          rfl
        subst hRf
        rw [hb] at HO
        clear hI hR hb
        go_wp2_with (go_at_call 47; refine (HO _).mono ?_; rintro e w' ⟨rfl, hw'⟩; subst hw')
        go_ret
        exact ⟨rfl, rfl⟩
      · have hI2 : Hid ((s.take (n + 1)).all okB = true) := by
          show _ = _
          rw [all_take hlt, hI.out, hb]
          rfl
        rw [hb] at HO
        clear hI hb
        go_wp2_with (go_at_call 47; refine (HO _).mono ?_; rintro e w' ⟨rfl, hw'⟩; subst hw')
        go_roundw
        case rel => exact ⟨n + 1, by omega, by go_num, hI2, trivial⟩
        case measure => simp [intOf]; omega
    · have hRl : Hid (R = (decide (0 < s.length) && decide (s.length ≤ 32))) := by
        have := hI.out
        rw [List.take_of_length_le (by omega)] at this
        show _ = _
        rw [hR.out, okN, this, Bool.true_and]
      have hz2 : ¬ (n : Int) < (s.length : Int) := by omega
      clear hI hR
      by_cases h0 : s = []
      · subst h0
        have hRf : R = false := by rw [hRl.out]; rfl
        subst hRf
        clear hRl
        go_wp2_with fail
        go_ret
        exact ⟨rfl, rfl⟩
      · have hpos : 0 < s.length := List.length_pos_iff.2 h0
        have hRm : R = decide (s.length ≤ 32) := by rw [hRl.out, decide_eq_true hpos, Bool.true_and]
        have hRi : R = decide ((s.length : Int) ≤ 32) := by rw [hRm, decide_eq_decide]; omega
        subst hRi
        have he : s.isEmpty = false := by simp [h0]
        clear hRl hRm h0
        go_wp2_with fail
        all_goals (go_ret; exact ⟨rfl, rfl⟩)
end
end Go.Proofs.Ytgkkpmliociieaa
