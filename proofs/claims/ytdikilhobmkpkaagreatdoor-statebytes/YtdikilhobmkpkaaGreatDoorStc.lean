/- What takeLast, Last, isLast and lastOf do. -/
import Derived.Test.YtdikilhobmkpkaaGreatDoorStb
namespace Go.Proofs.YtdikilhobmkpkaaGreatDoor
open Go Go.RowKit Go.Maps
theorem To.belowNew {w w1 w2 : World} {b : Nat} {r : R} (h : Below w.heap.size w w1) (k : To w1 w2 b r) (hb : w.heap.size ≤ b) : Below w.heap.size w w2 := h.trans (below_of_grown k.grown hb h.size)
theorem takeLast_any (b : Nat) (r : R) (w : World) (h : RD w b r) (hk : r.ok) (hl : r.s.length ≤ 140737488355328) :
    Calls Tryz.prog 47 #[.pointer (some ⟨b, 0, none⟩)] w fun e w' => e = .returned (.tuple #[.int .u64 (r.number 8).2, .string ⟨((r.number 8).1.bytes 32).2.toArray⟩]) ∧ To w w' b ((r.number 8).1.bytes 32).1 := by
  have HN := number_r b r 8 w h hk hl
  have HH := fun w (h : RD w b (r.number 8).1) => hash_any b (r.number 8).1 w h (R.ok_number hk 8) (by rw [R.number_s]; exact hl)
  generalize ((r.number 8).1.bytes 32).2 = t at *
  generalize ((r.number 8).1.bytes 32).1 = u at *
  generalize (r.number 8).2 = n at *
  generalize (r.number 8).1 = r1 at *
  go_enter Tryz.func47, Tryz.ntmps47
  go_wp2_with (first
    | (go_at_call 64; refine HN.mono ?_; rintro e w1 ⟨rfl, hT1⟩)
    | (go_at_call 75; refine (HH _ hT1.rd).mono ?_; rintro e w2 ⟨rfl, hT2⟩))
  go_ret2
  exact ⟨rfl, hT1.trans hT2⟩
/-- A client's last number, out of what its text has. -/
def lastN (v : List UInt8) : Nat := ((⟨v, 0, 0⟩ : R).number 8).2
def lastD (v : List UInt8) : List UInt8 := ((((⟨v, 0, 0⟩ : R).number 8).1).bytes 32).2
/-- A client's last number. -/
def lastM (m : List KV) (c : Nat) : Nat := bif hasM m (nOf c) then lastN (valM m (nOf c)) else 0
def lastI (m : List KV) (c : Nat) : List UInt8 := bif hasM m (nOf c) then lastD (valM m (nOf c)) else []
theorem ok0 (v : List UInt8) : (⟨v, 0, 0⟩ : R).ok := Nat.zero_le _
set_option maxRecDepth 100000 in
theorem last_st (b : Nat) (m : List KV) (c : Nat) (w : World) (h : ST w b m) (hv1 : (valM m (nOf c)).length ≤ 140737488355328) :
    Calls Tryz.prog 15 #[.pointer (some ⟨b, 0, none⟩), .int .u64 c] w fun e w' => e = .returned (.tuple #[.int .u64 (lastM m c), .string ⟨(lastI m c).toArray⟩]) ∧ Below w.heap.size w w' := by
  have HN := nonceOf_any c w
  have HV := fun w (h : ST w b m) => value_st b m (nOf c) w h (by rw [nOf_length]; unfold maxLen; omega)
  have HR := fun w => newr_any (valM m (nOf c)) w
  have HT := fun rb w (h : RD w rb ⟨valM m (nOf c), 0, 0⟩) => takeLast_any rb _ w h (ok0 _) hv1
  unfold lastM lastI lastN lastD
  generalize valM m (nOf c) = vv at *
  generalize nOf c = nc at *
  generalize ((⟨vv, 0, 0⟩ : R).number 8).2 = n1 at *
  generalize ((((⟨vv, 0, 0⟩ : R).number 8).1).bytes 32).2 = d1 at *
  generalize hasM m nc = bb at *
  cases bb
  · go_enter Tryz.func15, Tryz.ntmps15
    go_wp2_with (first
      | (go_at_call 21; refine HN.mono ?_; rintro e w1 ⟨rfl, hw1⟩)
      | (go_at_call 14; refine (HV _ (h.below hw1)).mono ?_; rintro e w2 ⟨rfl, hw2⟩))
    go_ret2
    exact ⟨rfl, hw1.trans (hw2.mono hw1.size)⟩
  · go_enter Tryz.func15, Tryz.ntmps15
    go_wp2_with (first
      | (go_at_call 21; refine HN.mono ?_; rintro e w1 ⟨rfl, hw1⟩)
      | (go_at_call 14; refine (HV _ (h.below hw1)).mono ?_; rintro e w2 ⟨rfl, hw2⟩; have hB2 := hw1.trans (hw2.mono hw1.size))
      | (go_at_call 30; refine (HR _).mono ?_; rintro e w3 ⟨rfl, hw3, hR3⟩; have hB3 := hB2.trans (hw3.mono hB2.size))
      | (go_at_call 47; refine (HT _ _ hR3).mono ?_; rintro e w4 ⟨rfl, hT4⟩))
    go_ret2
    exact ⟨rfl, hT4.belowNew hB3 hB2.size⟩
theorem last_nil (c : Nat) (w : World) : Calls Tryz.prog 15 #[.pointer none, .int .u64 c] w fun e w' => e = .returned (.tuple #[.int .u64 0, .string ⟨#[]⟩]) ∧ Below w.heap.size w w' := by
  have HN := nonceOf_any c w
  have HV := fun w => value_nil (nOf c) w (by rw [nOf_length]; unfold maxLen; omega)
  generalize nOf c = nc at *
  go_enter Tryz.func15, Tryz.ntmps15
  go_wp2_with (first
    | (go_at_call 21; refine HN.mono ?_; rintro e w1 ⟨rfl, hw1⟩)
    | (go_at_call 14; refine (HV _).mono ?_; rintro e w2 ⟨rfl, hw2⟩))
  go_ret2
  exact ⟨rfl, hw1.trans (hw2.mono hw1.size)⟩
/-- What a client's text has. -/
def lastB (n : Nat) (d : List UInt8) : List UInt8 := num n 8 ++ hash32 d
theorem lastB_length (n : Nat) (d : List UInt8) : (lastB n d).length = 40 := by simp [lastB, num_length, hash32_length]
theorem lastOf_any (n : Nat) (d : List UInt8) (w : World) : Calls Tryz.prog 26 #[.int .u64 n, .string ⟨d.toArray⟩] w fun e w' => e = .returned (.string ⟨(lastB n d).toArray⟩) ∧ Below w.heap.size w w' := by
  have HW := neww_any w
  have HN := fun w1 (h : WR w1 w.heap.size []) => wnumber_any w.heap.size [] n 8 w1 h (by simp)
  have HH := fun w1 (h : WR w1 w.heap.size (num n 8)) => whash_any w.heap.size (num n 8) d w1 h (by rw [num_length]; omega)
  have HA := fun w1 (h : WR w1 w.heap.size (num n 8 ++ hash32 d)) => wall_any w.heap.size _ w1 h
  rw [show cut8 8 = 8 from rfl] at HN
  unfold lastB
  have HE : Hid ([] ++ num n 8 = num n 8) := rfl
  generalize hash32 d = dd at *
  generalize num n 8 = nn at *
  go_enter Tryz.func26, Tryz.ntmps26
  go_wp2_with (first
    | (go_at_call 36; refine HW.mono ?_; rintro e w1 ⟨rfl, hw1, hW1⟩)
    | (go_at_call 57; refine (HN _ hW1).mono ?_; rintro e w2 ⟨rfl, hP2⟩; have hW2 := hP2.wr; rw [HE.out] at hW2)
    | (go_at_call 58; refine (HH _ hW2).mono ?_; rintro e w3 ⟨rfl, hP3⟩; have hW3 := hP3.wr)
    | (go_at_call 39; refine (HA _ hW3).mono ?_; rintro e w4 ⟨rfl, hw4⟩; have hw4 := hw4.symm; subst hw4))
  go_ret
  exact ⟨rfl, hw1.trans ((hP2.below.mono (Nat.le_refl _)).trans hP3.below)⟩
/-- May a client's text have this? -/
def isLst (v : List UInt8) : Bool := decide ((((((⟨v, 0, 0⟩ : R).number 8).1).bytes 32).1.fin).err = 0 ∧ 0 < lastN v)
set_option maxRecDepth 100000 in
theorem isLast_any (v : List UInt8) (w : World) (hv1 : v.length ≤ 140737488355328) : Calls Tryz.prog 69 #[.string ⟨v.toArray⟩] w fun e w' => e = .returned (.bool (isLst v)) ∧ Below w.heap.size w w' := by
  have HR := newr_any v w
  have HT := fun w1 (h : RD w1 w.heap.size ⟨v, 0, 0⟩) => takeLast_any w.heap.size _ w1 h (ok0 _) hv1
  have HE := fun w1 (h : RD w1 w.heap.size ((((⟨v, 0, 0⟩ : R).number 8).1).bytes 32).1) => end_any w.heap.size _ w1 h (R.ok_bytes (R.ok_number (ok0 _) 8) 32) (by rw [R.bytes_s, R.number_s]; exact hv1)
  unfold isLst lastN
  generalize ((⟨v, 0, 0⟩ : R).number 8).2 = n1 at *
  generalize ((((⟨v, 0, 0⟩ : R).number 8).1).bytes 32).2 = d1 at *
  generalize ((((⟨v, 0, 0⟩ : R).number 8).1).bytes 32).1 = r1 at *
  generalize r1.fin = r2 at *
  generalize r2.err = er at *
  by_cases h0 : er = 0
  · subst h0
    have HD : Hid (decide ((0 : Int) = 0 ∧ 0 < n1) = decide (0 < n1)) := decide_eq_decide.2 (by omega)
    rw [HD.out]
    go_enter Tryz.func69, Tryz.ntmps69
    go_wp2_with (first
      | (go_at_call 30; refine HR.mono ?_; rintro e w1 ⟨rfl, hw1, hR1⟩)
      | (go_at_call 47; refine (HT _ hR1).mono ?_; rintro e w2 ⟨rfl, hT2⟩)
      | (go_at_call 35; refine (HE _ hT2.rd).mono ?_; rintro e w3 ⟨rfl, hT3⟩))
    go_ret
    exact ⟨rfl, (hT2.trans hT3).belowNew hw1 (Nat.le_refl _)⟩
  · have hb : (er == 0) = false := by rw [beq_eq_false_iff_ne]; exact h0
    have HD : Hid (decide (er = 0 ∧ 0 < n1) = false) := decide_eq_false (fun h => h0 h.1)
    rw [HD.out]
    go_enter Tryz.func69, Tryz.ntmps69
    go_wp2_with (first
      | (go_at_call 30; refine HR.mono ?_; rintro e w1 ⟨rfl, hw1, hR1⟩)
      | (go_at_call 47; refine (HT _ hR1).mono ?_; rintro e w2 ⟨rfl, hT2⟩)
      | (go_at_call 35; refine (HE _ hT2.rd).mono ?_; rintro e w3 ⟨rfl, hT3⟩))
    go_ret
    exact ⟨rfl, (hT2.trans hT3).belowNew hw1 (Nat.le_refl _)⟩
end Go.Proofs.YtdikilhobmkpkaaGreatDoor
