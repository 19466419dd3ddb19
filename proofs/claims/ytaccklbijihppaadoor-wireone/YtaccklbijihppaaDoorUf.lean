/- What NewReader, Unframe and the plain Unframe do. -/
import Derived.Test.YtaccklbijihppaaDoorRg
import Derived.Test.YtaccklbijihppaaDoorWf
namespace Go.Proofs.YtaccklbijihppaaDoor
open Go Go.RowKit
/-- What Unframe tells behind the reads. -/
def unfR (p : Nat) (u : Nat) (b : R × List UInt8) : List UInt8 × Int × Int :=
  if b.1.err ≠ 0 then ([], 0, b.1.err) else if u ≠ (fcheck b.2).toNat then ([], 0, 6) else (b.2, (p : Int) + b.1.pos, 0)
def rdA (s : List UInt8) : R × Nat := (⟨s, 0, 0⟩ : R).count 2147483647
def rdB (s : List UInt8) : R × Nat := (rdA s).1.number 4
def rdC (s : List UInt8) : R × List UInt8 := (rdB s).1.bytes ((rdA s).2 : Nat)
def unframe (s : List UInt8) (p : Int) : List UInt8 × Int × Int :=
  if p < 0 ∨ (s.length : Int) < p then ([], 0, 1) else unfR p.toNat (rdB (s.drop p.toNat)).2 (rdC (s.drop p.toNat))
theorem rdA_ok (s : List UInt8) : (rdA s).1.ok := R.ok_count (Nat.zero_le _) _
theorem rdB_ok (s : List UInt8) : (rdB s).1.ok := R.ok_number (rdA_ok s) _
theorem rdC_ok (s : List UInt8) : (rdC s).1.ok := R.ok_bytes (rdB_ok s) _
theorem rdA_s (s : List UInt8) : (rdA s).1.s = s := R.count_s _ _
theorem rdB_s (s : List UInt8) : (rdB s).1.s = s := (R.number_s _ _).trans (rdA_s s)
theorem rdC_s (s : List UInt8) : (rdC s).1.s = s := (R.bytes_s _ _).trans (rdB_s s)
theorem R.bytes_good {r : R} {n : Nat} (hk : r.ok) (h : (r.bytes (n : Nat)).1.err = 0) : r.err = 0 ∧ r.pos + n ≤ r.s.length ∧ r.bytes (n : Nat) = (⟨r.s, r.pos + n, 0⟩, (r.s.drop r.pos).take n) ∧ (r.bytes (n : Nat)).2.length = n := by
  unfold R.ok at hk
  by_cases he : r.err = 0
  · unfold R.bytes at *
    rw [if_neg (by simpa using he)] at *
    have h0 : ¬ ((n : Nat) : Int) < 0 := by omega
    rw [if_neg h0] at *
    by_cases h1 : (r.s.length : Int) - r.pos < (n : Nat)
    · rw [if_pos h1] at h
      simp at h
    · rw [if_neg h1]
      refine ⟨he, by omega, ?_, ?_⟩
      · rw [he]; rfl
      · simp only [List.length_take, List.length_drop]; omega
  · rw [R.bytes_keep _ he] at h
    exact absurd h he
theorem built69 (s : List UInt8) : Tryd.prog.built 69 [(0, .string ⟨s.toArray⟩)] = some (rc s 0 0) := by kernel_rfl
theorem built39 (s : List UInt8) : Tryd.prog.built 39 [(0, .string ⟨s.toArray⟩)] = some (rc s 0 0) := by kernel_rfl
set_option maxRecDepth 100000 in
set_option maxHeartbeats 400000 in
theorem newr_any (s : List UInt8) (w : World) : Calls Tryd.prog 19 #[.string ⟨s.toArray⟩] w fun e w' => e = .returned (.pointer (some ⟨w.heap.size, 0, none⟩)) ∧ Below w.heap.size w w' ∧ RD w' w.heap.size ⟨s, 0, 0⟩ := by
  go_enter Tryd.func19, Tryd.ntmps19
  go_wp2_with (with_reducible refine at_list ?_; first
    | (refine wpList_build (o := ⟨some 4, _, _, _, _, _⟩) rfl _ _ rfl (built69 s) ?_)
    | (refine wpList_boxRow (op := ⟨some 5, _, _, _, _, _⟩) rfl _ _ rfl (rc s 0 0) rfl ?_; intro w1 hw1 hs1 hb1; replace hs1 := hs1.symm))
  go_ret
  exact ⟨rfl, hw1, ⟨hb1⟩⟩
theorem extract_dropTo (l : List UInt8) (n m : Nat) (h : m = l.length) : (ByteArray.mk l.toArray).extract n m = ⟨(l.drop n).toArray⟩ := by
  subst h
  have : ((ByteArray.mk l.toArray).extract n l.length).data = (l.drop n).toArray := by
    apply Array.ext'
    simp [ByteArray.extract, ByteArray.copySlice]
    rw [List.take_of_length_le (by simp)]
  rw [show (ByteArray.mk l.toArray).extract n l.length = ⟨((ByteArray.mk l.toArray).extract n l.length).data⟩ from rfl, this]
theorem extract_drop (l : List UInt8) (n : Nat) : (ByteArray.mk l.toArray).extract n l.length = ⟨(l.drop n).toArray⟩ := extract_dropTo l n _ rfl
theorem n32_wrap64' (x : BitVec 32) : IntKind.u64.wrap (n32 x) = (x.toNat : Int) := n32_wrap64 x
theorem glob_to {w w1 w2 : World} {q : R} (hG : Glob w) (h : Below w.heap.size w w1) (k : To w1 w2 w.heap.size q) : Glob w2 :=
  (hG.belowSize h).grown k.grown hG.one
set_option maxRecDepth 100000 in
set_option maxHeartbeats 400000 in
theorem unframe_out (s : List UInt8) (p : Int) (w : World) (h : p < 0 ∨ (s.length : Int) < p) :
    Calls Tryd.prog 15 #[.string ⟨s.toArray⟩, .int .i64 p] w fun e w' => e = .returned (.tuple #[.string ⟨#[]⟩, .int .i64 0, .int .i64 1]) ∧ w' = w := by
  by_cases h0 : p < 0
  · have hd : decide (p < 0) = true := decide_eq_true h0
    go_enter Tryd.func15, Tryd.ntmps15
    go_wp2_with fail
    go_ret3
    exact ⟨rfl, rfl⟩
  · have hd : decide (p < 0) = false := decide_eq_false h0
    have hd1 : decide ((s.length : Int) < p) = true := decide_eq_true (by omega)
    go_enter Tryd.func15, Tryd.ntmps15
    go_wp2_with fail
    go_ret3
    exact ⟨rfl, rfl⟩
attribute [local go_sem] extract_drop n32_wrap64
set_option maxRecDepth 100000 in
set_option maxHeartbeats 400000 in
theorem unframe_in (s : List UInt8) (p : Nat) (w : World) (hG : Glob w) (hl : s.length ≤ 549755813888) (h : p ≤ s.length) :
    Calls Tryd.prog 15 #[.string ⟨s.toArray⟩, .int .i64 (p : Nat)] w fun e w' => e = .returned (.tuple #[.string ⟨(unfR p (rdB (s.drop p)).2 (rdC (s.drop p))).1.toArray⟩, .int .i64 (unfR p (rdB (s.drop p)).2 (rdC (s.drop p))).2.1, .int .i64 (unfR p (rdB (s.drop p)).2 (rdC (s.drop p))).2.2]) ∧ Below w.heap.size w w' := by
  have hsl : (s.drop p).length ≤ s.length := by rw [List.length_drop]; omega
  have hsl2 : (s.drop p).length = s.length - p := by rw [List.length_drop]
  have HW := newr_any (s.drop p) w
  have HA : ∀ w' , RD w' w.heap.size ⟨s.drop p, 0, 0⟩ → Calls Tryd.prog 30 #[.pointer (some ⟨w.heap.size, 0, none⟩), .int .i64 2147483647] w' fun e w2 => e = .returned (.int .i64 ((rdA (s.drop p)).2 : Nat)) ∧ To w' w2 w.heap.size (rdA (s.drop p)).1 :=
    fun w' h' => count_any _ _ 2147483647 w' h' (Nat.zero_le _) (by show (s.drop p).length ≤ _; omega) (by omega)
  have HB : ∀ w' , RD w' w.heap.size (rdA (s.drop p)).1 → Calls Tryd.prog 29 #[.pointer (some ⟨w.heap.size, 0, none⟩), .int .i64 4] w' fun e w2 => e = .returned (.int .u64 ((rdB (s.drop p)).2 : Nat)) ∧ To w' w2 w.heap.size (rdB (s.drop p)).1 :=
    fun w' h' => number_r _ _ 4 w' h' (rdA_ok _) (by rw [rdA_s]; omega)
  have HC : ∀ w' , RD w' w.heap.size (rdB (s.drop p)).1 → Calls Tryd.prog 28 #[.pointer (some ⟨w.heap.size, 0, none⟩), .int .i64 ((rdA (s.drop p)).2 : Nat)] w' fun e w2 => e = .returned (.string ⟨(rdC (s.drop p)).2.toArray⟩) ∧ To w' w2 w.heap.size (rdC (s.drop p)).1 :=
    fun w' h' => bytes_any _ _ _ w' h' (rdB_ok _) (by rw [rdB_s]; omega)
  have hok := rdC_ok (s.drop p)
  have hcs := rdC_s (s.drop p)
  have hlen : (rdC (s.drop p)).1.err = 0 → (rdC (s.drop p)).2.length ≤ s.length := fun he => by
    obtain ⟨_, h2, _, h4⟩ := R.bytes_good (rdB_ok (s.drop p)) he
    rw [rdB_s] at h2
    have : (rdC (s.drop p)).2.length = (rdA (s.drop p)).2 := h4
    omega
  generalize rdC (s.drop p) = C at *
  generalize rdB (s.drop p) = B at *
  generalize rdA (s.drop p) = A at *
  obtain ⟨q1, n⟩ := A
  obtain ⟨q2, u⟩ := B
  obtain ⟨q3, v⟩ := C
  simp only at HA HB HC hlen
  have HE := fun w' (h' : RD w' w.heap.size q3) => err_any w.heap.size q3 w' h'
  have HP := fun w' (h' : RD w' w.heap.size q3) => at_any w.heap.size q3 w' h'
  have hpos : q3.pos ≤ s.length := by have : q3.ok := hok; unfold R.ok at this; rw [show q3.s = s.drop p from hcs] at this; omega
  clear hsl hsl2
  unfold unfR
  simp only
  by_cases he : q3.err = 0
  · have hlv := hlen he
    have HK := fun w' (hG' : Glob w') => frameCheck_any v w' hG' (by omega)
    rw [he] at HE
    rw [if_neg (by simpa using he)]
    clear hlen hok hcs
    generalize fcheck v = c at *
    generalize q3.pos = y at *
    by_cases hc : u = c.toNat
    · rw [if_neg (by simpa using hc)]
      have hcu : (((u : Nat) : Int) != (c.toNat : Int)) = false := by rw [bne_eq_false_iff_eq, hc]
      have hcd : decide (((u : Nat) : Int) = (c.toNat : Int)) = true := decide_eq_true (by omega)
      have hcd2 : decide (u = c.toNat) = true := decide_eq_true hc
      clear hc
      go_enter Tryd.func15, Tryd.ntmps15
      go_wp2_with (first
        | (go_at_call 19; refine HW.mono ?_; rintro e w1 ⟨rfl, hw1, hR1⟩)
        | (go_at_call 30; refine (HA _ hR1).mono ?_; rintro e w2 ⟨rfl, hT2⟩)
        | (go_at_call 29; refine (HB _ hT2.rd).mono ?_; rintro e w3 ⟨rfl, hT3⟩)
        | (go_at_call 28; refine (HC _ hT3.rd).mono ?_; rintro e w4 ⟨rfl, hT4⟩)
        | (go_at_call 21; refine (HE _ hT4.rd).mono ?_; rintro e w' ⟨rfl, hw'⟩; have hw2' := hw'.symm; subst hw2'; clear hw')
        | (go_at_call 38; refine (HK _ (glob_to hG hw1 ((hT2.trans hT3).trans hT4))).mono ?_; rintro e w5 ⟨rfl, hw5⟩)
        | (go_at_call 22; refine (HP _ (hT4.rd.below hw5)).mono ?_; rintro e w' ⟨rfl, hw'⟩; have hw2' := hw'.symm; subst hw2'; clear hw'))
      go_ret3
      refine ⟨rfl, ?_⟩
      have hT : To w1 w4 w.heap.size q3 := (hT2.trans hT3).trans hT4
      have hB4 : Below w.heap.size w w4 := hw1.trans (below_of_grown hT.grown (Nat.le_refl _) hw1.size)
      exact hB4.trans (hw5.mono hB4.size)
    · rw [if_pos (by simpa using hc)]
      have hcu : (((u : Nat) : Int) != (c.toNat : Int)) = true := by rw [bne_iff_ne]; omega
      have hcd : decide (((u : Nat) : Int) = (c.toNat : Int)) = false := decide_eq_false (by omega)
      have hcd2 : decide (u = c.toNat) = false := decide_eq_false hc
      clear hc
      go_enter Tryd.func15, Tryd.ntmps15
      go_wp2_with (first
        | (go_at_call 19; refine HW.mono ?_; rintro e w1 ⟨rfl, hw1, hR1⟩)
        | (go_at_call 30; refine (HA _ hR1).mono ?_; rintro e w2 ⟨rfl, hT2⟩)
        | (go_at_call 29; refine (HB _ hT2.rd).mono ?_; rintro e w3 ⟨rfl, hT3⟩)
        | (go_at_call 28; refine (HC _ hT3.rd).mono ?_; rintro e w4 ⟨rfl, hT4⟩)
        | (go_at_call 21; refine (HE _ hT4.rd).mono ?_; rintro e w' ⟨rfl, hw'⟩; have hw2' := hw'.symm; subst hw2'; clear hw')
        | (go_at_call 38; refine (HK _ (glob_to hG hw1 ((hT2.trans hT3).trans hT4))).mono ?_; rintro e w5 ⟨rfl, hw5⟩))
      go_ret3
      refine ⟨rfl, ?_⟩
      have hT : To w1 w4 w.heap.size q3 := (hT2.trans hT3).trans hT4
      have hB4 : Below w.heap.size w w4 := hw1.trans (below_of_grown hT.grown (Nat.le_refl _) hw1.size)
      exact hB4.trans (hw5.mono hB4.size)
  · have hne : (q3.err != 0) = true := by simpa using he
    have hd : decide (q3.err = 0) = false := decide_eq_false he
    rw [if_pos he]
    clear hlen hok hcs
    generalize q3.err = z at *
    go_enter Tryd.func15, Tryd.ntmps15
    go_wp2_with (first
      | (go_at_call 19; refine HW.mono ?_; rintro e w1 ⟨rfl, hw1, hR1⟩)
      | (go_at_call 30; refine (HA _ hR1).mono ?_; rintro e w2 ⟨rfl, hT2⟩)
      | (go_at_call 29; refine (HB _ hT2.rd).mono ?_; rintro e w3 ⟨rfl, hT3⟩)
      | (go_at_call 28; refine (HC _ hT3.rd).mono ?_; rintro e w4 ⟨rfl, hT4⟩)
      | (go_at_call 21; refine (HE _ hT4.rd).mono ?_; rintro e w' ⟨rfl, hw'⟩; have hw2' := hw'.symm; subst hw2'; clear hw'))
    go_ret3
    refine ⟨rfl, ?_⟩
    have hT : To w1 w4 w.heap.size q3 := (hT2.trans hT3).trans hT4
    have hB4 : Below w.heap.size w w4 := hw1.trans (below_of_grown hT.grown (Nat.le_refl _) hw1.size)
    exact hB4
theorem unframe_any (s : List UInt8) (p : Int) (w : World) (hG : Glob w) (hl : s.length ≤ 549755813888) :
    Calls Tryd.prog 15 #[.string ⟨s.toArray⟩, .int .i64 p] w fun e w' => e = .returned (.tuple #[.string ⟨(unframe s p).1.toArray⟩, .int .i64 (unframe s p).2.1, .int .i64 (unframe s p).2.2]) ∧ Below w.heap.size w w' := by
  unfold unframe
  by_cases h : p < 0 ∨ (s.length : Int) < p
  · rw [if_pos h]
    exact (unframe_out s p w h).mono fun e w' ⟨h1, h2⟩ => by subst h2; exact ⟨h1, Below.refl _ _⟩
  · rw [if_neg h]
    obtain ⟨q, rfl⟩ : ∃ q : Nat, p = q := ⟨p.toNat, by omega⟩
    exact unframe_in s q w hG hl (by omega)
end Go.Proofs.YtaccklbijihppaaDoor
