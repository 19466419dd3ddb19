/- Transactions, plainly: which may be, their bytes, and what a reader takes. -/
import Derived.Test.YtncoifkchoiiaaaAt
namespace Go.Proofs.Ytncoifkchoiiaaa
open Go
/-- An operation. -/
structure O where
  kind : Int
  key : List UInt8
  val : List UInt8
/-- A transaction. -/
structure TX where
  client : Nat
  nonce : Nat
  ops : List O
def okOp (o : O) : Bool := decide (o.key.length ≠ 0 ∧ o.key.length ≤ 32 ∧ (((o.kind = 1 ∨ o.kind = 3) ∧ o.val.length ≤ 64) ∨ ((o.kind = 2 ∨ o.kind = 4) ∧ o.val.length = 0)))
def okTx (t : TX) : Bool := decide (t.nonce ≠ 0 ∧ t.ops.length ≠ 0 ∧ t.ops.length ≤ 8) && t.ops.all okOp
def chk (t : TX) : Int := if okTx t = true then 0 else 40
def opB (o : O) : List UInt8 := num o.kind.toNat 1 ++ ((num o.key.length 4 ++ o.key) ++ (num o.val.length 4 ++ o.val))
def opsB (l : List O) : List UInt8 := l.flatMap opB
def hdB (c n k : Nat) : List UInt8 := num c 8 ++ (num n 8 ++ num k 4)
def txB (t : TX) : List UInt8 := hdB t.client t.nonce t.ops.length ++ opsB t.ops
theorem opsB_nil : opsB [] = [] := rfl
theorem opsB_snoc (l : List O) (o : O) : opsB (l ++ [o]) = opsB l ++ opB o := by simp [opsB]
theorem opsB_cons (l : List O) (o : O) : opsB (o :: l) = opB o ++ opsB l := by simp [opsB]
structure OkO (o : O) : Prop where
  k0 : 1 ≤ o.kind
  k1 : o.kind ≤ 4
  key0 : 1 ≤ o.key.length
  key1 : o.key.length ≤ 32
  val1 : o.val.length ≤ 64
theorem okOp_of {o : O} (h : okOp o = true) : OkO o := by
  unfold okOp at h
  have h := of_decide_eq_true h
  exact ⟨by omega, by omega, by omega, by omega, by omega⟩
structure OkT (t : TX) : Prop where
  nonce : t.nonce ≠ 0
  len0 : 1 ≤ t.ops.length
  len1 : t.ops.length ≤ 8
  each : ∀ o ∈ t.ops, okOp o = true
theorem okTx_of {t : TX} (h : okTx t = true) : OkT t := by
  unfold okTx at h
  rw [Bool.and_eq_true] at h
  have h1 := of_decide_eq_true h.1
  exact ⟨h1.1, by omega, h1.2.2, fun o ho => List.all_eq_true.1 h.2 o ho⟩
theorem OkT.okO {t : TX} (h : OkT t) {o : O} (ho : o ∈ t.ops) : OkO o := okOp_of (h.each o ho)
theorem chk_zero {t : TX} (h : okTx t = true) : chk t = 0 := if_pos h
theorem chk_not {t : TX} (h : ¬ okTx t = true) : chk t = 40 := if_neg h
theorem chk_ok {t : TX} (h : chk t = 0) : okTx t = true := by
  by_cases hh : okTx t = true
  · exact hh
  · rw [chk_not hh] at h; cases h
theorem opB_length (o : O) : (opB o).length = 9 + o.key.length + o.val.length := by simp [opB, num_length]; omega
theorem opB_le {o : O} (h : OkO o) : (opB o).length ≤ 105 := by rw [opB_length]; have := h.key1; have := h.val1; omega
theorem opsB_le : ∀ (l : List O), (∀ o ∈ l, OkO o) → (opsB l).length ≤ 105 * l.length
  | [], _ => by simp [opsB]
  | o :: l, h => by
    have h1 := opB_le (h o (by simp))
    have h2 := opsB_le l (fun p hp => h p (by simp [hp]))
    rw [opsB_cons, List.length_append, List.length_cons]
    omega
theorem hdB_length (c n k : Nat) : (hdB c n k).length = 20 := by simp [hdB, num_length]
theorem txB_le {t : TX} (h : OkT t) : (txB t).length ≤ 860 := by
  have h1 := opsB_le t.ops (fun o ho => h.okO ho)
  have h2 := h.len1
  rw [txB, List.length_append, hdB_length]
  omega
/-- An operation off a reader. -/
def R.op (r : R) : R × O :=
  ((((r.number 1).1.text 32).1.text 64).1, ⟨((r.number 1).2 : Nat), ((r.number 1).1.text 32).2, (((r.number 1).1.text 32).1.text 64).2⟩)
def stR (r : R) : Nat → R
  | 0 => r
  | i + 1 => (stR r i).op.1
def opAt (r : R) (i : Nat) : O := (stR r i).op.2
def opsTo (r : R) (n : Nat) : List O := (List.range n).map (opAt r)
theorem opsTo_succ (r : R) (n : Nat) : opsTo r (n + 1) = opsTo r n ++ [opAt r n] := by simp [opsTo, List.range_succ]
theorem opsTo_length (r : R) (n : Nat) : (opsTo r n).length = n := by simp [opsTo]
theorem R.op_s (r : R) : r.op.1.s = r.s := by unfold R.op; simp only [R.text_s, R.number_s]
theorem R.op_ok {r : R} (h : r.ok) : r.op.1.ok := R.ok_text (R.ok_text (R.ok_number h 1) 32) 64
theorem stR_s (r : R) : ∀ i, (stR r i).s = r.s
  | 0 => rfl
  | i + 1 => (R.op_s _).trans (stR_s r i)
theorem stR_ok {r : R} (h : r.ok) : ∀ i, (stR r i).ok
  | 0 => h
  | i + 1 => R.op_ok (stR_ok h i)
theorem R.number_keep {r : R} (k : Int) (h : r.err ≠ 0) : r.number k = (r, 0) := by
  unfold R.number R.early
  rw [if_neg (fun x => h x.1)]
  have e : r.bytes k = (r, []) := by unfold R.bytes; rw [if_pos h]
  rw [e]
  rfl
theorem R.text_keep {r : R} (m : Int) (h : r.err ≠ 0) : r.text m = (r, []) := by
  have e1 : r.count m = (r, 0) := by
    unfold R.count
    rw [R.number_keep 4 h, if_neg (fun x => h x.1)]
  have e2 : r.bytes (0 : Nat) = (r, []) := by unfold R.bytes; rw [if_pos h]
  unfold R.text
  rw [e1]
  simp only
  rw [e2]
  simp only
  rw [if_pos h]
theorem R.op_keep {r : R} (h : r.err ≠ 0) : r.op = (r, ⟨0, [], []⟩) := by
  unfold R.op
  rw [R.number_keep 1 h]
  simp only
  rw [R.text_keep 32 h]
  simp only
  rw [R.text_keep 64 h]
  rfl
theorem stR_keep (r : R) (i : Nat) (h : (stR r i).err ≠ 0) : ∀ k, stR r (i + k) = stR r i
  | 0 => rfl
  | k + 1 => by
    show (stR r (i + k)).op.1 = _
    rw [stR_keep r i h k, R.op_keep h]
/-- The three counts ahead of the operations. -/
def rdC (r : R) : R × Nat := (((r.number 8).1.number 8).1).count 8
def rdT (r : R) : TX := ⟨(r.number 8).2, ((r.number 8).1.number 8).2, opsTo (rdC r).1 (rdC r).2⟩
/-- The reader behind a transaction. -/
def rdE (r : R) : R := (stR (rdC r).1 (rdC r).2).fail (chk (rdT r))
theorem R.count_le (r : R) (m : Nat) : (r.count m).2 ≤ m := by
  unfold R.count
  split
  · exact Nat.zero_le _
  · rename_i h
    by_cases he : (r.number 4).1.err = 0
    · by_cases h2 : (m : Int) < 0 ∨ (m : Int) < (r.number 4).2
      · exact absurd ⟨he, h2⟩ h
      · omega
    · unfold R.number at *
      have hb : ((r.early 4).bytes 4).2 = [] := by
        have := he
        unfold R.bytes at *
        split
        · rfl
        · split
          · rfl
          · split
            · rfl
            · rename_i h1 h2 h3
              rw [if_neg h1, if_neg h2, if_neg h3] at this
              exact absurd (by simpa using h1) this
      simp only
      rw [hb]
      exact Nat.zero_le _
theorem rdC_le (r : R) : (rdC r).2 ≤ 8 := R.count_le _ 8
theorem rdC_s (r : R) : (rdC r).1.s = r.s := by unfold rdC; rw [R.count_s, R.number_s, R.number_s]
theorem rdC_ok {r : R} (h : r.ok) : (rdC r).1.ok := R.ok_count (R.ok_number (R.ok_number h 8) 8) 8
theorem rdE_s (r : R) : (rdE r).s = r.s := by unfold rdE; rw [R.fail_s, stR_s, rdC_s]
theorem rdE_ok {r : R} (h : r.ok) : (rdE r).ok := R.ok_fail (stR_ok (rdC_ok h) _) _
end Go.Proofs.Ytncoifkchoiiaaa
