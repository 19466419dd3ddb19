/- Transactions, plainly: which may be, their bytes, and what a reader takes. Bytes that are read as a transaction are just its bytes, and its bytes are read as it. -/
import Derived.Test.YtdolgkegeomafaaDoorAt
namespace Go.Proofs.YtdolgkegeomafaaDoor
open Go
/-- An operation. -/
structure O where
  kind : Int
  key : List UInt8
  val : List UInt8
/-- A transaction. -/
structure TX where
  client : Nat
  nonce : Nat
  ops : List O
def okOp (o : O) : Bool := decide (o.key.length ≠ 0 ∧ o.key.length ≤ 32 ∧ (((o.kind = 1 ∨ o.kind = 3) ∧ o.val.length ≤ 64) ∨ ((o.kind = 2 ∨ o.kind = 4) ∧ o.val.length = 0)))
def okTx (t : TX) : Bool := decide (t.nonce ≠ 0 ∧ t.ops.length ≠ 0 ∧ t.ops.length ≤ 8) && t.ops.all okOp
def chk (t : TX) : Int := if okTx t = true then 0 else 40
def opB (o : O) : List UInt8 := num o.kind.toNat 1 ++ ((num o.key.length 4 ++ o.key) ++ (num o.val.length 4 ++ o.val))
def opsB (l : List O) : List UInt8 := l.flatMap opB
def hdB (c n k : Nat) : List UInt8 := num c 8 ++ (num n 8 ++ num k 4)
def txB (t : TX) : List UInt8 := hdB t.client t.nonce t.ops.length ++ opsB t.ops
theorem opsB_nil : opsB [] = [] := rfl
theorem opsB_snoc (l : List O) (o : O) : opsB (l ++ [o]) = opsB l ++ opB o := by simp [opsB]
theorem opsB_cons (l : List O) (o : O) : opsB (o :: l) = opB o ++ opsB l := by simp [opsB]
structure OkO (o : O) : Prop where
  k0 : 1 ≤ o.kind
  k1 : o.kind ≤ 4
  key0 : 1 ≤ o.key.length
  key1 : o.key.length ≤ 32
  val1 : o.val.length ≤ 64
theorem okOp_of {o : O} (h : okOp o = true) : OkO o := by
  unfold okOp at h
  have h := of_decide_eq_true h
  exact ⟨by omega, by omega, by omega, by omega, by omega⟩
structure OkT (t : TX) : Prop where
  nonce : t.nonce ≠ 0
  len0 : 1 ≤ t.ops.length
  len1 : t.ops.length ≤ 8
  each : ∀ o ∈ t.ops, okOp o = true
theorem okTx_of {t : TX} (h : okTx t = true) : OkT t := by
  unfold okTx at h
  rw [Bool.and_eq_true] at h
  have h1 := of_decide_eq_true h.1
  exact ⟨h1.1, by omega, h1.2.2, fun o ho => List.all_eq_true.1 h.2 o ho⟩
theorem OkT.okO {t : TX} (h : OkT t) {o : O} (ho : o ∈ t.ops) : OkO o := okOp_of (h.each o ho)
theorem chk_zero {t : TX} (h : okTx t = true) : chk t = 0 := if_pos h
theorem chk_not {t : TX} (h : ¬ okTx t = true) : chk t = 40 := if_neg h
theorem chk_ok {t : TX} (h : chk t = 0) : okTx t = true := by
  by_cases hh : okTx t = true
  · exact hh
  · rw [chk_not hh] at h; cases h
theorem opB_length (o : O) : (opB o).length = 9 + o.key.length + o.val.length := by simp [opB, num_length]; omega
theorem opB_le {o : O} (h : OkO o) : (opB o).length ≤ 105 := by rw [opB_length]; have := h.key1; have := h.val1; omega
theorem opsB_le : ∀ (l : List O), (∀ o ∈ l, OkO o) → (opsB l).length ≤ 105 * l.length
  | [], _ => by simp [opsB]
  | o :: l, h => by
    have h1 := opB_le (h o (by simp))
    have h2 := opsB_le l (fun p hp => h p (by simp [hp]))
    rw [opsB_cons, List.length_append, List.length_cons]
    omega
theorem hdB_length (c n k : Nat) : (hdB c n k).length = 20 := by simp [hdB, num_length]
theorem txB_le {t : TX} (h : OkT t) : (txB t).length ≤ 860 := by
  have h1 := opsB_le t.ops (fun o ho => h.okO ho)
  have h2 := h.len1
  rw [txB, List.length_append, hdB_length]
  omega
/-- An operation off a reader. -/
def R.op (r : R) : R × O :=
  ((((r.number 1).1.text 32).1.text 64).1, ⟨((r.number 1).2 : Nat), ((r.number 1).1.text 32).2, (((r.number 1).1.text 32).1.text 64).2⟩)
def stR (r : R) : Nat → R
  | 0 => r
  | i + 1 => (stR r i).op.1
def opAt (r : R) (i : Nat) : O := (stR r i).op.2
def opsTo (r : R) (n : Nat) : List O := (List.range n).map (opAt r)
theorem opsTo_succ (r : R) (n : Nat) : opsTo r (n + 1) = opsTo r n ++ [opAt r n] := by simp [opsTo, List.range_succ]
theorem opsTo_length (r : R) (n : Nat) : (opsTo r n).length = n := by simp [opsTo]
theorem R.op_s (r : R) : r.op.1.s = r.s := by unfold R.op; simp only [R.text_s, R.number_s]
theorem R.op_ok {r : R} (h : r.ok) : r.op.1.ok := R.ok_text (R.ok_text (R.ok_number h 1) 32) 64
theorem stR_s (r : R) : ∀ i, (stR r i).s = r.s
  | 0 => rfl
  | i + 1 => (R.op_s _).trans (stR_s r i)
theorem stR_ok {r : R} (h : r.ok) : ∀ i, (stR r i).ok
  | 0 => h
  | i + 1 => R.op_ok (stR_ok h i)
theorem R.number_keep {r : R} (k : Int) (h : r.err ≠ 0) : r.number k = (r, 0) := by
  unfold R.number R.early
  rw [if_neg (fun x => h x.1)]
  have e : r.bytes k = (r, []) := by unfold R.bytes; rw [if_pos h]
  rw [e]
  rfl
theorem R.text_keep {r : R} (m : Int) (h : r.err ≠ 0) : r.text m = (r, []) := by
  have e1 : r.count m = (r, 0) := by
    unfold R.count
    rw [R.number_keep 4 h, if_neg (fun x => h x.1)]
  have e2 : r.bytes (0 : Nat) = (r, []) := by unfold R.bytes; rw [if_pos h]
  unfold R.text
  rw [e1]
  simp only
  rw [e2]
  simp only
  rw [if_pos h]
theorem R.op_keep {r : R} (h : r.err ≠ 0) : r.op = (r, ⟨0, [], []⟩) := by
  unfold R.op
  rw [R.number_keep 1 h]
  simp only
  rw [R.text_keep 32 h]
  simp only
  rw [R.text_keep 64 h]
  rfl
theorem stR_keep (r : R) (i : Nat) (h : (stR r i).err ≠ 0) : ∀ k, stR r (i + k) = stR r i
  | 0 => rfl
  | k + 1 => by
    show (stR r (i + k)).op.1 = _
    rw [stR_keep r i h k, R.op_keep h]
/-- The three counts ahead of the operations. -/
def rdC (r : R) : R × Nat := (((r.number 8).1.number 8).1).count 8
def rdT (r : R) : TX := ⟨(r.number 8).2, ((r.number 8).1.number 8).2, opsTo (rdC r).1 (rdC r).2⟩
/-- The reader behind a transaction. -/
def rdE (r : R) : R := (stR (rdC r).1 (rdC r).2).fail (chk (rdT r))
theorem R.count_le (r : R) (m : Nat) : (r.count m).2 ≤ m := by
  unfold R.count
  split
  · exact Nat.zero_le _
  · rename_i h
    by_cases he : (r.number 4).1.err = 0
    · by_cases h2 : (m : Int) < 0 ∨ (m : Int) < (r.number 4).2
      · exact absurd ⟨he, h2⟩ h
      · omega
    · unfold R.number at *
      have hb : ((r.early 4).bytes 4).2 = [] := by
        have := he
        unfold R.bytes at *
        split
        · rfl
        · split
          · rfl
          · split
            · rfl
            · rename_i h1 h2 h3
              rw [if_neg h1, if_neg h2, if_neg h3] at this
              exact absurd (by simpa using h1) this
      simp only
      rw [hb]
      exact Nat.zero_le _
theorem rdC_le (r : R) : (rdC r).2 ≤ 8 := R.count_le _ 8
theorem rdC_s (r : R) : (rdC r).1.s = r.s := by unfold rdC; rw [R.count_s, R.number_s, R.number_s]
theorem rdC_ok {r : R} (h : r.ok) : (rdC r).1.ok := R.ok_count (R.ok_number (R.ok_number h 8) 8) 8
theorem rdE_s (r : R) : (rdE r).s = r.s := by unfold rdE; rw [R.fail_s, stR_s, rdC_s]
theorem rdE_ok {r : R} (h : r.ok) : (rdE r).ok := R.ok_fail (stR_ok (rdC_ok h) _) _
end Go.Proofs.YtdolgkegeomafaaDoor
namespace Go.Proofs.YtdolgkegeomafaaDoor
open Go
/-- From r to r' just the bytes bs were read, without an error. -/
structure Goes (r r' : R) (bs : List UInt8) : Prop where
  e0 : r.err = 0
  e1 : r'.err = 0
  s : r'.s = r.s
  at' : r.s.take r'.pos = r.s.take r.pos ++ bs
theorem Goes.trans {a b c : R} {x y : List UInt8} (h : Goes a b x) (k : Goes b c y) : Goes a c (x ++ y) :=
  ⟨h.e0, k.e1, k.s.trans h.s, by
    have h1 := k.at'
    rw [h.s, h.at'] at h1
    rw [h1, List.append_assoc]⟩
theorem bytes_goes {r : R} {k : Nat} (hk : r.ok) (h : (r.bytes (k : Nat)).1.err = 0) : Goes r (r.bytes (k : Nat)).1 (r.bytes (k : Nat)).2 ∧ (r.bytes (k : Nat)).2.length = k := by
  obtain ⟨h1, h2, h3, h4⟩ := R.bytes_good hk h
  refine ⟨⟨h1, h, R.bytes_s _ _, ?_⟩, h4⟩
  rw [h3]
  simp only
  rw [List.take_add]
theorem number_goes {r : R} {k : Nat} (hk : r.ok) (h8 : k ≤ 8) (h : (r.number (k : Nat)).1.err = 0) : Goes r (r.number (k : Nat)).1 (num (r.number (k : Nat)).2 k) := by
  have e : r.early (k : Nat) = r := if_neg (fun x => by have := x.2; omega)
  unfold R.number at h ⊢
  rw [e] at h ⊢
  obtain ⟨h1, h2⟩ := bytes_goes hk h
  simp only
  rw [num_val k _ h2]
  exact h1
theorem count_goes {r : R} {m : Int} (hk : r.ok) (h : (r.count m).1.err = 0) : Goes r (r.count m).1 (num (r.count m).2 4) := by
  by_cases hc : (r.number 4).1.err = 0 ∧ (m < 0 ∨ m < (r.number 4).2)
  · unfold R.count at h
    rw [if_pos hc] at h
    simp at h
  · have e : r.count m = r.number 4 := if_neg hc
    rw [e] at h ⊢
    exact number_goes (k := 4) hk (by omega) h
theorem text_goes {r : R} {m : Int} (hk : r.ok) (h : (r.text m).1.err = 0) : Goes r (r.text m).1 (num (r.text m).2.length 4 ++ (r.text m).2) := by
  by_cases hb : ((r.count m).1.bytes (r.count m).2).1.err ≠ 0
  · unfold R.text at h
    rw [if_pos hb] at h
    exact absurd h hb
  · have e : r.text m = (r.count m).1.bytes (r.count m).2 := if_neg hb
    rw [e] at h ⊢
    obtain ⟨h1, h2⟩ := bytes_goes (R.ok_count hk m) h
    have h3 := count_goes hk h1.e0
    rw [h2]
    exact h3.trans h1
theorem op_goes {r : R} (hk : r.ok) (h : r.op.1.err = 0) : Goes r r.op.1 (opB r.op.2) := by
  have h3 := text_goes (R.ok_text (R.ok_number hk 1) 32) h
  have h2 := text_goes (R.ok_number hk 1) h3.e0
  have h1 := number_goes (k := 1) hk (by omega) h2.e0
  exact h1.trans (h2.trans h3)
theorem stR_goes {r : R} (hk : r.ok) : ∀ n, (stR r n).err = 0 → Goes r (stR r n) (opsB (opsTo r n))
  | 0, h => ⟨h, h, rfl, by rw [show opsTo r 0 = [] from rfl, opsB_nil, List.append_nil]; rfl⟩
  | n + 1, h => by
    have h1 := op_goes (stR_ok hk n) h
    have h2 := stR_goes hk n h1.e0
    rw [opsTo_succ, opsB_snoc]
    exact h2.trans h1
theorem R.fail_zero {r : R} {e : Int} (h : (r.fail e).err = 0) : r.err = 0 ∧ e = 0 := by
  unfold R.fail at h
  by_cases h0 : r.err = 0
  · rw [if_pos h0] at h; exact ⟨h0, h⟩
  · rw [if_neg h0] at h; exact absurd h h0
theorem R.fin_zero {r : R} (hk : r.ok) (h : r.fin.err = 0) : r.err = 0 ∧ r.pos = r.s.length := by
  unfold R.fin at h
  unfold R.ok at hk
  by_cases h0 : r.err = 0 ∧ r.pos < r.s.length
  · rw [if_pos h0] at h; simp at h
  · rw [if_neg h0] at h; exact ⟨h, by have : ¬ r.pos < r.s.length := fun x => h0 ⟨h, x⟩; omega⟩
theorem R.fail_pos (r : R) (e : Int) : (r.fail e).pos = r.pos := by unfold R.fail; split <;> rfl
theorem rd_goes {r : R} (hk : r.ok) (h : (rdE r).err = 0) : Goes r (rdE r) (txB (rdT r)) ∧ okTx (rdT r) = true := by
  obtain ⟨h1, h2⟩ := R.fail_zero (show ((stR (rdC r).1 (rdC r).2).fail (chk (rdT r))).err = 0 from h)
  have g4 := stR_goes (rdC_ok hk) _ h1
  have g3 := count_goes (R.ok_number (R.ok_number hk 8) 8) (show (rdC r).1.err = 0 from g4.e0)
  have g2 := number_goes (k := 8) (R.ok_number hk 8) (by omega) g3.e0
  have g1 := number_goes (k := 8) hk (by omega) g2.e0
  refine ⟨?_, chk_ok h2⟩
  have g := (g1.trans (g2.trans g3)).trans g4
  refine ⟨g.e0, h, (rdE_s r), ?_⟩
  rw [show (rdE r).pos = (stR (rdC r).1 (rdC r).2).pos from R.fail_pos _ _, g.at']
  rw [txB, show (rdT r).ops.length = (rdC r).2 from opsTo_length _ _]
  rfl
/-- Bytes that are read whole are the transaction's bytes. -/
theorem rd_all {s : List UInt8} (h : (rdE ⟨s, 0, 0⟩).fin.err = 0) : txB (rdT ⟨s, 0, 0⟩) = s ∧ okTx (rdT ⟨s, 0, 0⟩) = true := by
  have hk : (⟨s, 0, 0⟩ : R).ok := Nat.zero_le _
  obtain ⟨h1, h2⟩ := R.fin_zero (rdE_ok hk) h
  obtain ⟨g, ho⟩ := rd_goes hk h1
  refine ⟨?_, ho⟩
  have := g.at'
  rw [h2, rdE_s] at this
  simpa using this.symm
theorem rdT_lt (r : R) : (rdT r).client < 18446744073709551616 ∧ (rdT r).nonce < 18446744073709551616 := ⟨R.number_lt _ _, R.number_lt _ _⟩
/-- A transaction's bytes, with others behind them, are read as it. -/
theorem op_at (a c : List UInt8) (o : O) (ho : OkO o) : (⟨a ++ (opB o ++ c), a.length, 0⟩ : R).op = (⟨a ++ (opB o ++ c), a.length + (opB o).length, 0⟩, o) := by
  obtain ⟨k, key, vv⟩ := o
  have hk0 := ho.k0
  have hk1 := ho.k1
  have hy := ho.key1
  have hv := ho.val1
  dsimp only at hk0 hk1 hy hv
  obtain ⟨m, rfl⟩ : ∃ m : Nat, k = m := ⟨k.toNat, by omega⟩
  have e0 : opB ⟨(m : Nat), key, vv⟩ = num m 1 ++ ((num key.length 4 ++ key) ++ (num vv.length 4 ++ vv)) := rfl
  have h1 := R.number_at a (num m 1) ((num key.length 4 ++ key) ++ ((num vv.length 4 ++ vv) ++ c)) 1 (by rw [num_length]; rfl) (by rw [num_length]; omega)
  rw [num_length, val_num, show m % 256 ^ 1 = m from Nat.mod_eq_of_lt (by omega)] at h1
  have h2 := R.text_at (a ++ num m 1) key ((num vv.length 4 ++ vv) ++ c) 32 (by omega) (by omega)
  have h3 := R.text_at (a ++ num m 1 ++ (num key.length 4 ++ key)) vv c 64 (by omega) (by omega)
  have l2 : (a ++ num m 1).length = a.length + 1 := by rw [List.length_append, num_length]
  have l3 : (a ++ num m 1 ++ (num key.length 4 ++ key)).length = a.length + 1 + (4 + key.length) := by rw [List.length_append, l2, List.length_append, num_length]
  have e1 : a ++ (opB ⟨(m : Nat), key, vv⟩ ++ c) = a ++ (num m 1 ++ ((num key.length 4 ++ key) ++ ((num vv.length 4 ++ vv) ++ c))) := by rw [e0]; simp only [List.append_assoc]
  have e2 : a ++ num m 1 ++ ((num key.length 4 ++ key) ++ ((num vv.length 4 ++ vv) ++ c)) = a ++ (num m 1 ++ ((num key.length 4 ++ key) ++ ((num vv.length 4 ++ vv) ++ c))) := by simp only [List.append_assoc]
  have e3 : a ++ num m 1 ++ (num key.length 4 ++ key) ++ ((num vv.length 4 ++ vv) ++ c) = a ++ (num m 1 ++ ((num key.length 4 ++ key) ++ ((num vv.length 4 ++ vv) ++ c))) := by simp only [List.append_assoc]
  rw [e2, l2] at h2
  rw [e3, l3] at h3
  rw [e1]
  unfold R.op
  rw [h1]
  simp only
  rw [h2]
  simp only
  rw [h3]
  simp only [e0, List.length_append, num_length, Prod.mk.injEq, R.mk.injEq, true_and, and_true]
  omega
theorem stR_at (a c : List UInt8) (l : List O) (hl : ∀ o ∈ l, OkO o) : ∀ i, i ≤ l.length → stR ⟨a ++ (opsB l ++ c), a.length, 0⟩ i = ⟨a ++ (opsB l ++ c), a.length + (opsB (l.take i)).length, 0⟩ ∧ opsTo ⟨a ++ (opsB l ++ c), a.length, 0⟩ i = l.take i
  | 0, _ => ⟨by simp [stR, opsB], rfl⟩
  | i + 1, hi => by
    obtain ⟨h1, h2⟩ := stR_at a c l hl i (by omega)
    have hlt : i < l.length := by omega
    have hd : opsB l = opsB (l.take i) ++ (opB l[i] ++ opsB (l.drop (i + 1))) := by
      conv => lhs; rw [← List.take_append_drop i l, List.drop_eq_getElem_cons hlt]
      unfold opsB
      rw [List.flatMap_append, List.flatMap_cons]
    have h3 := op_at (a ++ opsB (l.take i)) (opsB (l.drop (i + 1)) ++ c) l[i] (hl _ (List.getElem_mem hlt))
    have e : a ++ opsB (l.take i) ++ (opB l[i] ++ (opsB (l.drop (i + 1)) ++ c)) = a ++ (opsB l ++ c) := by rw [hd]; simp only [List.append_assoc]
    rw [e, List.length_append] at h3
    have hT : l.take (i + 1) = l.take i ++ [l[i]] := List.take_succ_eq_append_getElem hlt
    constructor
    · show (stR _ i).op.1 = _
      rw [h1, h3, hT, opsB_snoc, List.length_append, Nat.add_assoc]
    · rw [opsTo_succ, h2, hT]
      unfold opAt
      rw [h1, h3]
/-- What is read of a transaction's bytes, with others behind them. -/
theorem rd_at (t : TX) (ht : okTx t = true) (hc : t.client < 18446744073709551616) (hn : t.nonce < 18446744073709551616) (c : List UInt8) :
    rdT ⟨txB t ++ c, 0, 0⟩ = t ∧ rdE ⟨txB t ++ c, 0, 0⟩ = ⟨txB t ++ c, (txB t).length, 0⟩ := by
  have hk := okTx_of ht
  obtain ⟨cl, nn, l⟩ := t
  have hl1 := hk.len1
  dsimp only at hc hn hl1
  have e0 : txB ⟨cl, nn, l⟩ ++ c = num cl 8 ++ (num nn 8 ++ (num l.length 4 ++ (opsB l ++ c))) := by
    rw [txB, hdB]; simp only [List.append_assoc]
  have h1 := R.number_at [] (num cl 8) (num nn 8 ++ (num l.length 4 ++ (opsB l ++ c))) 8 (by rw [num_length]; rfl) (by rw [num_length]; omega)
  rw [num_length, num_eight cl hc] at h1
  have h2 := R.number_at (num cl 8) (num nn 8) (num l.length 4 ++ (opsB l ++ c)) 8 (by rw [num_length]; rfl) (by rw [num_length]; omega)
  rw [num_length, num_length, num_eight nn hn] at h2
  have h3 := R.count_at (num cl 8 ++ num nn 8) (opsB l ++ c) l.length 8 (by omega) (by omega)
  have l3 : (num cl 8 ++ num nn 8).length = 16 := by rw [List.length_append, num_length, num_length]
  rw [List.append_assoc, l3] at h3
  have h4 := stR_at (num cl 8 ++ num nn 8 ++ num l.length 4) c l (fun o ho => hk.okO ho) l.length (Nat.le_refl _)
  have l4 : (num cl 8 ++ num nn 8 ++ num l.length 4).length = 20 := by rw [List.length_append, l3, num_length]
  rw [l4, List.take_length] at h4
  have e4 : num cl 8 ++ num nn 8 ++ num l.length 4 ++ (opsB l ++ c) = num cl 8 ++ (num nn 8 ++ (num l.length 4 ++ (opsB l ++ c))) := by simp only [List.append_assoc]
  rw [e4] at h4
  simp only [List.nil_append, List.length_nil, Nat.zero_add] at h1
  rw [e0]
  have hC : rdC ⟨num cl 8 ++ (num nn 8 ++ (num l.length 4 ++ (opsB l ++ c))), 0, 0⟩ = (⟨num cl 8 ++ (num nn 8 ++ (num l.length 4 ++ (opsB l ++ c))), 20, 0⟩, l.length) := by
    unfold rdC
    rw [h1]
    simp only
    rw [h2]
    simp only
    rw [h3]
  have hT : rdT ⟨num cl 8 ++ (num nn 8 ++ (num l.length 4 ++ (opsB l ++ c))), 0, 0⟩ = ⟨cl, nn, l⟩ := by
    unfold rdT
    rw [hC]
    simp only
    rw [h4.2, h1]
    simp only
    rw [h2]
  refine ⟨hT, ?_⟩
  unfold rdE
  rw [hT, chk_zero ht, hC]
  simp only
  rw [h4.1, R.fail, if_pos rfl, txB, List.length_append, hdB_length]
end Go.Proofs.YtdolgkegeomafaaDoor
