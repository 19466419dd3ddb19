/- Lists of who takes part, plainly, by the bits of a number; two majorities meet. -/
import Derived.Test.YtcaoibdimeajfaaRow
namespace Go.Proofs.Ytcaoibdimeajfaa
/-- Who takes part by the bits of a number. -/
def lsB (a : Nat) : List Nat := (List.range 16).filter fun i => a.testBit i
theorem cnt_or (f g : Nat → Bool) : ∀ l : List Nat, (l.filter f).length + (l.filter g).length = (l.filter fun x => f x || g x).length + (l.filter fun x => f x && g x).length
  | [] => rfl
  | x :: r => by
    have ih := cnt_or f g r
    cases hf : f x <;> cases hg : g x <;> simp [hf, hg] <;> omega
theorem cnt_le {f g : Nat → Bool} : ∀ {l : List Nat}, (∀ x ∈ l, f x = true → g x = true) → (l.filter f).length ≤ (l.filter g).length
  | [], _ => Nat.le_refl _
  | x :: r, h => by
    have ih := cnt_le (l := r) (fun y hy => h y (List.mem_cons_of_mem _ hy))
    have hx := h x (List.mem_cons_self ..)
    cases hf : f x <;> cases hg : g x <;> simp [hf, hg] <;> first | omega | (rw [hx hf] at hg; cases hg)
theorem cnt_none {f : Nat → Bool} {l : List Nat} (h : ∀ x ∈ l, f x = false) : (l.filter f).length = 0 := by
  rw [List.filter_eq_nil_iff.2 (fun x hx => by rw [h x hx]; simp)]
  rfl
/-- One of them is taken out. -/
theorem cnt_out {f : Nat → Bool} {k : Nat} (hf : f k = true) : ∀ {l : List Nat}, l.Nodup → k ∈ l → (l.filter f).length = (l.filter fun x => f x && !decide (x = k)).length + 1
  | [], _, h => by cases h
  | x :: r, hn, h => by
    have hn2 := List.nodup_cons.1 hn
    by_cases hx : x = k
    · subst hx
      have e : r.filter (fun y => f y && !decide (y = x)) = r.filter f := List.filter_congr fun y hy => by
        have : y ≠ x := fun e => hn2.1 (e ▸ hy)
        simp [this]
      simp [hf, e]
    · have ih := cnt_out hf hn2.2 ((List.mem_cons.1 h).resolve_left (fun e => hx e.symm))
      cases hfx : f x <;> simp [hfx, hx] <;> omega
def cnt (a : Nat) : Nat := (lsB a).length
theorem mem_lsB {a i : Nat} : i ∈ lsB a ↔ i < 16 ∧ a.testBit i = true := by simp [lsB]
theorem testBit_flip (a k i : Nat) : (a ^^^ 2 ^ k).testBit i = (a.testBit i ^^ decide (k = i)) := by rw [Nat.testBit_xor, Nat.testBit_two_pow]
/-- One more, or one less. -/
theorem cnt_flip (a k : Nat) (hk : k < 16) : (a.testBit k = true → cnt a = cnt (a ^^^ 2 ^ k) + 1) ∧ (a.testBit k = false → cnt (a ^^^ 2 ^ k) = cnt a + 1) := by
  have hin : k ∈ List.range 16 := List.mem_range.2 hk
  refine ⟨fun h => ?_, fun h => ?_⟩
  · have h1 := cnt_out (f := fun i => a.testBit i) h List.nodup_range hin
    show ((List.range 16).filter fun i => a.testBit i).length = ((List.range 16).filter fun i => (a ^^^ 2 ^ k).testBit i).length + 1
    rw [h1]
    congr 2
    refine List.filter_congr fun i _ => ?_
    rw [testBit_flip]
    by_cases e : k = i
    · subst e; simp [h]
    · have e2 : ¬ i = k := fun x => e x.symm
      simp [e, e2]
  · have h0 : (a ^^^ 2 ^ k).testBit k = true := by rw [testBit_flip]; simp [h]
    have h1 := cnt_out (f := fun i => (a ^^^ 2 ^ k).testBit i) h0 List.nodup_range hin
    show ((List.range 16).filter fun i => (a ^^^ 2 ^ k).testBit i).length = ((List.range 16).filter fun i => a.testBit i).length + 1
    rw [h1]
    congr 2
    refine List.filter_congr fun i _ => ?_
    rw [testBit_flip]
    by_cases e : k = i
    · subst e; simp [h]
    · have e2 : ¬ i = k := fun x => e x.symm
      simp [e, e2]
/-- More than half of the one and more than half of the other have one in common. -/
theorem meets {a k p q : Nat} (hk : k < 16) (hp : ∀ i, p.testBit i = true → a.testBit i = true) (hq : ∀ i, q.testBit i = true → (a ^^^ 2 ^ k).testBit i = true) (h1 : cnt a < 2 * cnt p) (h2 : cnt (a ^^^ 2 ^ k) < 2 * cnt q) : p &&& q ≠ 0 := by
  intro e
  have hno : ∀ i ∈ List.range 16, (p.testBit i && q.testBit i) = false := fun i _ => by
    rw [← Nat.testBit_and, e, Nat.zero_testBit]
  have h3 := cnt_or (fun i => p.testBit i) (fun i => q.testBit i) (List.range 16)
  rw [cnt_none hno] at h3
  have h4 : ((List.range 16).filter fun i => p.testBit i || q.testBit i).length ≤ max (cnt a) (cnt (a ^^^ 2 ^ k)) := by
    obtain ⟨f1, f2⟩ := cnt_flip a k hk
    cases hak : a.testBit k with
    | true =>
      refine Nat.le_trans (cnt_le (g := fun i => a.testBit i) fun i _ hi => ?_) (Nat.le_max_left _ _)
      rcases Bool.or_eq_true_iff.1 hi with h | h
      · exact hp i h
      · have := hq i h
        rw [testBit_flip] at this
        by_cases e : k = i
        · subst e; exact hak
        · simpa [e] using this
    | false =>
      refine Nat.le_trans (cnt_le (g := fun i => (a ^^^ 2 ^ k).testBit i) fun i _ hi => ?_) (Nat.le_max_right _ _)
      rcases Bool.or_eq_true_iff.1 hi with h | h
      · rw [testBit_flip]
        have := hp i h
        by_cases e : k = i
        · subst e; rw [hak] at this; cases this
        · simp [e, this]
      · exact hq i h
  obtain ⟨f1, f2⟩ := cnt_flip a k hk
  have h5 : cnt p + cnt q ≤ max (cnt a) (cnt (a ^^^ 2 ^ k)) := by
    have e1 : cnt p = ((List.range 16).filter fun i => p.testBit i).length := rfl
    have e2 : cnt q = ((List.range 16).filter fun i => q.testBit i).length := rfl
    omega
  cases hak : a.testBit k with
  | true =>
    have := f1 hak
    omega
  | false =>
    have := f2 hak
    omega
/-- Which of them one lacks and the other has. -/
theorem cnt_xor (a b : Nat) : ((lsB a).filter fun i => !b.testBit i).length + ((lsB b).filter fun i => !a.testBit i).length = cnt (a ^^^ b) := by
  unfold lsB cnt
  rw [List.filter_filter, List.filter_filter]
  have h := cnt_or (fun i => !b.testBit i && a.testBit i) (fun i => !a.testBit i && b.testBit i) (List.range 16)
  have h0 : ((List.range 16).filter fun i => (!b.testBit i && a.testBit i) && (!a.testBit i && b.testBit i)).length = 0 := cnt_none fun i _ => by
    cases a.testBit i <;> cases b.testBit i <;> rfl
  rw [h0] at h
  have e : ((List.range 16).filter fun i => (!b.testBit i && a.testBit i) || (!a.testBit i && b.testBit i)) = lsB (a ^^^ b) := by
    unfold lsB
    refine List.filter_congr fun i _ => ?_
    rw [Nat.testBit_xor]
    cases a.testBit i <;> cases b.testBit i <;> rfl
  rw [e] at h
  exact h
theorem lsB_nil {a : Nat} (ha : a < 65536) : lsB a = [] ↔ a = 0 := by
  refine ⟨fun h => Nat.eq_of_testBit_eq fun i => ?_, fun h => by subst h; decide⟩
  rw [Nat.zero_testBit]
  by_cases hi : i < 16
  · cases hb : a.testBit i with
    | false => rfl
    | true =>
      have := mem_lsB.2 ⟨hi, hb⟩
      rw [h] at this
      cases this
  · exact Nat.testBit_lt_two_pow (Nat.lt_of_lt_of_le ha (by
      have : 2 ^ 16 ≤ 2 ^ i := Nat.pow_le_pow_right (by decide) (by omega)
      exact this))
theorem lsB_ris (a : Nat) : (lsB a).Pairwise (· < ·) := List.pairwise_lt_range.filter _
theorem lsB_lt {a i : Nat} (h : i ∈ lsB a) : i < 16 := (mem_lsB.1 h).1
theorem lsB_len (a : Nat) : (lsB a).length ≤ 16 := Nat.le_trans (List.length_filter_le ..) (by simp)
end Go.Proofs.Ytcaoibdimeajfaa
