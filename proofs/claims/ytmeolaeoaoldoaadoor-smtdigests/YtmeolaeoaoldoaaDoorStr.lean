/- Trees of halves, plainly: what a half with one leaf alone, lifted, comes to. -/
import Derived.Test.YtmeolaeoaoldoaaDoorSpm
namespace Go.Proofs.YtmeolaeoaoldoaaDoor
/-- A half: without leaves, a leaf alone, or two halves. -/
inductive Tr where
  | emp : Tr
  | lf : LF → Tr
  | nd : Tr → Tr → Tr
namespace Tr
def leaves : Tr → List LF
  | emp => []
  | lf x => [x]
  | nd l r => l.leaves ++ r.leaves
/-- A half from bit i on that is as it must be. -/
def Canon : Nat → Tr → Prop
  | _, emp => True
  | _, lf x => x.1.length = 32
  | i, nd l r => i < 256 ∧ Canon (i + 1) l ∧ Canon (i + 1) r ∧ (∀ x ∈ l.leaves, bitD x.1 i = 0) ∧ (∀ x ∈ r.leaves, bitD x.1 i = 1) ∧ 2 ≤ l.leaves.length + r.leaves.length
theorem Canon.len : ∀ {t : Tr} {i : Nat}, Canon i t → ∀ x ∈ t.leaves, x.1.length = 32
  | emp, _, _, x, hx => nomatch hx
  | lf y, _, h, x, hx => by rw [List.mem_singleton.1 hx]; exact h
  | nd l r, i, h, x, hx => by
    rcases List.mem_append.1 hx with hx | hx
    · exact Canon.len h.2.1 x hx
    · exact Canon.len h.2.2.1 x hx
theorem Canon.apart : ∀ {t : Tr} {i : Nat}, Canon i t → t.leaves.Pairwise fun x y => x.1 ≠ y.1
  | emp, _, _ => List.Pairwise.nil
  | lf y, _, _ => List.pairwise_singleton _ _
  | nd l r, i, h => by
    refine List.pairwise_append.2 ⟨Canon.apart h.2.1, Canon.apart h.2.2.1, fun x hx y hy e => ?_⟩
    have h1 := h.2.2.2.1 x hx
    have h2 := h.2.2.2.2.1 y hy
    rw [e] at h1
    omega
theorem Canon.stand {t : Tr} (h : Canon 0 t) : Stand t.leaves 0 := ⟨h.len, h.apart, fun _ _ _ _ j hj => absurd hj (by omega)⟩
theorem filter_all {α : Type} {l : List α} {p : α → Bool} (h : ∀ x ∈ l, p x = true) : l.filter p = l := List.filter_eq_self.2 h
theorem filter_no {α : Type} {l : List α} {p : α → Bool} (h : ∀ x ∈ l, p x = false) : l.filter p = [] := List.filter_eq_nil_iff.2 (fun x hx => by rw [h x hx]; exact Bool.false_ne_true)
theorem Canon.half0 {l r : Tr} {i : Nat} (h : Canon i (nd l r)) : halfD (nd l r).leaves i 0 = l.leaves := by
  show ((l.leaves ++ r.leaves).filter _) = _
  rw [List.filter_append, filter_all (fun x hx => decide_eq_true (h.2.2.2.1 x hx)), filter_no (fun x hx => decide_eq_false (by rw [h.2.2.2.2.1 x hx]; decide)), List.append_nil]
theorem Canon.half1 {l r : Tr} {i : Nat} (h : Canon i (nd l r)) : halfD (nd l r).leaves i 1 = r.leaves := by
  show ((l.leaves ++ r.leaves).filter _) = _
  rw [List.filter_append, filter_no (fun x hx => decide_eq_false (by rw [h.2.2.2.1 x hx]; decide)), filter_all (fun x hx => decide_eq_true (h.2.2.2.2.1 x hx)), List.nil_append]
theorem Canon.two_le {l r : Tr} {i : Nat} (h : Canon i (nd l r)) : 2 ≤ (nd l r).leaves.length := by
  show 2 ≤ (l.leaves ++ r.leaves).length
  rw [List.length_append]
  exact h.2.2.2.2.2
section
variable (Tg : UInt8 → List (List UInt8) → List UInt8)
/-- A half's digest. -/
def hash : Tr → List UInt8
  | emp => emptyD
  | lf x => hashL Tg x
  | nd l r => joinD Tg (hash l) (hash r)
/-- It is that of its leaves. -/
theorem hash_root : ∀ {t : Tr} {i f : Nat}, Canon i t → i + f = 256 → t.hash Tg = rootS Tg f t.leaves i
  | emp, i, f, _, _ => (rootS_nil Tg f i).symm
  | lf x, i, f, _, _ => (rootS_one Tg f i x).symm
  | nd l r, i, f, h, hf => by
    obtain ⟨f', rfl⟩ : ∃ f', f = f' + 1 := ⟨f - 1, by have := h.1; omega⟩
    rw [rootS_cut Tg h.two_le, h.half0, h.half1, ← hash_root h.2.1 (by omega), ← hash_root h.2.2.1 (by omega)]
    rfl
/-- The digests beside a path's way down, and the leaf at its end. -/
def way : Tr → Nat → List UInt8 → List (List UInt8) × List LF
  | emp, _, _ => ([], [])
  | lf x, _, _ => ([], [x])
  | nd l r, i, p => if bitD p i = 0 then (r.hash Tg :: (way l (i + 1) p).1, (way l (i + 1) p).2) else (l.hash Tg :: (way r (i + 1) p).1, (way r (i + 1) p).2)
theorem way_proof : ∀ {t : Tr} {i f : Nat} (p : List UInt8), Canon i t → i + f = 256 → t.way Tg i p = proofS Tg f t.leaves p i
  | emp, i, f, p, _, _ => (proofS_short Tg f (Nat.zero_le _) p i).symm
  | lf x, i, f, p, _, _ => (proofS_short Tg f (Nat.le_refl _) p i).symm
  | nd l r, i, f, p, h, hf => by
    obtain ⟨f', rfl⟩ : ∃ f', f = f' + 1 := ⟨f - 1, by have := h.1; omega⟩
    have hb := bitD_lt p i
    rw [proofS_cut Tg h.two_le]
    by_cases h0 : bitD p i = 0
    · rw [h0, h.half0, show 1 - 0 = 1 from rfl, h.half1, ← way_proof p h.2.1 (by omega), ← hash_root Tg h.2.2.1 (by omega)]
      show (if bitD p i = 0 then _ else _) = _
      rw [if_pos h0]
    · have h1 : bitD p i = 1 := by omega
      rw [h1, h.half1, show 1 - 1 = 0 from rfl, h.half0, ← way_proof p h.2.2.1 (by omega), ← hash_root Tg h.2.1 (by omega)]
      show (if bitD p i = 0 then _ else _) = _
      rw [if_neg h0]
end
/-- Two leaves with unlike paths, from bit i on; f: how many bits there are left. -/
def two : Nat → Nat → LF → LF → Tr
  | 0, _, x, y => nd (lf x) (lf y)
  | f + 1, i, x, y => if bitD x.1 i = 0 then (if bitD y.1 i = 0 then nd (two f (i + 1) x y) emp else nd (lf x) (lf y)) else (if bitD y.1 i = 0 then nd (lf y) (lf x) else nd emp (two f (i + 1) x y))
theorem two_leaves : ∀ (f i : Nat) (x y : LF), (two f i x y).leaves.Perm [x, y]
  | 0, _, x, y => List.Perm.refl _
  | f + 1, i, x, y => by
    unfold two
    split
    · split
      · show ((two f (i + 1) x y).leaves ++ []).Perm _
        rw [List.append_nil]
        exact two_leaves f (i + 1) x y
      · exact List.Perm.refl _
    · split
      · exact List.Perm.swap _ _ _
      · exact two_leaves f (i + 1) x y
theorem two_canon : ∀ (f i : Nat) (x y : LF), i + f = 256 → x.1.length = 32 → y.1.length = 32 → x.1 ≠ y.1 → (∀ j, j < i → bitD x.1 j = bitD y.1 j) → Canon i (two f i x y)
  | 0, i, x, y, hf, hx, hy, hne, hs => absurd (bits_ext hx hy (fun j hj => hs j (by omega))) hne
  | f + 1, i, x, y, hf, hx, hy, hne, hs => by
    have bx := bitD_lt x.1 i
    have by' := bitD_lt y.1 i
    have hmem : ∀ z ∈ (two f (i + 1) x y).leaves, z = x ∨ z = y := fun z hz => by
      have := (two_leaves f (i + 1) x y).mem_iff.1 hz
      simpa using this
    have hlen : (two f (i + 1) x y).leaves.length = 2 := (two_leaves f (i + 1) x y).length_eq
    unfold two
    split
    · rename_i h0
      split
      · rename_i h1
        have hc := two_canon f (i + 1) x y (by omega) hx hy hne (fun j hj => by
          by_cases h : j < i
          · exact hs j h
          · obtain rfl : j = i := by omega
            rw [h0, h1])
        refine ⟨by omega, hc, trivial, fun z hz => ?_, (fun z hz => nomatch hz), ?_⟩
        · rcases hmem z hz with rfl | rfl
          · exact h0
          · exact h1
        · rw [hlen]; exact Nat.le_refl 2
      · rename_i h1
        exact ⟨by omega, hx, hy, fun z hz => by rw [List.mem_singleton.1 hz]; exact h0, fun z hz => by rw [List.mem_singleton.1 hz]; omega, Nat.le_refl 2⟩
    · rename_i h0
      split
      · rename_i h1
        exact ⟨by omega, hy, hx, fun z hz => by rw [List.mem_singleton.1 hz]; exact h1, fun z hz => by rw [List.mem_singleton.1 hz]; omega, Nat.le_refl 2⟩
      · rename_i h1
        have hc := two_canon f (i + 1) x y (by omega) hx hy hne (fun j hj => by
          by_cases h : j < i
          · exact hs j h
          · obtain rfl : j = i := by omega
            omega)
        refine ⟨by omega, trivial, hc, (fun z hz => nomatch hz), fun z hz => ?_, ?_⟩
        · rcases hmem z hz with rfl | rfl
          · omega
          · omega
        · rw [hlen]; exact Nat.le_refl 2
/-- A leaf is laid: in the place of the one with its path, if there is one. -/
def put : Nat → Nat → Tr → LF → Tr
  | _, _, emp, x => lf x
  | f, i, lf y, x => if y.1 = x.1 then lf x else two f i y x
  | 0, _, nd l r, _ => nd l r
  | f + 1, i, nd l r, x => if bitD x.1 i = 0 then nd (put f (i + 1) l x) r else nd l (put f (i + 1) r x)
/-- Leaves without a path; with a leaf laid. -/
def lessD (l : List LF) (p : List UInt8) : List LF := l.filter fun x => !(x.1 == p)
theorem lessD_other {l : List LF} {p : List UInt8} (h : ∀ x ∈ l, x.1 ≠ p) : lessD l p = l := filter_all (fun x hx => by rw [Bool.not_eq_true', beq_eq_false_iff_ne]; exact h x hx)
theorem lessD_app (l m : List LF) (p : List UInt8) : lessD (l ++ m) p = lessD l p ++ lessD m p := List.filter_append ..
theorem less_one : ∀ {l : List LF} (p : List UInt8), (l.Pairwise fun x y => x.1 ≠ y.1) → l.length ≤ (lessD l p).length + 1
  | [], _, _ => Nat.zero_le _
  | x :: r, p, h => by
    have h1 := List.pairwise_cons.1 h
    by_cases hx : x.1 = p
    · have : lessD (x :: r) p = r := by
        unfold lessD
        rw [List.filter_cons_of_neg (by simp [hx])]
        exact filter_all (fun y hy => by rw [Bool.not_eq_true', beq_eq_false_iff_ne, ← hx]; exact fun e => h1.1 y hy e.symm)
      rw [this]
      exact Nat.le_refl _
    · have : lessD (x :: r) p = x :: lessD r p := by
        unfold lessD
        rw [List.filter_cons_of_pos (by simp [hx])]
      rw [this, List.length_cons, List.length_cons]
      have := less_one p h1.2
      omega
theorem less_len {t : Tr} {i : Nat} (h : Canon i t) (p : List UInt8) : t.leaves.length ≤ (lessD t.leaves p).length + 1 := less_one p h.apart
theorem put_spec : ∀ (t : Tr) (f i : Nat) (x : LF), i + f = 256 → Canon i t → x.1.length = 32 → (∀ y ∈ t.leaves, ∀ j, j < i → bitD y.1 j = bitD x.1 j) → Canon i (put f i t x) ∧ (put f i t x).leaves.Perm (x :: lessD t.leaves x.1)
  | emp, f, i, x, hf, hc, hx, hs => by
    have e : put f i emp x = lf x := by cases f <;> rfl
    rw [e]
    exact ⟨hx, List.Perm.refl _⟩
  | lf y, f, i, x, hf, hc, hx, hs => by
    have e : put f i (lf y) x = if y.1 = x.1 then lf x else two f i y x := by cases f <;> rfl
    rw [e]
    by_cases h : y.1 = x.1
    · rw [if_pos h]
      refine ⟨hx, ?_⟩
      have : lessD (lf y).leaves x.1 = [] := filter_no (fun z hz => by rw [List.mem_singleton.1 hz, h]; simp)
      rw [this]
      exact List.Perm.refl _
    · rw [if_neg h]
      refine ⟨two_canon f i y x hf hc hx h (fun j hj => hs y (by simp [leaves]) j hj), ?_⟩
      rw [lessD_other (fun z hz => by rw [List.mem_singleton.1 hz]; exact h)]
      exact (two_leaves f i y x).trans (List.Perm.swap _ _ _)
  | nd l r, 0, i, x, hf, hc, hx, hs => absurd hc.1 (by omega)
  | nd l r, f + 1, i, x, hf, hc, hx, hs => by
    have hb := bitD_lt x.1 i
    have e : put (f + 1) i (nd l r) x = if bitD x.1 i = 0 then nd (put f (i + 1) l x) r else nd l (put f (i + 1) r x) := rfl
    rw [e]
    by_cases h0 : bitD x.1 i = 0
    · rw [if_pos h0]
      obtain ⟨h1, h2⟩ := put_spec l f (i + 1) x (by omega) hc.2.1 hx (fun y hy j hj => by
        by_cases h : j < i
        · exact hs y (List.mem_append.2 (.inl hy)) j h
        · obtain rfl : j = i := by omega
          rw [hc.2.2.2.1 y hy, h0])
      have hne : ∀ y ∈ r.leaves, y.1 ≠ x.1 := fun y hy e => by
        have := hc.2.2.2.2.1 y hy
        rw [e] at this
        omega
      have hp : ((put f (i + 1) l x).leaves ++ r.leaves).Perm (x :: lessD (nd l r).leaves x.1) := by
        have e2 : lessD (nd l r).leaves x.1 = lessD l.leaves x.1 ++ r.leaves := (lessD_app l.leaves r.leaves x.1).trans (by rw [lessD_other hne])
        rw [e2]
        exact h2.append_right r.leaves
      refine ⟨⟨hc.1, h1, hc.2.2.1, fun y hy => ?_, hc.2.2.2.2.1, ?_⟩, hp⟩
      · rcases List.mem_cons.1 (h2.mem_iff.1 hy) with rfl | hy2
        · exact h0
        · exact hc.2.2.2.1 y (List.mem_filter.1 hy2).1
      · have l1 := h2.length_eq
        rw [List.length_cons] at l1
        by_cases hr : r.leaves = []
        · have hl2 := hc.2.2.2.2.2
          rw [hr, List.length_nil, Nat.add_zero] at hl2
          have : l.leaves.length ≤ (lessD l.leaves x.1).length + 1 := less_len hc.2.1 x.1
          omega
        · have : 0 < r.leaves.length := List.length_pos_iff.2 hr
          omega
    · have h1' : bitD x.1 i = 1 := by omega
      rw [if_neg h0]
      obtain ⟨h1, h2⟩ := put_spec r f (i + 1) x (by omega) hc.2.2.1 hx (fun y hy j hj => by
        by_cases h : j < i
        · exact hs y (List.mem_append.2 (.inr hy)) j h
        · obtain rfl : j = i := by omega
          rw [hc.2.2.2.2.1 y hy, h1'])
      have hne : ∀ y ∈ l.leaves, y.1 ≠ x.1 := fun y hy e => by
        have := hc.2.2.2.1 y hy
        rw [e] at this
        omega
      have hp : (l.leaves ++ (put f (i + 1) r x).leaves).Perm (x :: lessD (nd l r).leaves x.1) := by
        have e2 : lessD (nd l r).leaves x.1 = l.leaves ++ lessD r.leaves x.1 := (lessD_app l.leaves r.leaves x.1).trans (by rw [lessD_other hne])
        rw [e2]
        exact (h2.append_left l.leaves).trans List.perm_middle
      refine ⟨⟨hc.1, hc.2.1, h1, hc.2.2.2.1, fun y hy => ?_, ?_⟩, hp⟩
      · rcases List.mem_cons.1 (h2.mem_iff.1 hy) with rfl | hy2
        · exact h1'
        · exact hc.2.2.2.2.1 y (List.mem_filter.1 hy2).1
      · have l1 := h2.length_eq
        rw [List.length_cons] at l1
        by_cases hr : l.leaves = []
        · have hl2 := hc.2.2.2.2.2
          rw [hr, List.length_nil, Nat.zero_add] at hl2
          have : r.leaves.length ≤ (lessD r.leaves x.1).length + 1 := less_len hc.2.2.1 x.1
          omega
        · have : 0 < l.leaves.length := List.length_pos_iff.2 hr
          omega
/-- Two halves as one: a leaf alone is lifted. -/
def join : Tr → Tr → Tr
  | emp, emp => emp
  | emp, lf x => lf x
  | lf x, emp => lf x
  | l, r => nd l r
theorem join_leaves (l r : Tr) : (join l r).leaves = l.leaves ++ r.leaves := by
  cases l <;> cases r <;> simp [join, leaves]
theorem Canon.pos : ∀ {t : Tr} {i : Nat}, Canon i t → t ≠ emp → 0 < t.leaves.length
  | emp, _, _, h => absurd rfl h
  | lf _, _, _, _ => Nat.zero_lt_one
  | nd l r, i, h, _ => by have := h.two_le; omega
theorem join_canon {l r : Tr} {i : Nat} (hi : i < 256) (hl : Canon (i + 1) l) (hr : Canon (i + 1) r) (h0 : ∀ x ∈ l.leaves, bitD x.1 i = 0) (h1 : ∀ x ∈ r.leaves, bitD x.1 i = 1) : Canon i (join l r) := by
  cases l with
  | emp =>
    cases r with
    | emp => trivial
    | lf x => exact hr
    | nd a b => exact ⟨hi, hl, hr, h0, h1, by have := hr.two_le; simp [leaves] at this ⊢; omega⟩
  | lf x =>
    cases r with
    | emp => exact hl
    | lf y => exact ⟨hi, hl, hr, h0, h1, Nat.le_refl 2⟩
    | nd a b => exact ⟨hi, hl, hr, h0, h1, by have := hr.two_le; simp [leaves] at this ⊢; omega⟩
  | nd a b => exact ⟨hi, hl, hr, h0, h1, by have := hl.two_le; omega⟩
/-- The leaf with a path goes. -/
def del : Nat → Nat → Tr → List UInt8 → Tr
  | _, _, emp, _ => emp
  | _, _, lf y, p => if y.1 = p then emp else lf y
  | 0, _, nd l r, _ => nd l r
  | f + 1, i, nd l r, p => if bitD p i = 0 then join (del f (i + 1) l p) r else join l (del f (i + 1) r p)
theorem del_spec : ∀ (t : Tr) (f i : Nat) (p : List UInt8), i + f = 256 → Canon i t → Canon i (del f i t p) ∧ (del f i t p).leaves = lessD t.leaves p
  | emp, f, i, p, _, _ => by
    have e : del f i emp p = emp := by cases f <;> rfl
    rw [e]
    exact ⟨trivial, rfl⟩
  | lf y, f, i, p, _, hc => by
    have e : del f i (lf y) p = if y.1 = p then emp else lf y := by cases f <;> rfl
    rw [e]
    by_cases h : y.1 = p
    · rw [if_pos h]
      exact ⟨trivial, (filter_no (fun z hz => by rw [List.mem_singleton.1 hz, h]; simp)).symm⟩
    · rw [if_neg h]
      exact ⟨hc, (lessD_other (fun z hz => by rw [List.mem_singleton.1 hz]; exact h)).symm⟩
  | nd l r, 0, i, p, hf, hc => absurd hc.1 (by omega)
  | nd l r, f + 1, i, p, hf, hc => by
    have hb := bitD_lt p i
    have e : del (f + 1) i (nd l r) p = if bitD p i = 0 then join (del f (i + 1) l p) r else join l (del f (i + 1) r p) := rfl
    rw [e]
    by_cases h0 : bitD p i = 0
    · rw [if_pos h0]
      obtain ⟨h1, h2⟩ := del_spec l f (i + 1) p (by omega) hc.2.1
      have hne : ∀ y ∈ r.leaves, y.1 ≠ p := fun y hy e => by
        have := hc.2.2.2.2.1 y hy
        rw [e] at this
        omega
      refine ⟨join_canon hc.1 h1 hc.2.2.1 (fun x hx => ?_) hc.2.2.2.2.1, ?_⟩
      · rw [h2] at hx
        exact hc.2.2.2.1 x (List.mem_filter.1 hx).1
      · rw [join_leaves, h2]
        exact ((lessD_app l.leaves r.leaves p).trans (by rw [lessD_other hne])).symm
    · rw [if_neg h0]
      obtain ⟨h1, h2⟩ := del_spec r f (i + 1) p (by omega) hc.2.2.1
      have hne : ∀ y ∈ l.leaves, y.1 ≠ p := fun y hy e => by
        have := hc.2.2.2.1 y hy
        rw [e] at this
        omega
      refine ⟨join_canon hc.1 hc.2.1 h1 hc.2.2.2.1 (fun x hx => ?_), ?_⟩
      · rw [h2] at hx
        exact hc.2.2.2.2.1 x (List.mem_filter.1 hx).1
      · rw [join_leaves, h2]
        exact ((lessD_app l.leaves r.leaves p).trans (by rw [lessD_other hne])).symm
/-- The leaf with a path, if there is one. -/
def find : Nat → Tr → List UInt8 → Option LF
  | _, emp, _ => none
  | _, lf y, p => if y.1 = p then some y else none
  | i, nd l r, p => if bitD p i = 0 then find (i + 1) l p else find (i + 1) r p
theorem find_spec : ∀ {t : Tr} {i : Nat} {p : List UInt8} {x : LF}, Canon i t → (find i t p = some x ↔ x ∈ t.leaves ∧ x.1 = p)
  | emp, i, p, x, _ => by simp [find, leaves]
  | lf y, i, p, x, _ => by
    unfold find
    by_cases h : y.1 = p
    · rw [if_pos h]
      simp [leaves]
      exact ⟨fun e => ⟨e.symm, by rw [← e]; exact h⟩, fun e => e.1.symm⟩
    · rw [if_neg h]
      simp [leaves]
      exact fun e => by rw [e]; exact h
  | nd l r, i, p, x, hc => by
    have hb := bitD_lt p i
    unfold find
    by_cases h0 : bitD p i = 0
    · rw [if_pos h0, find_spec hc.2.1]
      refine ⟨fun h => ⟨List.mem_append.2 (.inl h.1), h.2⟩, fun h => ⟨?_, h.2⟩⟩
      rcases List.mem_append.1 h.1 with hx | hx
      · exact hx
      · have := hc.2.2.2.2.1 x hx
        rw [h.2] at this
        omega
    · rw [if_neg h0, find_spec hc.2.2.1]
      refine ⟨fun h => ⟨List.mem_append.2 (.inr h.1), h.2⟩, fun h => ⟨?_, h.2⟩⟩
      rcases List.mem_append.1 h.1 with hx | hx
      · have := hc.2.2.2.1 x hx
        rw [h.2] at this
        omega
      · exact hx
theorem byte_lt {a b k : Nat} (ha : a < 256) (hb : b < 256) (hk : k < 8) (h : ∀ j, j < k → a / 2 ^ (7 - j) % 2 = b / 2 ^ (7 - j) % 2) (h0 : a / 2 ^ (7 - k) % 2 = 0) (h1 : b / 2 ^ (7 - k) % 2 = 1) : a < b := by
  rcases (show k = 0 ∨ k = 1 ∨ k = 2 ∨ k = 3 ∨ k = 4 ∨ k = 5 ∨ k = 6 ∨ k = 7 by omega) with hk' | hk' | hk' | hk' | hk' | hk' | hk' | hk'
  · subst hk'
    simp at h0 h1
    omega
  · subst hk'
    have q0 := h 0 (by decide)
    simp at q0 h0 h1
    omega
  · subst hk'
    have q0 := h 0 (by decide)
    have q1 := h 1 (by decide)
    simp at q0 q1 h0 h1
    omega
  · subst hk'
    have q0 := h 0 (by decide)
    have q1 := h 1 (by decide)
    have q2 := h 2 (by decide)
    simp at q0 q1 q2 h0 h1
    omega
  · subst hk'
    have q0 := h 0 (by decide)
    have q1 := h 1 (by decide)
    have q2 := h 2 (by decide)
    have q3 := h 3 (by decide)
    simp at q0 q1 q2 q3 h0 h1
    omega
  · subst hk'
    have q0 := h 0 (by decide)
    have q1 := h 1 (by decide)
    have q2 := h 2 (by decide)
    have q3 := h 3 (by decide)
    have q4 := h 4 (by decide)
    simp at q0 q1 q2 q3 q4 h0 h1
    omega
  · subst hk'
    have q0 := h 0 (by decide)
    have q1 := h 1 (by decide)
    have q2 := h 2 (by decide)
    have q3 := h 3 (by decide)
    have q4 := h 4 (by decide)
    have q5 := h 5 (by decide)
    simp at q0 q1 q2 q3 q4 q5 h0 h1
    omega
  · subst hk'
    have q0 := h 0 (by decide)
    have q1 := h 1 (by decide)
    have q2 := h 2 (by decide)
    have q3 := h 3 (by decide)
    have q4 := h 4 (by decide)
    have q5 := h 5 (by decide)
    have q6 := h 6 (by decide)
    simp at q0 q1 q2 q3 q4 q5 q6 h0 h1
    omega
/-- The one with the first bit that is nought where the other's is one comes first. -/
theorem bits_lt {p q : List UInt8} {i : Nat} (hp : p.length = 32) (hq : q.length = 32) (hi : i < 256) (hs : ∀ j, j < i → bitD p j = bitD q j) (h0 : bitD p i = 0) (h1 : bitD q i = 1) : p < q := by
  rw [List.lt_iff_exists]
  refine .inr ⟨i / 8, by omega, by omega, fun j hj => ?_, ?_⟩
  · have h8 : ∀ k, k < 8 → (p[j]'(by omega)).toNat / 2 ^ (7 - k) % 2 = (q[j]'(by omega)).toNat / 2 ^ (7 - k) % 2 := fun k hk => by
      have := hs (8 * j + k) (by omega)
      unfold bitD at this
      rw [show (8 * j + k) / 8 = j by omega, show (8 * j + k) % 8 = k by omega, List.getD_eq_getElem?_getD, List.getD_eq_getElem?_getD, List.getElem?_eq_getElem (by omega), List.getElem?_eq_getElem (by omega)] at this
      exact this
    exact UInt8.toNat_inj.1 (byte_bits (UInt8.toNat_lt _) (UInt8.toNat_lt _) h8)
  · have hb : ∀ k, k < 8 → bitD p (8 * (i / 8) + k) = (p[i / 8]'(by omega)).toNat / 2 ^ (7 - k) % 2 ∧ bitD q (8 * (i / 8) + k) = (q[i / 8]'(by omega)).toNat / 2 ^ (7 - k) % 2 := fun k hk => by
      unfold bitD
      rw [show (8 * (i / 8) + k) / 8 = i / 8 by omega, show (8 * (i / 8) + k) % 8 = k by omega, List.getD_eq_getElem?_getD, List.getD_eq_getElem?_getD, List.getElem?_eq_getElem (by omega), List.getElem?_eq_getElem (by omega)]
      exact ⟨rfl, rfl⟩
    have hii : 8 * (i / 8) + i % 8 = i := by omega
    have a0 := (hb (i % 8) (by omega)).1
    have a1 := (hb (i % 8) (by omega)).2
    rw [hii] at a0 a1
    exact UInt8.lt_iff_toNat_lt.2 (byte_lt (UInt8.toNat_lt _) (UInt8.toNat_lt _) (show i % 8 < 8 by omega) (fun j hj => by
      rw [← (hb j (by omega)).1, ← (hb j (by omega)).2]
      exact hs _ (by omega)) (a0.symm.trans h0) (a1.symm.trans h1))
/-- Leaves stand by their paths. -/
theorem sorted : ∀ {t : Tr} {i : Nat}, Canon i t → (∀ x ∈ t.leaves, ∀ y ∈ t.leaves, ∀ j, j < i → bitD x.1 j = bitD y.1 j) → t.leaves.Pairwise fun x y => x.1 < y.1
  | emp, _, _, _ => List.Pairwise.nil
  | lf _, _, _, _ => List.pairwise_singleton _ _
  | nd l r, i, hc, hs => by
    have mem1 : ∀ x ∈ l.leaves, x ∈ (nd l r).leaves := fun x hx => List.mem_append.2 (.inl hx)
    have mem2 : ∀ x ∈ r.leaves, x ∈ (nd l r).leaves := fun x hx => List.mem_append.2 (.inr hx)
    refine List.pairwise_append.2 ⟨sorted hc.2.1 (fun x hx y hy j hj => ?_), sorted hc.2.2.1 (fun x hx y hy j hj => ?_), fun x hx y hy => ?_⟩
    · by_cases h : j < i
      · exact hs x (mem1 x hx) y (mem1 y hy) j h
      · obtain rfl : j = i := by omega
        rw [hc.2.2.2.1 x hx, hc.2.2.2.1 y hy]
    · by_cases h : j < i
      · exact hs x (mem2 x hx) y (mem2 y hy) j h
      · obtain rfl : j = i := by omega
        rw [hc.2.2.2.2.1 x hx, hc.2.2.2.2.1 y hy]
    · exact bits_lt (hc.2.1.len x hx) (hc.2.2.1.len y hy) hc.1 (fun j hj => hs x (mem1 x hx) y (mem2 y hy) j hj) (hc.2.2.2.1 x hx) (hc.2.2.2.2.1 y hy)
end Tr
end Go.Proofs.YtmeolaeoaoldoaaDoor
