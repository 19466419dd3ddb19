/- A sparse tree of leaves, plainly: bits of paths, halves, roots, proofs. Over any digest of parts for a purpose. -/
import Derived.WalkKit
namespace Go.Proofs.YtmeolaeoaoldoaaDoor
abbrev LF := List UInt8 × List UInt8
/-- A path's bit, the highest first. -/
def bitD (p : List UInt8) (i : Nat) : Nat := (p.getD (i / 8) 0).toNat / 2 ^ (7 - i % 8) % 2
theorem bitD_lt (p : List UInt8) (i : Nat) : bitD p i < 2 := Nat.mod_lt _ (by decide)
theorem byte_bits {a b : Nat} (ha : a < 256) (hb : b < 256) (h : ∀ k, k < 8 → a / 2 ^ (7 - k) % 2 = b / 2 ^ (7 - k) % 2) : a = b := by
  have h0 := h 0 (by decide)
  have h1 := h 1 (by decide)
  have h2 := h 2 (by decide)
  have h3 := h 3 (by decide)
  have h4 := h 4 (by decide)
  have h5 := h 5 (by decide)
  have h6 := h 6 (by decide)
  have h7 := h 7 (by decide)
  simp at h0 h1 h2 h3 h4 h5 h6 h7
  omega
/-- Paths of one length whose bits are the same are the same. -/
theorem bits_ext {p q : List UInt8} (hp : p.length = 32) (hq : q.length = 32) (h : ∀ i, i < 256 → bitD p i = bitD q i) : p = q := by
  apply List.ext_getElem (by omega)
  intro j h1 h2
  have hb : ∀ k, k < 8 → (p[j]).toNat / 2 ^ (7 - k) % 2 = (q[j]).toNat / 2 ^ (7 - k) % 2 := fun k hk => by
    have := h (8 * j + k) (by omega)
    unfold bitD at this
    rw [show (8 * j + k) / 8 = j by omega, show (8 * j + k) % 8 = k by omega, List.getD_eq_getElem?_getD, List.getD_eq_getElem?_getD, List.getElem?_eq_getElem h1, List.getElem?_eq_getElem h2] at this
    exact this
  exact UInt8.toNat_inj.1 (byte_bits (UInt8.toNat_lt _) (UInt8.toNat_lt _) hb)
/-- The leaves of a half. -/
def halfD (l : List LF) (i b : Nat) : List LF := l.filter fun x => decide (bitD x.1 i = b)
/-- Leaves that stand together from bit i on: paths of 32 bytes, no two alike, the same up to i. -/
structure Stand (l : List LF) (i : Nat) : Prop where
  len : ∀ x ∈ l, x.1.length = 32
  apart : l.Pairwise fun x y => x.1 ≠ y.1
  same : ∀ x ∈ l, ∀ y ∈ l, ∀ j, j < i → bitD x.1 j = bitD y.1 j
theorem Stand.lt {l : List LF} {i : Nat} (h : Stand l i) (hl : 2 ≤ l.length) : i < 256 := by
  match l, hl with
  | x :: y :: r, _ =>
    apply Classical.byContradiction
    intro hi
    have hne := (List.pairwise_cons.1 h.apart).1 y (by simp)
    exact hne (bits_ext (h.len x (by simp)) (h.len y (by simp)) (fun j hj => h.same x (by simp) y (by simp) j (by omega)))
theorem Stand.half {l : List LF} {i : Nat} (h : Stand l i) (b : Nat) : Stand (halfD l i b) (i + 1) := by
  refine ⟨fun x hx => h.len x (List.mem_filter.1 hx).1, h.apart.filter _, fun x hx y hy j hj => ?_⟩
  have hx2 := List.mem_filter.1 hx
  have hy2 := List.mem_filter.1 hy
  by_cases hji : j < i
  · exact h.same x hx2.1 y hy2.1 j hji
  · obtain rfl : j = i := by omega
    rw [of_decide_eq_true hx2.2, of_decide_eq_true hy2.2]
theorem Stand.nil (i : Nat) : Stand [] i := ⟨(fun _ hx => nomatch hx), List.Pairwise.nil, (fun _ hx => nomatch hx)⟩
theorem Stand.perm {l m : List LF} {i : Nat} (h : Stand l i) (hp : l.Perm m) : Stand m i :=
  ⟨fun x hx => h.len x (hp.mem_iff.2 hx), (hp.pairwise_iff (fun h e => h e.symm)).1 h.apart, fun x hx y hy => h.same x (hp.mem_iff.2 hx) y (hp.mem_iff.2 hy)⟩
section
variable (Tg : UInt8 → List (List UInt8) → List UInt8)
def ofD (k v : List UInt8) : LF := (Tg 80 [k], Tg 86 [v])
def hashL (x : LF) : List UInt8 := Tg 76 [x.1, x.2]
def emptyD : List UInt8 := List.replicate 32 0
def joinD (a b : List UInt8) : List UInt8 := Tg 74 [a, b]
/-- The digest of leaves from a bit on; f: how many bits there are left. -/
def rootS : Nat → List LF → Nat → List UInt8
  | _, [], _ => emptyD
  | _, [x], _ => hashL Tg x
  | 0, _ :: _ :: _, _ => []
  | f + 1, x :: y :: r, i => joinD Tg (rootS f (halfD (x :: y :: r) i 0) (i + 1)) (rootS f (halfD (x :: y :: r) i 1) (i + 1))
theorem rootS_nil (f i : Nat) : rootS Tg f [] i = emptyD := by cases f <;> rfl
theorem rootS_one (f i : Nat) (x : LF) : rootS Tg f [x] i = hashL Tg x := by cases f <;> rfl
theorem rootS_cut {f i : Nat} {l : List LF} (h : 2 ≤ l.length) : rootS Tg (f + 1) l i = joinD Tg (rootS Tg f (halfD l i 0) (i + 1)) (rootS Tg f (halfD l i 1) (i + 1)) := by
  match l, h with
  | x :: y :: r, _ => rfl
/-- The order of leaves makes no difference. -/
theorem rootS_perm : ∀ (f : Nat) {l m : List LF} (i : Nat), l.Perm m → rootS Tg f l i = rootS Tg f m i
  | 0, l, m, i, h => by
    have hl := h.length_eq
    match l, m, h, hl with
    | [], [], _, _ => rfl
    | [x], [y], h, _ => rw [List.perm_singleton.1 h.symm]
    | _ :: _ :: _, _ :: _ :: _, _, _ => rfl
  | f + 1, l, m, i, h => by
    have hl := h.length_eq
    by_cases h2 : 2 ≤ l.length
    · rw [rootS_cut Tg h2, rootS_cut Tg (by omega), rootS_perm f (i + 1) (show (halfD l i 0).Perm (halfD m i 0) from h.filter _), rootS_perm f (i + 1) (show (halfD l i 1).Perm (halfD m i 1) from h.filter _)]
    · match l, m, h, hl with
      | [], [], _, _ => rfl
      | [x], [y], h, _ => rw [List.perm_singleton.1 h.symm]
      | _ :: _ :: _, _, _, _ => simp at h2
/-- The digests beside a path's way down, and what stands at its end. -/
def proofS : Nat → List LF → List UInt8 → Nat → List (List UInt8) × List LF
  | _, [], _, _ => ([], [])
  | _, [x], _, _ => ([], [x])
  | 0, l, _, _ => ([], l)
  | f + 1, x :: y :: r, p, i => let q := proofS f (halfD (x :: y :: r) i (bitD p i)) p (i + 1)
    (rootS Tg f (halfD (x :: y :: r) i (1 - bitD p i)) (i + 1) :: q.1, q.2)
theorem proofS_short (f : Nat) {l : List LF} (h : l.length ≤ 1) (p : List UInt8) (i : Nat) : proofS Tg f l p i = ([], l) := by
  match l, h with
  | [], _ => cases f <;> rfl
  | [x], _ => cases f <;> rfl
theorem proofS_cut {f i : Nat} {l : List LF} (h : 2 ≤ l.length) (p : List UInt8) : proofS Tg (f + 1) l p i = (rootS Tg f (halfD l i (1 - bitD p i)) (i + 1) :: (proofS Tg f (halfD l i (bitD p i)) p (i + 1)).1, (proofS Tg f (halfD l i (bitD p i)) p (i + 1)).2) := by
  match l, h with
  | x :: y :: r, _ => rfl
/-- The digest of what stands at the end of a way. -/
def endD : List LF → List UInt8
  | [] => emptyD
  | x :: _ => hashL Tg x
/-- Where digests beside a way lead to, from the digest at its end. -/
def upS (p : List UInt8) : Nat → List (List UInt8) → List UInt8 → List UInt8
  | _, [], h => h
  | i, b :: bs, h => if bitD p i = 0 then joinD Tg (upS p (i + 1) bs h) b else joinD Tg b (upS p (i + 1) bs h)
/-- What is proved leads to the root. -/
theorem proof_up : ∀ (f : Nat) {l : List LF} (p : List UInt8) (i : Nat), Stand l i → i + f = 256 → upS Tg p i (proofS Tg f l p i).1 (endD Tg (proofS Tg f l p i).2) = rootS Tg f l i
  | 0, l, p, i, hs, hf => by
    have : l.length ≤ 1 := by
      apply Classical.byContradiction
      intro h
      have := hs.lt (by omega)
      omega
    rw [proofS_short Tg 0 this]
    match l, this with
    | [], _ => rfl
    | [x], _ => rfl
  | f + 1, l, p, i, hs, hf => by
    by_cases h2 : 2 ≤ l.length
    · have ih := proof_up f p (i + 1) (hs.half (bitD p i)) (by omega)
      rw [proofS_cut Tg h2, rootS_cut Tg h2]
      have hb := bitD_lt p i
      show (if bitD p i = 0 then joinD Tg (upS Tg p (i + 1) _ _) _ else joinD Tg _ (upS Tg p (i + 1) _ _)) = _
      rw [ih]
      by_cases h0 : bitD p i = 0
      · rw [if_pos h0, h0]
      · have h1 : bitD p i = 1 := by omega
        rw [if_neg h0, h1]
    · rw [proofS_short Tg (f + 1) (by omega)]
      match l, h2 with
      | [], _ => rfl
      | [x], _ => rfl
      | _ :: _ :: _, h2 => simp at h2
/-- At the end of a way stands at most one leaf, one of the list that goes with the path as far as there are digests beside. -/
theorem proof_end : ∀ (f : Nat) {l : List LF} (p : List UInt8) (i : Nat), Stand l i → i + f = 256 → (proofS Tg f l p i).2.length ≤ 1 ∧ (proofS Tg f l p i).1.length ≤ f ∧ ∀ x ∈ (proofS Tg f l p i).2, x ∈ l ∧ ∀ j, i ≤ j → j < i + (proofS Tg f l p i).1.length → bitD x.1 j = bitD p j
  | 0, l, p, i, hs, hf => by
    have : l.length ≤ 1 := by
      apply Classical.byContradiction
      intro h
      have := hs.lt (by omega)
      omega
    rw [proofS_short Tg 0 this]
    exact ⟨this, Nat.le_refl _, fun x hx => ⟨hx, fun j h1 h2 => by simp at h2; omega⟩⟩
  | f + 1, l, p, i, hs, hf => by
    by_cases h2 : 2 ≤ l.length
    · obtain ⟨h3, h4, h5⟩ := proof_end f p (i + 1) (hs.half (bitD p i)) (by omega)
      rw [proofS_cut Tg h2]
      refine ⟨h3, by simp; omega, fun x hx => ?_⟩
      obtain ⟨h6, h7⟩ := h5 x hx
      have h8 := List.mem_filter.1 h6
      refine ⟨h8.1, fun j h9 h10 => ?_⟩
      by_cases hj : j = i
      · subst hj
        exact of_decide_eq_true h8.2
      · exact h7 j (by omega) (by simp at h10; omega)
    · rw [proofS_short Tg (f + 1) (by omega)]
      exact ⟨by show l.length ≤ 1; omega, by simp, fun x hx => ⟨hx, fun j h1 h2 => by simp at h2; omega⟩⟩
/-- A leaf of the list with that very path stands at the end of its way. -/
theorem proof_has : ∀ (f : Nat) {l : List LF} (p : List UInt8) (i : Nat), Stand l i → i + f = 256 → ∀ x ∈ l, x.1 = p → (proofS Tg f l p i).2 = [x]
  | 0, l, p, i, hs, hf, x, hx, hp => by
    have : l.length ≤ 1 := by
      apply Classical.byContradiction
      intro h
      have := hs.lt (by omega)
      omega
    rw [proofS_short Tg 0 this]
    match l, this, hx with
    | [y], _, hx => rw [List.mem_singleton.1 hx]
  | f + 1, l, p, i, hs, hf, x, hx, hp => by
    by_cases h2 : 2 ≤ l.length
    · rw [proofS_cut Tg h2]
      exact proof_has f p (i + 1) (hs.half (bitD p i)) (by omega) x (List.mem_filter.2 ⟨hx, decide_eq_true (by rw [hp])⟩) hp
    · rw [proofS_short Tg (f + 1) (by omega)]
      match l, h2, hx with
      | [y], _, hx => rw [List.mem_singleton.1 hx]
      | _ :: _ :: _, h2, _ => simp at h2
end
end Go.Proofs.YtmeolaeoaoldoaaDoor
