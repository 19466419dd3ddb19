/- What is done to a tree of halves by laying an end at a path, plainly. -/
import Derived.Test.YtmeolaeoaoldoaaDoorStr
namespace Go.Proofs.YtmeolaeoaoldoaaDoor
namespace Tr
def cnt (t : Tr) : Nat := t.leaves.length
theorem cnt_nd (l r : Tr) : (nd l r).cnt = l.cnt + r.cnt := List.length_append
def isEmp : Tr → Bool
  | emp => true
  | _ => false
/-- Two halves as one: a leaf alone rises. -/
def joinG (l r : Tr) : Tr := if 1 < l.cnt + r.cnt then nd l r else if l.isEmp then r else l
theorem joinG_two {l r : Tr} (h : 2 ≤ l.cnt + r.cnt) : joinG l r = nd l r := if_pos h
theorem joinG_l {l r : Tr} (h : ¬ 1 < l.cnt + r.cnt) (hl : l ≠ emp) : joinG l r = l := by
  unfold joinG
  rw [if_neg h]
  cases l
  · exact absurd rfl hl
  · rfl
  · rfl
theorem one_l (x : LF) : ¬ 1 < (lf x).cnt + emp.cnt := fun h => absurd h (Nat.lt_irrefl 1)
theorem one_r (x : LF) : ¬ 1 < emp.cnt + (lf x).cnt := fun h => absurd h (Nat.lt_irrefl 1)
theorem two_lf (x y : LF) : 2 ≤ (lf x).cnt + (lf y).cnt := Nat.le_refl 2
theorem joinG_r {r : Tr} (h : ¬ 1 < emp.cnt + r.cnt) : joinG emp r = r := by unfold joinG; rw [if_neg h]; rfl
/-- The two halves of a half, from a bit on. -/
def openT : Nat → Tr → Tr × Tr
  | _, nd l r => (l, r)
  | i, lf y => if bitD y.1 i = 0 then (lf y, emp) else (emp, lf y)
  | _, emp => (emp, emp)
/-- A way ends here: nothing stands, or the path's own leaf. -/
def ends (p : List UInt8) : Tr → Prop
  | emp => True
  | lf y => y.1 = p
  | nd _ _ => False
instance (p : List UInt8) : (t : Tr) → Decidable (ends p t)
  | emp => isTrue trivial
  | lf y => inferInstanceAs (Decidable (y.1 = p))
  | nd _ _ => isFalse id
abbrev Ctx := Tr × Tr × Nat
/-- A half put back into its place. -/
def upC (c : Ctx) (e : Tr) : Tr := if c.2.2 = 0 then joinG e c.2.1 else joinG c.1 e
/-- The side of two halves. -/
def sideT (q : Tr × Tr) (b : Nat) : Tr := if b = 0 then q.1 else q.2
/-- A half with another end at a path. -/
def withT (p : List UInt8) (e : Tr) : Nat → Nat → Tr → Tr
  | 0, _, _ => e
  | f + 1, i, t => if ends p t then e else upC ((openT i t).1, (openT i t).2, bitD p i) (withT p e f (i + 1) (sideT (openT i t) (bitD p i)))
theorem with_ends {p : List UInt8} {e t : Tr} {f i : Nat} (h : ends p t) : withT p e f i t = e := by
  cases f
  · rfl
  · exact if_pos h
theorem with_step {p : List UInt8} {e t : Tr} {f i : Nat} (h : ¬ ends p t) : withT p e (f + 1) i t = upC ((openT i t).1, (openT i t).2, bitD p i) (withT p e f (i + 1) (sideT (openT i t) (bitD p i))) := if_neg h
theorem two_cnt (f i : Nat) (x y : LF) : (two f i x y).cnt = 2 := (two_leaves f i x y).length_eq
theorem with_emp {p : List UInt8} {e : Tr} {f i : Nat} : withT p e f i emp = e := with_ends trivial
theorem put_with : ∀ (f : Nat) (t : Tr) (i : Nat) (x : LF), i + f = 256 → Canon i t → x.1.length = 32 → (∀ y ∈ t.leaves, ∀ j, j < i → bitD y.1 j = bitD x.1 j) → withT x.1 (lf x) f i t = put f i t x
  | f, emp, i, x, _, _, _, _ => by rw [with_emp]; cases f <;> rfl
  | 0, lf y, i, x, hf, hc, hx, hs => by
    have e : y.1 = x.1 := bits_ext hc hx (fun j hj => hs y (List.mem_singleton.2 rfl) j (by omega))
    rw [with_ends (show ends x.1 (lf y) from e)]
    show _ = if y.1 = x.1 then lf x else _
    rw [if_pos e]
  | f + 1, lf y, i, x, hf, hc, hx, hs => by
    show _ = if y.1 = x.1 then lf x else two (f + 1) i y x
    by_cases e : y.1 = x.1
    · rw [with_ends (show ends x.1 (lf y) from e), if_pos e]
    · rw [with_step (show ¬ ends x.1 (lf y) from e), if_neg e]
      have ih : (∀ j, j < i + 1 → bitD y.1 j = bitD x.1 j) → withT x.1 (lf x) f (i + 1) (lf y) = two f (i + 1) y x := fun h => by
        rw [put_with f (lf y) (i + 1) x (by omega) hc hx (fun z hz j hj => by rw [List.mem_singleton.1 hz]; exact h j hj)]
        have e2 : put f (i + 1) (lf y) x = if y.1 = x.1 then lf x else two f (i + 1) y x := by cases f <;> rfl
        rw [e2, if_neg e]
      have hs' : ∀ j, j < i → bitD y.1 j = bitD x.1 j := hs y (List.mem_singleton.2 rfl)
      have hb := bitD_lt y.1 i
      have hb' := bitD_lt x.1 i
      by_cases y0 : bitD y.1 i = 0
      · by_cases x0 : bitD x.1 i = 0
        · have h1 := ih (fun j hj => by
            by_cases h : j = i
            · rw [h, y0, x0]
            · exact hs' j (by omega))
          have ho : openT i (lf y) = (lf y, emp) := if_pos y0
          rw [ho, x0]
          show joinG (withT x.1 (lf x) f (i + 1) (lf y)) emp = _
          rw [h1, joinG_two (by rw [two_cnt]; exact Nat.le_add_right _ _)]
          show _ = if bitD y.1 i = 0 then (if bitD x.1 i = 0 then _ else _) else _
          rw [if_pos y0, if_pos x0]
        · have x1 : bitD x.1 i = 1 := by omega
          have ho : openT i (lf y) = (lf y, emp) := if_pos y0
          rw [ho, x1]
          show joinG (lf y) (withT x.1 (lf x) f (i + 1) emp) = _
          rw [with_emp, joinG_two (two_lf _ _)]
          show _ = if bitD y.1 i = 0 then (if bitD x.1 i = 0 then _ else _) else _
          rw [if_pos y0, if_neg x0]
      · have y1 : bitD y.1 i = 1 := by omega
        have ho : openT i (lf y) = (emp, lf y) := if_neg y0
        by_cases x0 : bitD x.1 i = 0
        · rw [ho, x0]
          show joinG (withT x.1 (lf x) f (i + 1) emp) (lf y) = _
          rw [with_emp, joinG_two (two_lf _ _)]
          show _ = if bitD y.1 i = 0 then _ else (if bitD x.1 i = 0 then _ else _)
          rw [if_neg y0, if_pos x0]
        · have x1 : bitD x.1 i = 1 := by omega
          have h1 := ih (fun j hj => by
            by_cases h : j = i
            · rw [h, y1, x1]
            · exact hs' j (by omega))
          rw [ho, x1]
          show joinG emp (withT x.1 (lf x) f (i + 1) (lf y)) = _
          rw [h1, joinG_two (by rw [two_cnt]; exact Nat.le_add_left _ _)]
          show _ = if bitD y.1 i = 0 then _ else (if bitD x.1 i = 0 then _ else _)
          rw [if_neg y0, if_neg x0]
  | 0, nd l r, i, x, hf, hc, _, _ => absurd hc.1 (by omega)
  | f + 1, nd l r, i, x, hf, hc, hx, hs => by
    have hcut : ∀ {u : Tr} {b : Nat}, Canon (i + 1) u → b = bitD x.1 i → (∀ y ∈ u.leaves, bitD y.1 i = b) → (∀ y ∈ u.leaves, y ∈ (nd l r).leaves) → withT x.1 (lf x) f (i + 1) u = put f (i + 1) u x ∧ 1 ≤ (put f (i + 1) u x).cnt ∧ u.cnt ≤ (put f (i + 1) u x).cnt := fun {u b} hcu hb hu hm => by
      have hs2 : ∀ y ∈ u.leaves, ∀ j, j < i + 1 → bitD y.1 j = bitD x.1 j := fun y hy j hj => by
        by_cases h : j = i
        · rw [h, hu y hy, hb]
        · exact hs y (hm y hy) j (by omega)
      obtain ⟨_, hp⟩ := put_spec u f (i + 1) x (by omega) hcu hx hs2
      have hlen := hp.length_eq
      have hle := less_len hcu x.1
      rw [List.length_cons] at hlen
      unfold cnt
      exact ⟨put_with f u (i + 1) x (by omega) hcu hx hs2, by omega, by omega⟩
    rw [with_step (show ¬ ends x.1 (nd l r) from id)]
    have hb := bitD_lt x.1 i
    have h2 : 2 ≤ l.cnt + r.cnt := hc.2.2.2.2.2
    show upC (l, r, bitD x.1 i) _ = if bitD x.1 i = 0 then _ else _
    by_cases x0 : bitD x.1 i = 0
    · obtain ⟨h3, h4, h5⟩ := hcut hc.2.1 x0.symm hc.2.2.2.1 (fun y hy => List.mem_append.2 (.inl hy))
      rw [if_pos x0, x0]
      show joinG (withT x.1 (lf x) f (i + 1) l) r = _
      rw [h3, joinG_two (by omega)]
    · have x1 : bitD x.1 i = 1 := by omega
      obtain ⟨h3, h4, h5⟩ := hcut hc.2.2.1 x1.symm hc.2.2.2.2.1 (fun y hy => List.mem_append.2 (.inr hy))
      rw [if_neg x0, x1]
      show joinG l (withT x.1 (lf x) f (i + 1) r) = _
      rw [h3, joinG_two (by omega)]
theorem Canon.two {t : Tr} {i : Nat} (h : Canon i t) : t ≠ emp → (∀ x, t ≠ lf x) → 2 ≤ t.cnt := fun h1 h2 => by
  cases t with
  | emp => exact absurd rfl h1
  | lf x => exact absurd rfl (h2 x)
  | nd l r => exact h.two_le
theorem joinG_join {l r : Tr} {i : Nat} (hl : Canon i l) (hr : Canon i r) : joinG l r = join l r := by
  cases l with
  | emp =>
    cases r with
    | emp => rfl
    | lf x => rfl
    | nd a b => exact joinG_two (by have : 2 ≤ (nd a b).cnt := hr.two_le; omega)
  | lf x =>
    cases r with
    | emp => exact joinG_l (one_l _) (fun e => Tr.noConfusion e)
    | lf y => exact joinG_two (two_lf _ _)
    | nd a b => exact joinG_two (by have : 2 ≤ (nd a b).cnt := hr.two_le; omega)
  | nd a b =>
    have : 2 ≤ (nd a b).cnt := hl.two_le
    cases r <;> exact joinG_two (by omega)
theorem del_with : ∀ (f : Nat) (t : Tr) (i : Nat) (p : List UInt8), i + f = 256 → Canon i t → p.length = 32 → (∀ y ∈ t.leaves, ∀ j, j < i → bitD y.1 j = bitD p j) → withT p emp f i t = del f i t p
  | f, emp, i, p, _, _, _, _ => by rw [with_emp]; cases f <;> rfl
  | 0, lf y, i, p, hf, hc, hx, hs => by
    have e : y.1 = p := bits_ext hc hx (fun j hj => hs y (List.mem_singleton.2 rfl) j (by omega))
    rw [with_ends (show ends p (lf y) from e)]
    show _ = if y.1 = p then emp else _
    rw [if_pos e]
  | f + 1, lf y, i, p, hf, hc, hx, hs => by
    show _ = if y.1 = p then emp else lf y
    by_cases e : y.1 = p
    · rw [with_ends (show ends p (lf y) from e), if_pos e]
    · rw [with_step (show ¬ ends p (lf y) from e), if_neg e]
      have hs' : ∀ j, j < i → bitD y.1 j = bitD p j := hs y (List.mem_singleton.2 rfl)
      have ih : (∀ j, j < i + 1 → bitD y.1 j = bitD p j) → withT p emp f (i + 1) (lf y) = lf y := fun h => by
        rw [del_with f (lf y) (i + 1) p (by omega) hc hx (fun z hz j hj => by rw [List.mem_singleton.1 hz]; exact h j hj)]
        have e2 : del f (i + 1) (lf y) p = if y.1 = p then emp else lf y := by cases f <;> rfl
        rw [e2, if_neg e]
      have hb := bitD_lt y.1 i
      have hb' := bitD_lt p i
      by_cases y0 : bitD y.1 i = 0
      · have ho : openT i (lf y) = (lf y, emp) := if_pos y0
        by_cases x0 : bitD p i = 0
        · have h1 := ih (fun j hj => by
            by_cases h : j = i
            · rw [h, y0, x0]
            · exact hs' j (by omega))
          rw [ho, x0]
          show joinG (withT p emp f (i + 1) (lf y)) emp = _
          rw [h1, joinG_l (one_l _) (fun e => Tr.noConfusion e)]
        · have x1 : bitD p i = 1 := by omega
          rw [ho, x1]
          show joinG (lf y) (withT p emp f (i + 1) emp) = _
          rw [with_emp, joinG_l (one_l _) (fun e => Tr.noConfusion e)]
      · have y1 : bitD y.1 i = 1 := by omega
        have ho : openT i (lf y) = (emp, lf y) := if_neg y0
        by_cases x0 : bitD p i = 0
        · rw [ho, x0]
          show joinG (withT p emp f (i + 1) emp) (lf y) = _
          rw [with_emp, joinG_r (one_r _)]
        · have x1 : bitD p i = 1 := by omega
          have h1 := ih (fun j hj => by
            by_cases h : j = i
            · rw [h, y1, x1]
            · exact hs' j (by omega))
          rw [ho, x1]
          show joinG emp (withT p emp f (i + 1) (lf y)) = _
          rw [h1, joinG_r (one_r _)]
  | 0, nd l r, i, p, hf, hc, _, _ => absurd hc.1 (by omega)
  | f + 1, nd l r, i, p, hf, hc, hx, hs => by
    have hcut : ∀ {u : Tr} {b : Nat}, Canon (i + 1) u → b = bitD p i → (∀ y ∈ u.leaves, bitD y.1 i = b) → (∀ y ∈ u.leaves, y ∈ (nd l r).leaves) → withT p emp f (i + 1) u = del f (i + 1) u p ∧ Canon (i + 1) (del f (i + 1) u p) := fun {u b} hcu hb hu hm => by
      have hs2 : ∀ y ∈ u.leaves, ∀ j, j < i + 1 → bitD y.1 j = bitD p j := fun y hy j hj => by
        by_cases h : j = i
        · rw [h, hu y hy, hb]
        · exact hs y (hm y hy) j (by omega)
      exact ⟨del_with f u (i + 1) p (by omega) hcu hx hs2, (del_spec u f (i + 1) p (by omega) hcu).1⟩
    rw [with_step (show ¬ ends p (nd l r) from id)]
    have hb := bitD_lt p i
    show upC (l, r, bitD p i) _ = if bitD p i = 0 then _ else _
    by_cases x0 : bitD p i = 0
    · obtain ⟨h3, h4⟩ := hcut hc.2.1 x0.symm hc.2.2.2.1 (fun y hy => List.mem_append.2 (.inl hy))
      rw [if_pos x0, x0]
      show joinG (withT p emp f (i + 1) l) r = _
      rw [h3, joinG_join h4 hc.2.2.1]
    · have x1 : bitD p i = 1 := by omega
      obtain ⟨h3, h4⟩ := hcut hc.2.2.1 x1.symm hc.2.2.2.2.1 (fun y hy => List.mem_append.2 (.inr hy))
      rw [if_neg x0, x1]
      show joinG l (withT p emp f (i + 1) r) = _
      rw [h3, joinG_join hc.2.1 h4]
end Tr
end Go.Proofs.YtmeolaeoaoldoaaDoor
