/- What few, the plain Of, Hash, Empty, Bit and half do. Trees of halves, plainly: what a half with one leaf alone, lifted, comes to. What is done to a tree of halves by laying an end at a path, plainly. In a round of a loop over a function: what an operation, a list of operations, a region that draws its order does elsewhere it does there. -/
import Derived.Test.YtmbdhngoldganaaGreatDoorKvl
import Derived.Test.YtmbdhngoldganaaGreatDoorSTgd
import Derived.Test.YtmbdhngoldganaaGreatDoorSRs
import Derived.Deep.RegionHeld3
import Derived.Test.YtmbdhngoldganaaGreatDoorSSpec
import Derived.RangeFuncNested
import Derived.RangeFuncBound
import Derived.RangeFuncCalls
import Derived.RangeFuncLeaves
import Derived.Shelf.Abstract
import Derived.Shelf.RegionOpen
import Derived.OwnWalkIn
import Derived.TacticsInMore
import Derived.LoopNIn
import Derived.LoopIn
import Derived.OrdersIn
namespace Go.Proofs.YtmbdhngoldganaaGreatDoor.Sh
open Go Go.RowKit
/-- The digest of parts for a purpose. -/
def TgD (p : UInt8) (ss : List (List UInt8)) : List UInt8 := digest (tagTo p ss ss.length)
theorem TgD_len (p : UInt8) (ss : List (List UInt8)) : (TgD p ss).length = 32 := digest_length _
theorem tag1 (p : UInt8) (x : List UInt8) : (tagTo p [x] 1).length = 5 + x.length := by simp [tagTo, be_length]; omega
theorem tag2 (p : UInt8) (x y : List UInt8) : (tagTo p [x, y] 2).length = 9 + x.length + y.length := by simp [tagTo, be_length]; omega
theorem ext60 (s : List UInt8) : (ByteArray.mk s.toArray).extract 0 60 = ByteArray.mk (s.take 60).toArray := by
  apply ByteArray.ext
  simp
theorem tsl2 (x y : List UInt8) (w : World) : (Instr.buildSlice 28 2 #[(0, sv x), (1, sv y)]).run Tryz.prog w = .ok (.slice (some ⟨w.heap.size, 0, none⟩) 2 2) (w.alloc (.cells #[sv x, sv y] 9)) := by
  simp [Instr.buildSlice, run_underlying Tryz.underlying28, sizeOf_run i9, Sem.run_bind, Instr.fill, newRow, Tryz.zeroValue9, Value.cells, range2K, sv]
theorem XA.blk1 {w : World} {g : Nat} {x : List UInt8} (h : Blk w g #[sv x] 9) : XA w (some ⟨g, 0, none⟩) [x] := fun i hi => ⟨g, 0, rfl, by
  obtain rfl : i = 0 := by simp at hi; omega
  exact h.cell 0⟩
theorem XA.blk2 {w : World} {g : Nat} {x y : List UInt8} (h : Blk w g #[sv x, sv y] 9) : XA w (some ⟨g, 0, none⟩) [x, y] := fun i hi => ⟨g, 0, rfl, by
  match i, hi with
  | 0, _ => exact h.cell 0
  | 1, _ => exact h.cell 1⟩
section
variable {ops : Array Oper} {rest : List Oper} {op : Oper} {a : Act} {w : World} {Q : Exit → Act → World → Prop}
theorem wpList_tsl2 (hgd : op.guard = none) (x y : Operand) (ho : op.op = .buildSlice 28 2 #[(0, x), (1, y)]) (u v : List UInt8) (hx : a.eval x = .string ⟨u.toArray⟩) (hy : a.eval y = .string ⟨v.toArray⟩)
    (h : ∀ w1 : World, Below w.heap.size w w1 → w1.heap.size = w.heap.size + 1 → Blk w1 w.heap.size #[sv u, sv v] 9 → wpList Tryz.prog ops Q rest (a.put op.dst (.slice (some ⟨w.heap.size, 0, none⟩) 2 2)) w1) : wpList Tryz.prog ops Q (op :: rest) a w :=
  wpList_buildTx hgd 28 2 #[(0, x), (1, y)] ho #[sv u, sv v] (fun w => by
    have e : (#[(0, x), (1, y)] : Array (Nat × Operand)).map (fun (i, x) => (i, a.eval x)) = #[(0, sv u), (1, sv v)] := by simp [hx, hy, sv]
    rw [e]; exact tsl2 u v w) h
end
theorem blk2c {w : World} {b : Nat} {x y : Value} {t : TypeId} (h : Blk w b #[x, y] t) : w.cell? ⟨b, 0, none⟩ = some x ∧ w.cell? ⟨b, 1, none⟩ = some y := ⟨h.cell 0, h.cell 1⟩
theorem idxB (l : List UInt8) (k : Nat) (h : k < (ByteArray.mk l.toArray).size) : (((ByteArray.mk l.toArray)[k]'h).toNat : Int) = n8 (l.getD k 0) := by
  have hk : k < l.length := by rw [mk_size] at h; exact h
  have e : (ByteArray.mk l.toArray)[k]'h = l.getD k 0 := by
    show l.toArray[k] = _
    rw [List.getD_eq_getElem?_getD, List.getElem?_eq_getElem hk]
    simp
  rw [e]; rfl
end Go.Proofs.YtmbdhngoldganaaGreatDoor.Sh
namespace Go.Proofs.YtmbdhngoldganaaGreatDoor
/-- A half: without leaves, a leaf alone, or two halves. -/
inductive Tr where
  | emp : Tr
  | lf : LF → Tr
  | nd : Tr → Tr → Tr
namespace Tr
def leaves : Tr → List LF
  | emp => []
  | lf x => [x]
  | nd l r => l.leaves ++ r.leaves
/-- A half from bit i on that is as it must be. -/
def Canon : Nat → Tr → Prop
  | _, emp => True
  | _, lf x => x.1.length = 32
  | i, nd l r => i < 256 ∧ Canon (i + 1) l ∧ Canon (i + 1) r ∧ (∀ x ∈ l.leaves, bitD x.1 i = 0) ∧ (∀ x ∈ r.leaves, bitD x.1 i = 1) ∧ 2 ≤ l.leaves.length + r.leaves.length
theorem Canon.len : ∀ {t : Tr} {i : Nat}, Canon i t → ∀ x ∈ t.leaves, x.1.length = 32
  | emp, _, _, x, hx => nomatch hx
  | lf y, _, h, x, hx => by rw [List.mem_singleton.1 hx]; exact h
  | nd l r, i, h, x, hx => by
    rcases List.mem_append.1 hx with hx | hx
    · exact Canon.len h.2.1 x hx
    · exact Canon.len h.2.2.1 x hx
theorem Canon.apart : ∀ {t : Tr} {i : Nat}, Canon i t → t.leaves.Pairwise fun x y => x.1 ≠ y.1
  | emp, _, _ => List.Pairwise.nil
  | lf y, _, _ => List.pairwise_singleton _ _
  | nd l r, i, h => by
    refine List.pairwise_append.2 ⟨Canon.apart h.2.1, Canon.apart h.2.2.1, fun x hx y hy e => ?_⟩
    have h1 := h.2.2.2.1 x hx
    have h2 := h.2.2.2.2.1 y hy
    rw [e] at h1
    omega
theorem filter_all {α : Type} {l : List α} {p : α → Bool} (h : ∀ x ∈ l, p x = true) : l.filter p = l := List.filter_eq_self.2 h
theorem filter_no {α : Type} {l : List α} {p : α → Bool} (h : ∀ x ∈ l, p x = false) : l.filter p = [] := List.filter_eq_nil_iff.2 (fun x hx => by rw [h x hx]; exact Bool.false_ne_true)
theorem Canon.two_le {l r : Tr} {i : Nat} (h : Canon i (nd l r)) : 2 ≤ (nd l r).leaves.length := by
  show 2 ≤ (l.leaves ++ r.leaves).length
  rw [List.length_append]
  exact h.2.2.2.2.2
section
variable (Tg : UInt8 → List (List UInt8) → List UInt8)
/-- A half's digest. -/
def hash : Tr → List UInt8
  | emp => emptyD
  | lf x => hashL Tg x
  | nd l r => joinD Tg (hash l) (hash r)
/-- The digests beside a path's way down, and the leaf at its end. -/
def way : Tr → Nat → List UInt8 → List (List UInt8) × List LF
  | emp, _, _ => ([], [])
  | lf x, _, _ => ([], [x])
  | nd l r, i, p => if bitD p i = 0 then (r.hash Tg :: (way l (i + 1) p).1, (way l (i + 1) p).2) else (l.hash Tg :: (way r (i + 1) p).1, (way r (i + 1) p).2)
end
/-- Two leaves with unlike paths, from bit i on; f: how many bits there are left. -/
def two : Nat → Nat → LF → LF → Tr
  | 0, _, x, y => nd (lf x) (lf y)
  | f + 1, i, x, y => if bitD x.1 i = 0 then (if bitD y.1 i = 0 then nd (two f (i + 1) x y) emp else nd (lf x) (lf y)) else (if bitD y.1 i = 0 then nd (lf y) (lf x) else nd emp (two f (i + 1) x y))
theorem two_leaves : ∀ (f i : Nat) (x y : LF), (two f i x y).leaves.Perm [x, y]
  | 0, _, x, y => List.Perm.refl _
  | f + 1, i, x, y => by
    unfold two
    split
    · split
      · show ((two f (i + 1) x y).leaves ++ []).Perm _
        rw [List.append_nil]
        exact two_leaves f (i + 1) x y
      · exact List.Perm.refl _
    · split
      · exact List.Perm.swap _ _ _
      · exact two_leaves f (i + 1) x y
theorem two_canon : ∀ (f i : Nat) (x y : LF), i + f = 256 → x.1.length = 32 → y.1.length = 32 → x.1 ≠ y.1 → (∀ j, j < i → bitD x.1 j = bitD y.1 j) → Canon i (two f i x y)
  | 0, i, x, y, hf, hx, hy, hne, hs => absurd (bits_ext hx hy (fun j hj => hs j (by omega))) hne
  | f + 1, i, x, y, hf, hx, hy, hne, hs => by
    have bx := bitD_lt x.1 i
    have by' := bitD_lt y.1 i
    have hmem : ∀ z ∈ (two f (i + 1) x y).leaves, z = x ∨ z = y := fun z hz => by
      have := (two_leaves f (i + 1) x y).mem_iff.1 hz
      simpa using this
    have hlen : (two f (i + 1) x y).leaves.length = 2 := (two_leaves f (i + 1) x y).length_eq
    unfold two
    split
    · rename_i h0
      split
      · rename_i h1
        have hc := two_canon f (i + 1) x y (by omega) hx hy hne (fun j hj => by
          by_cases h : j < i
          · exact hs j h
          · obtain rfl : j = i := by omega
            rw [h0, h1])
        refine ⟨by omega, hc, trivial, fun z hz => ?_, (fun z hz => nomatch hz), ?_⟩
        · rcases hmem z hz with rfl | rfl
          · exact h0
          · exact h1
        · rw [hlen]; exact Nat.le_refl 2
      · rename_i h1
        exact ⟨by omega, hx, hy, fun z hz => by rw [List.mem_singleton.1 hz]; exact h0, fun z hz => by rw [List.mem_singleton.1 hz]; omega, Nat.le_refl 2⟩
    · rename_i h0
      split
      · rename_i h1
        exact ⟨by omega, hy, hx, fun z hz => by rw [List.mem_singleton.1 hz]; exact h1, fun z hz => by rw [List.mem_singleton.1 hz]; omega, Nat.le_refl 2⟩
      · rename_i h1
        have hc := two_canon f (i + 1) x y (by omega) hx hy hne (fun j hj => by
          by_cases h : j < i
          · exact hs j h
          · obtain rfl : j = i := by omega
            omega)
        refine ⟨by omega, trivial, hc, (fun z hz => nomatch hz), fun z hz => ?_, ?_⟩
        · rcases hmem z hz with rfl | rfl
          · omega
          · omega
        · rw [hlen]; exact Nat.le_refl 2
/-- A leaf is laid: in the place of the one with its path, if there is one. -/
def put : Nat → Nat → Tr → LF → Tr
  | _, _, emp, x => lf x
  | f, i, lf y, x => if y.1 = x.1 then lf x else two f i y x
  | 0, _, nd l r, _ => nd l r
  | f + 1, i, nd l r, x => if bitD x.1 i = 0 then nd (put f (i + 1) l x) r else nd l (put f (i + 1) r x)
/-- Leaves without a path; with a leaf laid. -/
def lessD (l : List LF) (p : List UInt8) : List LF := l.filter fun x => !(x.1 == p)
theorem lessD_other {l : List LF} {p : List UInt8} (h : ∀ x ∈ l, x.1 ≠ p) : lessD l p = l := filter_all (fun x hx => by rw [Bool.not_eq_true', beq_eq_false_iff_ne]; exact h x hx)
theorem lessD_app (l m : List LF) (p : List UInt8) : lessD (l ++ m) p = lessD l p ++ lessD m p := List.filter_append ..
theorem less_one : ∀ {l : List LF} (p : List UInt8), (l.Pairwise fun x y => x.1 ≠ y.1) → l.length ≤ (lessD l p).length + 1
  | [], _, _ => Nat.zero_le _
  | x :: r, p, h => by
    have h1 := List.pairwise_cons.1 h
    by_cases hx : x.1 = p
    · have : lessD (x :: r) p = r := by
        unfold lessD
        rw [List.filter_cons_of_neg (by simp [hx])]
        exact filter_all (fun y hy => by rw [Bool.not_eq_true', beq_eq_false_iff_ne, ← hx]; exact fun e => h1.1 y hy e.symm)
      rw [this]
      exact Nat.le_refl _
    · have : lessD (x :: r) p = x :: lessD r p := by
        unfold lessD
        rw [List.filter_cons_of_pos (by simp [hx])]
      rw [this, List.length_cons, List.length_cons]
      have := less_one p h1.2
      omega
theorem less_len {t : Tr} {i : Nat} (h : Canon i t) (p : List UInt8) : t.leaves.length ≤ (lessD t.leaves p).length + 1 := less_one p h.apart
theorem put_spec : ∀ (t : Tr) (f i : Nat) (x : LF), i + f = 256 → Canon i t → x.1.length = 32 → (∀ y ∈ t.leaves, ∀ j, j < i → bitD y.1 j = bitD x.1 j) → Canon i (put f i t x) ∧ (put f i t x).leaves.Perm (x :: lessD t.leaves x.1)
  | emp, f, i, x, hf, hc, hx, hs => by
    have e : put f i emp x = lf x := by cases f <;> rfl
    rw [e]
    exact ⟨hx, List.Perm.refl _⟩
  | lf y, f, i, x, hf, hc, hx, hs => by
    have e : put f i (lf y) x = if y.1 = x.1 then lf x else two f i y x := by cases f <;> rfl
    rw [e]
    by_cases h : y.1 = x.1
    · rw [if_pos h]
      refine ⟨hx, ?_⟩
      have : lessD (lf y).leaves x.1 = [] := filter_no (fun z hz => by rw [List.mem_singleton.1 hz, h]; simp)
      rw [this]
      exact List.Perm.refl _
    · rw [if_neg h]
      refine ⟨two_canon f i y x hf hc hx h (fun j hj => hs y (by simp [leaves]) j hj), ?_⟩
      rw [lessD_other (fun z hz => by rw [List.mem_singleton.1 hz]; exact h)]
      exact (two_leaves f i y x).trans (List.Perm.swap _ _ _)
  | nd l r, 0, i, x, hf, hc, hx, hs => absurd hc.1 (by omega)
  | nd l r, f + 1, i, x, hf, hc, hx, hs => by
    have hb := bitD_lt x.1 i
    have e : put (f + 1) i (nd l r) x = if bitD x.1 i = 0 then nd (put f (i + 1) l x) r else nd l (put f (i + 1) r x) := rfl
    rw [e]
    by_cases h0 : bitD x.1 i = 0
    · rw [if_pos h0]
      obtain ⟨h1, h2⟩ := put_spec l f (i + 1) x (by omega) hc.2.1 hx (fun y hy j hj => by
        by_cases h : j < i
        · exact hs y (List.mem_append.2 (.inl hy)) j h
        · obtain rfl : j = i := by omega
          rw [hc.2.2.2.1 y hy, h0])
      have hne : ∀ y ∈ r.leaves, y.1 ≠ x.1 := fun y hy e => by
        have := hc.2.2.2.2.1 y hy
        rw [e] at this
        omega
      have hp : ((put f (i + 1) l x).leaves ++ r.leaves).Perm (x :: lessD (nd l r).leaves x.1) := by
        have e2 : lessD (nd l r).leaves x.1 = lessD l.leaves x.1 ++ r.leaves := (lessD_app l.leaves r.leaves x.1).trans (by rw [lessD_other hne])
        rw [e2]
        exact h2.append_right r.leaves
      refine ⟨⟨hc.1, h1, hc.2.2.1, fun y hy => ?_, hc.2.2.2.2.1, ?_⟩, hp⟩
      · rcases List.mem_cons.1 (h2.mem_iff.1 hy) with rfl | hy2
        · exact h0
        · exact hc.2.2.2.1 y (List.mem_filter.1 hy2).1
      · have l1 := h2.length_eq
        rw [List.length_cons] at l1
        by_cases hr : r.leaves = []
        · have hl2 := hc.2.2.2.2.2
          rw [hr, List.length_nil, Nat.add_zero] at hl2
          have : l.leaves.length ≤ (lessD l.leaves x.1).length + 1 := less_len hc.2.1 x.1
          omega
        · have : 0 < r.leaves.length := List.length_pos_iff.2 hr
          omega
    · have h1' : bitD x.1 i = 1 := by omega
      rw [if_neg h0]
      obtain ⟨h1, h2⟩ := put_spec r f (i + 1) x (by omega) hc.2.2.1 hx (fun y hy j hj => by
        by_cases h : j < i
        · exact hs y (List.mem_append.2 (.inr hy)) j h
        · obtain rfl : j = i := by omega
          rw [hc.2.2.2.2.1 y hy, h1'])
      have hne : ∀ y ∈ l.leaves, y.1 ≠ x.1 := fun y hy e => by
        have := hc.2.2.2.1 y hy
        rw [e] at this
        omega
      have hp : (l.leaves ++ (put f (i + 1) r x).leaves).Perm (x :: lessD (nd l r).leaves x.1) := by
        have e2 : lessD (nd l r).leaves x.1 = l.leaves ++ lessD r.leaves x.1 := (lessD_app l.leaves r.leaves x.1).trans (by rw [lessD_other hne])
        rw [e2]
        exact (h2.append_left l.leaves).trans List.perm_middle
      refine ⟨⟨hc.1, hc.2.1, h1, hc.2.2.2.1, fun y hy => ?_, ?_⟩, hp⟩
      · rcases List.mem_cons.1 (h2.mem_iff.1 hy) with rfl | hy2
        · exact h1'
        · exact hc.2.2.2.2.1 y (List.mem_filter.1 hy2).1
      · have l1 := h2.length_eq
        rw [List.length_cons] at l1
        by_cases hr : l.leaves = []
        · have hl2 := hc.2.2.2.2.2
          rw [hr, List.length_nil, Nat.zero_add] at hl2
          have : r.leaves.length ≤ (lessD r.leaves x.1).length + 1 := less_len hc.2.2.1 x.1
          omega
        · have : 0 < l.leaves.length := List.length_pos_iff.2 hr
          omega
/-- Two halves as one: a leaf alone is lifted. -/
def join : Tr → Tr → Tr
  | emp, emp => emp
  | emp, lf x => lf x
  | lf x, emp => lf x
  | l, r => nd l r
theorem join_leaves (l r : Tr) : (join l r).leaves = l.leaves ++ r.leaves := by
  cases l <;> cases r <;> simp [join, leaves]
theorem join_canon {l r : Tr} {i : Nat} (hi : i < 256) (hl : Canon (i + 1) l) (hr : Canon (i + 1) r) (h0 : ∀ x ∈ l.leaves, bitD x.1 i = 0) (h1 : ∀ x ∈ r.leaves, bitD x.1 i = 1) : Canon i (join l r) := by
  cases l with
  | emp =>
    cases r with
    | emp => trivial
    | lf x => exact hr
    | nd a b => exact ⟨hi, hl, hr, h0, h1, by have := hr.two_le; simp [leaves] at this ⊢; omega⟩
  | lf x =>
    cases r with
    | emp => exact hl
    | lf y => exact ⟨hi, hl, hr, h0, h1, Nat.le_refl 2⟩
    | nd a b => exact ⟨hi, hl, hr, h0, h1, by have := hr.two_le; simp [leaves] at this ⊢; omega⟩
  | nd a b => exact ⟨hi, hl, hr, h0, h1, by have := hl.two_le; omega⟩
/-- The leaf with a path goes. -/
def del : Nat → Nat → Tr → List UInt8 → Tr
  | _, _, emp, _ => emp
  | _, _, lf y, p => if y.1 = p then emp else lf y
  | 0, _, nd l r, _ => nd l r
  | f + 1, i, nd l r, p => if bitD p i = 0 then join (del f (i + 1) l p) r else join l (del f (i + 1) r p)
theorem del_spec : ∀ (t : Tr) (f i : Nat) (p : List UInt8), i + f = 256 → Canon i t → Canon i (del f i t p) ∧ (del f i t p).leaves = lessD t.leaves p
  | emp, f, i, p, _, _ => by
    have e : del f i emp p = emp := by cases f <;> rfl
    rw [e]
    exact ⟨trivial, rfl⟩
  | lf y, f, i, p, _, hc => by
    have e : del f i (lf y) p = if y.1 = p then emp else lf y := by cases f <;> rfl
    rw [e]
    by_cases h : y.1 = p
    · rw [if_pos h]
      exact ⟨trivial, (filter_no (fun z hz => by rw [List.mem_singleton.1 hz, h]; simp)).symm⟩
    · rw [if_neg h]
      exact ⟨hc, (lessD_other (fun z hz => by rw [List.mem_singleton.1 hz]; exact h)).symm⟩
  | nd l r, 0, i, p, hf, hc => absurd hc.1 (by omega)
  | nd l r, f + 1, i, p, hf, hc => by
    have hb := bitD_lt p i
    have e : del (f + 1) i (nd l r) p = if bitD p i = 0 then join (del f (i + 1) l p) r else join l (del f (i + 1) r p) := rfl
    rw [e]
    by_cases h0 : bitD p i = 0
    · rw [if_pos h0]
      obtain ⟨h1, h2⟩ := del_spec l f (i + 1) p (by omega) hc.2.1
      have hne : ∀ y ∈ r.leaves, y.1 ≠ p := fun y hy e => by
        have := hc.2.2.2.2.1 y hy
        rw [e] at this
        omega
      refine ⟨join_canon hc.1 h1 hc.2.2.1 (fun x hx => ?_) hc.2.2.2.2.1, ?_⟩
      · rw [h2] at hx
        exact hc.2.2.2.1 x (List.mem_filter.1 hx).1
      · rw [join_leaves, h2]
        exact ((lessD_app l.leaves r.leaves p).trans (by rw [lessD_other hne])).symm
    · rw [if_neg h0]
      obtain ⟨h1, h2⟩ := del_spec r f (i + 1) p (by omega) hc.2.2.1
      have hne : ∀ y ∈ l.leaves, y.1 ≠ p := fun y hy e => by
        have := hc.2.2.2.1 y hy
        rw [e] at this
        omega
      refine ⟨join_canon hc.1 hc.2.1 h1 hc.2.2.2.1 (fun x hx => ?_), ?_⟩
      · rw [h2] at hx
        exact hc.2.2.2.2.1 x (List.mem_filter.1 hx).1
      · rw [join_leaves, h2]
        exact ((lessD_app l.leaves r.leaves p).trans (by rw [lessD_other hne])).symm
/-- The leaf with a path, if there is one. -/
def find : Nat → Tr → List UInt8 → Option LF
  | _, emp, _ => none
  | _, lf y, p => if y.1 = p then some y else none
  | i, nd l r, p => if bitD p i = 0 then find (i + 1) l p else find (i + 1) r p
end Tr
end Go.Proofs.YtmbdhngoldganaaGreatDoor
namespace Go.Proofs.YtmbdhngoldganaaGreatDoor
namespace Tr
def cnt (t : Tr) : Nat := t.leaves.length
theorem cnt_nd (l r : Tr) : (nd l r).cnt = l.cnt + r.cnt := List.length_append
def isEmp : Tr → Bool
  | emp => true
  | _ => false
/-- Two halves as one: a leaf alone rises. -/
def joinG (l r : Tr) : Tr := if 1 < l.cnt + r.cnt then nd l r else if l.isEmp then r else l
theorem joinG_two {l r : Tr} (h : 2 ≤ l.cnt + r.cnt) : joinG l r = nd l r := if_pos h
theorem joinG_l {l r : Tr} (h : ¬ 1 < l.cnt + r.cnt) (hl : l ≠ emp) : joinG l r = l := by
  unfold joinG
  rw [if_neg h]
  cases l
  · exact absurd rfl hl
  · rfl
  · rfl
theorem one_l (x : LF) : ¬ 1 < (lf x).cnt + emp.cnt := fun h => absurd h (Nat.lt_irrefl 1)
theorem one_r (x : LF) : ¬ 1 < emp.cnt + (lf x).cnt := fun h => absurd h (Nat.lt_irrefl 1)
theorem two_lf (x y : LF) : 2 ≤ (lf x).cnt + (lf y).cnt := Nat.le_refl 2
theorem joinG_r {r : Tr} (h : ¬ 1 < emp.cnt + r.cnt) : joinG emp r = r := by unfold joinG; rw [if_neg h]; rfl
/-- The two halves of a half, from a bit on. -/
def openT : Nat → Tr → Tr × Tr
  | _, nd l r => (l, r)
  | i, lf y => if bitD y.1 i = 0 then (lf y, emp) else (emp, lf y)
  | _, emp => (emp, emp)
/-- A way ends here: nothing stands, or the path's own leaf. -/
def ends (p : List UInt8) : Tr → Prop
  | emp => True
  | lf y => y.1 = p
  | nd _ _ => False
instance (p : List UInt8) : (t : Tr) → Decidable (ends p t)
  | emp => isTrue trivial
  | lf y => inferInstanceAs (Decidable (y.1 = p))
  | nd _ _ => isFalse id
abbrev Ctx := Tr × Tr × Nat
/-- A half put back into its place. -/
def upC (c : Ctx) (e : Tr) : Tr := if c.2.2 = 0 then joinG e c.2.1 else joinG c.1 e
/-- The side of two halves. -/
def sideT (q : Tr × Tr) (b : Nat) : Tr := if b = 0 then q.1 else q.2
/-- A half with another end at a path. -/
def withT (p : List UInt8) (e : Tr) : Nat → Nat → Tr → Tr
  | 0, _, _ => e
  | f + 1, i, t => if ends p t then e else upC ((openT i t).1, (openT i t).2, bitD p i) (withT p e f (i + 1) (sideT (openT i t) (bitD p i)))
theorem with_ends {p : List UInt8} {e t : Tr} {f i : Nat} (h : ends p t) : withT p e f i t = e := by
  cases f
  · rfl
  · exact if_pos h
theorem with_step {p : List UInt8} {e t : Tr} {f i : Nat} (h : ¬ ends p t) : withT p e (f + 1) i t = upC ((openT i t).1, (openT i t).2, bitD p i) (withT p e f (i + 1) (sideT (openT i t) (bitD p i))) := if_neg h
theorem two_cnt (f i : Nat) (x y : LF) : (two f i x y).cnt = 2 := (two_leaves f i x y).length_eq
theorem with_emp {p : List UInt8} {e : Tr} {f i : Nat} : withT p e f i emp = e := with_ends trivial
theorem put_with : ∀ (f : Nat) (t : Tr) (i : Nat) (x : LF), i + f = 256 → Canon i t → x.1.length = 32 → (∀ y ∈ t.leaves, ∀ j, j < i → bitD y.1 j = bitD x.1 j) → withT x.1 (lf x) f i t = put f i t x
  | f, emp, i, x, _, _, _, _ => by rw [with_emp]; cases f <;> rfl
  | 0, lf y, i, x, hf, hc, hx, hs => by
    have e : y.1 = x.1 := bits_ext hc hx (fun j hj => hs y (List.mem_singleton.2 rfl) j (by omega))
    rw [with_ends (show ends x.1 (lf y) from e)]
    show _ = if y.1 = x.1 then lf x else _
    rw [if_pos e]
  | f + 1, lf y, i, x, hf, hc, hx, hs => by
    show _ = if y.1 = x.1 then lf x else two (f + 1) i y x
    by_cases e : y.1 = x.1
    · rw [with_ends (show ends x.1 (lf y) from e), if_pos e]
    · rw [with_step (show ¬ ends x.1 (lf y) from e), if_neg e]
      have ih : (∀ j, j < i + 1 → bitD y.1 j = bitD x.1 j) → withT x.1 (lf x) f (i + 1) (lf y) = two f (i + 1) y x := fun h => by
        rw [put_with f (lf y) (i + 1) x (by omega) hc hx (fun z hz j hj => by rw [List.mem_singleton.1 hz]; exact h j hj)]
        have e2 : put f (i + 1) (lf y) x = if y.1 = x.1 then lf x else two f (i + 1) y x := by cases f <;> rfl
        rw [e2, if_neg e]
      have hs' : ∀ j, j < i → bitD y.1 j = bitD x.1 j := hs y (List.mem_singleton.2 rfl)
      have hb := bitD_lt y.1 i
      have hb' := bitD_lt x.1 i
      by_cases y0 : bitD y.1 i = 0
      · by_cases x0 : bitD x.1 i = 0
        · have h1 := ih (fun j hj => by
            by_cases h : j = i
            · rw [h, y0, x0]
            · exact hs' j (by omega))
          have ho : openT i (lf y) = (lf y, emp) := if_pos y0
          rw [ho, x0]
          show joinG (withT x.1 (lf x) f (i + 1) (lf y)) emp = _
          rw [h1, joinG_two (by rw [two_cnt]; exact Nat.le_add_right _ _)]
          show _ = if bitD y.1 i = 0 then (if bitD x.1 i = 0 then _ else _) else _
          rw [if_pos y0, if_pos x0]
        · have x1 : bitD x.1 i = 1 := by omega
          have ho : openT i (lf y) = (lf y, emp) := if_pos y0
          rw [ho, x1]
          show joinG (lf y) (withT x.1 (lf x) f (i + 1) emp) = _
          rw [with_emp, joinG_two (two_lf _ _)]
          show _ = if bitD y.1 i = 0 then (if bitD x.1 i = 0 then _ else _) else _
          rw [if_pos y0, if_neg x0]
      · have y1 : bitD y.1 i = 1 := by omega
        have ho : openT i (lf y) = (emp, lf y) := if_neg y0
        by_cases x0 : bitD x.1 i = 0
        · rw [ho, x0]
          show joinG (withT x.1 (lf x) f (i + 1) emp) (lf y) = _
          rw [with_emp, joinG_two (two_lf _ _)]
          show _ = if bitD y.1 i = 0 then _ else (if bitD x.1 i = 0 then _ else _)
          rw [if_neg y0, if_pos x0]
        · have x1 : bitD x.1 i = 1 := by omega
          have h1 := ih (fun j hj => by
            by_cases h : j = i
            · rw [h, y1, x1]
            · exact hs' j (by omega))
          rw [ho, x1]
          show joinG emp (withT x.1 (lf x) f (i + 1) (lf y)) = _
          rw [h1, joinG_two (by rw [two_cnt]; exact Nat.le_add_left _ _)]
          show _ = if bitD y.1 i = 0 then _ else (if bitD x.1 i = 0 then _ else _)
          rw [if_neg y0, if_neg x0]
  | 0, nd l r, i, x, hf, hc, _, _ => absurd hc.1 (by omega)
  | f + 1, nd l r, i, x, hf, hc, hx, hs => by
    have hcut : ∀ {u : Tr} {b : Nat}, Canon (i + 1) u → b = bitD x.1 i → (∀ y ∈ u.leaves, bitD y.1 i = b) → (∀ y ∈ u.leaves, y ∈ (nd l r).leaves) → withT x.1 (lf x) f (i + 1) u = put f (i + 1) u x ∧ 1 ≤ (put f (i + 1) u x).cnt ∧ u.cnt ≤ (put f (i + 1) u x).cnt := fun {u b} hcu hb hu hm => by
      have hs2 : ∀ y ∈ u.leaves, ∀ j, j < i + 1 → bitD y.1 j = bitD x.1 j := fun y hy j hj => by
        by_cases h : j = i
        · rw [h, hu y hy, hb]
        · exact hs y (hm y hy) j (by omega)
      obtain ⟨_, hp⟩ := put_spec u f (i + 1) x (by omega) hcu hx hs2
      have hlen := hp.length_eq
      have hle := less_len hcu x.1
      rw [List.length_cons] at hlen
      unfold cnt
      exact ⟨put_with f u (i + 1) x (by omega) hcu hx hs2, by omega, by omega⟩
    rw [with_step (show ¬ ends x.1 (nd l r) from id)]
    have hb := bitD_lt x.1 i
    have h2 : 2 ≤ l.cnt + r.cnt := hc.2.2.2.2.2
    show upC (l, r, bitD x.1 i) _ = if bitD x.1 i = 0 then _ else _
    by_cases x0 : bitD x.1 i = 0
    · obtain ⟨h3, h4, h5⟩ := hcut hc.2.1 x0.symm hc.2.2.2.1 (fun y hy => List.mem_append.2 (.inl hy))
      rw [if_pos x0, x0]
      show joinG (withT x.1 (lf x) f (i + 1) l) r = _
      rw [h3, joinG_two (by omega)]
    · have x1 : bitD x.1 i = 1 := by omega
      obtain ⟨h3, h4, h5⟩ := hcut hc.2.2.1 x1.symm hc.2.2.2.2.1 (fun y hy => List.mem_append.2 (.inr hy))
      rw [if_neg x0, x1]
      show joinG l (withT x.1 (lf x) f (i + 1) r) = _
      rw [h3, joinG_two (by omega)]
theorem joinG_join {l r : Tr} {i : Nat} (hl : Canon i l) (hr : Canon i r) : joinG l r = join l r := by
  cases l with
  | emp =>
    cases r with
    | emp => rfl
    | lf x => rfl
    | nd a b => exact joinG_two (by have : 2 ≤ (nd a b).cnt := hr.two_le; omega)
  | lf x =>
    cases r with
    | emp => exact joinG_l (one_l _) (fun e => Tr.noConfusion e)
    | lf y => exact joinG_two (two_lf _ _)
    | nd a b => exact joinG_two (by have : 2 ≤ (nd a b).cnt := hr.two_le; omega)
  | nd a b =>
    have : 2 ≤ (nd a b).cnt := hl.two_le
    cases r <;> exact joinG_two (by omega)
theorem del_with : ∀ (f : Nat) (t : Tr) (i : Nat) (p : List UInt8), i + f = 256 → Canon i t → p.length = 32 → (∀ y ∈ t.leaves, ∀ j, j < i → bitD y.1 j = bitD p j) → withT p emp f i t = del f i t p
  | f, emp, i, p, _, _, _, _ => by rw [with_emp]; cases f <;> rfl
  | 0, lf y, i, p, hf, hc, hx, hs => by
    have e : y.1 = p := bits_ext hc hx (fun j hj => hs y (List.mem_singleton.2 rfl) j (by omega))
    rw [with_ends (show ends p (lf y) from e)]
    show _ = if y.1 = p then emp else _
    rw [if_pos e]
  | f + 1, lf y, i, p, hf, hc, hx, hs => by
    show _ = if y.1 = p then emp else lf y
    by_cases e : y.1 = p
    · rw [with_ends (show ends p (lf y) from e), if_pos e]
    · rw [with_step (show ¬ ends p (lf y) from e), if_neg e]
      have hs' : ∀ j, j < i → bitD y.1 j = bitD p j := hs y (List.mem_singleton.2 rfl)
      have ih : (∀ j, j < i + 1 → bitD y.1 j = bitD p j) → withT p emp f (i + 1) (lf y) = lf y := fun h => by
        rw [del_with f (lf y) (i + 1) p (by omega) hc hx (fun z hz j hj => by rw [List.mem_singleton.1 hz]; exact h j hj)]
        have e2 : del f (i + 1) (lf y) p = if y.1 = p then emp else lf y := by cases f <;> rfl
        rw [e2, if_neg e]
      have hb := bitD_lt y.1 i
      have hb' := bitD_lt p i
      by_cases y0 : bitD y.1 i = 0
      · have ho : openT i (lf y) = (lf y, emp) := if_pos y0
        by_cases x0 : bitD p i = 0
        · have h1 := ih (fun j hj => by
            by_cases h : j = i
            · rw [h, y0, x0]
            · exact hs' j (by omega))
          rw [ho, x0]
          show joinG (withT p emp f (i + 1) (lf y)) emp = _
          rw [h1, joinG_l (one_l _) (fun e => Tr.noConfusion e)]
        · have x1 : bitD p i = 1 := by omega
          rw [ho, x1]
          show joinG (lf y) (withT p emp f (i + 1) emp) = _
          rw [with_emp, joinG_l (one_l _) (fun e => Tr.noConfusion e)]
      · have y1 : bitD y.1 i = 1 := by omega
        have ho : openT i (lf y) = (emp, lf y) := if_neg y0
        by_cases x0 : bitD p i = 0
        · rw [ho, x0]
          show joinG (withT p emp f (i + 1) emp) (lf y) = _
          rw [with_emp, joinG_r (one_r _)]
        · have x1 : bitD p i = 1 := by omega
          have h1 := ih (fun j hj => by
            by_cases h : j = i
            · rw [h, y1, x1]
            · exact hs' j (by omega))
          rw [ho, x1]
          show joinG emp (withT p emp f (i + 1) (lf y)) = _
          rw [h1, joinG_r (one_r _)]
  | 0, nd l r, i, p, hf, hc, _, _ => absurd hc.1 (by omega)
  | f + 1, nd l r, i, p, hf, hc, hx, hs => by
    have hcut : ∀ {u : Tr} {b : Nat}, Canon (i + 1) u → b = bitD p i → (∀ y ∈ u.leaves, bitD y.1 i = b) → (∀ y ∈ u.leaves, y ∈ (nd l r).leaves) → withT p emp f (i + 1) u = del f (i + 1) u p ∧ Canon (i + 1) (del f (i + 1) u p) := fun {u b} hcu hb hu hm => by
      have hs2 : ∀ y ∈ u.leaves, ∀ j, j < i + 1 → bitD y.1 j = bitD p j := fun y hy j hj => by
        by_cases h : j = i
        · rw [h, hu y hy, hb]
        · exact hs y (hm y hy) j (by omega)
      exact ⟨del_with f u (i + 1) p (by omega) hcu hx hs2, (del_spec u f (i + 1) p (by omega) hcu).1⟩
    rw [with_step (show ¬ ends p (nd l r) from id)]
    have hb := bitD_lt p i
    show upC (l, r, bitD p i) _ = if bitD p i = 0 then _ else _
    by_cases x0 : bitD p i = 0
    · obtain ⟨h3, h4⟩ := hcut hc.2.1 x0.symm hc.2.2.2.1 (fun y hy => List.mem_append.2 (.inl hy))
      rw [if_pos x0, x0]
      show joinG (withT p emp f (i + 1) l) r = _
      rw [h3, joinG_join h4 hc.2.2.1]
    · have x1 : bitD p i = 1 := by omega
      obtain ⟨h3, h4⟩ := hcut hc.2.2.1 x1.symm hc.2.2.2.2.1 (fun y hy => List.mem_append.2 (.inr hy))
      rw [if_neg x0, x1]
      show joinG l (withT p emp f (i + 1) r) = _
      rw [h3, joinG_join hc.2.1 h4]
end Tr
end Go.Proofs.YtmbdhngoldganaaGreatDoor
namespace Go.Proofs.YtmbdhngoldganaaGreatDoor.Sh
open Go Go.RowKit
section
variable {P : Program} {ops : Array Oper} {rest : List Oper} {op : Oper} {a : Act} {w : World} {Q : Exit → Act → World → Prop} {K K' : Act → World → Prop}
theorem rowsIn_round {row : String} {args : Array Value} {R : Value → World → Prop} (l n : Nat) (h : Rows P row args w R) : RowsIn (Fence.wide.inRound l) n P row args w R := fun c cs _ => by
  obtain ⟨v, w', r, s⟩ := h c cs
  exact ⟨v, w', r, stepsIn_wide.2 s⟩
theorem op_in (l n : Nat) (hd : ∀ c, op.op ≠ .defer c) (h : op.wp P a w K Q) (hk : ∀ a w, K a w → K' a w) : op.wpIn (Fence.wide.inRound l) n P a w K' Q := by
  refine ⟨fun _ _ => trivial, ?_⟩
  rw [show (Fence.wide.inRound l).round = some l from rfl, Oper.semAt_some l _ _ hd]
  unfold Oper.wp at h
  generalize (execOp a.eval op).run P w = r at *
  cases r with
  | ok x w' =>
    cases x with
    | value v => exact hk _ _ h
    | skip => exact hk _ _ h
    | defer d => exact hk _ _ h
    | enter f args =>
      refine ⟨(fun e => nomatch e), CallsIn.inRound l (callsIn_wide.2 (Calls.mono h ?_))⟩
      intro e w1 h1
      cases e with
      | returned v => exact hk _ _ h1
      | panicked c => exact h1
      | outgrown => exact h1
    | row row args =>
      refine ⟨(fun e => nomatch e), rowsIn_round l _ (Rows.mono h ?_)⟩
      intro v w1 h1
      exact hk _ _ h1
    | round _ _ _ _ _ => exact h.elim
    | _ => exact h.elim
  | halt x w' =>
    cases x with
    | panic v => exact h
    | _ => exact h.elim
/-- No operation of the list is a deferred call. -/
def noDefer (l : List Oper) : Bool := l.all fun o => match o.op with
  | .defer _ => false
  | _ => true
theorem noDefer_one {l : List Oper} (h : noDefer l = true) {o : Oper} (ho : o ∈ l) : ∀ c, o.op ≠ .defer c := fun c e => by
  have := List.all_eq_true.1 h o ho
  rw [e] at this
  cases this
theorem list_in (l n : Nat) (hno : ¬ LetsOut Q) : ∀ (os : List Oper) (a : Act) (w : World), noDefer os = true → wpList P ops Q os a w → wpListIn (Fence.wide.inRound l) n P ops Q os a w
  | [], _, _, _, h => h
  | o :: os, a, w, hd, h => by
    have hd1 := noDefer_one hd (List.mem_cons_self ..)
    have hd2 : noDefer os = true := by
      unfold noDefer at *
      rw [List.all_cons, Bool.and_eq_true] at hd
      exact hd.2
    unfold wpList at h
    unfold wpListIn
    by_cases hw : Region.wanted o (yielded ops a.tmps) = true
    · rw [if_pos hw] at h ⊢
      rcases h with h | h
      · exact op_in l n hd1 h (fun a w h => list_in l n hno os a w hd2 h)
      · exact absurd h.2 hno
    · rw [if_neg hw] at h ⊢
      exact ⟨fun _ _ => trivial, list_in l n hno os _ _ hd2 h⟩
/-- A region that keeps its order, in a round. -/
theorem region_in {l n id : Nat} {os : List Oper} (hd : noDefer os = true) (hno : ¬ LetsOut Q) (h : wpList P os.toArray Q os a w) : (Code.region id os.toArray false).wpIn (Fence.wide.inRound l) n P Q a w :=
  wpIn_region_lit (list_in l n hno os a w hd h)
theorem wpOp_in (l n : Nat) (hno : ¬ LetsOut Q) {i : Nat} (hd : noDefer ops.toList = true) (h : wpOp P ops Q i K a w) (hk : ∀ a w, K a w → K' a w) : wpOpIn (Fence.wide.inRound l) n P ops Q i K' a w := by
  unfold wpOp at h
  unfold wpOpIn
  cases ho : ops[i]? with
  | none => rw [ho] at h; exact hk _ _ h
  | some o =>
    rw [ho] at h
    have hd1 : ∀ c, o.op ≠ .defer c := noDefer_one hd (Array.mem_toList_iff.2 (Array.mem_of_getElem? ho))
    dsimp only at h ⊢
    by_cases hw : Region.wanted o (yielded ops a.tmps) = true
    · rw [if_pos hw] at h ⊢
      rcases h with h | h
      · exact op_in l n hd1 h hk
      · exact absurd h.2 hno
    · rw [if_neg hw] at h ⊢
      exact ⟨fun _ _ => trivial, hk _ _ h⟩
theorem any_in (l n : Nat) (md : Region.Mode) (hno : ¬ LetsOut Q) (hd : noDefer ops.toList = true) : ∀ (fuel : Nat) (listed : Array Bool) (a : Act) (w : World), wpAny P md ops Q fuel listed a w → wpAnyIn (Fence.wide.inRound l) n P md ops Q fuel listed a w
  | 0, _, _, _, h => h
  | fuel + 1, _, _, _, h => ⟨h.1, fun i hi => wpOp_in l n hno hd (h.2 i hi) (fun a w h => any_in l n md hno hd fuel _ a w h)⟩
end
/-! A load may be taken first although the region's last operation writes its cell. -/
section
variable {P : Program} {ops : Array Oper} {Q : Exit → Act → World → Prop} {md : Region.Mode} {S : World → Prop} {z : Nat}
/-- Whatever order is picked from here on, and S holds behind every operation that is carried out, but number z. -/
def wpAnyL (P : Program) (md : Region.Mode) (ops : Array Oper) (Q : Exit → Act → World → Prop) (S : World → Prop) (z : Nat) : Nat → Array Bool → Act → World → Prop
  | 0, listed, a, w => Region.ready md ops listed = [] ∧ Q .normal a w
  | fuel + 1, listed, a, w =>
    (Region.ready md ops listed = [] → Q .normal a w) ∧
    ∀ i ∈ Region.ready md ops listed, wpOp P ops Q i (fun a' w' => (i ≠ z → S w') ∧ wpAnyL P md ops Q S z fuel (listed.setIfInBounds i true) a' w') a w
theorem wpAny_of_L : ∀ (fuel : Nat) (listed : Array Bool) (a : Act) (w : World), wpAnyL P md ops Q S z fuel listed a w → wpAny P md ops Q fuel listed a w
  | 0, _, _, _, h => h
  | fuel + 1, _, _, _, h => ⟨h.1, fun i hi => wpOp_mono (fun a' w' h' => wpAny_of_L fuel _ a' w' h'.2) (h.2 i hi)⟩
/-- Operation number z waits for number i. -/
def waitsFor (md : Region.Mode) (ops : Array Oper) (z i : Nat) : Bool := match ops[z]? with
  | some o => o.after.any fun e => Region.binds md e && e.on == i
  | none => false
theorem wpAnyL_first {i : Nat} {oi : Oper} {v : Value} (hi : ops[i]? = some oi) (hsel : ∀ (j : Nat) (o : Oper) cs b, ops[j]? = some o → o.op ≠ .select cs b)
    (hQ : ∀ c a w, Q (.panic c) (a.put oi.dst v) w → Q (.panic c) a w) (hz : waitsFor md ops z i = true) :
    ∀ (fuel : Nat) (listed : Array Bool) (a : Act) (w : World),
      (∀ j oj, ops[j]? = some oj → j ≠ i → listed.getD j true = false → (∀ e ∈ oj.after, Region.binds md e = true → e.on ≠ i) → oi.apart ops oj = true) →
      i ∈ Region.ready md ops listed → YieldsIf P ops S oi v a → S w →
      wpAnyL P md ops Q S z fuel (listed.setIfInBounds i true) (a.put oi.dst v) w → wpAnyL P md ops Q S z (fuel + 1) listed a w := by
  intro fuel
  induction fuel with
  | zero =>
    intro listed a w _ hr hy hS H
    refine ⟨fun h => (by rw [h] at hr; cases hr), fun j hj => ?_⟩
    by_cases hji : j = i
    · subst hji; exact hy.wpOp hi hS ⟨fun _ => hS, H⟩
    · have := ready_mono hj hji
      rw [H.1] at this
      cases this
  | succ fuel ih =>
    intro listed a w hfree hr hy hS H
    refine ⟨fun h => (by rw [h] at hr; cases hr), fun j hj => ?_⟩
    by_cases hji : j = i
    · subst hji; exact hy.wpOp hi hS ⟨fun _ => hS, H⟩
    · have h1 := H.2 j (ready_mono hj hji)
      obtain ⟨hjun, oj, hoj, hall⟩ := mem_ready.1 hj
      have hnot : ∀ e ∈ oj.after, Region.binds md e = true → e.on ≠ i := fun e he hb heq => by
        have h1 := hall e he hb
        have h0 := (mem_ready.1 hr).1
        rw [heq] at h1
        rcases Nat.lt_or_ge i listed.size with h' | h'
        · simp [h'] at h0 h1; rw [h0] at h1; cases h1
        · simp [Array.getElem?_eq_none h'] at h1
      have hjz : j ≠ z := fun e => by
        subst e
        unfold waitsFor at hz
        rw [hoj] at hz
        obtain ⟨e, he, h2⟩ := Array.any_eq_true'.1 hz
        rw [Bool.and_eq_true, beq_iff_eq] at h2
        exact hnot e he h2.1 h2.2
      have h2 := wpOp_putIf hoj (hfree j oj hoj hji hjun hnot) (fun cs b => hsel i oi cs b hi) (fun cs b => hsel j oj cs b hoj) hQ hy h1
      have hfree' : ∀ k ok, ops[k]? = some ok → k ≠ i → (listed.setIfInBounds j true).getD k true = false →
          (∀ e ∈ ok.after, Region.binds md e = true → e.on ≠ i) → oi.apart ops ok = true := fun k ok hk hki hun hno => by
        refine hfree k ok hk hki ?_ hno
        by_cases hjk : j = k
        · subst hjk; exact hjun
        · rw [getD_set_ne true hjk] at hun; exact hun
      refine wpOp_mono (fun a' w' h3 => ⟨h3.2.1, ih (listed.setIfInBounds j true) a' w' hfree' (ready_mono hr (Ne.symm hji)) h3.1 (h3.2.1 hjz) ?_⟩) h2
      rw [Array.setIfInBounds_comm _ _ hji]
      exact h3.2.2
theorem wpAnyL_take {i : Nat} {oi : Oper} {v : Value} {fuel : Nat} {listed : Array Bool} {a : Act} {w : World} (hi : ops[i]? = some oi)
    (hs : Region.noSelect ops = true) (hf : Region.free md ops listed i = true) (hr : (Region.ready md ops listed).contains i = true) (hz : waitsFor md ops z i = true)
    (hQ : ∀ c a w, Q (.panic c) (a.put oi.dst v) w → Q (.panic c) a w) (hy : YieldsIf P ops S oi v a) (hS : S w)
    (h : wpAnyL P md ops Q S z fuel (listed.setIfInBounds i true) (a.put oi.dst v) w) : wpAnyL P md ops Q S z (fuel + 1) listed a w :=
  wpAnyL_first hi (Region.noSelect_spec hs) hQ hz fuel listed a w (Region.free_spec hi hf) (by simpa using hr) hy hS h
/-- One alone may come up. -/
theorem wpAnyL_one {i : Nat} {o : Oper} {fuel : Nat} {listed : Array Bool} {a : Act} {w : World} (ho : ops[i]? = some o) (hr : Region.ready md ops listed = [i])
    (h : ∀ K' : Act → World → Prop, Shut (∀ a w, (i ≠ z → S w) → wpAnyL P md ops Q S z fuel (listed.setIfInBounds i true) a w → K' a w) → if Region.wanted o (yielded ops a.tmps) = true then Oper.wp P o a w K' Q else K' (a.put o.dst undef) w) : wpAnyL P md ops Q S z (fuel + 1) listed a w :=
  ⟨(fun h0 => absurd (hr ▸ h0) (List.cons_ne_nil _ _)), fun j hj => by
    rw [hr] at hj
    obtain rfl := List.mem_singleton.1 hj
    exact wpOp_step ho (fun K' hK => h K' (fun a w hS hW => hK a w ⟨hS, hW⟩))⟩
theorem wpAnyL_done {listed : Array Bool} {a : Act} {w : World} (hr : Region.ready md ops listed = []) (h : Q .normal a w) : ∀ fuel, wpAnyL P md ops Q S z fuel listed a w
  | 0 => ⟨hr, h⟩
  | _ + 1 => ⟨fun _ => h, by rw [hr]; simp⟩
theorem wp_region_L {id : Nat} {a : Act} {w : World} (hm : P.follows .mixedOrders = true) (h : wpAnyL P .any ops Q S z ops.size (Array.replicate ops.size false) a w.drew) : (Code.region id ops true).wp P Q a w :=
  wp_region_any hm (wpAny_of_L _ _ _ _ h)
theorem region_in_L {l n id : Nat} {os : List Oper} {a : Act} {w : World} (hd : noDefer os = true) (hno : ¬ LetsOut Q) (hm : P.follows .mixedOrders = true)
    (h : wpAnyL P .any os.toArray Q S z os.toArray.size (Array.replicate os.toArray.size false) a w.drew) : (Code.region id os.toArray true).wpIn (Fence.wide.inRound l) n P Q a w :=
  wpIn_region_any hm (any_in l n .any hno (by simpa using hd) _ _ _ _ (wpAny_of_L _ _ _ _ h))
end
end Go.Proofs.YtmbdhngoldganaaGreatDoor.Sh
