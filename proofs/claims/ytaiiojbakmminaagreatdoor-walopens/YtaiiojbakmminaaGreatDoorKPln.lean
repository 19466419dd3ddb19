/- A slice of things of so many cells each that grows, or nil: what it holds, and appending to it; all but its own block is as it was. A disk plainly: files by their names, where a name stands, and what laying a file does. -/
import Derived.Test.YtaiiojbakmminaaGreatDoorRow
import Derived.Test.YtaiiojbakmminaaGreatDoorProg
import Derived.Deep.AppendSrc
import Derived.Lib.AppendZeros
import Derived.Lib.Overlaps
import Derived.Lib.SliceRun
import Derived.Laws.Externs
import Derived.Sort.Walk0
import Derived.Lib.Bytealg
namespace Go.Proofs.YtaiiojbakmminaaGreatDoor
open Go Go.RowKit
theorem flat_len {k : Nat} : ∀ {l : List (List Value)}, (∀ x ∈ l, x.length = k) → l.flatten.length = l.length * k
  | [], _ => by simp
  | x :: r, h => by
    rw [List.flatten_cons, List.length_append, flat_len (fun y hy => h y (List.mem_cons_of_mem _ hy)), h x (List.mem_cons_self ..), List.length_cons, Nat.succ_mul]
    omega
theorem flat_get {k : Nat} : ∀ {l : List (List Value)} (_ : ∀ x ∈ l, x.length = k) (i : Nat) (hi : i < l.length) (j : Nat) (v : Value), (l[i])[j]? = some v → l.flatten[i * k + j]? = some v
  | x :: r, h, 0, _, j, v, hv => by
    have hj : j < x.length := (List.getElem?_eq_some_iff.1 hv).1
    rw [List.flatten_cons, Nat.zero_mul, Nat.zero_add, List.getElem?_append_left hj]
    exact hv
  | x :: r, h, i + 1, hi, j, v, hv => by
    have hx := h x (List.mem_cons_self ..)
    rw [List.flatten_cons, List.getElem?_append_right (by rw [hx, Nat.succ_mul]; omega), hx, show (i + 1) * k + j - k = i * k + j by rw [Nat.succ_mul]; omega]
    exact flat_get (fun y hy => h y (List.mem_cons_of_mem _ hy)) i (by simpa using hi) j v hv
/-- Block g holds a slice's things l, of k cells each, with room for cap. -/
structure GS (w : World) (t : TypeId) (k g cap : Nat) (l : List (List Value)) : Prop where
  out : ∃ cur : Array Value, w.heap[g]? = some (.cells cur t (0, 0)) ∧ l.length ≤ cap ∧ cap * k ≤ cur.size ∧ ∀ (j : Nat) (v : Value), l.flatten[j]? = some v → cur[j]? = some v
/-- The value sl is a slice of the things l, from block lo on, or nil where there are none. -/
def GL (w : World) (t : TypeId) (k lo : Nat) (sl : Value) (l : List (List Value)) : Prop :=
  (∀ x ∈ l, x.length = k) ∧ ((l = [] ∧ sl = .slice none 0 0) ∨ ∃ g cap, lo ≤ g ∧ sl = .slice (some ⟨g, 0, none⟩) l.length cap ∧ GS w t k g cap l)
/-- The block that a slice lies in. -/
def slBlk : Value → Option Nat
  | .slice (some a) _ _ => some a.block
  | _ => none
theorem GS.lt {w : World} {t : TypeId} {k g cap : Nat} {l : List (List Value)} (h : GS w t k g cap l) : g < w.heap.size := by
  obtain ⟨cur, h1, _⟩ := h.out
  exact (Array.getElem?_eq_some_iff.1 h1).1
theorem GS.cell {w : World} {t : TypeId} {k g cap : Nat} {l : List (List Value)} (h : GS w t k g cap l) (j : Nat) (v : Value) (hv : l.flatten[j]? = some v) : w.cell? ⟨g, j, none⟩ = some v := by
  obtain ⟨cur, h1, _, _, h4⟩ := h.out
  simp [World.cell?, h1, h4 j v hv]
theorem GS.grown {w w' : World} {t : TypeId} {k g cap : Nat} {l : List (List Value)} {row : Option Nat} (h : GS w t k g cap l) (hb : w.grownBy w' row) (hr : some g ≠ row) : GS w' t k g cap l := by
  obtain ⟨cur, h1, hr'⟩ := h.out
  exact ⟨cur, by rw [hb.block g h.lt hr]; exact h1, hr'⟩
theorem GL.nil (w : World) (t : TypeId) (k lo : Nat) : GL w t k lo (.slice none 0 0) [] := ⟨(fun _ hx => nomatch hx), .inl ⟨rfl, rfl⟩⟩
theorem GL.lt {w : World} {t : TypeId} {k lo : Nat} {sl : Value} {l : List (List Value)} (h : GL w t k lo sl l) : ∀ r, slBlk sl = some r → lo ≤ r ∧ r < w.heap.size := fun r e => by
  rcases h.2 with ⟨_, rfl⟩ | ⟨g, cap, h1, rfl, h3⟩
  · cases e
  · cases e
    exact ⟨h1, h3.lt⟩
theorem GL.grown {w w' : World} {t : TypeId} {k lo : Nat} {sl : Value} {l : List (List Value)} {row : Option Nat} (h : GL w t k lo sl l) (hb : w.grownBy w' row) (hr : ∀ r, slBlk sl = some r → some r ≠ row) : GL w' t k lo sl l := by
  refine ⟨h.1, ?_⟩
  rcases h.2 with h | ⟨g, cap, h1, rfl, h3⟩
  · exact .inl h
  · exact .inr ⟨g, cap, h1, rfl, h3.grown hb (hr g rfl)⟩
theorem GL.below {w w' : World} {t : TypeId} {k lo : Nat} {sl : Value} {l : List (List Value)} (h : GL w t k lo sl l) (hb : Below w.heap.size w w') : GL w' t k lo sl l := h.grown (row := none) (grown_of_below hb) (fun _ _ e => nomatch e)
theorem GL.drew {w : World} {t : TypeId} {k lo : Nat} {sl : Value} {l : List (List Value)} (h : GL w t k lo sl l) : GL w.drew t k lo sl l := h.below (Below.refl _ _).drew
/-- A block of another kind is not the slice's. -/
theorem GL.ne {w : World} {t ty : TypeId} {k lo i : Nat} {sl : Value} {l : List (List Value)} {c : Array Value} (h : GL w t k lo sl l) (hb : Blk w i c ty) (ht : ty ≠ t ∨ i < lo) : ∀ r, slBlk sl = some r → some r ≠ some i := fun r e e2 => by
  have e2 := Option.some.inj e2
  subst e2
  rcases ht with ht | ht
  · rcases h.2 with ⟨_, rfl⟩ | ⟨g, cap, h1, rfl, h3⟩
    · cases e
    · cases e
      obtain ⟨cur, h4, _⟩ := h3.out
      have h5 := hb.out
      rw [h4] at h5
      simp only [Option.some.injEq, Obj.cells.injEq] at h5
      exact ht h5.2.1.symm
  · have := (h.lt r e).1
    omega
theorem GL.cells {w : World} {t : TypeId} {k lo : Nat} {sl : Value} {l : List (List Value)} (h : GL w t k lo sl l) : sl.cells = #[sl] ∧ sl.oneCell' = true := by
  rcases h.2 with ⟨_, rfl⟩ | ⟨g, cap, _, rfl, _⟩
  · exact ⟨rfl, rfl⟩
  · exact ⟨rfl, rfl⟩
theorem GL.sl {w : World} {t : TypeId} {k lo : Nat} {sl : Value} {l : List (List Value)} (h : GL w t k lo sl l) : ∃ a cap, sl = .slice a l.length cap ∧ ∀ i (hi : i < l.length), ∃ g, a = some ⟨g, 0, none⟩ ∧ ∀ j v, (l[i])[j]? = some v → w.cell? ⟨g, i * k + j, none⟩ = some v := by
  rcases h.2 with ⟨rfl, rfl⟩ | ⟨g, cap, _, rfl, h3⟩
  · exact ⟨none, 0, rfl, fun i hi => by simp at hi⟩
  · exact ⟨_, cap, rfl, fun i hi => ⟨g, rfl, fun j v hv => h3.cell _ _ (flat_get h.1 i hi j v hv)⟩⟩
section
variable {P : Program} {ops : Array Oper} {rest : List Oper} {op : Oper} {a : Act} {w : World} {Q : Exit → Act → World → Prop} {K : Act → World → Prop} {E : Prop}
theorem run_appendGL (st ty t : TypeId) (k lo : Nat) (sl : Value) (l : List (List Value)) (hlo : lo ≤ w.heap.size) (hsl : GL w t k lo sl l) (g2 c : Nat) (o : List Value) (hok : o.length = k) (ho1 : ∀ u ∈ o, u.oneCell' = true) (t2 : TypeId) (hb2 : Blk w g2 o.toArray t2) (i : TypeInfo) (z : Value) (hz1 : z.cells.size = k)
    (hu : P.underlying st = some (.slice t)) (hi : P.info? t = some i) (hz : i.zero = some z) (hs : i.size = k) (hby : i.bytes ≤ 256) (hlen : l.length ≤ 1000000) :
    ∃ (w1 : World) (sl1 : Value), (Builtin.append_ #[st, st] ty #[sl, .slice (some ⟨g2, 0, none⟩) 1 c]).run P w = .ok sl1 w1 ∧ w.grownBy w1 (slBlk sl) ∧ GL w1 t k lo sl1 (l ++ [o]) ∧ (∀ r, slBlk sl1 = some r → slBlk sl = some r ∨ w.heap.size ≤ r) := by
  have hsrc : Src P i.size st (.slice (some ⟨g2, 0, none⟩) 1 c) 1 o w :=
    Src.ofSlice w hu ⟨g2, 0, none⟩ 1 c _ (by rw [hs, Nat.one_mul]; exact hok) (fun j u hj => by
      rw [Addr.add_mid, Nat.zero_add, hb2.cell]
      simpa using hj)
      ho1
  have hall : ∀ x ∈ l ++ [o], x.length = k := fun x hx => by
    rcases List.mem_append.1 hx with hx | hx
    · exact hsl.1 x hx
    · rw [List.mem_singleton.1 hx]; exact hok
  have hfl := flat_len hsl.1
  have hfs : (l ++ [o]).flatten = l.flatten ++ o := by simp
  have hgrow : ∀ (base : Option Addr) (cap : Nat), cap < l.length + 1 → (Builtin.firstCells i.size l.length (.slice base l.length cap)).run P w.drew = .ok l.flatten.toArray w.drew →
      ∃ (w1 : World) (sl1 : Value), (Builtin.append_ #[st, st] ty #[.slice base l.length cap, .slice (some ⟨g2, 0, none⟩) 1 c]).run P w = .ok sl1 w1 ∧ w.grownBy w1 (slBlk (.slice base l.length cap)) ∧ GL w1 t k lo sl1 (l ++ [o]) ∧ (∀ r, slBlk sl1 = some r → slBlk (.slice base l.length cap) = some r ∨ w.heap.size ≤ r) := by
    intro base cap hcap hold
    have hr := run_append_grow_src (P := P) w st st ty t i _ hu hi hz base l.length cap _ hold _ 1 _ hsrc hcap (by omega) (growslice_fits hcap (Nat.le_trans (Nat.mul_le_mul (show l.length + 1 ≤ 1000001 by omega) hby) (by decide)))
    have hge : l.length + 1 ≤ grownCap w (l.length + 1) cap t := grownCap_ge w _ _ _
    refine ⟨_, _, hr, grown_of_below ((Below.refl w.heap.size w).drew.alloc (Nat.le_refl _) _), ⟨hall, .inr ⟨w.heap.size, _, hlo, by rw [List.length_append]; rfl, ?_⟩⟩, fun r hr2 => .inr (Nat.le_of_eq (Option.some.inj hr2))⟩
    refine ⟨_, heap_alloc_last w.drew _, by rw [List.length_append]; exact hge, ?_, ?_⟩
    · simp only [Array.size_append, List.size_toArray, List.length_append, hfl, hok, size_zeroCells, hz1]
      have h9 : grownCap w (l.length + 1) cap t * k = l.length * k + k + (grownCap w (l.length + 1) cap t - (l.length + 1)) * k := by
        rw [Nat.sub_mul, Nat.succ_mul]
        have := Nat.mul_le_mul_right k hge
        rw [Nat.succ_mul] at this
        omega
      omega
    · intro j v hj
      rw [hfs] at hj
      have hjl := (List.getElem?_eq_some_iff.1 hj).1
      rw [Array.getElem?_append_left (by simpa using hjl)]
      simpa using hj
  rcases hsl.2 with ⟨rfl, rfl⟩ | ⟨g, cap, hg, rfl, hS⟩
  · exact hgrow none 0 (by simp) (run_firstCells_none (w := w.drew) i.size 0 0 0)
  · by_cases hroom : l.length + 1 ≤ cap
    · obtain ⟨cur, h1, h2, h4, h5⟩ := hS.out
      have hmul : l.length * k + k ≤ cur.size := by
        have := Nat.mul_le_mul_right k hroom
        rw [Nat.succ_mul] at this
        omega
      have hcell : ∀ j, j < o.length → (w.cell? ⟨g, l.length * k + j, none⟩).isSome = true := fun j hj => by
        simp only [World.cell?, h1]
        rw [Array.getElem?_eq_getElem (by omega)]; rfl
      have hfro : ∀ j, j < o.length → w.frozen? ⟨g, l.length * k + j, none⟩ = false := fun j hj => by
        simp [World.frozen?, h1]
      have hr := run_append_room_src (P := P) w st st ty t i hu hi g 0 l.length cap _ 1 _ hsrc hroom
        (fun j hj => by rw [hs, Nat.zero_add]; exact hcell j hj)
        (fun j hj => by rw [hs, Nat.zero_add]; exact hfro j hj)
      rw [hs, Nat.zero_add] at hr
      have hgr := grown_setCells g o (l.length * k) w
      refine ⟨_, _, hr, hgr, ⟨hall, .inr ⟨g, cap, hg, by rw [List.length_append]; rfl, ?_⟩⟩, fun r hr2 => .inl hr2⟩
      have hblk : Blk w g cur t := ⟨h1⟩
      refine ⟨_, (hblk.setCells o (l.length * k)).out, by rw [List.length_append]; exact hroom, by rw [spl_size]; exact h4, ?_⟩
      intro j v hj
      rw [spl_get _ _ _ _ (by rw [hok]; exact hmul), hok]
      rw [hfs] at hj
      by_cases hjl : j < l.length * k
      · rw [if_neg (by omega)]
        rw [List.getElem?_append_left (by rw [hfl]; exact hjl)] at hj
        exact h5 j v hj
      · have hj3 := (List.getElem?_eq_some_iff.1 hj).1
        rw [List.length_append, hfl, hok] at hj3
        rw [if_pos (by omega)]
        rw [List.getElem?_append_right (by rw [hfl]; omega), hfl] at hj
        exact hj
    · exact hgrow (some ⟨g, 0, none⟩) cap (by omega) (run_firstCells_some w.drew i.size l.length ⟨g, 0, none⟩ l.length cap _ (by rw [hfl, hs]) (fun j u hj => by
        rw [Addr.add_mid, Nat.zero_add]
        exact (GS.grown hS (row := none) (grown_of_below ((Below.refl w.heap.size w).drew)) (fun e => nomatch e)).cell j u hj))
theorem wpList_appendGL (hgd : op.guard = none) (x y : Operand) (st t : TypeId) (ho : op.op = .call { callee := .builtin .append, args := #[x, y], argTypes := #[st, st] })
    (k lo : Nat) (sl : Value) (l : List (List Value)) (hlo : lo ≤ w.heap.size) (hx : a.eval x = sl) (hsl : GL w t k lo sl l) (g2 c : Nat) (hy : a.eval y = .slice (some ⟨g2, 0, none⟩) 1 c) (o : List Value) (hok : o.length = k) (ho1 : ∀ u ∈ o, u.oneCell' = true) (t2 : TypeId) (hb2 : Blk w g2 o.toArray t2) (i : TypeInfo) (z : Value) (hz1 : z.cells.size = k)
    (hu : P.underlying st = some (.slice t)) (hi : P.info? t = some i) (hz : i.zero = some z) (hs : i.size = k) (hby : i.bytes ≤ 256) (hlen : l.length ≤ 1000000)
    (h : ∀ (w1 : World) (sl1 : Value), w.grownBy w1 (slBlk sl) → GL w1 t k lo sl1 (l ++ [o]) → wpList P ops Q rest (a.put op.dst sl1) w1) : wpList P ops Q (op :: rest) a w := by
  obtain ⟨w1, sl1, hr, hb, hl, _⟩ := run_appendGL (P := P) (w := w) st op.type t k lo sl l hlo hsl g2 c o hok ho1 t2 hb2 i z hz1 hu hi hz hs hby hlen
  refine wpList_run hgd _ _ ?_ (h w1 sl1 hb hl)
  unfold execOp
  simp only [ho]
  simp [resolve, invoke, builtin, hx, hy, hr, Result.andThen]
end
end Go.Proofs.YtaiiojbakmminaaGreatDoor
namespace Go.Proofs.YtaiiojbakmminaaGreatDoor
open Go Go.RowKit
abbrev B := List UInt8
/-- A file: its name, what it is, what it is sure to be, what was last done to it. -/
structure F where
  name : B
  is : Option B
  sure : Option B
  last : Nat
theorem lt_irr (a : B) : ¬ a < a := List.lt_irrefl a
theorem lt_tr {a b c : B} (h : a < b) (k : b < c) : a < c := List.lt_trans h k
theorem lt_as {a b : B} (h : a < b) : ¬ b < a := List.lt_asymm h
theorem lt_tot {a b : B} (h : a ≠ b) (k : ¬ a < b) : b < a := by
  have h1 : b ≤ a := List.not_lt.1 k
  by_cases h2 : b < a
  · exact h2
  · exact absurd (List.le_antisymm (List.not_lt.1 h2) h1) h
theorem lt_ne {a b : B} (h : a < b) : a ≠ b := fun e => lt_irr b (e ▸ h)
theorem cmp_lt : ∀ a b : B, (Lib.compareBytes a b < 0) ↔ a < b
  | [], [] => by simp [Lib.compareBytes]
  | [], _ :: _ => by simp [Lib.compareBytes]
  | _ :: _, [] => by simp [Lib.compareBytes]
  | a :: x, b :: y => by
    rw [Lib.compareBytes, List.cons_lt_cons_iff]
    by_cases h1 : a < b
    · simp [h1]
    · rw [if_neg h1]
      by_cases h2 : b < a
      · rw [if_pos h2]
        have : a ≠ b := fun e => by subst e; exact absurd h2 h1
        simp [h1, this]
      · rw [if_neg h2, cmp_lt x y]
        have : a = b := UInt8.le_antisymm (UInt8.not_lt.1 h2) (UInt8.not_lt.1 h1)
        simp [this]
theorem cmp_eq0 : ∀ a b : B, (Lib.compareBytes a b = 0) ↔ a = b
  | [], [] => by simp [Lib.compareBytes]
  | [], _ :: _ => by simp [Lib.compareBytes]
  | _ :: _, [] => by simp [Lib.compareBytes]
  | a :: x, b :: y => by
    rw [Lib.compareBytes, List.cons.injEq]
    by_cases h1 : a < b
    · rw [if_pos h1]
      have : a ≠ b := fun e => by subst e; exact absurd h1 (UInt8.lt_irrefl a)
      simp [this]
    · rw [if_neg h1]
      by_cases h2 : b < a
      · rw [if_pos h2]
        have : a ≠ b := fun e => by subst e; exact absurd h2 h1
        simp [this]
      · rw [if_neg h2, cmp_eq0 x y]
        have : a = b := UInt8.le_antisymm (UInt8.not_lt.1 h2) (UInt8.not_lt.1 h1)
        simp [this]
/-- The files stand by their names. -/
def Ris (l : List F) : Prop := l.Pairwise fun a b => a.name < b.name
/-- Where a name stands, or would stand. -/
def plc (n : B) : List F → Nat
  | [] => 0
  | f :: r => if f.name < n then plc n r + 1 else 0
def fnd (n : B) (l : List F) : Bool := match l[plc n l]? with
  | some f => f.name == n
  | none => false
theorem plc_le (n : B) : ∀ l : List F, plc n l ≤ l.length
  | [] => Nat.le_refl _
  | f :: r => by
    have := plc_le n r
    unfold plc
    split <;> simp <;> omega
theorem plc_lt (n : B) : ∀ (l : List F) (i : Nat) (f : F), i < plc n l → l[i]? = some f → f.name < n
  | [], _, _, h, _ => by simp [plc] at h
  | x :: r, 0, f, h, e => by
    simp only [List.getElem?_cons_zero, Option.some.injEq] at e
    subst e
    unfold plc at h
    split at h
    · assumption
    · omega
  | x :: r, i + 1, f, h, e => by
    unfold plc at h
    split at h
    · exact plc_lt n r i f (by omega) (by simpa using e)
    · omega
theorem plc_ge (n : B) : ∀ (l : List F), Ris l → ∀ (i : Nat) (f : F), plc n l ≤ i → l[i]? = some f → ¬ f.name < n
  | [], _, _, _, _, e => by simp at e
  | x :: r, hr, i, f, h, e => by
    have hr2 := List.pairwise_cons.1 hr
    unfold plc at h
    split at h
    · cases i with
      | zero => omega
      | succ i => exact plc_ge n r hr2.2 i f (by omega) (by simpa using e)
    · rename_i hx
      cases i with
      | zero =>
        simp only [List.getElem?_cons_zero, Option.some.injEq] at e
        subst e
        exact hx
      | succ i =>
        have h1 := hr2.1 f (List.mem_of_getElem? (by simpa using e))
        exact fun h2 => hx (lt_tr h1 h2)
/-- What the file of a name is. -/
def atL (n : B) (l : List F) : Option B := if fnd n l = true then (l[plc n l]?).bind (·.is) else none
def gone (f : F) : Bool := !f.is.isSome && !f.sure.isSome
def ins (n : B) (l : List F) : List F := if fnd n l = true then l else l.take (plc n l) ++ ⟨n, none, none, 0⟩ :: l.drop (plc n l)
def kupd (c : Option B) (h : Nat) (f : F) : F := { f with is := c, last := h }
def lay (n : B) (c : Option B) (h : Nat) (l : List F) : List F :=
  let l2 := (ins n l).modify (plc n l) (kupd c h)
  if (l2[plc n l]?).any gone = true then l2.eraseIdx (plc n l) else l2
theorem split_at (n : B) (l : List F) (hr : Ris l) : ∃ A T, l = A ++ T ∧ plc n l = A.length ∧ (∀ x ∈ A, x.name < n) ∧ ((fnd n l = true ∧ ∃ f R, T = f :: R ∧ f.name = n ∧ ∀ x ∈ R, n < x.name) ∨ (fnd n l = false ∧ ∀ x ∈ T, n < x.name)) := by
  refine ⟨l.take (plc n l), l.drop (plc n l), (List.take_append_drop _ _).symm, by rw [List.length_take, Nat.min_eq_left (plc_le n l)], ?_, ?_⟩
  · intro x hx
    obtain ⟨i, hi⟩ := List.mem_iff_getElem?.1 hx
    rw [List.getElem?_take] at hi
    split at hi
    · exact plc_lt n l i x (by assumption) hi
    · cases hi
  · have hge : ∀ x ∈ l.drop (plc n l), ¬ x.name < n := fun x hx => by
      obtain ⟨i, hi⟩ := List.mem_iff_getElem?.1 hx
      rw [List.getElem?_drop] at hi
      exact plc_ge n l hr _ x (Nat.le_add_right _ _) hi
    have hd : (l.drop (plc n l)).Pairwise fun a b => a.name < b.name := hr.sublist (List.drop_sublist _ _)
    unfold fnd
    cases hT : l.drop (plc n l) with
    | nil =>
      have : l[plc n l]? = none := by
        have h1 := congrArg (·[0]?) hT
        simpa [List.getElem?_drop] using h1
      rw [this]
      exact .inr ⟨rfl, fun x hx => by cases hx⟩
    | cons f R =>
      have h0 : l[plc n l]? = some f := by
        have h1 := congrArg (·[0]?) hT
        rw [List.getElem?_drop] at h1
        simpa using h1
      rw [h0]
      rw [hT] at hd hge
      have hd2 := List.pairwise_cons.1 hd
      by_cases e : f.name = n
      · exact .inl ⟨by simp [e], f, R, rfl, e, fun x hx => e ▸ hd2.1 x hx⟩
      · refine .inr ⟨by simp [e], fun x hx => ?_⟩
        have h3 : n < f.name := lt_tot e (hge f (List.mem_cons_self ..))
        rcases List.mem_cons.1 hx with rfl | hx
        · exact h3
        · exact lt_tr h3 (hd2.1 x hx)
theorem lay_found {n : B} {c : Option B} {h : Nat} {A R : List F} {f : F} (hf : fnd n (A ++ f :: R) = true) (hp : plc n (A ++ f :: R) = A.length) : lay n c h (A ++ f :: R) = if gone (kupd c h f) = true then A ++ R else A ++ kupd c h f :: R := by
  have e1 : (A ++ f :: R).modify A.length (kupd c h) = A ++ kupd c h f :: R := by
    rw [List.modify_eq_take_cons_drop (by simp)]
    simp
  unfold lay ins
  rw [hp, if_pos hf]
  dsimp only
  rw [e1]
  simp [List.eraseIdx_append_of_length_le]
theorem lay_new {n : B} {c : Option B} {h : Nat} {A R : List F} (hf : fnd n (A ++ R) = false) (hp : plc n (A ++ R) = A.length) : lay n c h (A ++ R) = if c.isSome = false then A ++ R else A ++ ⟨n, c, none, h⟩ :: R := by
  have e1 : (A ++ ⟨n, none, none, 0⟩ :: R).modify A.length (kupd c h) = A ++ ⟨n, c, none, h⟩ :: R := by
    rw [List.modify_eq_take_cons_drop (by simp)]
    simp [kupd]
  unfold lay ins
  rw [hp, if_neg (c := fnd n (A ++ R) = true) (by simp [hf])]
  dsimp only
  rw [List.take_left' rfl, List.drop_left' rfl, e1]
  simp [List.eraseIdx_append_of_length_le, gone]
/-- What there is, by a view on files. -/
def viewL (v : F → Option B) (l : List F) : List (B × B) := l.filterMap fun f => (v f).map fun s => (f.name, s)
def nowL (l : List F) : List (B × B) := viewL (·.is) l
def sureL (l : List F) : List (B × B) := viewL (·.sure) l
theorem view_mem {v : F → Option B} {l : List F} {x : B × B} (h : x ∈ viewL v l) : ∃ f ∈ l, f.name = x.1 ∧ v f = some x.2 := by
  obtain ⟨f, hf, e⟩ := List.mem_filterMap.1 h
  obtain ⟨s, hs, rfl⟩ := Option.map_eq_some_iff.1 e
  exact ⟨f, hf, rfl, hs⟩
theorem view_app (v : F → Option B) (l r : List F) : viewL v (l ++ r) = viewL v l ++ viewL v r := List.filterMap_append
theorem view_cons (v : F → Option B) (f : F) (r : List F) : viewL v (f :: r) = ((v f).map fun s => (f.name, s)).toList ++ viewL v r := by
  unfold viewL
  rw [List.filterMap_cons]
  cases v f <;> rfl
def insP (x : B × B) : List (B × B) → List (B × B)
  | [] => [x]
  | y :: r => if x.1 < y.1 then x :: y :: r else y :: insP x r
def woP (n : B) (l : List (B × B)) : List (B × B) := l.filter fun x => !(x.1 == n)
def wiP (x : B × B) (l : List (B × B)) : List (B × B) := insP x (woP x.1 l)
theorem insP_mid (x : B × B) : ∀ (A R : List (B × B)), (∀ y ∈ A, y.1 < x.1) → (∀ y ∈ R, x.1 < y.1) → insP x (A ++ R) = A ++ x :: R
  | [], [], _, _ => rfl
  | [], y :: R, _, h => by
    rw [List.nil_append, insP, if_pos (h y (List.mem_cons_self ..))]
    rfl
  | y :: A, R, h, k => by
    rw [List.cons_append, insP, if_neg (lt_as (h y (List.mem_cons_self ..))), insP_mid x A R (fun z hz => h z (List.mem_cons_of_mem _ hz)) k]
    rfl
theorem woP_all {n : B} {l : List (B × B)} (h : ∀ y ∈ l, y.1 ≠ n) : woP n l = l := by
  unfold woP
  rw [List.filter_eq_self]
  intro y hy
  simp [h y hy]
theorem woP_app (n : B) (l r : List (B × B)) : woP n (l ++ r) = woP n l ++ woP n r := List.filter_append ..
theorem woP_mid {n : B} {A M R : List (B × B)} (h1 : ∀ y ∈ A, y.1 < n) (h2 : ∀ y ∈ M, y.1 = n) (h3 : ∀ y ∈ R, n < y.1) : woP n (A ++ (M ++ R)) = A ++ R := by
  rw [woP_app, woP_app, woP_all (fun y hy => lt_ne (h1 y hy)), woP_all (fun y hy e => lt_ne (h3 y hy) e.symm)]
  have : woP n M = [] := by
    unfold woP
    rw [List.filter_eq_nil_iff]
    intro y hy
    simp [h2 y hy]
  rw [this]
  rfl
/-- What is there behind laying a file. -/
def putP (n : B) (c : Option B) (l : List (B × B)) : List (B × B) := match c with
  | some s => wiP (n, s) l
  | none => woP n l
theorem putP_mid {n : B} {c : Option B} {A M R : List (B × B)} (h1 : ∀ y ∈ A, y.1 < n) (h2 : ∀ y ∈ M, y.1 = n) (h3 : ∀ y ∈ R, n < y.1) : putP n c (A ++ (M ++ R)) = A ++ ((c.map fun s => (n, s)).toList ++ R) := by
  cases c with
  | none =>
    show woP n _ = _
    rw [woP_mid h1 h2 h3]
    rfl
  | some s =>
    show insP (n, s) (woP n _) = _
    rw [woP_mid h1 h2 h3, insP_mid (n, s) A R h1 h3]
    rfl
theorem view_lt {v : F → Option B} {n : B} {A : List F} (h : ∀ x ∈ A, x.name < n) : ∀ y ∈ viewL v A, y.1 < n := fun y hy => by
  obtain ⟨f, hf, e, _⟩ := view_mem hy
  exact e ▸ h f hf
theorem view_gt {v : F → Option B} {n : B} {A : List F} (h : ∀ x ∈ A, n < x.name) : ∀ y ∈ viewL v A, n < y.1 := fun y hy => by
  obtain ⟨f, hf, e, _⟩ := view_mem hy
  exact e ▸ h f hf
theorem gone_upd {c : Option B} {h : Nat} {f : F} : gone (kupd c h f) = true ↔ c = none ∧ f.sure = none := by
  unfold gone kupd
  cases c <;> cases f.sure <;> simp
theorem lay_now (n : B) (c : Option B) (h : Nat) (l : List F) (hr : Ris l) : nowL (lay n c h l) = putP n c (nowL l) := by
  obtain ⟨A, T, rfl, hp, hA, ⟨hf, f, R, rfl, hn, hR⟩ | ⟨hf, hT⟩⟩ := split_at n l hr
  · rw [lay_found hf hp]
    unfold nowL
    rw [view_app, view_cons, putP_mid (view_lt hA) (fun y hy => by
      obtain ⟨s, hs, rfl⟩ := Option.map_eq_some_iff.1 (Option.mem_toList.1 hy)
      exact hn) (view_gt hR)]
    split
    · rename_i hg
      rw [(gone_upd.1 hg).1, view_app]
      rfl
    · rw [view_app, view_cons]
      show _ ++ ((c.map fun s => (f.name, s)).toList ++ _) = _
      rw [hn]
  · rw [lay_new hf hp]
    unfold nowL
    rw [view_app]
    have := putP_mid (c := c) (M := []) (view_lt (v := (·.is)) hA) (fun y hy => by cases hy) (view_gt (v := (·.is)) hT)
    rw [List.nil_append] at this
    rw [this]
    cases c with
    | none => rw [if_pos (by rfl), view_app]; rfl
    | some s => rw [if_neg (by simp), view_app, view_cons]
theorem lay_sure (n : B) (c : Option B) (h : Nat) (l : List F) (hr : Ris l) : sureL (lay n c h l) = sureL l := by
  obtain ⟨A, T, rfl, hp, hA, ⟨hf, f, R, rfl, hn, hR⟩ | ⟨hf, hT⟩⟩ := split_at n l hr
  · rw [lay_found hf hp]
    unfold sureL
    rw [view_app, view_cons]
    split
    · rename_i hg
      rw [(gone_upd.1 hg).2, view_app]
      rfl
    · rw [view_app, view_cons]
      rfl
  · rw [lay_new hf hp]
    unfold sureL
    cases c with
    | none => rw [if_pos (by rfl)]
    | some s => rw [if_neg (by simp), view_app, view_app, view_cons]; rfl
theorem ris_app {A R : List F} : Ris (A ++ R) ↔ Ris A ∧ Ris R ∧ ∀ x ∈ A, ∀ y ∈ R, x.name < y.name := List.pairwise_append
theorem ris_cons {f : F} {R : List F} : Ris (f :: R) ↔ (∀ y ∈ R, f.name < y.name) ∧ Ris R := List.pairwise_cons
/-- What stays of all files: their names rise, may be, and none is gone. -/
structure Okl (ok : B → Bool) (l : List F) : Prop where
  ris : Ris l
  ok : ∀ f ∈ l, ok f.name = true
  live : ∀ f ∈ l, gone f = false
theorem mem_skip {A R : List F} {f g : F} (h : g ∈ A ++ R) : g ∈ A ++ f :: R := by
  rcases List.mem_append.1 h with h | h
  · exact List.mem_append_left _ h
  · exact List.mem_append_right _ (List.mem_cons_of_mem _ h)
theorem lay_ok {ok : B → Bool} {n : B} {c : Option B} {h : Nat} {l : List F} (hl : Okl ok l) (hn : ok n = true) : Okl ok (lay n c h l) := by
  obtain ⟨A, T, rfl, hp, hA, ⟨hf, f, R, rfl, hn2, hR⟩ | ⟨hf, hT⟩⟩ := split_at n l hl.ris
  · obtain ⟨r1, r2, r3⟩ := ris_app.1 hl.ris
    obtain ⟨r4, r5⟩ := ris_cons.1 r2
    rw [lay_found hf hp]
    split
    · exact ⟨ris_app.2 ⟨r1, r5, fun x hx y hy => r3 x hx y (List.mem_cons_of_mem _ hy)⟩, fun g hg => hl.ok g (mem_skip hg), fun g hg => hl.live g (mem_skip hg)⟩
    · rename_i hg
      refine ⟨ris_app.2 ⟨r1, ris_cons.2 ⟨r4, r5⟩, fun x hx y hy => ?_⟩, fun g hgm => ?_, fun g hgm => ?_⟩
      · rcases List.mem_cons.1 hy with rfl | hy
        · exact r3 x hx f (List.mem_cons_self ..)
        · exact r3 x hx y (List.mem_cons_of_mem _ hy)
      · rcases List.mem_append.1 hgm with h1 | h1
        · exact hl.ok g (List.mem_append_left _ h1)
        · rcases List.mem_cons.1 h1 with rfl | h1
          · exact hl.ok f (by simp)
          · exact hl.ok g (by simp [h1])
      · rcases List.mem_append.1 hgm with h1 | h1
        · exact hl.live g (List.mem_append_left _ h1)
        · rcases List.mem_cons.1 h1 with rfl | h1
          · simpa using hg
          · exact hl.live g (by simp [h1])
  · obtain ⟨r1, r2, r3⟩ := ris_app.1 hl.ris
    rw [lay_new hf hp]
    cases c with
    | none => rw [if_pos (by rfl)]; exact hl
    | some s =>
      rw [if_neg (by simp)]
      refine ⟨ris_app.2 ⟨r1, ris_cons.2 ⟨hT, r2⟩, fun x hx y hy => ?_⟩, fun g hgm => ?_, fun g hgm => ?_⟩
      · rcases List.mem_cons.1 hy with rfl | hy
        · exact hA x hx
        · exact r3 x hx y hy
      · rcases List.mem_append.1 hgm with h1 | h1
        · exact hl.ok g (List.mem_append_left _ h1)
        · rcases List.mem_cons.1 h1 with rfl | h1
          · exact hn
          · exact hl.ok g (by simp [h1])
      · rcases List.mem_append.1 hgm with h1 | h1
        · exact hl.live g (List.mem_append_left _ h1)
        · rcases List.mem_cons.1 h1 with rfl | h1
          · rfl
          · exact hl.live g (by simp [h1])
theorem lay_len (n : B) (c : Option B) (h : Nat) (l : List F) (hr : Ris l) : (lay n c h l).length ≤ l.length + 1 := by
  obtain ⟨A, T, rfl, hp, hA, ⟨hf, f, R, rfl, hn, hR⟩ | ⟨hf, hT⟩⟩ := split_at n l hr
  · rw [lay_found hf hp]; split <;> simp <;> omega
  · rw [lay_new hf hp]; split <;> simp <;> omega
/-- Which of those there are has a name. -/
def getP (n : B) (l : List (B × B)) : Option B := (l.find? fun x => x.1 == n).map (·.2)
theorem getP_mid {n : B} {c : Option B} {A R : List (B × B)} (h1 : ∀ y ∈ A, y.1 < n) (h3 : ∀ y ∈ R, n < y.1) : getP n (A ++ ((c.map fun s => (n, s)).toList ++ R)) = c := by
  unfold getP
  rw [List.find?_append, List.find?_eq_none.2 (fun y hy => by simpa using lt_ne (h1 y hy))]
  cases c with
  | none =>
    simp only [Option.map_none, Option.toList_none, List.nil_append, Option.none_or]
    rw [List.find?_eq_none.2 (fun y hy => by simpa using fun e => lt_ne (h3 y hy) e.symm)]
    rfl
  | some s => simp
theorem at_now (n : B) (l : List F) (hr : Ris l) : atL n l = getP n (nowL l) := by
  unfold atL
  obtain ⟨A, T, rfl, hp, hA, ⟨hf, f, R, rfl, hn, hR⟩ | ⟨hf, hT⟩⟩ := split_at n l hr
  · rw [if_pos hf, hp, List.getElem?_append_right (Nat.le_refl _), Nat.sub_self]
    unfold nowL
    rw [view_app, view_cons, hn, getP_mid (view_lt hA) (view_gt hR)]
    rfl
  · rw [if_neg (by simp [hf])]
    unfold nowL
    rw [view_app]
    exact (getP_mid (c := none) (view_lt (v := (·.is)) hA) (view_gt (v := (·.is)) hT)).symm
/-- How many bytes all files have. -/
def usedP (l : List (B × B)) : Nat := (l.map fun x => x.2.length).sum
def kbyt (c : Option B) : B := c.getD []
def usedL (l : List F) : Nat := (l.map fun f => (kbyt f.is).length).sum
theorem used_now : ∀ l : List F, usedL l = usedP (nowL l)
  | [] => rfl
  | f :: r => by
    have := used_now r
    unfold usedL usedP nowL at *
    rw [view_cons, List.map_cons, List.sum_cons, this]
    cases f.is <;> simp [kbyt]
theorem used_get {n : B} {l : List (B × B)} : (kbyt (getP n l)).length ≤ usedP l := by
  unfold getP
  cases h : l.find? fun x => x.1 == n with
  | none => simp [kbyt]
  | some x =>
    have hm := List.mem_of_find?_eq_some h
    obtain ⟨A, R, rfl⟩ := List.append_of_mem hm
    simp [kbyt, usedP]
    omega
end Go.Proofs.YtaiiojbakmminaaGreatDoor
