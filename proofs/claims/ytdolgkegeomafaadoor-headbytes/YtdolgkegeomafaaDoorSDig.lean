/- A digest in memory, and the plain mathematics of taking bytes in piece by piece. -/
import Derived.Test.YtdolgkegeomafaaDoorSByt
namespace Go.Proofs.YtdolgkegeomafaaDoor.Sh
open Go Go.RowKit

/-- The cells of a digest: eight words, a block of sixty-four bytes, how many bytes were taken in. -/
def digC (H : S8) (fb : Nat → UInt8) (t : Nat) : Array Value :=
  Array.ofFn (fun i : Fin 73 => if i.1 < 8 then Value.int .u32 (n32 (H.at i)) else if i.1 < 72 then Value.int .u8 (n8 (fb (i - 8))) else Value.int .u64 (t : Int))
theorem digC_size (H : S8) (fb : Nat → UInt8) (t : Nat) : (digC H fb t).size = 73 := by simp [digC]
theorem digC_get (H : S8) (fb : Nat → UInt8) (t j : Nat) (h : j < 73) : (digC H fb t)[j]? = some (if j < 8 then Value.int .u32 (n32 (H.at j)) else if j < 72 then Value.int .u8 (n8 (fb (j - 8))) else Value.int .u64 (t : Int)) := by
  simp [digC, h]
theorem digC_none (H : S8) (fb : Nat → UInt8) (t j : Nat) (h : 73 ≤ j) : (digC H fb t)[j]? = none := by
  simp [digC]; omega
theorem digC_words (H : S8) (fb : Nat → UInt8) (t : Nat) : (digC H fb t).extract 0 (0 + 8) = row32 H.at 8 := by
  apply Array.ext_getElem?
  intro j
  rw [Array.getElem?_extract, digC_size]
  by_cases h : j < 8
  · rw [if_pos (by omega), Nat.zero_add, digC_get _ _ _ _ (by omega), if_pos h, row32_get _ _ _ h]
  · rw [if_neg (by omega), row32_none _ _ _ (by omega)]
theorem digC_block (H : S8) (fb : Nat → UInt8) (t : Nat) : (digC H fb t).extract 8 (8 + 64) = row8 fb 64 := by
  apply Array.ext_getElem?
  intro j
  rw [Array.getElem?_extract, digC_size]
  by_cases h : j < 64
  · rw [if_pos (by omega), digC_get _ _ _ _ (by omega), if_neg (by omega), if_pos (by omega), row8_get _ _ _ h, show 8 + j - 8 = j from by omega]
  · rw [if_neg (by omega), row8_none _ _ _ (by omega)]
theorem digC_taken (H : S8) (fb : Nat → UInt8) (t : Nat) : (digC H fb t)[72]? = some (.int .u64 (t : Int)) := by
  rw [digC_get _ _ _ _ (by omega)]; rfl
theorem digC_setTaken (H : S8) (fb : Nat → UInt8) (t t' : Nat) : (digC H fb t).setIfInBounds 72 (.int .u64 (t' : Int)) = digC H fb t' := by
  apply Array.ext_getElem?
  intro j
  rw [Array.getElem?_setIfInBounds, digC_size]
  by_cases h : 72 = j
  · subst h; rw [if_pos rfl, if_pos (by omega), digC_taken]
  · rw [if_neg h]
    by_cases h2 : j < 73
    · rw [digC_get _ _ _ _ h2, digC_get _ _ _ _ h2]
      by_cases h3 : j < 8
      · rw [if_pos h3, if_pos h3]
      · rw [if_neg h3, if_neg h3, if_pos (by omega), if_pos (by omega)]
    · rw [digC_none _ _ _ _ (by omega), digC_none _ _ _ _ (by omega)]
theorem digC_setWords (H H' : S8) (fb : Nat → UInt8) (t : Nat) : spl (digC H fb t) 0 (row32 H'.at 8).toList = digC H' fb t := by
  apply Array.ext_getElem?
  intro j
  rw [spl_get _ _ _ _ (by simp [row32_size, digC_size])]
  simp only [Array.length_toList, row32_size]
  by_cases h : j < 8
  · rw [if_pos (by omega), digC_get _ _ _ _ (by omega), if_pos h, Nat.sub_zero, Array.getElem?_toList, row32_get _ _ _ h]
  · rw [if_neg (by omega)]
    by_cases h2 : j < 73
    · rw [digC_get _ _ _ _ h2, digC_get _ _ _ _ h2, if_neg h, if_neg h]
    · rw [digC_none _ _ _ _ (by omega), digC_none _ _ _ _ (by omega)]
/-- Bytes put into a block from at on. -/
def putB (fb : Nat → UInt8) (at_ : Nat) (l : List UInt8) : Nat → UInt8 := fun j => if at_ ≤ j ∧ j < at_ + l.length then l.getD (j - at_) 0 else fb j
theorem digC_setBytes (H : S8) (fb : Nat → UInt8) (t at_ : Nat) (l : List UInt8) (h : at_ + l.length ≤ 64) :
    spl (digC H fb t) (8 + at_) (l.map fun b => Value.int .u8 (b.toNat : Int)) = digC H (putB fb at_ l) t := by
  apply Array.ext_getElem?
  intro j
  rw [spl_get _ _ _ _ (by simp [digC_size]; omega)]
  simp only [List.length_map]
  by_cases h1 : 8 + at_ ≤ j ∧ j < 8 + at_ + l.length
  · rw [if_pos h1, digC_get _ _ _ _ (by omega), if_neg (by omega), if_pos (by omega), putB, if_pos (by omega), List.getElem?_map, show j - 8 - at_ = j - (8 + at_) from by omega]
    rw [List.getElem?_eq_getElem (by omega), List.getD_eq_getElem?_getD, List.getElem?_eq_getElem (by omega)]
    rfl
  · rw [if_neg h1]
    by_cases h2 : j < 73
    · rw [digC_get _ _ _ _ h2, digC_get _ _ _ _ h2]
      by_cases h3 : j < 8
      · rw [if_pos h3, if_pos h3]
      · rw [if_neg h3, if_neg h3]
        by_cases h4 : j < 72
        · rw [if_pos h4, if_pos h4, putB, if_neg (by omega)]
        · rw [if_neg h4, if_neg h4]
    · rw [digC_none _ _ _ _ (by omega), digC_none _ _ _ _ (by omega)]

/-! The plain mathematics. -/
theorem part_congr {f g : Nat → UInt8} (k : Nat) : ∀ m, (∀ j, j < m → f (4 * k + j) = g (4 * k + j)) → part f k m = part g k m
  | 0, _ => rfl
  | m + 1, h => by rw [part, part, part_congr k m (fun j hj => h j (by omega)), h m (by omega)]
theorem sched_congr {f g : Nat → UInt8} (h : ∀ j, j < 64 → f j = g j) : ∀ n, sched f n = sched g n
  | 0 => by
    rw [sched, sched]
    apply List.map_congr_left
    intro k hk
    exact part_congr k 4 (fun j hj => h _ (by simp at hk; omega))
  | n + 1 => by rw [sched, sched, sched_congr h n]
theorem mixS_congr {f g : Nat → UInt8} (H : S8) (h : ∀ j, j < 64 → f j = g j) : mixS H f = mixS H g := by
  have : wt f = wt g := by unfold wt schedF; rw [sched_congr h 48]
  unfold mixS; rw [this]
def blkAt (m : List UInt8) (i : Nat) : Nat → UInt8 := fun j => m.getD (64 * i + j) 0
/-- The words behind the first k blocks. -/
def hashTo (m : List UInt8) : Nat → S8
  | 0 => H0
  | k + 1 => mixS (hashTo m k) (blkAt m k)
theorem hashTo_append (m l : List UInt8) : ∀ k, 64 * k ≤ m.length → hashTo (m ++ l) k = hashTo m k
  | 0, _ => rfl
  | k + 1, h => by
    rw [hashTo, hashTo, hashTo_append m l k (by omega)]
    apply mixS_congr
    intro j hj
    unfold blkAt
    rw [List.getD_eq_getElem?_getD, List.getD_eq_getElem?_getD, List.getElem?_append_left (by omega)]

/-- Block b holds a digest that has taken m in. -/
structure Dig (w : World) (b : Nat) (m : List UInt8) (H : S8) (fb : Nat → UInt8) : Prop where
  blk : Blk w b (digC H fb m.length) 83
  words : H = hashTo m (m.length / 64)
  tail : ∀ j, j < m.length % 64 → fb j = m.getD (64 * (m.length / 64) + j) 0

/-- A piece that fits into the block: what the block holds. -/
theorem put_tail {m l : List UInt8} {fb : Nat → UInt8} (ht : ∀ j, j < m.length % 64 → fb j = m.getD (64 * (m.length / 64) + j) 0) (_hl : m.length % 64 + l.length ≤ 64) :
    ∀ j, j < m.length % 64 + l.length → putB fb (m.length % 64) l j = (m ++ l).getD (64 * (m.length / 64) + j) 0 := by
  intro j hj
  unfold putB
  rw [List.getD_eq_getElem?_getD (l := m ++ l)]
  by_cases h : m.length % 64 ≤ j
  · rw [if_pos ⟨h, hj⟩, List.getElem?_append_right (by omega), List.getD_eq_getElem?_getD, show 64 * (m.length / 64) + j - m.length = j - m.length % 64 from by omega]
  · rw [if_neg (by omega), ht j (by omega), List.getElem?_append_left (by omega), List.getD_eq_getElem?_getD]
/-- .. and it is not full. -/
theorem dig_part {m l : List UInt8} {H : S8} {fb : Nat → UInt8} (hw : H = hashTo m (m.length / 64)) (ht : ∀ j, j < m.length % 64 → fb j = m.getD (64 * (m.length / 64) + j) 0) (hl : m.length % 64 + l.length < 64) :
    H = hashTo (m ++ l) ((m ++ l).length / 64) ∧ ∀ j, j < (m ++ l).length % 64 → putB fb (m.length % 64) l j = (m ++ l).getD (64 * ((m ++ l).length / 64) + j) 0 := by
  rw [List.length_append, show (m.length + l.length) / 64 = m.length / 64 from by omega, show (m.length + l.length) % 64 = m.length % 64 + l.length from by omega]
  exact ⟨by rw [hw, hashTo_append m l _ (by omega)], put_tail ht (by omega)⟩
/-- .. and it is full. -/
theorem dig_full {m l : List UInt8} {H : S8} {fb : Nat → UInt8} (hw : H = hashTo m (m.length / 64)) (ht : ∀ j, j < m.length % 64 → fb j = m.getD (64 * (m.length / 64) + j) 0) (hl : m.length % 64 + l.length = 64) :
    mixS H (putB fb (m.length % 64) l) = hashTo (m ++ l) ((m ++ l).length / 64) ∧ (m ++ l).length % 64 = 0 := by
  refine ⟨?_, by rw [List.length_append]; omega⟩
  rw [List.length_append, show (m.length + l.length) / 64 = m.length / 64 + 1 from by omega, hashTo, hashTo_append m l _ (by omega), ← hw]
  apply mixS_congr
  intro j hj
  exact put_tail ht (by omega) j (by omega)

section
variable {P : Program} {ops : Array Oper} {rest : List Oper} {op : Oper} {a : Act} {w : World} {Q : Exit → Act → World → Prop}

/-- copy, from a string into a slice over a block that is known whole. -/
theorem wpList_copyStr (hgd : op.guard = none) (x y : Operand) (dT sT : TypeId) (ho : op.op = .call { callee := .builtin .copy, args := #[x, y], argTypes := #[dT, sT] })
    (b o len cap : Nat) (hx : a.eval x = .slice (some ⟨b, o, none⟩) len cap) (s : List UInt8) (hy : a.eval y = .string ⟨s.toArray⟩)
    (e : TypeId) (hu : P.underlying dT = some (.slice e)) (hse : (P.info? e).map (·.size) = some 1)
    (c : Array Value) (t : TypeId) (hb : Blk w b c t) (n : Nat) (hn : n = Nat.min s.length len) (hfit : o + n ≤ c.size)
    (h : ∀ w1 : World, w.grownBy w1 (some b) → w1.heap.size = w.heap.size → Blk w1 b (spl c o ((s.take n).map fun b => Value.int .u8 (b.toNat : Int))) t → wpList P ops Q rest (a.put op.dst (.int .i64 (n : Int))) w1) :
    wpList P ops Q (op :: rest) a w := by
  have hl : n ≤ s.length := by rw [hn]; exact Nat.min_le_left _ _
  have hr : (Builtin.copy_ #[dT, sT] op.type #[.slice (some ⟨b, o, none⟩) len cap, .string ⟨s.toArray⟩]).run P w = .ok (.int .i64 (n : Int)) (w.setCells b o ((s.take n).map fun b => Value.int .u8 (b.toNat : Int))) := by
    have hst := run_storeCells_cells (P := P) b o ((s.take n).map fun b => Value.int .u8 (b.toNat : Int)) 0 w
      (fun j hj => (hb.there o n hfit j (by simp at hj; omega)).1) (fun j hj => (hb.there o n hfit j (by simp at hj; omega)).2) (fun u hu => by
        obtain ⟨_, _, rfl⟩ := List.mem_map.1 hu
        rfl)
    simp only [Nat.add_zero] at hst
    have hsz : (ByteArray.mk s.toArray).size = s.length := by show s.toArray.size = _; simp
    simp [Builtin.copy_, run_underlying hu, Builtin.lenOf, Builtin.firstCells, sizeOf_run hse, Sem.run_bind, hsz, ← hn, goInt]
    rw [← List.map_take, hst]
    rfl
  refine wpList_run hgd _ _ ?_ (h _ (grown_setCells _ _ _ _) (size_setCells _ _ _ _) (hb.setCells _ _))
  unfold execOp
  simp only [ho]
  simp [resolve, invoke, builtin, hx, hy, hr, Result.andThen]

/-- A slice of an array that lies in a block, from l on. -/
theorem wpList_sliceArr (hgd : op.guard = none) (ty : TypeId) (x lo : Operand) (ho : op.op = .slice ty x (some lo) none none) (b o : Nat) (hx : a.eval x = .pointer (some ⟨b, o, none⟩)) (k : IntKind) (z : Int) (hlo : a.eval lo = .int k z) (l : Nat) (hz : z = (l : Int))
    (n : Nat) (e : TypeId) (hu : P.underlying ty = some (.array n e)) (hse : (P.info? e).map (·.size) = some 1) (hl : l < n)
    (h : wpList P ops Q rest (a.put op.dst (.slice (some ⟨b, o + l, none⟩) (n - l) (n - l))) w) : wpList P ops Q (op :: rest) a w := by
  subst hz
  refine wpList_run hgd _ w ?_ h
  have h2 : ¬ n = l := by omega
  unfold execOp
  simp only [ho, Option.map_some, Option.map_none, hx, hlo]
  simp [Instr.sliceAt, run_underlying hu, Instr.sureAddr, Instr.sliceBounds, Instr.sliceBound, asIntOf, h2, sizeOf_run hse, Addr.add_mid, Sem.run_bind]
  intro h3
  omega
end

end Go.Proofs.YtdolgkegeomafaaDoor.Sh
