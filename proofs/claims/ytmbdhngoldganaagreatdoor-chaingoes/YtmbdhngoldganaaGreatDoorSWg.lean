/- A digest in memory, and the plain mathematics of taking bytes in piece by piece. What Write does. The bytes of a digest, and appending a string where there is room. What Sum of a digest, New and Sum do. -/
import Derived.Test.YtmbdhngoldganaaGreatDoorSWe
namespace Go.Proofs.YtmbdhngoldganaaGreatDoor.Sh
open Go Go.RowKit

/-- The cells of a digest: eight words, a block of sixty-four bytes, how many bytes were taken in. -/
def digC (H : S8) (fb : Nat → UInt8) (t : Nat) : Array Value :=
  Array.ofFn (fun i : Fin 73 => if i.1 < 8 then Value.int .u32 (n32 (H.at i)) else if i.1 < 72 then Value.int .u8 (n8 (fb (i - 8))) else Value.int .u64 (t : Int))
theorem digC_size (H : S8) (fb : Nat → UInt8) (t : Nat) : (digC H fb t).size = 73 := by simp [digC]
theorem digC_get (H : S8) (fb : Nat → UInt8) (t j : Nat) (h : j < 73) : (digC H fb t)[j]? = some (if j < 8 then Value.int .u32 (n32 (H.at j)) else if j < 72 then Value.int .u8 (n8 (fb (j - 8))) else Value.int .u64 (t : Int)) := by
  simp [digC, h]
theorem digC_none (H : S8) (fb : Nat → UInt8) (t j : Nat) (h : 73 ≤ j) : (digC H fb t)[j]? = none := by
  simp [digC]; omega
theorem digC_words (H : S8) (fb : Nat → UInt8) (t : Nat) : (digC H fb t).extract 0 (0 + 8) = row32 H.at 8 := by
  apply Array.ext_getElem?
  intro j
  rw [Array.getElem?_extract, digC_size]
  by_cases h : j < 8
  · rw [if_pos (by omega), Nat.zero_add, digC_get _ _ _ _ (by omega), if_pos h, row32_get _ _ _ h]
  · rw [if_neg (by omega), row32_none _ _ _ (by omega)]
theorem digC_block (H : S8) (fb : Nat → UInt8) (t : Nat) : (digC H fb t).extract 8 (8 + 64) = row8 fb 64 := by
  apply Array.ext_getElem?
  intro j
  rw [Array.getElem?_extract, digC_size]
  by_cases h : j < 64
  · rw [if_pos (by omega), digC_get _ _ _ _ (by omega), if_neg (by omega), if_pos (by omega), row8_get _ _ _ h, show 8 + j - 8 = j from by omega]
  · rw [if_neg (by omega), row8_none _ _ _ (by omega)]
theorem digC_taken (H : S8) (fb : Nat → UInt8) (t : Nat) : (digC H fb t)[72]? = some (.int .u64 (t : Int)) := by
  rw [digC_get _ _ _ _ (by omega)]; rfl
theorem digC_setTaken (H : S8) (fb : Nat → UInt8) (t t' : Nat) : (digC H fb t).setIfInBounds 72 (.int .u64 (t' : Int)) = digC H fb t' := by
  apply Array.ext_getElem?
  intro j
  rw [Array.getElem?_setIfInBounds, digC_size]
  by_cases h : 72 = j
  · subst h; rw [if_pos rfl, if_pos (by omega), digC_taken]
  · rw [if_neg h]
    by_cases h2 : j < 73
    · rw [digC_get _ _ _ _ h2, digC_get _ _ _ _ h2]
      by_cases h3 : j < 8
      · rw [if_pos h3, if_pos h3]
      · rw [if_neg h3, if_neg h3, if_pos (by omega), if_pos (by omega)]
    · rw [digC_none _ _ _ _ (by omega), digC_none _ _ _ _ (by omega)]
theorem digC_setWords (H H' : S8) (fb : Nat → UInt8) (t : Nat) : spl (digC H fb t) 0 (row32 H'.at 8).toList = digC H' fb t := by
  apply Array.ext_getElem?
  intro j
  rw [spl_get _ _ _ _ (by simp [row32_size, digC_size])]
  simp only [Array.length_toList, row32_size]
  by_cases h : j < 8
  · rw [if_pos (by omega), digC_get _ _ _ _ (by omega), if_pos h, Nat.sub_zero, Array.getElem?_toList, row32_get _ _ _ h]
  · rw [if_neg (by omega)]
    by_cases h2 : j < 73
    · rw [digC_get _ _ _ _ h2, digC_get _ _ _ _ h2, if_neg h, if_neg h]
    · rw [digC_none _ _ _ _ (by omega), digC_none _ _ _ _ (by omega)]
/-- Bytes put into a block from at on. -/
def putB (fb : Nat → UInt8) (at_ : Nat) (l : List UInt8) : Nat → UInt8 := fun j => if at_ ≤ j ∧ j < at_ + l.length then l.getD (j - at_) 0 else fb j
theorem digC_setBytes (H : S8) (fb : Nat → UInt8) (t at_ : Nat) (l : List UInt8) (h : at_ + l.length ≤ 64) :
    spl (digC H fb t) (8 + at_) (l.map fun b => Value.int .u8 (b.toNat : Int)) = digC H (putB fb at_ l) t := by
  apply Array.ext_getElem?
  intro j
  rw [spl_get _ _ _ _ (by simp [digC_size]; omega)]
  simp only [List.length_map]
  by_cases h1 : 8 + at_ ≤ j ∧ j < 8 + at_ + l.length
  · rw [if_pos h1, digC_get _ _ _ _ (by omega), if_neg (by omega), if_pos (by omega), putB, if_pos (by omega), List.getElem?_map, show j - 8 - at_ = j - (8 + at_) from by omega]
    rw [List.getElem?_eq_getElem (by omega), List.getD_eq_getElem?_getD, List.getElem?_eq_getElem (by omega)]
    rfl
  · rw [if_neg h1]
    by_cases h2 : j < 73
    · rw [digC_get _ _ _ _ h2, digC_get _ _ _ _ h2]
      by_cases h3 : j < 8
      · rw [if_pos h3, if_pos h3]
      · rw [if_neg h3, if_neg h3]
        by_cases h4 : j < 72
        · rw [if_pos h4, if_pos h4, putB, if_neg (by omega)]
        · rw [if_neg h4, if_neg h4]
    · rw [digC_none _ _ _ _ (by omega), digC_none _ _ _ _ (by omega)]

/-! The plain mathematics. -/
theorem part_congr {f g : Nat → UInt8} (k : Nat) : ∀ m, (∀ j, j < m → f (4 * k + j) = g (4 * k + j)) → part f k m = part g k m
  | 0, _ => rfl
  | m + 1, h => by rw [part, part, part_congr k m (fun j hj => h j (by omega)), h m (by omega)]
theorem sched_congr {f g : Nat → UInt8} (h : ∀ j, j < 64 → f j = g j) : ∀ n, sched f n = sched g n
  | 0 => by
    rw [sched, sched]
    apply List.map_congr_left
    intro k hk
    exact part_congr k 4 (fun j hj => h _ (by simp at hk; omega))
  | n + 1 => by rw [sched, sched, sched_congr h n]
theorem mixS_congr {f g : Nat → UInt8} (H : S8) (h : ∀ j, j < 64 → f j = g j) : mixS H f = mixS H g := by
  have : wt f = wt g := by unfold wt schedF; rw [sched_congr h 48]
  unfold mixS; rw [this]
def blkAt (m : List UInt8) (i : Nat) : Nat → UInt8 := fun j => m.getD (64 * i + j) 0
/-- The words behind the first k blocks. -/
def hashTo (m : List UInt8) : Nat → S8
  | 0 => H0
  | k + 1 => mixS (hashTo m k) (blkAt m k)
theorem hashTo_append (m l : List UInt8) : ∀ k, 64 * k ≤ m.length → hashTo (m ++ l) k = hashTo m k
  | 0, _ => rfl
  | k + 1, h => by
    rw [hashTo, hashTo, hashTo_append m l k (by omega)]
    apply mixS_congr
    intro j hj
    unfold blkAt
    rw [List.getD_eq_getElem?_getD, List.getD_eq_getElem?_getD, List.getElem?_append_left (by omega)]

/-- Block b holds a digest that has taken m in. -/
structure Dig (w : World) (b : Nat) (m : List UInt8) (H : S8) (fb : Nat → UInt8) : Prop where
  blk : Blk w b (digC H fb m.length) 261
  words : H = hashTo m (m.length / 64)
  tail : ∀ j, j < m.length % 64 → fb j = m.getD (64 * (m.length / 64) + j) 0

/-- A piece that fits into the block: what the block holds. -/
theorem put_tail {m l : List UInt8} {fb : Nat → UInt8} (ht : ∀ j, j < m.length % 64 → fb j = m.getD (64 * (m.length / 64) + j) 0) (_hl : m.length % 64 + l.length ≤ 64) :
    ∀ j, j < m.length % 64 + l.length → putB fb (m.length % 64) l j = (m ++ l).getD (64 * (m.length / 64) + j) 0 := by
  intro j hj
  unfold putB
  rw [List.getD_eq_getElem?_getD (l := m ++ l)]
  by_cases h : m.length % 64 ≤ j
  · rw [if_pos ⟨h, hj⟩, List.getElem?_append_right (by omega), List.getD_eq_getElem?_getD, show 64 * (m.length / 64) + j - m.length = j - m.length % 64 from by omega]
  · rw [if_neg (by omega), ht j (by omega), List.getElem?_append_left (by omega), List.getD_eq_getElem?_getD]
/-- .. and it is not full. -/
theorem dig_part {m l : List UInt8} {H : S8} {fb : Nat → UInt8} (hw : H = hashTo m (m.length / 64)) (ht : ∀ j, j < m.length % 64 → fb j = m.getD (64 * (m.length / 64) + j) 0) (hl : m.length % 64 + l.length < 64) :
    H = hashTo (m ++ l) ((m ++ l).length / 64) ∧ ∀ j, j < (m ++ l).length % 64 → putB fb (m.length % 64) l j = (m ++ l).getD (64 * ((m ++ l).length / 64) + j) 0 := by
  rw [List.length_append, show (m.length + l.length) / 64 = m.length / 64 from by omega, show (m.length + l.length) % 64 = m.length % 64 + l.length from by omega]
  exact ⟨by rw [hw, hashTo_append m l _ (by omega)], put_tail ht (by omega)⟩
/-- .. and it is full. -/
theorem dig_full {m l : List UInt8} {H : S8} {fb : Nat → UInt8} (hw : H = hashTo m (m.length / 64)) (ht : ∀ j, j < m.length % 64 → fb j = m.getD (64 * (m.length / 64) + j) 0) (hl : m.length % 64 + l.length = 64) :
    mixS H (putB fb (m.length % 64) l) = hashTo (m ++ l) ((m ++ l).length / 64) ∧ (m ++ l).length % 64 = 0 := by
  refine ⟨?_, by rw [List.length_append]; omega⟩
  rw [List.length_append, show (m.length + l.length) / 64 = m.length / 64 + 1 from by omega, hashTo, hashTo_append m l _ (by omega), ← hw]
  apply mixS_congr
  intro j hj
  exact put_tail ht (by omega) j (by omega)

section
variable {P : Program} {ops : Array Oper} {rest : List Oper} {op : Oper} {a : Act} {w : World} {Q : Exit → Act → World → Prop}

/-- copy, from a string into a slice over a block that is known whole. -/
theorem wpList_copyStr (hgd : op.guard = none) (x y : Operand) (dT sT : TypeId) (ho : op.op = .call { callee := .builtin .copy, args := #[x, y], argTypes := #[dT, sT] })
    (b o len cap : Nat) (hx : a.eval x = .slice (some ⟨b, o, none⟩) len cap) (s : List UInt8) (hy : a.eval y = .string ⟨s.toArray⟩)
    (e : TypeId) (hu : P.underlying dT = some (.slice e)) (hse : (P.info? e).map (·.size) = some 1)
    (c : Array Value) (t : TypeId) (hb : Blk w b c t) (n : Nat) (hn : n = Nat.min s.length len) (hfit : o + n ≤ c.size)
    (h : ∀ w1 : World, w.grownBy w1 (some b) → w1.heap.size = w.heap.size → Blk w1 b (spl c o ((s.take n).map fun b => Value.int .u8 (b.toNat : Int))) t → wpList P ops Q rest (a.put op.dst (.int .i64 (n : Int))) w1) :
    wpList P ops Q (op :: rest) a w := by
  have hl : n ≤ s.length := by rw [hn]; exact Nat.min_le_left _ _
  have hr : (Builtin.copy_ #[dT, sT] op.type #[.slice (some ⟨b, o, none⟩) len cap, .string ⟨s.toArray⟩]).run P w = .ok (.int .i64 (n : Int)) (w.setCells b o ((s.take n).map fun b => Value.int .u8 (b.toNat : Int))) := by
    have hst := run_storeCells_cells (P := P) b o ((s.take n).map fun b => Value.int .u8 (b.toNat : Int)) 0 w
      (fun j hj => (hb.there o n hfit j (by simp at hj; omega)).1) (fun j hj => (hb.there o n hfit j (by simp at hj; omega)).2) (fun u hu => by
        obtain ⟨_, _, rfl⟩ := List.mem_map.1 hu
        rfl)
    simp only [Nat.add_zero] at hst
    have hsz : (ByteArray.mk s.toArray).size = s.length := by show s.toArray.size = _; simp
    simp [Builtin.copy_, run_underlying hu, Builtin.lenOf, Builtin.firstCells, sizeOf_run hse, Sem.run_bind, hsz, ← hn, goInt]
    rw [← List.map_take, hst]
    rfl
  refine wpList_run hgd _ _ ?_ (h _ (grown_setCells _ _ _ _) (size_setCells _ _ _ _) (hb.setCells _ _))
  unfold execOp
  simp only [ho]
  simp [resolve, invoke, builtin, hx, hy, hr, Result.andThen]

/-- A slice of an array that lies in a block, from l on. -/
theorem wpList_sliceArr (hgd : op.guard = none) (ty : TypeId) (x lo : Operand) (ho : op.op = .slice ty x (some lo) none none) (b o : Nat) (hx : a.eval x = .pointer (some ⟨b, o, none⟩)) (k : IntKind) (z : Int) (hlo : a.eval lo = .int k z) (l : Nat) (hz : z = (l : Int))
    (n : Nat) (e : TypeId) (hu : P.underlying ty = some (.array n e)) (hse : (P.info? e).map (·.size) = some 1) (hl : l < n)
    (h : wpList P ops Q rest (a.put op.dst (.slice (some ⟨b, o + l, none⟩) (n - l) (n - l))) w) : wpList P ops Q (op :: rest) a w := by
  subst hz
  refine wpList_run hgd _ w ?_ h
  have h2 : ¬ n = l := by omega
  unfold execOp
  simp only [ho, Option.map_some, Option.map_none, hx, hlo]
  simp [Instr.sliceAt, run_underlying hu, Instr.sureAddr, Instr.sliceBounds, Instr.sliceBound, asIntOf, h2, sizeOf_run hse, Addr.add_mid, Sem.run_bind]
  intro h3
  omega
end

end Go.Proofs.YtmbdhngoldganaaGreatDoor.Sh
namespace Go.Proofs.YtmbdhngoldganaaGreatDoor.Sh
open Go.RowKit

theorem i44 : (Tryz.prog.info? 36).map (·.size) = some 1 := by kernel_rfl
theorem extract_drop (l : List UInt8) (n : Nat) : (ByteArray.mk l.toArray).extract n l.length = ⟨(l.drop n).toArray⟩ := by
  have : ((ByteArray.mk l.toArray).extract n l.length).data = (l.drop n).toArray := by
    apply Array.ext'
    simp [ByteArray.extract, ByteArray.copySlice]
    apply List.take_of_length_le
    simp
  rw [show (ByteArray.mk l.toArray).extract n l.length = ⟨((ByteArray.mk l.toArray).extract n l.length).data⟩ from rfl, this]
attribute [local go_sem] extract_drop
theorem mk_size (l : List UInt8) : (ByteArray.mk l.toArray).size = l.length := by show l.toArray.size = _; simp
def strLen : Value → Nat | .string s => s.size | _ => 0
set_option maxRecDepth 100000 in
set_option maxHeartbeats 4000000 in
theorem write_any (b : Nat) (m s : List UInt8) (H : S8) (fb : Nat → UInt8) (w : World) (hG : Glob w) (hb0 : 2 ≤ b) (hm : m.length + s.length ≤ 1099511627776)
    (hb : Blk w b (digC H fb m.length) 261) (hH : m.length = 0 ∨ H = hashTo m (m.length / 64)) (ht : ∀ j, j < m.length % 64 → fb j = m.getD (64 * (m.length / 64) + j) 0) :
    Calls Tryz.prog 153 #[.pointer (some ⟨b, 0, none⟩), .string ⟨s.toArray⟩] w fun e w' => e = .returned (.tuple #[]) ∧ (∃ H' fb', Dig w' b (m ++ s) H' fb') ∧ w.grownBy w' (some b) := by
  have HH : Hid (m.length = 0 ∨ H = hashTo m (m.length / 64)) := hH
  clear hH
  have HT : Hid (∀ j, j < m.length % 64 → fb j = m.getD (64 * (m.length / 64) + j) 0) := ht
  clear ht
  by_cases h0 : m.length = 0
  case' pos =>
    have hd : ((m.length : Int) == 0) = true := beq_iff_eq.2 (by omega)
    go_enter Tryz.func153, Tryz.ntmps153
    go_wp2_with (with_reducible refine at_list ?_; first
      | (refine wpList_loadCell (op := ⟨some 11, _, _, _, _, _⟩) rfl _ _ rfl b 72 rfl _ _ hb _ Tryz.underlying36 rfl _ (digC_taken _ _ _) ?_)
      | (refine wpList_load_mid (op := ⟨some 14, _, _, _, _, _⟩) rfl _ _ rfl 0 0 rfl (row32 H0.at 8).toList _ hG.range Tryz.underlying237 rfl (by rw [Array.length_toList, row32_size]; exact z40.2) ?_; rw [Array.toArray_toList])
      | (refine wpList_storePart rfl _ _ _ rfl b 0 _ rfl rfl _ _ hb (by rw [row32_size, digC_size]; omega) (by rw [row32_size]; exact z40.2) (row32_one _ _) ?_; intro w1 hg1 hs1 hb1; rw [digC_setWords] at hb1))
    go_simp
    have hG1 : Glob w1 := hG.grown hg1 hb0
    have hD : Dig w1 b m H0 fb := ⟨hb1, by rw [h0]; rfl, HT.out⟩
    clear hb1 hs1 hd h0
  case' neg =>
    have hd : ((m.length : Int) == 0) = false := beq_eq_false_iff_ne.2 (by omega)
    go_enter Tryz.func153, Tryz.ntmps153
    go_wp2_with (with_reducible refine at_list ?_; first
      | (refine wpList_loadCell (op := ⟨some 11, _, _, _, _, _⟩) rfl _ _ rfl b 72 rfl _ _ hb _ Tryz.underlying36 rfl _ (digC_taken _ _ _) ?_))
    have hG1 := hG
    have hg1 : w.grownBy w (some b) := grown_refl w _
    have hD : Dig w b m H fb := ⟨hb, HH.out.resolve_left h0, HT.out⟩
    clear hd h0
  all_goals
    clear HH HT hb
    go_loopw [1] (fun v wl => ∃ (l1 l2 : List UInt8) (H' : S8) (fb' : Nat → UInt8), s = l1 ++ l2 ∧ v = .string ⟨l2.toArray⟩ ∧ w.grownBy wl (some b) ∧ Glob wl ∧ Dig wl b (m ++ l1) H' fb') (fun v _ => strLen v)
    case atStart => exact ⟨[], s, _, _, rfl, rfl, hg1, hG1, by rw [List.append_nil]; exact hD⟩
    case round =>
      clear hD hG1 hg1
      obtain ⟨l1, l2, H', fb', hs, rfl, hg, hG', hD⟩ := hrel
      have HS : Hid (s = l1 ++ l2) := hs
      have hlen : (m ++ l1).length + l2.length ≤ 1099511627776 := by rw [hs] at hm; simp at hm ⊢; omega
      clear hs
      by_cases hl : l2.length = 0
      · have hn : l2 = [] := List.length_eq_zero_iff.1 hl
        subst hn
        go_wp2_with fail
        refine bodyPost_end (results_none rfl _ _ _) rfl ⟨rfl, ⟨H', fb', ?_⟩, hg⟩
        rw [HS.out, List.append_nil]
        exact hD
      · have hp : 0 < l2.length := by omega
        clear hl
        obtain ⟨mm, hmm⟩ : ∃ mm, mm = m ++ l1 := ⟨_, rfl⟩
        have HM : Hid (mm = m ++ l1) := hmm
        rw [← hmm] at hD hlen
        clear hmm
        obtain ⟨n, hn⟩ : ∃ n, n = Nat.min l2.length (64 - mm.length % 64) := ⟨_, rfl⟩
        have hn1 : n ≤ l2.length := by rw [hn]; exact Nat.min_le_left _ _
        have hn2 : mm.length % 64 + n ≤ 64 := by have : n ≤ 64 - mm.length % 64 := by rw [hn]; exact Nat.min_le_right _ _
                                                 omega
        have hn3 : 1 ≤ n := by rw [hn]; simp only [Nat.min_def]; split <;> omega
        have HN : Hid (n = Nat.min l2.length (64 - mm.length % 64)) := hn
        clear hn
        have htl : (l2.take n).length = n := by rw [List.length_take]; omega
        have HTL : Hid ((l2.take n).length = n) := htl
        clear htl
        by_cases hf : mm.length % 64 + n = 64
        · have hff : ((mm.length : Int) % 64 + (n : Int) == 64) = true := beq_iff_eq.2 (by omega)
          go_wp2_with (with_reducible refine at_list ?_; first
            | (refine wpList_loadCell (op := ⟨some 23, _, _, _, _, _⟩) rfl _ _ rfl b 72 rfl _ _ hD.blk _ Tryz.underlying36 rfl _ (digC_taken _ _ _) ?_)
            | (refine wpList_sliceArr rfl _ _ _ rfl b 8 rfl _ _ rfl (mm.length % 64) (by omega) _ _ Tryz.underlying259 i5 (by omega) ?_)
            | (refine wpList_copyStr rfl _ _ _ _ rfl b (8 + mm.length % 64) (64 - mm.length % 64) (64 - mm.length % 64) rfl l2 rfl _ Tryz.underlying171 i5 _ _ hD.blk n HN.out (by rw [digC_size]; omega) ?_; intro w2 hg2 hs2 hb2; rw [digC_setBytes _ _ _ _ _ (by rw [HTL.out]; omega)] at hb2)
            | (refine wpList_loadCell (op := ⟨some 39, _, _, _, _, _⟩) rfl _ _ rfl b 72 rfl _ _ hb2 _ Tryz.underlying36 rfl _ (digC_taken _ _ _) ?_)
            | (refine wpList_storeCell rfl _ _ _ rfl b 72 rfl (.int .u64 ((mm.length : Int) + (n : Int))) rfl _ _ hb2 i44 rfl rfl (by rw [digC_size]; omega) ?_; intro w3 hg3 hs3 hb3; rw [show ((mm.length : Int) + (n : Int)) = ((mm.length + n : Nat) : Int) from by omega, digC_setTaken] at hb3))
          have hG3 : Glob w3 := (hG'.grown hg2 hb0).grown hg3 hb0
          have hr0 : w3.drew.rangeAt b 0 (row32 H'.at 8).toList := by have := hb3.drew.range 0 8; rw [digC_words] at this; exact this
          have hr8 : w3.drew.rangeAt b 8 (row8 (putB fb' (mm.length % 64) (l2.take n)) 64).toList := by have := hb3.drew.range 8 64; rw [digC_block] at this; exact this
          have hi0 : (Tryz.prog.info? 237).map (·.size) = some (row32 H'.at 8).toList.length := by rw [Array.length_toList, row32_size]; exact z40.2
          have hi8 : (Tryz.prog.info? 259).map (·.size) = some (row8 (putB fb' (mm.length % 64) (l2.take n)) 64).toList.length := by rw [Array.length_toList, row8_size]; exact i47
          refine wp_region_any (by kernel_rfl) ?_
          change wpAny _ _ _ _ _ _ _ (World.drew _)
          refine wpAny_take (i := 0) (oi := ⟨some 49, .move (.tmp 0), _, _, _, _⟩) (v := .pointer (some ⟨b, 0, none⟩)) rfl (by kernel_rfl) (by kernel_rfl) (by kernel_rfl) (fun _ _ _ h => h) (Or.inl ⟨by rfl, fun w => by go_simp⟩) ?_
          refine wpAny_take (i := 1) (oi := ⟨some 50, .move (.tmp 0), _, _, _, _⟩) (v := .pointer (some ⟨b, 0, none⟩)) rfl (by kernel_rfl) (by kernel_rfl) (by kernel_rfl) (fun _ _ _ h => h) (Or.inl ⟨by rfl, fun w => by go_simp⟩) ?_
          refine wpAny_take (i := 2) (oi := ⟨some 51, .nilCheck (.tmp 50), _, _, _, _⟩) (v := .pointer (some ⟨b, 0, none⟩)) rfl (by kernel_rfl) (by kernel_rfl) (by kernel_rfl) (fun _ _ _ h => h) (Or.inl ⟨by rfl, fun w => by go_simp⟩) ?_
          refine wpAny_take (i := 3) (oi := ⟨some 52, .fieldAddr 261 (.tmp 51) 0, _, _, _, _⟩) (v := .pointer (some ⟨b, 0, none⟩)) rfl (by kernel_rfl) (by kernel_rfl) (by kernel_rfl) (fun _ _ _ h => h) (Or.inl ⟨by rfl, fun w => by go_simp⟩) ?_
          refine wpAny_take (i := 5) (oi := ⟨some 54, .move (.tmp 0), _, _, _, _⟩) (v := .pointer (some ⟨b, 0, none⟩)) rfl (by kernel_rfl) (by kernel_rfl) (by kernel_rfl) (fun _ _ _ h => h) (Or.inl ⟨by rfl, fun w => by go_simp⟩) ?_
          refine wpAny_take (i := 6) (oi := ⟨some 55, .nilCheck (.tmp 54), _, _, _, _⟩) (v := .pointer (some ⟨b, 0, none⟩)) rfl (by kernel_rfl) (by kernel_rfl) (by kernel_rfl) (fun _ _ _ h => h) (Or.inl ⟨by rfl, fun w => by go_simp⟩) ?_
          refine wpAny_take (i := 7) (oi := ⟨some 56, .fieldAddr 261 (.tmp 55) 1, _, _, _, _⟩) (v := .pointer (some ⟨b, 8, none⟩)) rfl (by kernel_rfl) (by kernel_rfl) (by kernel_rfl) (fun _ _ _ h => h) (Or.inl ⟨by rfl, fun w => by go_simp⟩) ?_
          simp only [Act.put, List.setIfInBounds_toArray, List.set_cons_zero, List.set_cons_succ]
          refine wpAny_ready (rs := [4, 8]) (by kernel_rfl) (by simp) ?_
          refine AllReady.cons (o := ⟨some 53, .load 237 (.tmp 52), _, _, _, _⟩) rfl (fun K hK => ?_) (AllReady.cons (o := ⟨some 57, .load 259 (.tmp 56), _, _, _, _⟩) rfl (fun K hK => ?_) AllReady.nil)
          case' refine_1 =>
            rw [if_pos (by rfl)]
            refine wp_load_mid 237 (.tmp 52) rfl b 0 rfl _ _ hr0 Tryz.underlying237 rfl hi0 ?_
            refine hK _ _ ?_
            clear hK K
            refine wpAny_ready (rs := [8]) (by kernel_rfl) (by simp) ?_
            refine AllReady.cons (o := ⟨some 57, .load 259 (.tmp 56), _, _, _, _⟩) rfl (fun K hK => ?_) AllReady.nil
            rw [if_pos (by rfl)]
            refine wp_load_mid 259 (.tmp 56) rfl b 8 rfl _ _ hr8 Tryz.underlying259 rfl hi8 ?_
            refine hK _ _ ?_
            clear hK K
          case' refine_2 =>
            rw [if_pos (by rfl)]
            refine wp_load_mid 259 (.tmp 56) rfl b 8 rfl _ _ hr8 Tryz.underlying259 rfl hi8 ?_
            refine hK _ _ ?_
            clear hK K
            refine wpAny_ready (rs := [4]) (by kernel_rfl) (by simp) ?_
            refine AllReady.cons (o := ⟨some 53, .load 237 (.tmp 52), _, _, _, _⟩) rfl (fun K hK => ?_) AllReady.nil
            rw [if_pos (by rfl)]
            refine wp_load_mid 237 (.tmp 52) rfl b 0 rfl _ _ hr0 Tryz.underlying237 rfl hi0 ?_
            refine hK _ _ ?_
            clear hK K
          all_goals
            clear hr0 hr8 hi0 hi8
            refine wpAny_ready (rs := [9]) (by kernel_rfl) (by simp) ?_
            refine AllReady.cons (o := ⟨some 58, .call ⟨.value (.func 188), #[.tmp 53, .tmp 57], #[237, 259]⟩, _, _, _, _⟩) rfl (fun K hK => ?_) AllReady.nil
            rw [if_pos (by rfl), Array.toArray_toList, Array.toArray_toList]
            go_simp
            refine (mix_any _ _ _ hG3.drew).mono ?_
            rintro e w4 ⟨rfl, hw4⟩
            refine hK _ _ ?_
            clear hK K
            refine wpAny_take (i := 10) (oi := ⟨some 59, .nilCheck (.tmp 49), _, _, _, _⟩) (v := .pointer (some ⟨b, 0, none⟩)) rfl (by kernel_rfl) (by kernel_rfl) (by kernel_rfl) (fun _ _ _ h => h) (Or.inl ⟨by rfl, fun w => by go_simp⟩) ?_
            refine wpAny_take (i := 11) (oi := ⟨some 60, .fieldAddr 261 (.tmp 59) 0, _, _, _, _⟩) (v := .pointer (some ⟨b, 0, none⟩)) rfl (by kernel_rfl) (by kernel_rfl) (by kernel_rfl) (fun _ _ _ h => h) (Or.inl ⟨by rfl, fun w => by go_simp⟩) ?_
            refine wpAny_ready (rs := [12]) (by kernel_rfl) (by simp) ?_
            refine AllReady.cons (o := ⟨none, .store 237 (.tmp 60) (.tmp 58), _, _, _, _⟩) rfl (fun K hK => ?_) AllReady.nil
            rw [if_pos (by rfl)]
            have hb4 : Blk w4 b (digC H' (putB fb' (mm.length % 64) (l2.take n)) (mm.length + n)) 261 := hb3.drew.belowSize hw4
            refine wp_store_mid 237 (.tmp 60) (.tmp 58) rfl b 0 (row32 (mixS H' (putB fb' (mm.length % 64) (l2.take n))).at 8) rfl rfl (hb4.there 0 _ (by rw [row32_size, digC_size]; omega)) (by rw [row32_size]; exact z40.2) (row32_one _ _) ?_
            refine hK _ _ ?_
            clear hK K
            refine wpAny_done (by kernel_rfl) ?_ _
            have hb5 := hb4.setCells (row32 (mixS H' (putB fb' (mm.length % 64) (l2.take n))).at 8).toList 0
            rw [digC_setWords] at hb5
            have hg5 : w3.grownBy (w4.setCells b 0 (row32 (mixS H' (putB fb' (mm.length % 64) (l2.take n))).at 8).toList) (some b) :=
              grown_trans (grown_of_below ((Below.refl w3.heap.size w3).drew.trans (show Below w3.heap.size w3.drew w4 from hw4))) (grown_setCells _ _ _ _)
            generalize w4.setCells b 0 (row32 (mixS H' (putB fb' (mm.length % 64) (l2.take n))).at 8).toList = w5 at hb5 hg5 ⊢
            clear hb4 hw4
            go_simp
            go_wp2_with fail
            go_roundw
            case rel =>
              have hq := dig_full (l := l2.take n) hD.words hD.tail (by rw [HTL.out]; omega)
              have hml : mm.length + n = (mm ++ l2.take n).length := by rw [List.length_append, HTL.out]
              refine ⟨l1 ++ l2.take n, l2.drop n, mixS H' (putB fb' (mm.length % 64) (l2.take n)), putB fb' (mm.length % 64) (l2.take n), ?_, rfl, grown_trans hg (grown_trans hg2 (grown_trans hg3 hg5)), hG3.grown hg5 hb0, ?_⟩
              · rw [List.append_assoc, List.take_append_drop]; exact HS.out
              · rw [← List.append_assoc, ← HM.out]
                exact ⟨by rw [← hml]; exact hb5, hq.1, fun j hj => by rw [hq.2] at hj; omega⟩
            case measure => simp only [strLen, mk_size, List.length_drop]; omega
        · have hff : ((mm.length : Int) % 64 + (n : Int) == 64) = false := beq_eq_false_iff_ne.2 (by omega)
          go_wp2_with (with_reducible refine at_list ?_; first
            | (refine wpList_loadCell (op := ⟨some 23, _, _, _, _, _⟩) rfl _ _ rfl b 72 rfl _ _ hD.blk _ Tryz.underlying36 rfl _ (digC_taken _ _ _) ?_)
            | (refine wpList_sliceArr rfl _ _ _ rfl b 8 rfl _ _ rfl (mm.length % 64) (by omega) _ _ Tryz.underlying259 i5 (by omega) ?_)
            | (refine wpList_copyStr rfl _ _ _ _ rfl b (8 + mm.length % 64) (64 - mm.length % 64) (64 - mm.length % 64) rfl l2 rfl _ Tryz.underlying171 i5 _ _ hD.blk n HN.out (by rw [digC_size]; omega) ?_; intro w2 hg2 hs2 hb2; rw [digC_setBytes _ _ _ _ _ (by rw [HTL.out]; omega)] at hb2)
            | (refine wpList_loadCell (op := ⟨some 39, _, _, _, _, _⟩) rfl _ _ rfl b 72 rfl _ _ hb2 _ Tryz.underlying36 rfl _ (digC_taken _ _ _) ?_)
            | (refine wpList_storeCell rfl _ _ _ rfl b 72 rfl (.int .u64 ((mm.length : Int) + (n : Int))) rfl _ _ hb2 i44 rfl rfl (by rw [digC_size]; omega) ?_; intro w3 hg3 hs3 hb3; rw [show ((mm.length : Int) + (n : Int)) = ((mm.length + n : Nat) : Int) from by omega, digC_setTaken] at hb3))
          go_roundw
          case rel =>
            have hq := dig_part (l := l2.take n) hD.words hD.tail (by rw [HTL.out]; omega)
            have hml : mm.length + n = (mm ++ l2.take n).length := by rw [List.length_append, HTL.out]
            refine ⟨l1 ++ l2.take n, l2.drop n, H', putB fb' (mm.length % 64) (l2.take n), ?_, rfl, grown_trans hg (grown_trans hg2 hg3), (hG'.grown hg2 hb0).grown hg3 hb0, ?_⟩
            · rw [List.append_assoc, List.take_append_drop]; exact HS.out
            · rw [← List.append_assoc, ← HM.out]
              exact ⟨by rw [← hml]; exact hb3, hq.1, hq.2⟩
          case measure => simp only [strLen, mk_size, List.length_drop]; omega
end Go.Proofs.YtmbdhngoldganaaGreatDoor.Sh
namespace Go.Proofs.YtmbdhngoldganaaGreatDoor.Sh
open Go Go.RowKit

theorem digC_one (H : S8) (fb : Nat → UInt8) (t : Nat) : (digC H fb t).all (·.oneCell') = true := by
  rw [Array.all_eq_true_iff_forall_mem]
  intro v hv
  simp only [digC, Array.mem_ofFn] at hv
  obtain ⟨i, rfl⟩ := hv
  split
  · rfl
  · split <;> rfl

theorem row8_splice (f : Nat → UInt8) (m n : Nat) (l : List UInt8) (h : n + l.length ≤ m) : spl (row8 f m) n (l.map fun b => Value.int .u8 (b.toNat : Int)) = row8 (putB f n l) m := by
  apply Array.ext_getElem?
  intro j
  rw [spl_get _ _ _ _ (by simp [row8_size]; omega)]
  simp only [List.length_map]
  by_cases h1 : n ≤ j ∧ j < n + l.length
  · rw [if_pos h1, row8_get _ _ _ (by omega), putB, if_pos h1, List.getElem?_map, List.getElem?_eq_getElem (by omega), List.getD_eq_getElem?_getD, List.getElem?_eq_getElem (by omega)]
    rfl
  · rw [if_neg h1]
    by_cases h2 : j < m
    · rw [row8_get _ _ _ h2, row8_get _ _ _ h2, putB, if_neg h1]
    · rw [row8_none _ _ _ (by omega), row8_none _ _ _ (by omega)]

/-- The byte j of a digest whose words are s. -/
def outB (s : S8) (j : Nat) : UInt8 := byteAt (s.at (j / 4)).toNat 4 (j % 4)
def outTo (s : S8) (i : Nat) : Nat → UInt8 := fun j => if j < 4 * i then outB s j else 0
theorem outTo_zero (s : S8) (m : Nat) : row8 (outTo s 0) m = row8 (fun _ => 0) m := row8_congr fun j _ => by unfold outTo; rw [if_neg (by omega)]
theorem be_length (n m : Nat) : (be n m).length = m := by simp [be]
theorem outTo_succ (s : S8) (i : Nat) : putB (outTo s i) (4 * i) (be (s.at i).toNat 4) = outTo s (i + 1) := by
  funext j
  unfold putB outTo
  rw [be_length]
  by_cases h : 4 * i ≤ j ∧ j < 4 * i + 4
  · rw [if_pos h, if_pos (by omega), List.getD_eq_getElem?_getD, outB, show j / 4 = i from by omega, show j % 4 = j - 4 * i from by omega]
    simp [be, show j - 4 * i < 4 from by omega]
  · rw [if_neg h]
    by_cases h2 : j < 4 * i
    · rw [if_pos h2, if_pos (by omega)]
    · rw [if_neg h2, if_neg (by omega)]
/-- The words behind a text that is filled up. -/
def hashAll (m : List UInt8) : S8 := hashTo (m ++ padL m.length) ((m ++ padL m.length).length / 64)
/-- THE DIGEST. -/
def digest (m : List UInt8) : List UInt8 := (List.range 32).map (outB (hashAll m))
theorem digest_length (m : List UInt8) : (digest m).length = 32 := by simp [digest]

section
variable {P : Program} {ops : Array Oper} {rest : List Oper} {op : Oper} {a : Act} {w : World} {Q : Exit → Act → World → Prop}
theorem wpList_appendStr (hgd : op.guard = none) (x y : Operand) (t tx : TypeId) (ho : op.op = .call { callee := .builtin .append, args := #[x, y], argTypes := #[t, tx] })
    (b n cap : Nat) (hx : a.eval x = .slice (some ⟨b, 0, none⟩) n cap) (l : List UInt8) (hy : a.eval y = .string ⟨l.toArray⟩)
    (e : TypeId) (i : TypeInfo) (hu : P.underlying t = some (.slice e)) (hux : P.underlying tx = some .string) (hi : P.info? e = some i) (hs : i.size = 1)
    (f : Nat → UInt8) (m : Nat) (ty : TypeId) (hb : Blk w b (row8 f m) ty) (hcap : n + l.length ≤ cap) (hm : n + l.length ≤ m)
    (h : ∀ w1 : World, w.grownBy w1 (some b) → w1.heap.size = w.heap.size → Blk w1 b (row8 (putB f n l) m) ty → wpList P ops Q rest (a.put op.dst (.slice (some ⟨b, 0, none⟩) (n + l.length) cap)) w1) :
    wpList P ops Q (op :: rest) a w := by
  have hsz : (ByteArray.mk l.toArray).size = l.length := mk_size l
  have hbc : byteCells (ByteArray.mk l.toArray) = l.map fun b => Value.int .u8 (b.toNat : Int) := by simp [byteCells]
  have hsrc := Src.ofString (P := P) w hux (ByteArray.mk l.toArray)
  rw [hsz, hbc] at hsrc
  have hr := run_append_room_src (P := P) w t tx op.type e i hu hi b 0 n cap (.string ⟨l.toArray⟩) l.length (l.map fun b => Value.int .u8 (b.toNat : Int)) (by rw [hs]; exact hsrc) hcap
    (fun j hj => by rw [hs, Nat.mul_one, Nat.zero_add]; exact (hb.there n l.length (by rw [row8_size]; omega) j (by simpa using hj)).1)
    (fun j hj => by rw [hs, Nat.mul_one, Nat.zero_add]; exact (hb.there n l.length (by rw [row8_size]; omega) j (by simpa using hj)).2)
  rw [hs, Nat.mul_one, Nat.zero_add] at hr
  have hb2 := hb.setCells (l.map fun b => Value.int .u8 (b.toNat : Int)) n
  rw [row8_splice f m n l hm] at hb2
  refine wpList_run hgd _ _ ?_ (h _ (grown_setCells _ _ _ _) (size_setCells _ _ _ _) hb2)
  unfold execOp
  simp only [ho]
  simp [resolve, invoke, builtin, hx, hy, hr, Result.andThen]
end
end Go.Proofs.YtmbdhngoldganaaGreatDoor.Sh
namespace Go.Proofs.YtmbdhngoldganaaGreatDoor.Sh
open Go.RowKit
theorem wrap64_n32 (x : BitVec 32) : IntKind.u64.wrap (n32 x) = n32 x := by
  rw [IntKind.wrap_u64]; have := n32_nonneg x; have := n32_lt x; omega
attribute [local go_sem] wrap64_n32
def S0 : S8 := ⟨0, 0, 0, 0, 0, 0, 0, 0⟩
theorem z49 : (∀ w, (zeroValue 261).run Tryz.prog w = .ok (.agg (digC S0 (fun _ => 0) 0)) w) ∧ (Tryz.prog.info? 261).map (·.size) = some 73 := zero_of_info (by kernel_rfl)
theorem i49 (H : S8) (fb : Nat → UInt8) (t : Nat) : (Tryz.prog.info? 261).map (·.size) = some (digC H fb t).size := by rw [digC_size]; exact z49.2

set_option maxRecDepth 100000 in
set_option maxHeartbeats 1000000 in
theorem dsum_any (b : Nat) (m : List UInt8) (H : S8) (fb : Nat → UInt8) (w : World) (hG : Glob w) (hm : m.length ≤ 549755813888)
    (hb : Blk w b (digC H fb m.length) 261) (hH : m.length = 0 ∨ H = hashTo m (m.length / 64)) (ht : ∀ j, j < m.length % 64 → fb j = m.getD (64 * (m.length / 64) + j) 0) :
    Calls Tryz.prog 155 #[.pointer (some ⟨b, 0, none⟩)] w fun e w' => e = .returned (.string ⟨(digest m).toArray⟩) ∧ Below w.heap.size w w' := by
  have HH : Hid (m.length = 0 ∨ H = hashTo m (m.length / 64)) := hH
  clear hH
  have HT : Hid (∀ j, j < m.length % 64 → fb j = m.getD (64 * (m.length / 64) + j) 0) := ht
  clear ht
  have hpl : (padL m.length).length ≤ 128 := by unfold padL noughts; simp [be_length]; omega
  obtain ⟨i5', hi5, hz5, hs5, hb5⟩ := info5
  go_enter Tryz.func155, Tryz.ntmps155
  go_wp2_with (first
    | (go_at_call 189; refine (ending_any _ _ (by omega)).mono ?_; rintro e w3 ⟨rfl, hw3⟩)
    | (go_at_call 153; refine (write_any w.heap.size m (padL m.length) H fb _ (((hG.belowSize hw1).grown hg2 (by have := hG.two; omega)).belowSize hw3) hG.two (by omega) (hb2.belowSize hw3) HH.out HT.out).mono ?_; rintro e w4 ⟨rfl, ⟨H', fb', hD⟩, hg4⟩)
    | (with_reducible refine at_list ?_; first
      | (refine wpList_loadRow (op := ⟨some 11, _, _, _, _, _⟩) rfl _ _ rfl b rfl _ _ hb _ Tryz.underlying261 rfl (i49 _ _ _) ?_)
      | (refine wpList_allocRow (op := ⟨some 3, _, _, _, _, _⟩) rfl _ rfl _ z49.1 ?_; intro w1 hw1 hs1 hb1)
      | (refine wpList_storeRow rfl _ _ _ rfl w.heap.size _ rfl rfl _ _ hb1 (by rw [digC_size, digC_size]) (i49 _ _ _) (digC_one _ _ _) ?_; intro w2 hg2 hs2 hb2)
      | (refine wpList_loadCell (op := ⟨some 15, _, _, _, _, _⟩) rfl _ _ rfl b 72 rfl _ _ ((hb.belowSize hw1).grown hg2 (by simp; have := hb.lt; omega)) _ Tryz.underlying36 rfl _ (digC_taken _ _ _) ?_)
      | (refine wpList_makeB rfl _ _ _ rfl 0 32 rfl rfl (by omega) (by omega) _ _ Tryz.underlying171 hi5 hz5 hs5 hb5 ?_; intro w5 hw5 hs5' hb5')
      | (refine wpList_loadPart (op := ⟨some 20, _, _, _, _, _⟩) rfl _ _ rfl w.heap.size 0 8 rfl _ _ (hD.blk.belowSize hw5) (by rw [digC_size]; omega) _ Tryz.underlying237 rfl z40.2 ?_; rw [digC_words])))
  have hB2 : Below w.heap.size w w2 := hw1.trans (below_of_grown hg2 (Nat.le_refl _) (by omega))
  have hB3 : Below w.heap.size w w3 := hB2.trans (hw3.mono hB2.size)
  have hB4 : Below w.heap.size w w4 := hB3.trans (below_of_grown hg4 (Nat.le_refl _) hB3.size)
  have hB5 : Below w.heap.size w w5 := hB4.trans (hw5.mono hB4.size)
  have hgs : w.heap.size ≤ w4.heap.size := hB4.size
  have HW : Hid (hashAll m = H') := hD.words.symm
  have hsz : w5.heap.size = w4.heap.size + 1 := hs5'
  generalize w4.heap.size = G at *
  clear hB2 hB3 hB4 hw1 hg2 hw3 hg4 hw5 hD hb2 hb1 hs1 hs2 hs5' hb HH HT hG hpl hz5 hb5
  go_loopw [4, 21] (fun v4 v21 wl => ∃ i : Nat, i ≤ 8 ∧ v21 = .int .i64 i ∧ v4 = .slice (some ⟨G, 0, none⟩) (4 * i) 32 ∧ Below w.heap.size w wl ∧ G < wl.heap.size ∧ Blk wl G (row8 (outTo H' i) 32) 5) (fun _ v21 _ => 8 - (intOf v21).toNat)
  case atStart => exact ⟨0, by omega, rfl, rfl, hB5, by omega, by rw [outTo_zero]; exact hb5'⟩
  case round =>
    obtain ⟨i, hi, rfl, rfl, hB, hz, hbk⟩ := hrel
    clear hB5 hsz hb5'
    by_cases hlt : i < 8
    · go_wp2_with (first
        | (go_at_call 154; refine (number_any (H'.at i).toNat 4 _ (by omega) (by omega)).mono ?_; rintro e w6 ⟨rfl, hw6⟩)
        | (with_reducible refine at_list ?_; first
          | (refine wpList_indexW rfl _ _ _ rfl H'.at 8 rfl i rfl _ Tryz.underlying237 _ Tryz.underlying235 rfl i38 hlt ?_)
          | (refine wpList_appendStr rfl _ _ _ _ rfl G (4 * i) 32 rfl (be (H'.at i).toNat 4) rfl _ _ Tryz.underlying171 Tryz.underlying9 hi5 hs5 _ _ _ (hbk.below hw6 hz) (by rw [be_length]; omega) (by rw [be_length]; omega) ?_; intro w7 hg7 hs7 hb7; rw [outTo_succ] at hb7; rw [be_length])))
      go_roundw
      case rel => exact ⟨i + 1, by omega, by go_num, by rw [show 4 * (i + 1) = 4 * i + 4 from by omega], (hB.trans (hw6.mono hB.size)).trans (below_of_grown hg7 hgs (by have := hB.size; have := hw6.size; omega)), by have := hw6.size; omega, hb7⟩
      case measure => simp [intOf]; omega
    · have hbk2 : Blk wr G (row8 (outTo H' 8) 32) 5 := by
        rw [show i = 8 from by omega] at hbk
        exact hbk
      clear hbk
      go_wp2_with (with_reducible refine at_list ?_; first
        | (refine wpList_bytesString rfl _ _ _ rfl G (4 * i) 32 rfl _ Tryz.underlying171 Tryz.underlying5 Tryz.underlying9 _ _ _ hbk2 (by omega) ?_))
      go_ret
      refine ⟨?_, hB⟩
      show Ending.returned (.string (strF (outTo H' 8) (4 * i))) = _
      rw [show 4 * i = 32 from by omega]
      have e : (List.range 32).map (outTo H' 8) = digest m := by
        unfold digest
        rw [HW.out]
        apply List.map_congr_left
        intro j hj
        unfold outTo
        rw [if_pos (by simp at hj; omega)]
      unfold strF
      rw [e]

theorem wpList_build0 {P : Program} {ops : Array Oper} {rest : List Oper} {op : Oper} {a : Act} {w : World} {Q : Exit → Act → World → Prop} (hgd : op.guard = none) (t : TypeId) (ho : op.op = .build t #[]) (c : Array Value) (hb : P.built t [] = some c)
    (h : wpList P ops Q rest (a.put op.dst (.agg c)) w) : wpList P ops Q (op :: rest) a w :=
  wpList_build hgd t #[] ho (by rw [Array.map_empty, Array.toList_empty, hb]; rfl) (by
    rw [Array.map_empty, Array.toList_empty, hb]; exact h)
theorem built49 : Tryz.prog.built 261 [] = some (digC S0 (fun _ => 0) 0) := by kernel_rfl
set_option maxRecDepth 100000 in
set_option maxHeartbeats 400000 in
theorem new_any (w : World) : Calls Tryz.prog 152 #[] w fun e w' => e = .returned (.pointer (some ⟨w.heap.size, 0, none⟩)) ∧ Below w.heap.size w w' ∧ w'.heap.size = w.heap.size + 1 ∧ Blk w' w.heap.size (digC S0 (fun _ => 0) 0) 261 := by
  go_enter Tryz.func152, Tryz.ntmps152
  go_wp2_with (with_reducible refine at_list ?_; first
    | (refine wpList_build0 rfl _ rfl _ built49 ?_)
    | (refine wpList_boxRow rfl _ _ rfl (digC S0 (fun _ => 0) 0) rfl ?_; intro w1 hw1 hs1 hb1))
  go_ret
  exact ⟨rfl, hw1, hs1, hb1⟩

end Go.Proofs.YtmbdhngoldganaaGreatDoor.Sh
