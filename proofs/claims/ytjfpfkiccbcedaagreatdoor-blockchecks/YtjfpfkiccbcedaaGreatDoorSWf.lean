/- What ending does. A digest in memory, and the plain mathematics of taking bytes in piece by piece. What Write does. -/
import Derived.Test.YtjfpfkiccbcedaaGreatDoorSShelf
namespace Go.Proofs.YtjfpfkiccbcedaaGreatDoor.Sh
open Go.RowKit

/-- How many noughts. -/
def noughts (t : Nat) : Nat := (64 - (t + 9) % 64) % 64
/-- What fills a text of t bytes up. -/
def padL (t : Nat) : List UInt8 := (128 : UInt8) :: (List.replicate (noughts t) 0 ++ be (8 * t) 8)

set_option maxRecDepth 100000 in
set_option maxHeartbeats 400000 in
theorem ending_any (t : Nat) (w : World) (ht : t ≤ 1099511627776) :
    Calls Tryz.prog 129 #[.int .u64 t] w fun e w' => e = .returned (.string ⟨(padL t).toArray⟩) ∧ Below w.heap.size w w' := by
  go_enter Tryz.func129, Tryz.ntmps129
  go_wp2_with fail
  have hN : noughts t < 64 := by unfold noughts; omega
  rw [show (-(((t : Int) + 1 + 8) % 64) % 64) = ((noughts t : Nat) : Int) from by unfold noughts; omega]
  refine (repeat_any _ _ _ (by omega) (by rw [show (ByteArray.mk #[0]).size = 1 from rfl]; omega)).mono ?_
  rintro e w1 ⟨rfl, hw1⟩
  rw [show (Lib.repeatL (ByteArray.mk #[0]).data.toList (noughts t)) = List.replicate (noughts t) 0 from by
    have := Lib.repeatL_replicate 0 1 (noughts t)
    rw [Nat.mul_one] at this
    exact this]
  obtain ⟨zs, hzs⟩ : ∃ zs, zs = List.replicate (noughts t) (0 : UInt8) := ⟨_, rfl⟩
  rw [← hzs]
  have hl : zs.length ≤ 64 := by rw [hzs, List.length_replicate]; omega
  have HZ : Hid (zs = List.replicate (noughts t) (0 : UInt8)) := hzs
  clear hzs hN
  go_wp2_with fail
  rw [show (8 * (t : Int)) = ((8 * t : Nat) : Int) from by omega]
  refine (number_any (8 * t) 8 _ (by omega) (by omega)).mono ?_
  rintro e w2 ⟨rfl, hw2⟩
  obtain ⟨bs, hbs⟩ : ∃ bs, bs = be (8 * t) 8 := ⟨_, rfl⟩
  rw [← hbs]
  have hl2 : bs.length ≤ 8 := by rw [hbs]; simp [be]
  have HB : Hid (bs = be (8 * t) 8) := hbs
  clear hbs
  go_wp2_with fail
  go_ret
  refine ⟨?_, hw1.trans (hw2.mono hw1.size)⟩
  unfold padL
  rw [← HZ.out, ← HB.out]
  show Ending.returned (.string _) = _
  rw [ByteArray.mk_append_mk, ByteArray.mk_append_mk]
  simp
end Go.Proofs.YtjfpfkiccbcedaaGreatDoor.Sh
namespace Go.Proofs.YtjfpfkiccbcedaaGreatDoor.Sh
open Go Go.RowKit

/-- The cells of a digest: eight words, a block of sixty-four bytes, how many bytes were taken in. -/
def digC (H : S8) (fb : Nat → UInt8) (t : Nat) : Array Value :=
  Array.ofFn (fun i : Fin 73 => if i.1 < 8 then Value.int .u32 (n32 (H.at i)) else if i.1 < 72 then Value.int .u8 (n8 (fb (i - 8))) else Value.int .u64 (t : Int))
theorem digC_size (H : S8) (fb : Nat → UInt8) (t : Nat) : (digC H fb t).size = 73 := by simp [digC]
theorem digC_get (H : S8) (fb : Nat → UInt8) (t j : Nat) (h : j < 73) : (digC H fb t)[j]? = some (if j < 8 then Value.int .u32 (n32 (H.at j)) else if j < 72 then Value.int .u8 (n8 (fb (j - 8))) else Value.int .u64 (t : Int)) := by
  simp [digC, h]
theorem digC_none (H : S8) (fb : Nat → UInt8) (t j : Nat) (h : 73 ≤ j) : (digC H fb t)[j]? = none := by
  simp [digC]; omega
theorem digC_words (H : S8) (fb : Nat → UInt8) (t : Nat) : (digC H fb t).extract 0 (0 + 8) = row32 H.at 8 := by
  apply Array.ext_getElem?
  intro j
  rw [Array.getElem?_extract, digC_size]
  by_cases h : j < 8
  · rw [if_pos (by omega), Nat.zero_add, digC_get _ _ _ _ (by omega), if_pos h, row32_get _ _ _ h]
  · rw [if_neg (by omega), row32_none _ _ _ (by omega)]
theorem digC_block (H : S8) (fb : Nat → UInt8) (t : Nat) : (digC H fb t).extract 8 (8 + 64) = row8 fb 64 := by
  apply Array.ext_getElem?
  intro j
  rw [Array.getElem?_extract, digC_size]
  by_cases h : j < 64
  · rw [if_pos (by omega), digC_get _ _ _ _ (by omega), if_neg (by omega), if_pos (by omega), row8_get _ _ _ h, show 8 + j - 8 = j from by omega]
  · rw [if_neg (by omega), row8_none _ _ _ (by omega)]
theorem digC_taken (H : S8) (fb : Nat → UInt8) (t : Nat) : (digC H fb t)[72]? = some (.int .u64 (t : Int)) := by
  rw [digC_get _ _ _ _ (by omega)]; rfl
theorem digC_setTaken (H : S8) (fb : Nat → UInt8) (t t' : Nat) : (digC H fb t).setIfInBounds 72 (.int .u64 (t' : Int)) = digC H fb t' := by
  apply Array.ext_getElem?
  intro j
  rw [Array.getElem?_setIfInBounds, digC_size]
  by_cases h : 72 = j
  · subst h; rw [if_pos rfl, if_pos (by omega), digC_taken]
  · rw [if_neg h]
    by_cases h2 : j < 73
    · rw [digC_get _ _ _ _ h2, digC_get _ _ _ _ h2]
      by_cases h3 : j < 8
      · rw [if_pos h3, if_pos h3]
      · rw [if_neg h3, if_neg h3, if_pos (by omega), if_pos (by omega)]
    · rw [digC_none _ _ _ _ (by omega), digC_none _ _ _ _ (by omega)]
theorem digC_setWords (H H' : S8) (fb : Nat → UInt8) (t : Nat) : spl (digC H fb t) 0 (row32 H'.at 8).toList = digC H' fb t := by
  apply Array.ext_getElem?
  intro j
  rw [spl_get _ _ _ _ (by simp [row32_size, digC_size])]
  simp only [Array.length_toList, row32_size]
  by_cases h : j < 8
  · rw [if_pos (by omega), digC_get _ _ _ _ (by omega), if_pos h, Nat.sub_zero, Array.getElem?_toList, row32_get _ _ _ h]
  · rw [if_neg (by omega)]
    by_cases h2 : j < 73
    · rw [digC_get _ _ _ _ h2, digC_get _ _ _ _ h2, if_neg h, if_neg h]
    · rw [digC_none _ _ _ _ (by omega), digC_none _ _ _ _ (by omega)]
/-- Bytes put into a block from at on. -/
def putB (fb : Nat → UInt8) (at_ : Nat) (l : List UInt8) : Nat → UInt8 := fun j => if at_ ≤ j ∧ j < at_ + l.length then l.getD (j - at_) 0 else fb j
theorem digC_setBytes (H : S8) (fb : Nat → UInt8) (t at_ : Nat) (l : List UInt8) (h : at_ + l.length ≤ 64) :
    spl (digC H fb t) (8 + at_) (l.map fun b => Value.int .u8 (b.toNat : Int)) = digC H (putB fb at_ l) t := by
  apply Array.ext_getElem?
  intro j
  rw [spl_get _ _ _ _ (by simp [digC_size]; omega)]
  simp only [List.length_map]
  by_cases h1 : 8 + at_ ≤ j ∧ j < 8 + at_ + l.length
  · rw [if_pos h1, digC_get _ _ _ _ (by omega), if_neg (by omega), if_pos (by omega), putB, if_pos (by omega), List.getElem?_map, show j - 8 - at_ = j - (8 + at_) from by omega]
    rw [List.getElem?_eq_getElem (by omega), List.getD_eq_getElem?_getD, List.getElem?_eq_getElem (by omega)]
    rfl
  · rw [if_neg h1]
    by_cases h2 : j < 73
    · rw [digC_get _ _ _ _ h2, digC_get _ _ _ _ h2]
      by_cases h3 : j < 8
      · rw [if_pos h3, if_pos h3]
      · rw [if_neg h3, if_neg h3]
        by_cases h4 : j < 72
        · rw [if_pos h4, if_pos h4, putB, if_neg (by omega)]
        · rw [if_neg h4, if_neg h4]
    · rw [digC_none _ _ _ _ (by omega), digC_none _ _ _ _ (by omega)]

/-! The plain mathematics. -/
theorem part_congr {f g : Nat → UInt8} (k : Nat) : ∀ m, (∀ j, j < m → f (4 * k + j) = g (4 * k + j)) → part f k m = part g k m
  | 0, _ => rfl
  | m + 1, h => by rw [part, part, part_congr k m (fun j hj => h j (by omega)), h m (by omega)]
theorem sched_congr {f g : Nat → UInt8} (h : ∀ j, j < 64 → f j = g j) : ∀ n, sched f n = sched g n
  | 0 => by
    rw [sched, sched]
    apply List.map_congr_left
    intro k hk
    exact part_congr k 4 (fun j hj => h _ (by simp at hk; omega))
  | n + 1 => by rw [sched, sched, sched_congr h n]
theorem mixS_congr {f g : Nat → UInt8} (H : S8) (h : ∀ j, j < 64 → f j = g j) : mixS H f = mixS H g := by
  have : wt f = wt g := by unfold wt schedF; rw [sched_congr h 48]
  unfold mixS; rw [this]
def blkAt (m : List UInt8) (i : Nat) : Nat → UInt8 := fun j => m.getD (64 * i + j) 0
/-- The words behind the first k blocks. -/
def hashTo (m : List UInt8) : Nat → S8
  | 0 => H0
  | k + 1 => mixS (hashTo m k) (blkAt m k)
theorem hashTo_append (m l : List UInt8) : ∀ k, 64 * k ≤ m.length → hashTo (m ++ l) k = hashTo m k
  | 0, _ => rfl
  | k + 1, h => by
    rw [hashTo, hashTo, hashTo_append m l k (by omega)]
    apply mixS_congr
    intro j hj
    unfold blkAt
    rw [List.getD_eq_getElem?_getD, List.getD_eq_getElem?_getD, List.getElem?_append_left (by omega)]

/-- Block b holds a digest that has taken m in. -/
structure Dig (w : World) (b : Nat) (m : List UInt8) (H : S8) (fb : Nat → UInt8) : Prop where
  blk : Blk w b (digC H fb m.length) 191
  words : H = hashTo m (m.length / 64)
  tail : ∀ j, j < m.length % 64 → fb j = m.getD (64 * (m.length / 64) + j) 0

/-- A piece that fits into the block: what the block holds. -/
theorem put_tail {m l : List UInt8} {fb : Nat → UInt8} (ht : ∀ j, j < m.length % 64 → fb j = m.getD (64 * (m.length / 64) + j) 0) (_hl : m.length % 64 + l.length ≤ 64) :
    ∀ j, j < m.length % 64 + l.length → putB fb (m.length % 64) l j = (m ++ l).getD (64 * (m.length / 64) + j) 0 := by
  intro j hj
  unfold putB
  rw [List.getD_eq_getElem?_getD (l := m ++ l)]
  by_cases h : m.length % 64 ≤ j
  · rw [if_pos ⟨h, hj⟩, List.getElem?_append_right (by omega), List.getD_eq_getElem?_getD, show 64 * (m.length / 64) + j - m.length = j - m.length % 64 from by omega]
  · rw [if_neg (by omega), ht j (by omega), List.getElem?_append_left (by omega), List.getD_eq_getElem?_getD]
/-- .. and it is not full. -/
theorem dig_part {m l : List UInt8} {H : S8} {fb : Nat → UInt8} (hw : H = hashTo m (m.length / 64)) (ht : ∀ j, j < m.length % 64 → fb j = m.getD (64 * (m.length / 64) + j) 0) (hl : m.length % 64 + l.length < 64) :
    H = hashTo (m ++ l) ((m ++ l).length / 64) ∧ ∀ j, j < (m ++ l).length % 64 → putB fb (m.length % 64) l j = (m ++ l).getD (64 * ((m ++ l).length / 64) + j) 0 := by
  rw [List.length_append, show (m.length + l.length) / 64 = m.length / 64 from by omega, show (m.length + l.length) % 64 = m.length % 64 + l.length from by omega]
  exact ⟨by rw [hw, hashTo_append m l _ (by omega)], put_tail ht (by omega)⟩
/-- .. and it is full. -/
theorem dig_full {m l : List UInt8} {H : S8} {fb : Nat → UInt8} (hw : H = hashTo m (m.length / 64)) (ht : ∀ j, j < m.length % 64 → fb j = m.getD (64 * (m.length / 64) + j) 0) (hl : m.length % 64 + l.length = 64) :
    mixS H (putB fb (m.length % 64) l) = hashTo (m ++ l) ((m ++ l).length / 64) ∧ (m ++ l).length % 64 = 0 := by
  refine ⟨?_, by rw [List.length_append]; omega⟩
  rw [List.length_append, show (m.length + l.length) / 64 = m.length / 64 + 1 from by omega, hashTo, hashTo_append m l _ (by omega), ← hw]
  apply mixS_congr
  intro j hj
  exact put_tail ht (by omega) j (by omega)

section
variable {P : Program} {ops : Array Oper} {rest : List Oper} {op : Oper} {a : Act} {w : World} {Q : Exit → Act → World → Prop}

/-- copy, from a string into a slice over a block that is known whole. -/
theorem wpList_copyStr (hgd : op.guard = none) (x y : Operand) (dT sT : TypeId) (ho : op.op = .call { callee := .builtin .copy, args := #[x, y], argTypes := #[dT, sT] })
    (b o len cap : Nat) (hx : a.eval x = .slice (some ⟨b, o, none⟩) len cap) (s : List UInt8) (hy : a.eval y = .string ⟨s.toArray⟩)
    (e : TypeId) (hu : P.underlying dT = some (.slice e)) (hse : (P.info? e).map (·.size) = some 1)
    (c : Array Value) (t : TypeId) (hb : Blk w b c t) (n : Nat) (hn : n = Nat.min s.length len) (hfit : o + n ≤ c.size)
    (h : ∀ w1 : World, w.grownBy w1 (some b) → w1.heap.size = w.heap.size → Blk w1 b (spl c o ((s.take n).map fun b => Value.int .u8 (b.toNat : Int))) t → wpList P ops Q rest (a.put op.dst (.int .i64 (n : Int))) w1) :
    wpList P ops Q (op :: rest) a w := by
  have hl : n ≤ s.length := by rw [hn]; exact Nat.min_le_left _ _
  have hr : (Builtin.copy_ #[dT, sT] op.type #[.slice (some ⟨b, o, none⟩) len cap, .string ⟨s.toArray⟩]).run P w = .ok (.int .i64 (n : Int)) (w.setCells b o ((s.take n).map fun b => Value.int .u8 (b.toNat : Int))) := by
    have hst := run_storeCells_cells (P := P) b o ((s.take n).map fun b => Value.int .u8 (b.toNat : Int)) 0 w
      (fun j hj => (hb.there o n hfit j (by simp at hj; omega)).1) (fun j hj => (hb.there o n hfit j (by simp at hj; omega)).2) (fun u hu => by
        obtain ⟨_, _, rfl⟩ := List.mem_map.1 hu
        rfl)
    simp only [Nat.add_zero] at hst
    have hsz : (ByteArray.mk s.toArray).size = s.length := by show s.toArray.size = _; simp
    simp [Builtin.copy_, run_underlying hu, Builtin.lenOf, Builtin.firstCells, sizeOf_run hse, Sem.run_bind, hsz, ← hn, goInt]
    rw [← List.map_take, hst]
    rfl
  refine wpList_run hgd _ _ ?_ (h _ (grown_setCells _ _ _ _) (size_setCells _ _ _ _) (hb.setCells _ _))
  unfold execOp
  simp only [ho]
  simp [resolve, invoke, builtin, hx, hy, hr, Result.andThen]

/-- A slice of an array that lies in a block, from l on. -/
theorem wpList_sliceArr (hgd : op.guard = none) (ty : TypeId) (x lo : Operand) (ho : op.op = .slice ty x (some lo) none none) (b o : Nat) (hx : a.eval x = .pointer (some ⟨b, o, none⟩)) (k : IntKind) (z : Int) (hlo : a.eval lo = .int k z) (l : Nat) (hz : z = (l : Int))
    (n : Nat) (e : TypeId) (hu : P.underlying ty = some (.array n e)) (hse : (P.info? e).map (·.size) = some 1) (hl : l < n)
    (h : wpList P ops Q rest (a.put op.dst (.slice (some ⟨b, o + l, none⟩) (n - l) (n - l))) w) : wpList P ops Q (op :: rest) a w := by
  subst hz
  refine wpList_run hgd _ w ?_ h
  have h2 : ¬ n = l := by omega
  unfold execOp
  simp only [ho, Option.map_some, Option.map_none, hx, hlo]
  simp [Instr.sliceAt, run_underlying hu, Instr.sureAddr, Instr.sliceBounds, Instr.sliceBound, asIntOf, h2, sizeOf_run hse, Addr.add_mid, Sem.run_bind]
  intro h3
  omega
end

end Go.Proofs.YtjfpfkiccbcedaaGreatDoor.Sh
namespace Go.Proofs.YtjfpfkiccbcedaaGreatDoor.Sh
open Go.RowKit

theorem i44 : (Tryz.prog.info? 42).map (·.size) = some 1 := by kernel_rfl
theorem extract_drop (l : List UInt8) (n : Nat) : (ByteArray.mk l.toArray).extract n l.length = ⟨(l.drop n).toArray⟩ := by
  have : ((ByteArray.mk l.toArray).extract n l.length).data = (l.drop n).toArray := by
    apply Array.ext'
    simp [ByteArray.extract, ByteArray.copySlice]
    apply List.take_of_length_le
    simp
  rw [show (ByteArray.mk l.toArray).extract n l.length = ⟨((ByteArray.mk l.toArray).extract n l.length).data⟩ from rfl, this]
attribute [local go_sem] extract_drop
theorem mk_size (l : List UInt8) : (ByteArray.mk l.toArray).size = l.length := by show l.toArray.size = _; simp
def strLen : Value → Nat | .string s => s.size | _ => 0
set_option maxRecDepth 100000 in
set_option maxHeartbeats 4000000 in
theorem write_any (b : Nat) (m s : List UInt8) (H : S8) (fb : Nat → UInt8) (w : World) (hG : Glob w) (hb0 : 2 ≤ b) (hm : m.length + s.length ≤ 1099511627776)
    (hb : Blk w b (digC H fb m.length) 191) (hH : m.length = 0 ∨ H = hashTo m (m.length / 64)) (ht : ∀ j, j < m.length % 64 → fb j = m.getD (64 * (m.length / 64) + j) 0) :
    Calls Tryz.prog 86 #[.pointer (some ⟨b, 0, none⟩), .string ⟨s.toArray⟩] w fun e w' => e = .returned (.tuple #[]) ∧ (∃ H' fb', Dig w' b (m ++ s) H' fb') ∧ w.grownBy w' (some b) := by
  have HH : Hid (m.length = 0 ∨ H = hashTo m (m.length / 64)) := hH
  clear hH
  have HT : Hid (∀ j, j < m.length % 64 → fb j = m.getD (64 * (m.length / 64) + j) 0) := ht
  clear ht
  by_cases h0 : m.length = 0
  case' pos =>
    have hd : ((m.length : Int) == 0) = true := beq_iff_eq.2 (by omega)
    go_enter Tryz.func86, Tryz.ntmps86
    go_wp2_with (with_reducible refine at_list ?_; first
      | (refine wpList_loadCell (op := ⟨some 11, _, _, _, _, _⟩) rfl _ _ rfl b 72 rfl _ _ hb _ Tryz.underlying42 rfl _ (digC_taken _ _ _) ?_)
      | (refine wpList_load_mid (op := ⟨some 14, _, _, _, _, _⟩) rfl _ _ rfl 0 0 rfl (row32 H0.at 8).toList _ hG.range Tryz.underlying188 rfl (by rw [Array.length_toList, row32_size]; exact z40.2) ?_; rw [Array.toArray_toList])
      | (refine wpList_storePart rfl _ _ _ rfl b 0 _ rfl rfl _ _ hb (by rw [row32_size, digC_size]; omega) (by rw [row32_size]; exact z40.2) (row32_one _ _) ?_; intro w1 hg1 hs1 hb1; rw [digC_setWords] at hb1))
    go_simp
    have hG1 : Glob w1 := hG.grown hg1 hb0
    have hD : Dig w1 b m H0 fb := ⟨hb1, by rw [h0]; rfl, HT.out⟩
    clear hb1 hs1 hd h0
  case' neg =>
    have hd : ((m.length : Int) == 0) = false := beq_eq_false_iff_ne.2 (by omega)
    go_enter Tryz.func86, Tryz.ntmps86
    go_wp2_with (with_reducible refine at_list ?_; first
      | (refine wpList_loadCell (op := ⟨some 11, _, _, _, _, _⟩) rfl _ _ rfl b 72 rfl _ _ hb _ Tryz.underlying42 rfl _ (digC_taken _ _ _) ?_))
    have hG1 := hG
    have hg1 : w.grownBy w (some b) := grown_refl w _
    have hD : Dig w b m H fb := ⟨hb, HH.out.resolve_left h0, HT.out⟩
    clear hd h0
  all_goals
    clear HH HT hb
    go_loopw [1] (fun v wl => ∃ (l1 l2 : List UInt8) (H' : S8) (fb' : Nat → UInt8), s = l1 ++ l2 ∧ v = .string ⟨l2.toArray⟩ ∧ w.grownBy wl (some b) ∧ Glob wl ∧ Dig wl b (m ++ l1) H' fb') (fun v _ => strLen v)
    case atStart => exact ⟨[], s, _, _, rfl, rfl, hg1, hG1, by rw [List.append_nil]; exact hD⟩
    case round =>
      clear hD hG1 hg1
      obtain ⟨l1, l2, H', fb', hs, rfl, hg, hG', hD⟩ := hrel
      have HS : Hid (s = l1 ++ l2) := hs
      have hlen : (m ++ l1).length + l2.length ≤ 1099511627776 := by rw [hs] at hm; simp at hm ⊢; omega
      clear hs
      by_cases hl : l2.length = 0
      · have hn : l2 = [] := List.length_eq_zero_iff.1 hl
        subst hn
        go_wp2_with fail
        refine bodyPost_end (results_none rfl _ _ _) rfl ⟨rfl, ⟨H', fb', ?_⟩, hg⟩
        rw [HS.out, List.append_nil]
        exact hD
      · have hp : 0 < l2.length := by omega
        clear hl
        obtain ⟨mm, hmm⟩ : ∃ mm, mm = m ++ l1 := ⟨_, rfl⟩
        have HM : Hid (mm = m ++ l1) := hmm
        rw [← hmm] at hD hlen
        clear hmm
        obtain ⟨n, hn⟩ : ∃ n, n = Nat.min l2.length (64 - mm.length % 64) := ⟨_, rfl⟩
        have hn1 : n ≤ l2.length := by rw [hn]; exact Nat.min_le_left _ _
        have hn2 : mm.length % 64 + n ≤ 64 := by have : n ≤ 64 - mm.length % 64 := by rw [hn]; exact Nat.min_le_right _ _
                                                 omega
        have hn3 : 1 ≤ n := by rw [hn]; simp only [Nat.min_def]; split <;> omega
        have HN : Hid (n = Nat.min l2.length (64 - mm.length % 64)) := hn
        clear hn
        have htl : (l2.take n).length = n := by rw [List.length_take]; omega
        have HTL : Hid ((l2.take n).length = n) := htl
        clear htl
        by_cases hf : mm.length % 64 + n = 64
        · have hff : ((mm.length : Int) % 64 + (n : Int) == 64) = true := beq_iff_eq.2 (by omega)
          go_wp2_with (with_reducible refine at_list ?_; first
            | (refine wpList_loadCell (op := ⟨some 23, _, _, _, _, _⟩) rfl _ _ rfl b 72 rfl _ _ hD.blk _ Tryz.underlying42 rfl _ (digC_taken _ _ _) ?_)
            | (refine wpList_sliceArr rfl _ _ _ rfl b 8 rfl _ _ rfl (mm.length % 64) (by omega) _ _ Tryz.underlying189 i5 (by omega) ?_)
            | (refine wpList_copyStr rfl _ _ _ _ rfl b (8 + mm.length % 64) (64 - mm.length % 64) (64 - mm.length % 64) rfl l2 rfl _ Tryz.underlying57 i5 _ _ hD.blk n HN.out (by rw [digC_size]; omega) ?_; intro w2 hg2 hs2 hb2; rw [digC_setBytes _ _ _ _ _ (by rw [HTL.out]; omega)] at hb2)
            | (refine wpList_loadCell (op := ⟨some 39, _, _, _, _, _⟩) rfl _ _ rfl b 72 rfl _ _ hb2 _ Tryz.underlying42 rfl _ (digC_taken _ _ _) ?_)
            | (refine wpList_storeCell rfl _ _ _ rfl b 72 rfl (.int .u64 ((mm.length : Int) + (n : Int))) rfl _ _ hb2 i44 rfl rfl (by rw [digC_size]; omega) ?_; intro w3 hg3 hs3 hb3; rw [show ((mm.length : Int) + (n : Int)) = ((mm.length + n : Nat) : Int) from by omega, digC_setTaken] at hb3))
          have hG3 : Glob w3 := (hG'.grown hg2 hb0).grown hg3 hb0
          have hr0 : w3.drew.rangeAt b 0 (row32 H'.at 8).toList := by have := hb3.drew.range 0 8; rw [digC_words] at this; exact this
          have hr8 : w3.drew.rangeAt b 8 (row8 (putB fb' (mm.length % 64) (l2.take n)) 64).toList := by have := hb3.drew.range 8 64; rw [digC_block] at this; exact this
          have hi0 : (Tryz.prog.info? 188).map (·.size) = some (row32 H'.at 8).toList.length := by rw [Array.length_toList, row32_size]; exact z40.2
          have hi8 : (Tryz.prog.info? 189).map (·.size) = some (row8 (putB fb' (mm.length % 64) (l2.take n)) 64).toList.length := by rw [Array.length_toList, row8_size]; exact i47
          refine wp_region_any (by kernel_rfl) ?_
          change wpAny _ _ _ _ _ _ _ (World.drew _)
          refine wpAny_take (i := 0) (oi := ⟨some 49, .move (.tmp 0), _, _, _, _⟩) (v := .pointer (some ⟨b, 0, none⟩)) rfl (by kernel_rfl) (by kernel_rfl) (by kernel_rfl) (fun _ _ _ h => h) (Or.inl ⟨by rfl, fun w => by go_simp⟩) ?_
          refine wpAny_take (i := 1) (oi := ⟨some 50, .move (.tmp 0), _, _, _, _⟩) (v := .pointer (some ⟨b, 0, none⟩)) rfl (by kernel_rfl) (by kernel_rfl) (by kernel_rfl) (fun _ _ _ h => h) (Or.inl ⟨by rfl, fun w => by go_simp⟩) ?_
          refine wpAny_take (i := 2) (oi := ⟨some 51, .nilCheck (.tmp 50), _, _, _, _⟩) (v := .pointer (some ⟨b, 0, none⟩)) rfl (by kernel_rfl) (by kernel_rfl) (by kernel_rfl) (fun _ _ _ h => h) (Or.inl ⟨by rfl, fun w => by go_simp⟩) ?_
          refine wpAny_take (i := 3) (oi := ⟨some 52, .fieldAddr 191 (.tmp 51) 0, _, _, _, _⟩) (v := .pointer (some ⟨b, 0, none⟩)) rfl (by kernel_rfl) (by kernel_rfl) (by kernel_rfl) (fun _ _ _ h => h) (Or.inl ⟨by rfl, fun w => by go_simp⟩) ?_
          refine wpAny_take (i := 5) (oi := ⟨some 54, .move (.tmp 0), _, _, _, _⟩) (v := .pointer (some ⟨b, 0, none⟩)) rfl (by kernel_rfl) (by kernel_rfl) (by kernel_rfl) (fun _ _ _ h => h) (Or.inl ⟨by rfl, fun w => by go_simp⟩) ?_
          refine wpAny_take (i := 6) (oi := ⟨some 55, .nilCheck (.tmp 54), _, _, _, _⟩) (v := .pointer (some ⟨b, 0, none⟩)) rfl (by kernel_rfl) (by kernel_rfl) (by kernel_rfl) (fun _ _ _ h => h) (Or.inl ⟨by rfl, fun w => by go_simp⟩) ?_
          refine wpAny_take (i := 7) (oi := ⟨some 56, .fieldAddr 191 (.tmp 55) 1, _, _, _, _⟩) (v := .pointer (some ⟨b, 8, none⟩)) rfl (by kernel_rfl) (by kernel_rfl) (by kernel_rfl) (fun _ _ _ h => h) (Or.inl ⟨by rfl, fun w => by go_simp⟩) ?_
          simp only [Act.put, List.setIfInBounds_toArray, List.set_cons_zero, List.set_cons_succ]
          refine wpAny_ready (rs := [4, 8]) (by kernel_rfl) (by simp) ?_
          refine AllReady.cons (o := ⟨some 53, .load 188 (.tmp 52), _, _, _, _⟩) rfl (fun K hK => ?_) (AllReady.cons (o := ⟨some 57, .load 189 (.tmp 56), _, _, _, _⟩) rfl (fun K hK => ?_) AllReady.nil)
          case' refine_1 =>
            rw [if_pos (by rfl)]
            refine wp_load_mid 188 (.tmp 52) rfl b 0 rfl _ _ hr0 Tryz.underlying188 rfl hi0 ?_
            refine hK _ _ ?_
            clear hK K
            refine wpAny_ready (rs := [8]) (by kernel_rfl) (by simp) ?_
            refine AllReady.cons (o := ⟨some 57, .load 189 (.tmp 56), _, _, _, _⟩) rfl (fun K hK => ?_) AllReady.nil
            rw [if_pos (by rfl)]
            refine wp_load_mid 189 (.tmp 56) rfl b 8 rfl _ _ hr8 Tryz.underlying189 rfl hi8 ?_
            refine hK _ _ ?_
            clear hK K
          case' refine_2 =>
            rw [if_pos (by rfl)]
            refine wp_load_mid 189 (.tmp 56) rfl b 8 rfl _ _ hr8 Tryz.underlying189 rfl hi8 ?_
            refine hK _ _ ?_
            clear hK K
            refine wpAny_ready (rs := [4]) (by kernel_rfl) (by simp) ?_
            refine AllReady.cons (o := ⟨some 53, .load 188 (.tmp 52), _, _, _, _⟩) rfl (fun K hK => ?_) AllReady.nil
            rw [if_pos (by rfl)]
            refine wp_load_mid 188 (.tmp 52) rfl b 0 rfl _ _ hr0 Tryz.underlying188 rfl hi0 ?_
            refine hK _ _ ?_
            clear hK K
          all_goals
            clear hr0 hr8 hi0 hi8
            refine wpAny_ready (rs := [9]) (by kernel_rfl) (by simp) ?_
            refine AllReady.cons (o := ⟨some 58, .call ⟨.value (.func 128), #[.tmp 53, .tmp 57], #[188, 189]⟩, _, _, _, _⟩) rfl (fun K hK => ?_) AllReady.nil
            rw [if_pos (by rfl), Array.toArray_toList, Array.toArray_toList]
            go_simp
            refine (mix_any _ _ _ hG3.drew).mono ?_
            rintro e w4 ⟨rfl, hw4⟩
            refine hK _ _ ?_
            clear hK K
            refine wpAny_take (i := 10) (oi := ⟨some 59, .nilCheck (.tmp 49), _, _, _, _⟩) (v := .pointer (some ⟨b, 0, none⟩)) rfl (by kernel_rfl) (by kernel_rfl) (by kernel_rfl) (fun _ _ _ h => h) (Or.inl ⟨by rfl, fun w => by go_simp⟩) ?_
            refine wpAny_take (i := 11) (oi := ⟨some 60, .fieldAddr 191 (.tmp 59) 0, _, _, _, _⟩) (v := .pointer (some ⟨b, 0, none⟩)) rfl (by kernel_rfl) (by kernel_rfl) (by kernel_rfl) (fun _ _ _ h => h) (Or.inl ⟨by rfl, fun w => by go_simp⟩) ?_
            refine wpAny_ready (rs := [12]) (by kernel_rfl) (by simp) ?_
            refine AllReady.cons (o := ⟨none, .store 188 (.tmp 60) (.tmp 58), _, _, _, _⟩) rfl (fun K hK => ?_) AllReady.nil
            rw [if_pos (by rfl)]
            have hb4 : Blk w4 b (digC H' (putB fb' (mm.length % 64) (l2.take n)) (mm.length + n)) 191 := hb3.drew.belowSize hw4
            refine wp_store_mid 188 (.tmp 60) (.tmp 58) rfl b 0 (row32 (mixS H' (putB fb' (mm.length % 64) (l2.take n))).at 8) rfl rfl (hb4.there 0 _ (by rw [row32_size, digC_size]; omega)) (by rw [row32_size]; exact z40.2) (row32_one _ _) ?_
            refine hK _ _ ?_
            clear hK K
            refine wpAny_done (by kernel_rfl) ?_ _
            have hb5 := hb4.setCells (row32 (mixS H' (putB fb' (mm.length % 64) (l2.take n))).at 8).toList 0
            rw [digC_setWords] at hb5
            have hg5 : w3.grownBy (w4.setCells b 0 (row32 (mixS H' (putB fb' (mm.length % 64) (l2.take n))).at 8).toList) (some b) :=
              grown_trans (grown_of_below ((Below.refl w3.heap.size w3).drew.trans (show Below w3.heap.size w3.drew w4 from hw4))) (grown_setCells _ _ _ _)
            generalize w4.setCells b 0 (row32 (mixS H' (putB fb' (mm.length % 64) (l2.take n))).at 8).toList = w5 at hb5 hg5 ⊢
            clear hb4 hw4
            go_simp
            go_wp2_with fail
            go_roundw
            case rel =>
              have hq := dig_full (l := l2.take n) hD.words hD.tail (by rw [HTL.out]; omega)
              have hml : mm.length + n = (mm ++ l2.take n).length := by rw [List.length_append, HTL.out]
              refine ⟨l1 ++ l2.take n, l2.drop n, mixS H' (putB fb' (mm.length % 64) (l2.take n)), putB fb' (mm.length % 64) (l2.take n), ?_, rfl, grown_trans hg (grown_trans hg2 (grown_trans hg3 hg5)), hG3.grown hg5 hb0, ?_⟩
              · rw [List.append_assoc, List.take_append_drop]; exact HS.out
              · rw [← List.append_assoc, ← HM.out]
                exact ⟨by rw [← hml]; exact hb5, hq.1, fun j hj => by rw [hq.2] at hj; omega⟩
            case measure => simp only [strLen, mk_size, List.length_drop]; omega
        · have hff : ((mm.length : Int) % 64 + (n : Int) == 64) = false := beq_eq_false_iff_ne.2 (by omega)
          go_wp2_with (with_reducible refine at_list ?_; first
            | (refine wpList_loadCell (op := ⟨some 23, _, _, _, _, _⟩) rfl _ _ rfl b 72 rfl _ _ hD.blk _ Tryz.underlying42 rfl _ (digC_taken _ _ _) ?_)
            | (refine wpList_sliceArr rfl _ _ _ rfl b 8 rfl _ _ rfl (mm.length % 64) (by omega) _ _ Tryz.underlying189 i5 (by omega) ?_)
            | (refine wpList_copyStr rfl _ _ _ _ rfl b (8 + mm.length % 64) (64 - mm.length % 64) (64 - mm.length % 64) rfl l2 rfl _ Tryz.underlying57 i5 _ _ hD.blk n HN.out (by rw [digC_size]; omega) ?_; intro w2 hg2 hs2 hb2; rw [digC_setBytes _ _ _ _ _ (by rw [HTL.out]; omega)] at hb2)
            | (refine wpList_loadCell (op := ⟨some 39, _, _, _, _, _⟩) rfl _ _ rfl b 72 rfl _ _ hb2 _ Tryz.underlying42 rfl _ (digC_taken _ _ _) ?_)
            | (refine wpList_storeCell rfl _ _ _ rfl b 72 rfl (.int .u64 ((mm.length : Int) + (n : Int))) rfl _ _ hb2 i44 rfl rfl (by rw [digC_size]; omega) ?_; intro w3 hg3 hs3 hb3; rw [show ((mm.length : Int) + (n : Int)) = ((mm.length + n : Nat) : Int) from by omega, digC_setTaken] at hb3))
          go_roundw
          case rel =>
            have hq := dig_part (l := l2.take n) hD.words hD.tail (by rw [HTL.out]; omega)
            have hml : mm.length + n = (mm ++ l2.take n).length := by rw [List.length_append, HTL.out]
            refine ⟨l1 ++ l2.take n, l2.drop n, H', putB fb' (mm.length % 64) (l2.take n), ?_, rfl, grown_trans hg (grown_trans hg2 hg3), (hG'.grown hg2 hb0).grown hg3 hb0, ?_⟩
            · rw [List.append_assoc, List.take_append_drop]; exact HS.out
            · rw [← List.append_assoc, ← HM.out]
              exact ⟨by rw [← hml]; exact hb3, hq.1, hq.2⟩
          case measure => simp only [strLen, mk_size, List.length_drop]; omega
end Go.Proofs.YtjfpfkiccbcedaaGreatDoor.Sh
