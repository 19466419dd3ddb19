/- Laws on whole blocks of memory: a block that is known whole, and what boxing, making, loading and storing a whole array does to it. Arrays of words and bytes as rows of cells. Laws on slices of bytes and strings, over blocks that are known whole. A slice of bytes that grows: what it holds, and appending to it. -/
import Derived.WalkKit
import Derived.Deep.MidRow
import Derived.Deep.WholeRow
import Derived.BigQuiet
import Derived.Test.YtnhlejdilldfaaaGreatNum
import Derived.Laws.MakeOwn
import Derived.Laws.BytesString
import Derived.Deep.AppendSrc
import Derived.Lib.ConvBytes
namespace Go.Proofs.YtnhlejdilldfaaaGreat
open Go Go.RowKit

/-- Block b holds the cells c, of the type t, none of them frozen. -/
structure Blk (w : World) (b : Nat) (c : Array Value) (t : TypeId) : Prop where
  out : w.heap[b]? = some (.cells c t (0, 0))

theorem Blk.cell {w : World} {b : Nat} {c : Array Value} {t : TypeId} (h : Blk w b c t) (o : Nat) : w.cell? ⟨b, o, none⟩ = c[o]? := by
  simp [World.cell?, h.out]
theorem Blk.frozen {w : World} {b : Nat} {c : Array Value} {t : TypeId} (h : Blk w b c t) (o : Nat) : w.frozen? ⟨b, o, none⟩ = false := by
  simp [World.frozen?, h.out]
theorem Blk.lt {w : World} {b : Nat} {c : Array Value} {t : TypeId} (h : Blk w b c t) : b < w.heap.size :=
  (Array.getElem?_eq_some_iff.1 h.out).1
theorem Blk.below {w w' : World} {b B : Nat} {c : Array Value} {t : TypeId} (h : Blk w b c t) (hb : Below B w w') (hl : b < B) : Blk w' b c t :=
  ⟨by rw [hb.block b hl]; exact h.out⟩
theorem Blk.belowSize {w w' : World} {b : Nat} {c : Array Value} {t : TypeId} (h : Blk w b c t) (hb : Below w.heap.size w w') : Blk w' b c t := h.below hb h.lt
theorem Blk.grown {w w' : World} {b : Nat} {row : Option Nat} {c : Array Value} {t : TypeId} (h : Blk w b c t) (hb : w.grownBy w' row) (hr : some b ≠ row) : Blk w' b c t :=
  ⟨by rw [hb.block b h.lt hr]; exact h.out⟩
theorem Blk.drewN {w : World} {b : Nat} {c : Array Value} {t : TypeId} (h : Blk w b c t) (n : Nat) : Blk (w.drewN n) b c t := ⟨h.out⟩
theorem Blk.drew {w : World} {b : Nat} {c : Array Value} {t : TypeId} (h : Blk w b c t) : Blk w.drew b c t := ⟨h.out⟩
theorem Blk.alloc {w : World} {b : Nat} {c : Array Value} {t : TypeId} (h : Blk w b c t) (o : Obj) : Blk (w.alloc o) b c t :=
  h.belowSize ((Below.refl _ _).alloc (Nat.le_refl _) o)
theorem Blk.new (w : World) (c : Array Value) (t : TypeId) : Blk (w.alloc (.cells c t)) w.heap.size c t := ⟨heap_alloc_last w _⟩
theorem Blk.setCell {w : World} {b : Nat} {c : Array Value} {t : TypeId} (h : Blk w b c t) (o : Nat) (v : Value) : Blk (w.setCell ⟨b, o, none⟩ v) b (c.setIfInBounds o v) t :=
  ⟨by simp [World.setCell, Array.getElem?_modify, h.out]⟩
theorem Blk.setCell_other {w : World} {b : Nat} {c : Array Value} {t : TypeId} (h : Blk w b c t) (p : Addr) (hp : b ≠ p.block) (v : Value) : Blk (w.setCell p v) b c t :=
  ⟨by rw [Below.heap_setCell _ _ _ _ hp]; exact h.out⟩
theorem Blk.rangeAll {w : World} {b : Nat} {c : Array Value} {t : TypeId} (h : Blk w b c t) : w.rangeAt b 0 c.toList := fun j v hv => by
  rw [Nat.zero_add, h.cell]; simpa using hv
theorem Blk.there {w : World} {b : Nat} {c : Array Value} {t : TypeId} (h : Blk w b c t) (o n : Nat) (hn : o + n ≤ c.size) : w.there b o n := fun j hj => by
  rw [h.cell, h.frozen]
  refine ⟨?_, rfl⟩
  rw [Array.getElem?_eq_getElem (by omega)]; rfl

/-- Cells with some of them, from o on, put anew. -/
def spl (c : Array Value) (o : Nat) : List Value → Array Value
  | [] => c
  | v :: r => spl (c.setIfInBounds o v) (o + 1) r
theorem Blk.setCells {b : Nat} {t : TypeId} : ∀ (vs : List Value) (o : Nat) {w : World} {c : Array Value}, Blk w b c t → Blk (w.setCells b o vs) b (spl c o vs) t
  | [], _, _, _, h => h
  | v :: r, o, w, c, h => by
    rw [World.setCells]
    exact Blk.setCells r (o + 1) (h.setCell o v)
theorem spl_size : ∀ (vs : List Value) (c : Array Value) (o : Nat), (spl c o vs).size = c.size
  | [], _, _ => rfl
  | v :: r, c, o => by rw [spl, spl_size r]; simp
theorem spl_get : ∀ (vs : List Value) (c : Array Value) (o j : Nat), o + vs.length ≤ c.size → (spl c o vs)[j]? = if o ≤ j ∧ j < o + vs.length then vs[j - o]? else c[j]?
  | [], c, o, j, _ => by rw [spl, if_neg (by simp)]
  | v :: r, c, o, j, h => by
    simp only [List.length_cons] at h
    rw [spl, spl_get r _ _ _ (by simp; omega)]
    simp only [List.length_cons]
    by_cases h1 : o + 1 ≤ j ∧ j < o + 1 + r.length
    · rw [if_pos h1, if_pos (by omega)]
      obtain ⟨i, hi⟩ : ∃ i, j - o = i + 1 := ⟨j - o - 1, by omega⟩
      rw [hi, List.getElem?_cons_succ, show j - (o + 1) = i from by omega]
    · rw [if_neg h1, Array.getElem?_setIfInBounds]
      by_cases h2 : o = j
      · subst h2; rw [if_pos rfl, if_pos (by omega), if_pos (by omega)]; simp
      · rw [if_neg h2, if_neg (by omega)]

theorem grown_refl (w : World) (row : Option Nat) : w.grownBy w row := ⟨rfl, rfl, rfl, Nat.le_refl _, fun _ _ _ => rfl⟩
theorem grown_trans {a b c : World} {row : Option Nat} (h : a.grownBy b row) (k : b.grownBy c row) : a.grownBy c row :=
  ⟨k.os.trans h.os, k.tape.trans h.tape, k.output.trans h.output, Nat.le_trans h.size k.size, fun i hi hr => (k.block i (Nat.lt_of_lt_of_le hi h.size) hr).trans (h.block i hi hr)⟩
theorem grown_of_below {w w' : World} {row : Option Nat} (h : Below w.heap.size w w') : w.grownBy w' row := ⟨h.os, h.tape, h.output, h.size, fun k hk _ => h.block k hk⟩
theorem below_of_grown {w w' : World} {B b : Nat} (h : w.grownBy w' (some b)) (hB : B ≤ b) (hs : B ≤ w.heap.size) : Below B w w' := ⟨h.os, h.tape, h.output, h.size, fun k hk => h.block k (by omega) (by simp; omega)⟩
theorem below_draws {B : Nat} {a w : World} (h : Below B a w) (n : Nat) : Below B a (w.drewN n) := h.trans ⟨rfl, rfl, rfl, Nat.le_refl _, fun _ _ => rfl⟩
theorem heap_setCells_other (b : Nat) : ∀ (vs : List Value) (o : Nat) (w : World) (k : Nat), k ≠ b → (w.setCells b o vs).heap[k]? = w.heap[k]?
  | [], _, _, _, _ => rfl
  | v :: r, o, w, k, h => by rw [World.setCells, heap_setCells_other b r _ _ _ h, Below.heap_setCell _ _ _ _ h]
theorem size_setCells (b : Nat) : ∀ (vs : List Value) (o : Nat) (w : World), (w.setCells b o vs).heap.size = w.heap.size
  | [], _, _ => rfl
  | v :: r, o, w => by rw [World.setCells, size_setCells b r]; simp [World.setCell]
theorem os_setCells (b : Nat) : ∀ (vs : List Value) (o : Nat) (w : World), (w.setCells b o vs).os = w.os ∧ (w.setCells b o vs).tape = w.tape ∧ (w.setCells b o vs).output = w.output
  | [], _, _ => ⟨rfl, rfl, rfl⟩
  | v :: r, o, w => by rw [World.setCells]; exact os_setCells b r _ _
theorem grown_setCells (b : Nat) (vs : List Value) (o : Nat) (w : World) : w.grownBy (w.setCells b o vs) (some b) :=
  ⟨(os_setCells b vs o w).1, (os_setCells b vs o w).2.1, (os_setCells b vs o w).2.2, by rw [size_setCells]; exact Nat.le_refl _, fun k _ hk => heap_setCells_other b vs o w k (fun e => hk (by rw [e]))⟩
theorem grown_setCell (b : Nat) (v : Value) (o : Nat) (w : World) : w.grownBy (w.setCell ⟨b, o, none⟩ v) (some b) := grown_setCells b [v] o w

section
variable {P : Program} {ops : Array Oper} {rest : List Oper} {op : Oper} {a : Act} {w : World} {Q : Exit → Act → World → Prop}

theorem at_list (h : wpList P ops Q (op :: rest) a w) : wpList P ops Q (op :: rest) a w := h
theorem wpList_run (hgd : op.guard = none) (v : Value) (w1 : World) (hr : (execOp a.eval op).run P w = .ok (.value v) w1)
    (h : wpList P ops Q rest (a.put op.dst v) w1) : wpList P ops Q (op :: rest) a w :=
  wpList_plain hgd fun K hK => by unfold Oper.wp; rw [hr]; exact hK _ _ h

/-- An array is boxed: a new block. -/
theorem wpList_boxRow (hgd : op.guard = none) (ty : TypeId) (x : Operand) (ho : op.op = .box ty x) (c : Array Value) (hx : a.eval x = .agg c)
    (h : ∀ w1 : World, Below w.heap.size w w1 → w1.heap.size = w.heap.size + 1 → Blk w1 w.heap.size c ty → wpList P ops Q rest (a.put op.dst (.pointer (some ⟨w.heap.size, 0, none⟩))) w1) :
    wpList P ops Q (op :: rest) a w := by
  refine wpList_run hgd (.pointer (some ⟨w.heap.size, 0, none⟩)) (w.alloc (.cells c ty)) ?_ (h _ ((Below.refl _ _).alloc (Nat.le_refl _) _) (by simp) (Blk.new _ _ _))
  unfold execOp
  simp only [ho, hx]
  rfl

/-- A variable of an array's type is made: a new block, at zero. -/
theorem wpList_allocRow (hgd : op.guard = none) (ty : TypeId) (ho : op.op = .alloc ty) (c : Array Value) (hz : ∀ w, (zeroValue ty).run P w = .ok (.agg c) w)
    (h : ∀ w1 : World, Below w.heap.size w w1 → w1.heap.size = w.heap.size + 1 → Blk w1 w.heap.size c ty → wpList P ops Q rest (a.put op.dst (.pointer (some ⟨w.heap.size, 0, none⟩))) w1) :
    wpList P ops Q (op :: rest) a w := by
  refine wpList_run hgd (.pointer (some ⟨w.heap.size, 0, none⟩)) (w.alloc (.cells c ty)) ?_ (h _ ((Below.refl _ _).alloc (Nat.le_refl _) _) (by simp) (Blk.new _ _ _))
  unfold execOp
  simp only [ho, Instr.alloc, Sem.run_bind, hz, Result.andThen_ok]
  rfl

/-- An array into a block that is known whole, from o on. -/
theorem wpList_storePart (hgd : op.guard = none) (ty : TypeId) (x y : Operand) (ho : op.op = .store ty x y) (b o : Nat) (cells : Array Value)
    (hx : a.eval x = .pointer (some ⟨b, o, none⟩)) (hy : a.eval y = .agg cells) (c : Array Value) (t : TypeId) (hb : Blk w b c t) (hn : o + cells.size ≤ c.size)
    (hi : (P.info? ty).map (·.size) = some cells.size) (h1 : cells.all (·.oneCell') = true)
    (h : ∀ w1 : World, w.grownBy w1 (some b) → w1.heap.size = w.heap.size → Blk w1 b (spl c o cells.toList) t → wpList P ops Q rest (a.put op.dst undef) w1) : wpList P ops Q (op :: rest) a w :=
  wpList_store_mid hgd ty x y ho b o cells hx hy (hb.there o cells.size hn) hi h1 (h _ (grown_setCells _ _ _ _) (size_setCells _ _ _ _) (hb.setCells _ _))

theorem spl_all (c c' : Array Value) (h : c'.size = c.size) : spl c 0 c'.toList = c' := by
  apply Array.ext_getElem?
  intro j
  rw [spl_get _ _ _ _ (by simp [h])]
  by_cases hj : j < c'.size
  · rw [if_pos (by simp; omega)]; simp
  · rw [if_neg (by simp; omega), Array.getElem?_eq_none (by omega), Array.getElem?_eq_none (by omega)]

theorem wpList_storeRow (hgd : op.guard = none) (ty : TypeId) (x y : Operand) (ho : op.op = .store ty x y) (b : Nat) (cells : Array Value)
    (hx : a.eval x = .pointer (some ⟨b, 0, none⟩)) (hy : a.eval y = .agg cells) (c : Array Value) (t : TypeId) (hb : Blk w b c t) (hn : cells.size = c.size)
    (hi : (P.info? ty).map (·.size) = some cells.size) (h1 : cells.all (·.oneCell') = true)
    (h : ∀ w1 : World, w.grownBy w1 (some b) → w1.heap.size = w.heap.size → Blk w1 b cells t → wpList P ops Q rest (a.put op.dst undef) w1) : wpList P ops Q (op :: rest) a w :=
  wpList_storePart hgd ty x y ho b 0 cells hx hy c t hb (by omega) hi h1 (fun w1 g s hb => h w1 g s (by rw [spl_all _ _ hn] at hb; exact hb))

theorem sizeOf_run {e : TypeId} {n : Nat} (h : (P.info? e).map (·.size) = some n) : (sizeOf e).run P w = .ok n w := by
  cases hq : P.info? e with
  | none => simp [hq] at h
  | some i => simp [hq] at h; simp [sizeOf, typeInfo, hq, h]
theorem isAgg_run {e : TypeId} {d : TypeDesc} (hu : P.underlying e = some d) (hd : d.isRow = false) : (isAgg e).run P w = .ok false w := by
  unfold isAgg
  rw [Sem.run_bind, run_underlying hu w]
  cases d <;> simp_all

/-- The address of an element of an array that lies in a block. -/
theorem wpList_addrRow (hgd : op.guard = none) (ty : TypeId) (x i : Operand) (ho : op.op = .indexAddr ty x i) (b o : Nat) (hx : a.eval x = .pointer (some ⟨b, o, none⟩)) (k : IntKind) (n : Int) (hi : a.eval i = .int k n)
    (len : Nat) (e : TypeId) (hu : P.underlying ty = some (.array len e)) (hse : (P.info? e).map (·.size) = some 1)
    (h0 : 0 ≤ n) (h1 : n < len) (h : wpList P ops Q rest (a.put op.dst (.pointer (some ⟨b, o + n.toNat, none⟩))) w) : wpList P ops Q (op :: rest) a w := by
  refine wpList_run hgd (.pointer (some ⟨b, o + n.toNat, none⟩)) w ?_ h
  unfold execOp
  simp only [ho, hx, hi, Instr.indexAt, Instr.sureAddr, asIntOf, Sem.run_bind, Sem.run_pure, Result.andThen_ok, run_underlying hu w, if_pos (And.intro h0 h1), sizeOf_run hse, Nat.mul_one, Addr.add_mid]

/-- One cell out of a block that is known whole. -/
theorem wpList_loadCell (hgd : op.guard = none) (ty : TypeId) (x : Operand) (ho : op.op = .load ty x) (b o : Nat) (hx : a.eval x = .pointer (some ⟨b, o, none⟩))
    (c : Array Value) (t : TypeId) (hb : Blk w b c t) (d : TypeDesc) (hu : P.underlying ty = some d) (hd : d.isRow = false) (v : Value) (hv : c[o]? = some v)
    (h : wpList P ops Q rest (a.put op.dst v) w) : wpList P ops Q (op :: rest) a w := by
  refine wpList_run hgd v w ?_ h
  have hc : w.cell? ⟨b, o, none⟩ = some v := (hb.cell o).trans hv
  unfold execOp
  simp only [ho, hx]
  simp [Instr.loadAt, Instr.sureAddr, Sem.run_bind, loadVar, isAgg_run hu hd, hc, go_sem]

/-- One cell into a block that is known whole. -/
theorem wpList_storeCell (hgd : op.guard = none) (ty : TypeId) (x y : Operand) (ho : op.op = .store ty x y) (b o : Nat) (hx : a.eval x = .pointer (some ⟨b, o, none⟩)) (v : Value) (hy : a.eval y = v)
    (c : Array Value) (t : TypeId) (hb : Blk w b c t) (hi : (P.info? ty).map (·.size) = some 1) (hv : v.cells = #[v]) (h1 : v.oneCell' = true) (hn : o < c.size)
    (h : ∀ w1 : World, w.grownBy w1 (some b) → w1.heap.size = w.heap.size → Blk w1 b (c.setIfInBounds o v) t → wpList P ops Q rest (a.put op.dst undef) w1) : wpList P ops Q (op :: rest) a w := by
  refine wpList_plain hgd fun K hK => ?_
  unfold Oper.wp execOp
  have hs : (storeVar ty ⟨b, o, none⟩ v).run P w = .ok () (w.setCells b o [v]) := by
    have := run_storeCells_cells (P := P) b o [v] 0 w (fun j hj => (hb.there o 1 (by omega) j (by simpa using hj)).1) (fun j hj => (hb.there o 1 (by omega) j (by simpa using hj)).2) (fun u hu => by simp at hu; subst hu; exact h1)
    simp only [Nat.add_zero] at this
    simp [storeVar, Sem.run_bind, sizeOf_run hi, hv, this]
  simp only [ho, hx, hy, Instr.storeAt, Instr.sureAddr, Sem.run_bind, Sem.run_pure, Result.andThen_ok, hs]
  exact hK _ _ (h _ (grown_setCells _ _ _ _) (size_setCells _ _ _ _) (hb.setCells [v] o))
end

end Go.Proofs.YtnhlejdilldfaaaGreat
namespace Go.Proofs.YtnhlejdilldfaaaGreat
open Go

def row8 (f : Nat → UInt8) (n : Nat) : Array Value := Array.ofFn (fun i : Fin n => Value.int .u8 (n8 (f i)))
def upd {α : Type} (f : Nat → α) (i : Nat) (v : α) : Nat → α := fun j => if j = i then v else f j

theorem row8_size (f : Nat → UInt8) (n : Nat) : (row8 f n).size = n := by simp [row8]
theorem row8_get (f : Nat → UInt8) (n j : Nat) (h : j < n) : (row8 f n)[j]? = some (.int .u8 (n8 (f j))) := by
  simp [row8, h]
theorem row8_none (f : Nat → UInt8) (n j : Nat) (h : n ≤ j) : (row8 f n)[j]? = none := by
  simp [row8]; omega
theorem row8_congr {f g : Nat → UInt8} {n : Nat} (h : ∀ j, j < n → f j = g j) : row8 f n = row8 g n := by
  unfold row8; congr 1; funext i; rw [h i i.2]
section
variable {P : Program} {ops : Array Oper} {rest : List Oper} {op : Oper} {a : Act} {w : World} {Q : Exit → Act → World → Prop}
/-- The address of element o of an array of words that lies at the head of a block. -/
theorem wpList_addrW (hgd : op.guard = none) (ty : TypeId) (x i : Operand) (ho : op.op = .indexAddr ty x i) (b : Nat) (hx : a.eval x = .pointer (some ⟨b, 0, none⟩)) (k : IntKind) (n : Int) (hi : a.eval i = .int k n) (o : Nat)
    (len : Nat) (e : TypeId) (hu : P.underlying ty = some (.array len e)) (hse : (P.info? e).map (·.size) = some 1)
    (h0 : n = (o : Int)) (h1 : o < len) (h : wpList P ops Q rest (a.put op.dst (.pointer (some ⟨b, o, none⟩))) w) : wpList P ops Q (op :: rest) a w := by
  subst h0
  refine wpList_addrRow hgd ty x i ho b 0 hx k _ hi len e hu hse (by omega) (by omega) ?_
  rw [Nat.zero_add, Int.toNat_natCast]; exact h
end


end Go.Proofs.YtnhlejdilldfaaaGreat
namespace Go.Proofs.YtnhlejdilldfaaaGreat
open Go Go.RowKit

theorem row8_set (f : Nat → UInt8) (n i : Nat) (v : UInt8) : (row8 f n).setIfInBounds i (.int .u8 (n8 v)) = row8 (upd f i v) n := by
  apply Array.ext_getElem?
  intro j
  rw [Array.getElem?_setIfInBounds]
  by_cases hj : j < n
  · rw [row8_get _ _ _ hj, row8_get _ _ _ hj, row8_size]
    by_cases h : i = j
    · subst h; simp [upd, hj]
    · rw [if_neg h, upd, if_neg (fun e => h e.symm)]
  · rw [row8_none _ _ _ (by omega), row8_none _ _ _ (by omega), row8_size]
    by_cases h : i = j
    · subst h; rw [if_pos rfl, if_neg hj]
    · rw [if_neg h]

/-- The first n of a row of bytes, as a string. -/
def strF (f : Nat → UInt8) (n : Nat) : ByteArray := ⟨((List.range n).map f).toArray⟩
theorem foldl_push (ns : List Int) : ∀ s : ByteArray, ns.foldl (fun r n => r.push (UInt8.ofNat n.toNat)) s = ⟨s.data ++ (ns.map fun n => UInt8.ofNat n.toNat).toArray⟩ := by
  induction ns with
  | nil => intro s; simp
  | cons n ns ih => intro s; rw [List.foldl_cons, ih]; simp [ByteArray.push]
theorem ofNat_n8 (x : UInt8) : UInt8.ofNat (n8 x).toNat = x := by
  unfold n8; simp

section
variable {P : Program} {ops : Array Oper} {rest : List Oper} {op : Oper} {a : Act} {w : World} {Q : Exit → Act → World → Prop}

theorem wpList_storeB (hgd : op.guard = none) (ty : TypeId) (x y : Operand) (ho : op.op = .store ty x y) (b o : Nat) (hx : a.eval x = .pointer (some ⟨b, o, none⟩)) (v : UInt8) (hy : a.eval y = .int .u8 (n8 v))
    (f : Nat → UInt8) (n : Nat) (t : TypeId) (hb : Blk w b (row8 f n) t) (hi : (P.info? ty).map (·.size) = some 1) (hn : o < n)
    (h : ∀ w1 : World, w.grownBy w1 (some b) → w1.heap.size = w.heap.size → Blk w1 b (row8 (upd f o v) n) t → wpList P ops Q rest (a.put op.dst undef) w1) : wpList P ops Q (op :: rest) a w :=
  wpList_storeCell hgd ty x y ho b o hx _ hy _ t hb hi rfl rfl (by rw [row8_size]; exact hn) (fun w1 g s hb1 => h w1 g s (by rw [row8_set] at hb1; exact hb1))

theorem Blk.loadBytes {b : Nat} {f : Nat → UInt8} {m n : Nat} {t : TypeId} (hb : Blk w b (row8 f m) t) (hn : n ≤ m) :
    (loadCells ⟨b, 0, none⟩ n).run P w = .ok (((List.range n).map fun j => n8 (f j)).map (Value.int .u8)).toArray w := by
  have := run_loadCells_list (P := P) w ⟨b, 0, none⟩ (((List.range n).map fun j => n8 (f j)).map (Value.int .u8)) (fun j v hv => by
    have hj : j < n := by have := (List.getElem?_eq_some_iff.1 hv).1; simpa using this
    rw [Addr.add_mid, Nat.zero_add, hb.cell, row8_get _ _ _ (by omega), ← hv]
    simp [hj])
  simpa using this

end

end Go.Proofs.YtnhlejdilldfaaaGreat
namespace Go.Proofs.YtnhlejdilldfaaaGreat
open Go Go.RowKit

theorem mk_size (l : List UInt8) : (ByteArray.mk l.toArray).size = l.length := by show l.toArray.size = _; simp
/-- Block g holds a slice's bytes l, with room for cap. -/
structure BS (w : World) (g cap : Nat) (l : List UInt8) : Prop where
  out : ∃ (cur : Array Value) (fr : Nat × Nat), w.heap[g]? = some (.cells cur 5 fr) ∧ l.length ≤ cap ∧ cap ≤ cur.size ∧ (fr = (0, 0) ∨ cur.size ≤ fr.1) ∧ ∀ j, j < l.length → cur[j]? = some (.int .u8 (n8 (l.getD j 0)))
theorem BS.lt {w : World} {g cap : Nat} {l : List UInt8} (h : BS w g cap l) : g < w.heap.size := by
  obtain ⟨cur, fr, h1, _⟩ := h.out
  exact (Array.getElem?_eq_some_iff.1 h1).1
theorem BS.cell {w : World} {g cap : Nat} {l : List UInt8} (h : BS w g cap l) (j : Nat) (hj : j < l.length) : w.cell? ⟨g, j, none⟩ = some (.int .u8 (n8 (l.getD j 0))) := by
  obtain ⟨cur, fr, h1, _, _, _, h5⟩ := h.out
  simp [World.cell?, h1, h5 j hj]
theorem BS.below {w w' : World} {g cap B : Nat} {l : List UInt8} (h : BS w g cap l) (hb : Below B w w') (hl : g < B) : BS w' g cap l := by
  obtain ⟨cur, fr, h1, hr⟩ := h.out
  exact ⟨cur, fr, by rw [hb.block g hl]; exact h1, hr⟩
theorem BS.belowSize {w w' : World} {g cap : Nat} {l : List UInt8} (h : BS w g cap l) (hb : Below w.heap.size w w') : BS w' g cap l := h.below hb h.lt
theorem BS.grown {w w' : World} {g cap : Nat} {row : Option Nat} {l : List UInt8} (h : BS w g cap l) (hb : w.grownBy w' row) (hr : some g ≠ row) : BS w' g cap l := by
  obtain ⟨cur, fr, h1, hr'⟩ := h.out
  exact ⟨cur, fr, by rw [hb.block g h.lt hr]; exact h1, hr'⟩
theorem BS.drew {w : World} {g cap : Nat} {l : List UInt8} (h : BS w g cap l) : BS w.drew g cap l := ⟨h.out⟩

theorem byteCells_get (l : List UInt8) (j : Nat) (hj : j < l.length) : (l.map fun b => Value.int .u8 (b.toNat : Int))[j]? = some (.int .u8 (n8 (l.getD j 0))) := by
  rw [List.getElem?_map, List.getElem?_eq_getElem hj, List.getD_eq_getElem?_getD, List.getElem?_eq_getElem hj]
  rfl

end Go.Proofs.YtnhlejdilldfaaaGreat
