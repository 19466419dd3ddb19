/- The plain mathematics of words of 32 bits: each operation of Go's uint32, as the walk spells it, is the operation on BitVec 32. What the small functions on words do: turn, RotateLeft32, turned. Laws on whole blocks of memory: a block that is known whole, and what boxing, making, loading and storing a whole array does to it. SHA-256 as plain Lean functions on words, and arrays of words and bytes as rows of cells. -/
import Derived.WalkKit
import Derived.Test.YtmbdhngoldganaaGreatDoorRows
import Derived.WalkSpells
import Derived.WalkLawsBesides
import Derived.Deep.MidRow
import Derived.Deep.WholeRow
import Derived.BigQuiet
namespace Go.Proofs.YtmbdhngoldganaaGreatDoor.Sh
open Go

/-- A word's number. -/
def n32 (x : BitVec 32) : Int := (x.toNat : Int)
def add32 (x y : BitVec 32) : BitVec 32 := x + y
def xor32 (x y : BitVec 32) : BitVec 32 := x ^^^ y
def and32 (x y : BitVec 32) : BitVec 32 := x &&& y
def or32 (x y : BitVec 32) : BitVec 32 := x ||| y
def not32 (x : BitVec 32) : BitVec 32 := ~~~ x
def shr32 (x : BitVec 32) (n : Nat) : BitVec 32 := x >>> n
def shl32 (x : BitVec 32) (n : Nat) : BitVec 32 := x <<< n
/-- A word turned to the right. -/
def rr (n : Nat) (x : BitVec 32) : BitVec 32 := or32 (shr32 x n) (shl32 x (32 - n))

theorem n32_nonneg (x : BitVec 32) : 0 ≤ n32 x := by unfold n32; omega
theorem n32_lt (x : BitVec 32) : n32 x < 4294967296 := by unfold n32; have := x.isLt; omega

theorem n32_add (x y : BitVec 32) : (n32 x + n32 y) % 4294967296 = n32 (add32 x y) := by
  unfold n32 add32; rw [BitVec.toNat_add]; omega
theorem n32_wadd (x y : BitVec 32) : IntKind.u32.wrap (n32 x + n32 y) = n32 (add32 x y) := by
  rw [IntKind.wrap_u32, n32_add]
theorem ofInt_n32 (x : BitVec 32) : BitVec.ofInt 32 (n32 x) = x := by
  unfold n32; simp
theorem wrap_n32 (x : BitVec 32) : IntKind.u32.wrap (n32 x) = n32 x := by
  rw [IntKind.wrap_u32]; have := n32_nonneg x; have := n32_lt x; omega
theorem bits_xor32 (x y : BitVec 32) : bits .xor .u32 (n32 x) (n32 y) = n32 (xor32 x y) := by
  show IntKind.u32.wrap ((BitVec.ofInt 32 (n32 x) ^^^ BitVec.ofInt 32 (n32 y)).toNat : Int) = _
  rw [ofInt_n32, ofInt_n32]; exact wrap_n32 (xor32 x y)
theorem bits_and32 (x y : BitVec 32) : bits .and .u32 (n32 x) (n32 y) = n32 (and32 x y) := by
  show IntKind.u32.wrap ((BitVec.ofInt 32 (n32 x) &&& BitVec.ofInt 32 (n32 y)).toNat : Int) = _
  rw [ofInt_n32, ofInt_n32]; exact wrap_n32 (and32 x y)
theorem bits_or32 (x y : BitVec 32) : bits .or .u32 (n32 x) (n32 y) = n32 (or32 x y) := by
  show IntKind.u32.wrap ((BitVec.ofInt 32 (n32 x) ||| BitVec.ofInt 32 (n32 y)).toNat : Int) = _
  rw [ofInt_n32, ofInt_n32]; exact wrap_n32 (or32 x y)
theorem bits_not32 (x : BitVec 32) : bits .xor .u32 4294967295 (n32 x) = n32 (not32 x) := by
  show IntKind.u32.wrap ((BitVec.ofInt 32 4294967295 ^^^ BitVec.ofInt 32 (n32 x)).toNat : Int) = _
  rw [ofInt_n32]
  have : (BitVec.ofInt 32 4294967295 ^^^ x) = not32 x := by
    unfold not32
    rw [show BitVec.ofInt 32 4294967295 = BitVec.allOnes 32 from by decide, BitVec.allOnes_xor]
  rw [this]; exact wrap_n32 _
theorem bits_notmax (x : BitVec 32) : bits .xor .u32 IntKind.u32.max (n32 x) = n32 (not32 x) := bits_not32 x
theorem sub_not32 (x : BitVec 32) : 4294967295 - n32 x = n32 (not32 x) := by
  unfold n32 not32; rw [BitVec.toNat_not]; have := x.isLt; omega
theorem n32_shr (x : BitVec 32) (n : Nat) : n32 x / 2 ^ n = n32 (shr32 x n) := by
  unfold n32 shr32; rw [BitVec.toNat_ushiftRight, Nat.shiftRight_eq_div_pow]; simp
theorem n32_shl (x : BitVec 32) (n : Nat) : n32 x * 2 ^ n % 4294967296 = n32 (shl32 x n) := by
  unfold n32 shl32; rw [BitVec.toNat_shiftLeft, Nat.shiftLeft_eq]; simp

theorem n32_shl8 (x : BitVec 32) : n32 x * 256 % 4294967296 = n32 (shl32 x 8) := n32_shl x 8
theorem n32_shl16 (x : BitVec 32) : n32 x * 65536 % 4294967296 = n32 (shl32 x 16) := n32_shl x 16
theorem n32_shl24 (x : BitVec 32) : n32 x * 16777216 % 4294967296 = n32 (shl32 x 24) := n32_shl x 24
theorem n32_shr3 (x : BitVec 32) : n32 x / 8 = n32 (shr32 x 3) := n32_shr x 3
theorem n32_shr10 (x : BitVec 32) : n32 x / 1024 = n32 (shr32 x 10) := n32_shr x 10

end Go.Proofs.YtmbdhngoldganaaGreatDoor.Sh
namespace Go.Proofs.YtmbdhngoldganaaGreatDoor.Sh
open Go.RowKit
attribute [local go_sem] n32_add n32_wadd bits_xor32 bits_and32 bits_or32 bits_not32 sub_not32 n32_shr n32_shl

theorem and31 (n : Int) (h : -31 ≤ n) (h2 : n ≤ -1) : bits .and .u64 (IntKind.u64.wrap n) 31 = 32 + n := by
  have h3 : n = -1 ∨ n = -2 ∨ n = -3 ∨ n = -4 ∨ n = -5 ∨ n = -6 ∨ n = -7 ∨ n = -8 ∨ n = -9 ∨ n = -10 ∨ n = -11 ∨ n = -12 ∨ n = -13 ∨ n = -14 ∨ n = -15 ∨ n = -16 ∨ n = -17 ∨ n = -18 ∨ n = -19 ∨ n = -20 ∨ n = -21 ∨ n = -22 ∨ n = -23 ∨ n = -24 ∨ n = -25 ∨ n = -26 ∨ n = -27 ∨ n = -28 ∨ n = -29 ∨ n = -30 ∨ n = -31 := by omega
  rcases h3 with rfl | rfl | rfl | rfl | rfl | rfl | rfl | rfl | rfl | rfl | rfl | rfl | rfl | rfl | rfl | rfl | rfl | rfl | rfl | rfl | rfl | rfl | rfl | rfl | rfl | rfl | rfl | rfl | rfl | rfl | rfl <;> decide +kernel

theorem or32_comm (x y : BitVec 32) : or32 x y = or32 y x := BitVec.or_comm x y

set_option maxHeartbeats 400000 in
theorem rot_any (x : BitVec 32) (n : Int) (w : World) (h : -31 ≤ n) (h2 : n ≤ -1):
    Calls Tryz.prog 221 #[.int .u32 (n32 x), .int .i64 n] w fun e w' => e = .returned (.int .u32 (n32 (rr (-n).toNat x))) ∧ w' = w := by
  have hb := and31 n h h2
  go_enter Tryz.func221, Tryz.ntmps221
  go_wp2
  go_ret
  refine ⟨?_, rfl⟩
  unfold rr
  rw [or32_comm, show 32 - (-n).toNat = (32 + n).toNat from by omega, show (-n).toNat = (32 - (32 + n)).toNat from by omega]
  rfl

set_option maxHeartbeats 400000 in
theorem turned_any (x : BitVec 32) (i j k : Int) (w : World) (hi : 1 ≤ i) (hi2 : i ≤ 31) (hj : 1 ≤ j) (hj2 : j ≤ 31) (hk : 1 ≤ k) (hk2 : k ≤ 31) :
    Calls Tryz.prog 203 #[.int .u32 (n32 x), .int .i64 i, .int .i64 j, .int .i64 k] w fun e w' => e = .returned (.int .u32 (n32 (xor32 (xor32 (rr i.toNat x) (rr j.toNat x)) (rr k.toNat x)))) ∧ w' = w := by
  go_enter Tryz.func203, Tryz.ntmps203
  go_wp2_with (go_at_call 221; refine (rot_any _ _ _ (by omega) (by omega)).mono ?_; rintro e w' ⟨rfl, rfl⟩)
  go_ret
  exact ⟨by simp, rfl⟩
end Go.Proofs.YtmbdhngoldganaaGreatDoor.Sh
namespace Go.Proofs.YtmbdhngoldganaaGreatDoor.Sh
open Go Go.RowKit

/-- Block b holds the cells c, of the type t, none of them frozen. -/
structure Blk (w : World) (b : Nat) (c : Array Value) (t : TypeId) : Prop where
  out : w.heap[b]? = some (.cells c t (0, 0))

theorem Blk.cell {w : World} {b : Nat} {c : Array Value} {t : TypeId} (h : Blk w b c t) (o : Nat) : w.cell? ⟨b, o, none⟩ = c[o]? := by
  simp [World.cell?, h.out]
theorem Blk.frozen {w : World} {b : Nat} {c : Array Value} {t : TypeId} (h : Blk w b c t) (o : Nat) : w.frozen? ⟨b, o, none⟩ = false := by
  simp [World.frozen?, h.out]
theorem Blk.lt {w : World} {b : Nat} {c : Array Value} {t : TypeId} (h : Blk w b c t) : b < w.heap.size :=
  (Array.getElem?_eq_some_iff.1 h.out).1
theorem Blk.below {w w' : World} {b B : Nat} {c : Array Value} {t : TypeId} (h : Blk w b c t) (hb : Below B w w') (hl : b < B) : Blk w' b c t :=
  ⟨by rw [hb.block b hl]; exact h.out⟩
theorem Blk.belowSize {w w' : World} {b : Nat} {c : Array Value} {t : TypeId} (h : Blk w b c t) (hb : Below w.heap.size w w') : Blk w' b c t := h.below hb h.lt
theorem Blk.grown {w w' : World} {b : Nat} {row : Option Nat} {c : Array Value} {t : TypeId} (h : Blk w b c t) (hb : w.grownBy w' row) (hr : some b ≠ row) : Blk w' b c t :=
  ⟨by rw [hb.block b h.lt hr]; exact h.out⟩
theorem Blk.drewN {w : World} {b : Nat} {c : Array Value} {t : TypeId} (h : Blk w b c t) (n : Nat) : Blk (w.drewN n) b c t := ⟨h.out⟩
theorem Blk.drew {w : World} {b : Nat} {c : Array Value} {t : TypeId} (h : Blk w b c t) : Blk w.drew b c t := ⟨h.out⟩
theorem Blk.alloc {w : World} {b : Nat} {c : Array Value} {t : TypeId} (h : Blk w b c t) (o : Obj) : Blk (w.alloc o) b c t :=
  h.belowSize ((Below.refl _ _).alloc (Nat.le_refl _) o)
theorem Blk.new (w : World) (c : Array Value) (t : TypeId) : Blk (w.alloc (.cells c t)) w.heap.size c t := ⟨heap_alloc_last w _⟩
theorem Blk.setCell {w : World} {b : Nat} {c : Array Value} {t : TypeId} (h : Blk w b c t) (o : Nat) (v : Value) : Blk (w.setCell ⟨b, o, none⟩ v) b (c.setIfInBounds o v) t :=
  ⟨by simp [World.setCell, Array.getElem?_modify, h.out]⟩
theorem Blk.setCell_other {w : World} {b : Nat} {c : Array Value} {t : TypeId} (h : Blk w b c t) (p : Addr) (hp : b ≠ p.block) (v : Value) : Blk (w.setCell p v) b c t :=
  ⟨by rw [Below.heap_setCell _ _ _ _ hp]; exact h.out⟩
theorem Blk.range {w : World} {b : Nat} {c : Array Value} {t : TypeId} (h : Blk w b c t) (o n : Nat) : w.rangeAt b o (c.extract o (o + n)).toList := World.rangeAt_of_block h.out o n
theorem Blk.rangeAll {w : World} {b : Nat} {c : Array Value} {t : TypeId} (h : Blk w b c t) : w.rangeAt b 0 c.toList := fun j v hv => by
  rw [Nat.zero_add, h.cell]; simpa using hv
theorem Blk.there {w : World} {b : Nat} {c : Array Value} {t : TypeId} (h : Blk w b c t) (o n : Nat) (hn : o + n ≤ c.size) : w.there b o n := fun j hj => by
  rw [h.cell, h.frozen]
  refine ⟨?_, rfl⟩
  rw [Array.getElem?_eq_getElem (by omega)]; rfl

/-- Cells with some of them, from o on, put anew. -/
def spl (c : Array Value) (o : Nat) : List Value → Array Value
  | [] => c
  | v :: r => spl (c.setIfInBounds o v) (o + 1) r
theorem Blk.setCells {b : Nat} {t : TypeId} : ∀ (vs : List Value) (o : Nat) {w : World} {c : Array Value}, Blk w b c t → Blk (w.setCells b o vs) b (spl c o vs) t
  | [], _, _, _, h => h
  | v :: r, o, w, c, h => by
    rw [World.setCells]
    exact Blk.setCells r (o + 1) (h.setCell o v)
theorem spl_size : ∀ (vs : List Value) (c : Array Value) (o : Nat), (spl c o vs).size = c.size
  | [], _, _ => rfl
  | v :: r, c, o => by rw [spl, spl_size r]; simp
theorem spl_get : ∀ (vs : List Value) (c : Array Value) (o j : Nat), o + vs.length ≤ c.size → (spl c o vs)[j]? = if o ≤ j ∧ j < o + vs.length then vs[j - o]? else c[j]?
  | [], c, o, j, _ => by rw [spl, if_neg (by simp)]
  | v :: r, c, o, j, h => by
    simp only [List.length_cons] at h
    rw [spl, spl_get r _ _ _ (by simp; omega)]
    simp only [List.length_cons]
    by_cases h1 : o + 1 ≤ j ∧ j < o + 1 + r.length
    · rw [if_pos h1, if_pos (by omega)]
      obtain ⟨i, hi⟩ : ∃ i, j - o = i + 1 := ⟨j - o - 1, by omega⟩
      rw [hi, List.getElem?_cons_succ, show j - (o + 1) = i from by omega]
    · rw [if_neg h1, Array.getElem?_setIfInBounds]
      by_cases h2 : o = j
      · subst h2; rw [if_pos rfl, if_pos (by omega), if_pos (by omega)]; simp
      · rw [if_neg h2, if_neg (by omega)]

theorem grown_refl (w : World) (row : Option Nat) : w.grownBy w row := ⟨rfl, rfl, rfl, Nat.le_refl _, fun _ _ _ => rfl⟩
theorem grown_trans {a b c : World} {row : Option Nat} (h : a.grownBy b row) (k : b.grownBy c row) : a.grownBy c row :=
  ⟨k.os.trans h.os, k.tape.trans h.tape, k.output.trans h.output, Nat.le_trans h.size k.size, fun i hi hr => (k.block i (Nat.lt_of_lt_of_le hi h.size) hr).trans (h.block i hi hr)⟩
theorem grown_of_below {w w' : World} {row : Option Nat} (h : Below w.heap.size w w') : w.grownBy w' row := ⟨h.os, h.tape, h.output, h.size, fun k hk _ => h.block k hk⟩
theorem below_of_grown {w w' : World} {B b : Nat} (h : w.grownBy w' (some b)) (hB : B ≤ b) (hs : B ≤ w.heap.size) : Below B w w' := ⟨h.os, h.tape, h.output, h.size, fun k hk => h.block k (by omega) (by simp; omega)⟩
theorem below_draws {B : Nat} {a w : World} (h : Below B a w) (n : Nat) : Below B a (w.drewN n) := h.trans ⟨rfl, rfl, rfl, Nat.le_refl _, fun _ _ => rfl⟩
theorem heap_setCells_other (b : Nat) : ∀ (vs : List Value) (o : Nat) (w : World) (k : Nat), k ≠ b → (w.setCells b o vs).heap[k]? = w.heap[k]?
  | [], _, _, _, _ => rfl
  | v :: r, o, w, k, h => by rw [World.setCells, heap_setCells_other b r _ _ _ h, Below.heap_setCell _ _ _ _ h]
theorem size_setCells (b : Nat) : ∀ (vs : List Value) (o : Nat) (w : World), (w.setCells b o vs).heap.size = w.heap.size
  | [], _, _ => rfl
  | v :: r, o, w => by rw [World.setCells, size_setCells b r]; simp [World.setCell]
theorem os_setCells (b : Nat) : ∀ (vs : List Value) (o : Nat) (w : World), (w.setCells b o vs).os = w.os ∧ (w.setCells b o vs).tape = w.tape ∧ (w.setCells b o vs).output = w.output
  | [], _, _ => ⟨rfl, rfl, rfl⟩
  | v :: r, o, w => by rw [World.setCells]; exact os_setCells b r _ _
theorem grown_setCells (b : Nat) (vs : List Value) (o : Nat) (w : World) : w.grownBy (w.setCells b o vs) (some b) :=
  ⟨(os_setCells b vs o w).1, (os_setCells b vs o w).2.1, (os_setCells b vs o w).2.2, by rw [size_setCells]; exact Nat.le_refl _, fun k _ hk => heap_setCells_other b vs o w k (fun e => hk (by rw [e]))⟩
theorem grown_setCell (b : Nat) (v : Value) (o : Nat) (w : World) : w.grownBy (w.setCell ⟨b, o, none⟩ v) (some b) := grown_setCells b [v] o w

section
variable {P : Program} {ops : Array Oper} {rest : List Oper} {op : Oper} {a : Act} {w : World} {Q : Exit → Act → World → Prop}

theorem at_list (h : wpList P ops Q (op :: rest) a w) : wpList P ops Q (op :: rest) a w := h
theorem wpList_run (hgd : op.guard = none) (v : Value) (w1 : World) (hr : (execOp a.eval op).run P w = .ok (.value v) w1)
    (h : wpList P ops Q rest (a.put op.dst v) w1) : wpList P ops Q (op :: rest) a w :=
  wpList_plain hgd fun K hK => by unfold Oper.wp; rw [hr]; exact hK _ _ h

/-- An array is boxed: a new block. -/
theorem wpList_boxRow (hgd : op.guard = none) (ty : TypeId) (x : Operand) (ho : op.op = .box ty x) (c : Array Value) (hx : a.eval x = .agg c)
    (h : ∀ w1 : World, Below w.heap.size w w1 → w1.heap.size = w.heap.size + 1 → Blk w1 w.heap.size c ty → wpList P ops Q rest (a.put op.dst (.pointer (some ⟨w.heap.size, 0, none⟩))) w1) :
    wpList P ops Q (op :: rest) a w := by
  refine wpList_run hgd (.pointer (some ⟨w.heap.size, 0, none⟩)) (w.alloc (.cells c ty)) ?_ (h _ ((Below.refl _ _).alloc (Nat.le_refl _) _) (by simp) (Blk.new _ _ _))
  unfold execOp
  simp only [ho, hx]
  rfl

/-- A variable of an array's type is made: a new block, at zero. -/
theorem wpList_allocRow (hgd : op.guard = none) (ty : TypeId) (ho : op.op = .alloc ty) (c : Array Value) (hz : ∀ w, (zeroValue ty).run P w = .ok (.agg c) w)
    (h : ∀ w1 : World, Below w.heap.size w w1 → w1.heap.size = w.heap.size + 1 → Blk w1 w.heap.size c ty → wpList P ops Q rest (a.put op.dst (.pointer (some ⟨w.heap.size, 0, none⟩))) w1) :
    wpList P ops Q (op :: rest) a w := by
  refine wpList_run hgd (.pointer (some ⟨w.heap.size, 0, none⟩)) (w.alloc (.cells c ty)) ?_ (h _ ((Below.refl _ _).alloc (Nat.le_refl _) _) (by simp) (Blk.new _ _ _))
  unfold execOp
  simp only [ho, Instr.alloc, Sem.run_bind, hz, Result.andThen_ok]
  rfl

/-- A whole array out of a block that is known whole. -/
theorem wpList_loadRow (hgd : op.guard = none) (ty : TypeId) (x : Operand) (ho : op.op = .load ty x) (b : Nat) (hx : a.eval x = .pointer (some ⟨b, 0, none⟩))
    (c : Array Value) (t : TypeId) (hb : Blk w b c t) (d : TypeDesc) (hu : P.underlying ty = some d) (hd : d.isRow = true) (hi : (P.info? ty).map (·.size) = some c.size)
    (h : wpList P ops Q rest (a.put op.dst (.agg c)) w) : wpList P ops Q (op :: rest) a w := by
  refine wpList_load_mid hgd ty x ho b 0 hx c.toList d hb.rangeAll hu hd (by simpa using hi) ?_
  simpa using h

/-- A part of a block, as an array. -/
theorem wpList_loadPart (hgd : op.guard = none) (ty : TypeId) (x : Operand) (ho : op.op = .load ty x) (b o n : Nat) (hx : a.eval x = .pointer (some ⟨b, o, none⟩))
    (c : Array Value) (t : TypeId) (hb : Blk w b c t) (hn : o + n ≤ c.size) (d : TypeDesc) (hu : P.underlying ty = some d) (hd : d.isRow = true) (hi : (P.info? ty).map (·.size) = some n)
    (h : wpList P ops Q rest (a.put op.dst (.agg (c.extract o (o + n)))) w) : wpList P ops Q (op :: rest) a w := by
  refine wpList_load_mid hgd ty x ho b o hx (c.extract o (o + n)).toList d (hb.range o n) hu hd (by rw [hi]; simp; omega) ?_
  rw [Array.toArray_toList]; exact h

/-- An array into a block that is known whole, from o on. -/
theorem wpList_storePart (hgd : op.guard = none) (ty : TypeId) (x y : Operand) (ho : op.op = .store ty x y) (b o : Nat) (cells : Array Value)
    (hx : a.eval x = .pointer (some ⟨b, o, none⟩)) (hy : a.eval y = .agg cells) (c : Array Value) (t : TypeId) (hb : Blk w b c t) (hn : o + cells.size ≤ c.size)
    (hi : (P.info? ty).map (·.size) = some cells.size) (h1 : cells.all (·.oneCell') = true)
    (h : ∀ w1 : World, w.grownBy w1 (some b) → w1.heap.size = w.heap.size → Blk w1 b (spl c o cells.toList) t → wpList P ops Q rest (a.put op.dst undef) w1) : wpList P ops Q (op :: rest) a w :=
  wpList_store_mid hgd ty x y ho b o cells hx hy (hb.there o cells.size hn) hi h1 (h _ (grown_setCells _ _ _ _) (size_setCells _ _ _ _) (hb.setCells _ _))

theorem spl_all (c c' : Array Value) (h : c'.size = c.size) : spl c 0 c'.toList = c' := by
  apply Array.ext_getElem?
  intro j
  rw [spl_get _ _ _ _ (by simp [h])]
  by_cases hj : j < c'.size
  · rw [if_pos (by simp; omega)]; simp
  · rw [if_neg (by simp; omega), Array.getElem?_eq_none (by omega), Array.getElem?_eq_none (by omega)]

theorem wpList_storeRow (hgd : op.guard = none) (ty : TypeId) (x y : Operand) (ho : op.op = .store ty x y) (b : Nat) (cells : Array Value)
    (hx : a.eval x = .pointer (some ⟨b, 0, none⟩)) (hy : a.eval y = .agg cells) (c : Array Value) (t : TypeId) (hb : Blk w b c t) (hn : cells.size = c.size)
    (hi : (P.info? ty).map (·.size) = some cells.size) (h1 : cells.all (·.oneCell') = true)
    (h : ∀ w1 : World, w.grownBy w1 (some b) → w1.heap.size = w.heap.size → Blk w1 b cells t → wpList P ops Q rest (a.put op.dst undef) w1) : wpList P ops Q (op :: rest) a w :=
  wpList_storePart hgd ty x y ho b 0 cells hx hy c t hb (by omega) hi h1 (fun w1 g s hb => h w1 g s (by rw [spl_all _ _ hn] at hb; exact hb))

theorem sizeOf_run {e : TypeId} {n : Nat} (h : (P.info? e).map (·.size) = some n) : (sizeOf e).run P w = .ok n w := by
  cases hq : P.info? e with
  | none => simp [hq] at h
  | some i => simp [hq] at h; simp [sizeOf, typeInfo, hq, h]
theorem isAgg_run {e : TypeId} {d : TypeDesc} (hu : P.underlying e = some d) (hd : d.isRow = false) : (isAgg e).run P w = .ok false w := by
  unfold isAgg
  rw [Sem.run_bind, run_underlying hu w]
  cases d <;> simp_all

/-- An element out of an array that is held in a slot. -/
theorem wpList_indexRow (hgd : op.guard = none) (ty : TypeId) (x i : Operand) (ho : op.op = .index ty x i) (c : Array Value) (hx : a.eval x = .agg c) (k : IntKind) (n : Int) (hi : a.eval i = .int k n)
    (len : Nat) (e : TypeId) (hu : P.underlying ty = some (.array len e)) (d : TypeDesc) (hue : P.underlying e = some d) (hd : d.isRow = false) (hse : (P.info? e).map (·.size) = some 1)
    (h0 : 0 ≤ n) (h1 : n < len) (v : Value) (hv : c[n.toNat]? = some v) (h : wpList P ops Q rest (a.put op.dst v) w) : wpList P ops Q (op :: rest) a w := by
  refine wpList_run hgd v w ?_ h
  unfold execOp
  simp only [ho, hx, hi, Instr.index, asIntOf, Sem.run_bind, Sem.run_pure, Result.andThen_ok, run_underlying hu w, if_pos (And.intro h0 h1), sizeOf_run hse, part, isAgg_run hue hd, Nat.mul_one, hv]
  rfl

/-- The address of an element of an array that lies in a block. -/
theorem wpList_addrRow (hgd : op.guard = none) (ty : TypeId) (x i : Operand) (ho : op.op = .indexAddr ty x i) (b o : Nat) (hx : a.eval x = .pointer (some ⟨b, o, none⟩)) (k : IntKind) (n : Int) (hi : a.eval i = .int k n)
    (len : Nat) (e : TypeId) (hu : P.underlying ty = some (.array len e)) (hse : (P.info? e).map (·.size) = some 1)
    (h0 : 0 ≤ n) (h1 : n < len) (h : wpList P ops Q rest (a.put op.dst (.pointer (some ⟨b, o + n.toNat, none⟩))) w) : wpList P ops Q (op :: rest) a w := by
  refine wpList_run hgd (.pointer (some ⟨b, o + n.toNat, none⟩)) w ?_ h
  unfold execOp
  simp only [ho, hx, hi, Instr.indexAt, Instr.sureAddr, asIntOf, Sem.run_bind, Sem.run_pure, Result.andThen_ok, run_underlying hu w, if_pos (And.intro h0 h1), sizeOf_run hse, Nat.mul_one, Addr.add_mid]

/-- One cell out of a block that is known whole. -/
theorem wpList_loadCell (hgd : op.guard = none) (ty : TypeId) (x : Operand) (ho : op.op = .load ty x) (b o : Nat) (hx : a.eval x = .pointer (some ⟨b, o, none⟩))
    (c : Array Value) (t : TypeId) (hb : Blk w b c t) (d : TypeDesc) (hu : P.underlying ty = some d) (hd : d.isRow = false) (v : Value) (hv : c[o]? = some v)
    (h : wpList P ops Q rest (a.put op.dst v) w) : wpList P ops Q (op :: rest) a w := by
  refine wpList_run hgd v w ?_ h
  have hc : w.cell? ⟨b, o, none⟩ = some v := (hb.cell o).trans hv
  unfold execOp
  simp only [ho, hx]
  simp [Instr.loadAt, Instr.sureAddr, Sem.run_bind, loadVar, isAgg_run hu hd, hc, go_sem]

/-- One cell into a block that is known whole. -/
theorem wpList_storeCell (hgd : op.guard = none) (ty : TypeId) (x y : Operand) (ho : op.op = .store ty x y) (b o : Nat) (hx : a.eval x = .pointer (some ⟨b, o, none⟩)) (v : Value) (hy : a.eval y = v)
    (c : Array Value) (t : TypeId) (hb : Blk w b c t) (hi : (P.info? ty).map (·.size) = some 1) (hv : v.cells = #[v]) (h1 : v.oneCell' = true) (hn : o < c.size)
    (h : ∀ w1 : World, w.grownBy w1 (some b) → w1.heap.size = w.heap.size → Blk w1 b (c.setIfInBounds o v) t → wpList P ops Q rest (a.put op.dst undef) w1) : wpList P ops Q (op :: rest) a w := by
  refine wpList_plain hgd fun K hK => ?_
  unfold Oper.wp execOp
  have hs : (storeVar ty ⟨b, o, none⟩ v).run P w = .ok () (w.setCells b o [v]) := by
    have := run_storeCells_cells (P := P) b o [v] 0 w (fun j hj => (hb.there o 1 (by omega) j (by simpa using hj)).1) (fun j hj => (hb.there o 1 (by omega) j (by simpa using hj)).2) (fun u hu => by simp at hu; subst hu; exact h1)
    simp only [Nat.add_zero] at this
    simp [storeVar, Sem.run_bind, sizeOf_run hi, hv, this]
  simp only [ho, hx, hy, Instr.storeAt, Instr.sureAddr, Sem.run_bind, Sem.run_pure, Result.andThen_ok, hs]
  exact hK _ _ (h _ (grown_setCells _ _ _ _) (size_setCells _ _ _ _) (hb.setCells [v] o))
end

end Go.Proofs.YtmbdhngoldganaaGreatDoor.Sh
namespace Go.Proofs.YtmbdhngoldganaaGreatDoor.Sh
open Go

def n8 (x : UInt8) : Int := (x.toNat : Int)
theorem n8_nonneg (x : UInt8) : 0 ≤ n8 x := by unfold n8; omega
theorem n8_le (x : UInt8) : n8 x ≤ 255 := by unfold n8; have := x.toNat_lt; omega
/-- A byte as a word. -/
def w8 (x : UInt8) : BitVec 32 := BitVec.ofNat 32 x.toNat
theorem n8_n32 (x : UInt8) : n8 x = n32 (w8 x) := by
  unfold n8 n32 w8; rw [BitVec.toNat_ofNat]; have := x.toNat_lt; omega
theorem n8_wrap (x : UInt8) : IntKind.u32.wrap (n8 x) = n32 (w8 x) := by rw [n8_n32, wrap_n32]

def row32 (f : Nat → BitVec 32) (n : Nat) : Array Value := Array.ofFn (fun i : Fin n => Value.int .u32 (n32 (f i)))
def row8 (f : Nat → UInt8) (n : Nat) : Array Value := Array.ofFn (fun i : Fin n => Value.int .u8 (n8 (f i)))
def upd {α : Type} (f : Nat → α) (i : Nat) (v : α) : Nat → α := fun j => if j = i then v else f j

theorem row32_size (f : Nat → BitVec 32) (n : Nat) : (row32 f n).size = n := by simp [row32]
theorem row8_size (f : Nat → UInt8) (n : Nat) : (row8 f n).size = n := by simp [row8]
theorem row32_get (f : Nat → BitVec 32) (n j : Nat) (h : j < n) : (row32 f n)[j]? = some (.int .u32 (n32 (f j))) := by
  simp [row32, h]
theorem row8_get (f : Nat → UInt8) (n j : Nat) (h : j < n) : (row8 f n)[j]? = some (.int .u8 (n8 (f j))) := by
  simp [row8, h]
theorem row32_none (f : Nat → BitVec 32) (n j : Nat) (h : n ≤ j) : (row32 f n)[j]? = none := by
  simp [row32]; omega
theorem row8_none (f : Nat → UInt8) (n j : Nat) (h : n ≤ j) : (row8 f n)[j]? = none := by
  simp [row8]; omega
theorem row32_set (f : Nat → BitVec 32) (n i : Nat) (v : BitVec 32) : (row32 f n).setIfInBounds i (.int .u32 (n32 v)) = row32 (upd f i v) n := by
  apply Array.ext_getElem?
  intro j
  rw [Array.getElem?_setIfInBounds]
  by_cases hj : j < n
  · rw [row32_get _ _ _ hj, row32_get _ _ _ hj, row32_size]
    by_cases h : i = j
    · subst h; simp [upd, hj]
    · rw [if_neg h, upd, if_neg (fun e => h e.symm)]
  · rw [row32_none _ _ _ (by omega), row32_none _ _ _ (by omega), row32_size]
    by_cases h : i = j
    · subst h; rw [if_pos rfl, if_neg hj]
    · rw [if_neg h]
theorem row32_congr {f g : Nat → BitVec 32} {n : Nat} (h : ∀ j, j < n → f j = g j) : row32 f n = row32 g n := by
  unfold row32; congr 1; funext i; rw [h i i.2]
theorem row8_congr {f g : Nat → UInt8} {n : Nat} (h : ∀ j, j < n → f j = g j) : row8 f n = row8 g n := by
  unfold row8; congr 1; funext i; rw [h i i.2]
theorem row32_one (f : Nat → BitVec 32) (n : Nat) : (row32 f n).all (·.oneCell') = true := by
  rw [Array.all_eq_true_iff_forall_mem]
  intro v hv
  simp only [row32, Array.mem_ofFn] at hv
  obtain ⟨i, rfl⟩ := hv
  rfl
section
variable {P : Program} {ops : Array Oper} {rest : List Oper} {op : Oper} {a : Act} {w : World} {Q : Exit → Act → World → Prop}
theorem wpList_loadW (hgd : op.guard = none) (ty : TypeId) (x : Operand) (ho : op.op = .load ty x) (b o : Nat) (hx : a.eval x = .pointer (some ⟨b, o, none⟩))
    (f : Nat → BitVec 32) (n : Nat) (t : TypeId) (hb : Blk w b (row32 f n) t) (d : TypeDesc) (hu : P.underlying ty = some d) (hd : d.isRow = false) (hn : o < n)
    (h : wpList P ops Q rest (a.put op.dst (.int .u32 (n32 (f o)))) w) : wpList P ops Q (op :: rest) a w :=
  wpList_loadCell hgd ty x ho b o hx _ t hb d hu hd _ (row32_get f n o hn) h
theorem wpList_storeW (hgd : op.guard = none) (ty : TypeId) (x y : Operand) (ho : op.op = .store ty x y) (b o : Nat) (hx : a.eval x = .pointer (some ⟨b, o, none⟩)) (v : BitVec 32) (hy : a.eval y = .int .u32 (n32 v))
    (f : Nat → BitVec 32) (n : Nat) (t : TypeId) (hb : Blk w b (row32 f n) t) (hi : (P.info? ty).map (·.size) = some 1) (hn : o < n)
    (h : ∀ w1 : World, w.grownBy w1 (some b) → w1.heap.size = w.heap.size → Blk w1 b (row32 (upd f o v) n) t → wpList P ops Q rest (a.put op.dst undef) w1) : wpList P ops Q (op :: rest) a w :=
  wpList_storeCell hgd ty x y ho b o hx _ hy _ t hb hi rfl rfl (by rw [row32_size]; exact hn) (fun w1 g s hb1 => h w1 g s (by rw [row32_set] at hb1; exact hb1))
theorem wpList_indexB (hgd : op.guard = none) (ty : TypeId) (x i : Operand) (ho : op.op = .index ty x i) (f : Nat → UInt8) (len : Nat) (hx : a.eval x = .agg (row8 f len)) (k : Nat) (hi : a.eval i = .int .i64 (k : Int))
    (e : TypeId) (hu : P.underlying ty = some (.array len e)) (d : TypeDesc) (hue : P.underlying e = some d) (hd : d.isRow = false) (hse : (P.info? e).map (·.size) = some 1)
    (h1 : k < len) (h : wpList P ops Q rest (a.put op.dst (.int .u8 (n8 (f k)))) w) : wpList P ops Q (op :: rest) a w :=
  wpList_indexRow hgd ty x i ho _ hx .i64 _ hi len e hu d hue hd hse (by omega) (by omega) _ (by rw [Int.toNat_natCast]; exact row8_get f len k h1) h
theorem wpList_indexW (hgd : op.guard = none) (ty : TypeId) (x i : Operand) (ho : op.op = .index ty x i) (f : Nat → BitVec 32) (len : Nat) (hx : a.eval x = .agg (row32 f len)) (k : Nat) (hi : a.eval i = .int .i64 (k : Int))
    (e : TypeId) (hu : P.underlying ty = some (.array len e)) (d : TypeDesc) (hue : P.underlying e = some d) (hd : d.isRow = false) (hse : (P.info? e).map (·.size) = some 1)
    (h1 : k < len) (h : wpList P ops Q rest (a.put op.dst (.int .u32 (n32 (f k)))) w) : wpList P ops Q (op :: rest) a w :=
  wpList_indexRow hgd ty x i ho _ hx .i64 _ hi len e hu d hue hd hse (by omega) (by omega) _ (by rw [Int.toNat_natCast]; exact row32_get f len k h1) h
/-- The address of element o of an array of words that lies at the head of a block. -/
theorem wpList_addrW (hgd : op.guard = none) (ty : TypeId) (x i : Operand) (ho : op.op = .indexAddr ty x i) (b : Nat) (hx : a.eval x = .pointer (some ⟨b, 0, none⟩)) (k : IntKind) (n : Int) (hi : a.eval i = .int k n) (o : Nat)
    (len : Nat) (e : TypeId) (hu : P.underlying ty = some (.array len e)) (hse : (P.info? e).map (·.size) = some 1)
    (h0 : n = (o : Int)) (h1 : o < len) (h : wpList P ops Q rest (a.put op.dst (.pointer (some ⟨b, o, none⟩))) w) : wpList P ops Q (op :: rest) a w := by
  subst h0
  refine wpList_addrRow hgd ty x i ho b 0 hx k _ hi len e hu hse (by omega) (by omega) ?_
  rw [Nat.zero_add, Int.toNat_natCast]; exact h
end

/-- The first m bytes of the word k. -/
def part (f : Nat → UInt8) (k : Nat) : Nat → BitVec 32
  | 0 => 0
  | m + 1 => or32 (shl32 (part f k m) 8) (w8 (f (4 * k + m)))
def wordOf (f : Nat → UInt8) (k : Nat) : BitVec 32 := part f k 4
/-- All words behind i bytes. -/
def partsTo (f : Nat → UInt8) (i : Nat) : Nat → BitVec 32 := fun k => part f k (min 4 (i - 4 * k))
theorem partsTo_zero (f : Nat → UInt8) (k : Nat) : partsTo f 0 k = 0 := by
  unfold partsTo; rw [Nat.zero_sub, Nat.min_zero]; rfl
theorem partsTo_succ (f : Nat → UInt8) (i : Nat) : upd (partsTo f i) (i / 4) (or32 (shl32 (partsTo f i (i / 4)) 8) (w8 (f i))) = partsTo f (i + 1) := by
  funext k
  unfold upd partsTo
  by_cases h : k = i / 4
  · rw [if_pos h]; subst h
    have h1 : min 4 (i - 4 * (i / 4)) = i - 4 * (i / 4) := by omega
    have h2 : min 4 (i + 1 - 4 * (i / 4)) = (i - 4 * (i / 4)) + 1 := by omega
    rw [h1, h2, part, show 4 * (i / 4) + (i - 4 * (i / 4)) = i from by omega]
  · rw [if_neg h]
    have : min 4 (i - 4 * k) = min 4 (i + 1 - 4 * k) := by omega
    rw [this]

def sig0 (x : BitVec 32) : BitVec 32 := xor32 (xor32 (rr 7 x) (rr 18 x)) (shr32 x 3)
def sig1 (x : BitVec 32) : BitVec 32 := xor32 (xor32 (rr 17 x) (rr 19 x)) (shr32 x 10)
def nxt (l : List (BitVec 32)) : BitVec 32 :=
  add32 (add32 (add32 (l.getD (l.length - 16) 0) (sig0 (l.getD (l.length - 15) 0))) (l.getD (l.length - 7) 0)) (sig1 (l.getD (l.length - 2) 0))
/-- The words of the rounds: the block's sixteen, and n more. -/
def sched (f : Nat → UInt8) : Nat → List (BitVec 32)
  | 0 => (List.range 16).map (wordOf f)
  | n + 1 => sched f n ++ [nxt (sched f n)]
theorem sched_length (f : Nat → UInt8) : ∀ n, (sched f n).length = 16 + n
  | 0 => by simp [sched]
  | n + 1 => by rw [sched, List.length_append, sched_length f n]; rfl
def schedF (f : Nat → UInt8) (n : Nat) : Nat → BitVec 32 := fun j => (sched f n).getD j 0
theorem schedF_succ (f : Nat → UInt8) (n : Nat) : schedF f (n + 1) = upd (schedF f n) (n + 16) (nxt (sched f n)) := by
  funext j
  unfold schedF upd
  have hl := sched_length f n
  rw [sched]
  simp only [List.getD_eq_getElem?_getD]
  by_cases h : j = n + 16
  · rw [if_pos h, List.getElem?_append_right (by omega), hl, show j - (16 + n) = 0 from by omega]; rfl
  · rw [if_neg h]
    by_cases h2 : j < 16 + n
    · rw [List.getElem?_append_left (by omega)]
    · rw [List.getElem?_append_right (by omega), List.getElem?_eq_none (by simp; omega), List.getElem?_eq_none (by omega)]
theorem nxt_sched (f : Nat → UInt8) (n : Nat) : nxt (sched f n) = add32 (add32 (add32 (schedF f n n) (sig0 (schedF f n (n + 1)))) (schedF f n (n + 9))) (sig1 (schedF f n (n + 14))) := by
  unfold nxt schedF
  rw [sched_length, show 16 + n - 16 = n from by omega, show 16 + n - 15 = n + 1 from by omega, show 16 + n - 7 = n + 9 from by omega, show 16 + n - 2 = n + 14 from by omega]
theorem sched_zero_parts (f : Nat → UInt8) : partsTo f 64 = schedF f 0 := by
  funext j
  unfold partsTo schedF sched
  rw [List.getD_eq_getElem?_getD]
  by_cases h : j < 16
  · rw [show min 4 (64 - 4 * j) = 4 from by omega]; simp [h, wordOf]
  · rw [show min 4 (64 - 4 * j) = 0 from by omega, List.getElem?_eq_none (by simp; omega)]; rfl
/-- The word of round t. -/
def wt (f : Nat → UInt8) : Nat → BitVec 32 := schedF f 48
structure S8 where
  a : BitVec 32
  b : BitVec 32
  c : BitVec 32
  d : BitVec 32
  e : BitVec 32
  f : BitVec 32
  g : BitVec 32
  h : BitVec 32
def big1 (e : BitVec 32) : BitVec 32 := xor32 (xor32 (rr 6 e) (rr 11 e)) (rr 25 e)
def big0 (a : BitVec 32) : BitVec 32 := xor32 (xor32 (rr 2 a) (rr 13 a)) (rr 22 a)
def choice (e f g : BitVec 32) : BitVec 32 := xor32 (and32 e f) (and32 (not32 e) g)
def most (a b c : BitVec 32) : BitVec 32 := xor32 (xor32 (and32 a b) (and32 a c)) (and32 b c)
def xOf (k w : BitVec 32) (s : S8) : BitVec 32 := add32 (add32 (add32 (add32 s.h (big1 s.e)) (choice s.e s.f s.g)) k) w
def yOf (s : S8) : BitVec 32 := add32 (big0 s.a) (most s.a s.b s.c)
def step (k w : BitVec 32) (s : S8) : S8 := ⟨add32 (xOf k w s) (yOf s), s.a, s.b, s.c, add32 s.d (xOf k w s), s.e, s.f, s.g⟩
def rnds (K W : Nat → BitVec 32) (s : S8) : Nat → S8
  | 0 => s
  | n + 1 => step (K n) (W n) (rnds K W s n)
def S8.add (s t : S8) : S8 := ⟨add32 s.a t.a, add32 s.b t.b, add32 s.c t.c, add32 s.d t.d, add32 s.e t.e, add32 s.f t.f, add32 s.g t.g, add32 s.h t.h⟩
def S8.at (s : S8) : Nat → BitVec 32
  | 0 => s.a | 1 => s.b | 2 => s.c | 3 => s.d | 4 => s.e | 5 => s.f | 6 => s.g | 7 => s.h | _ => 0
def Ktab : List Nat := [1116352408, 1899447441, 3049323471, 3921009573, 961987163, 1508970993, 2453635748, 2870763221, 3624381080, 310598401, 607225278, 1426881987, 1925078388, 2162078206, 2614888103, 3248222580, 3835390401, 4022224774, 264347078, 604807628, 770255983, 1249150122, 1555081692, 1996064986, 2554220882, 2821834349, 2952996808, 3210313671, 3336571891, 3584528711, 113926993, 338241895, 666307205, 773529912, 1294757372, 1396182291, 1695183700, 1986661051, 2177026350, 2456956037, 2730485921, 2820302411, 3259730800, 3345764771, 3516065817, 3600352804, 4094571909, 275423344, 430227734, 506948616, 659060556, 883997877, 958139571, 1322822218, 1537002063, 1747873779, 1955562222, 2024104815, 2227730452, 2361852424, 2428436474, 2756734187, 3204031479, 3329325298]
def Kt (t : Nat) : BitVec 32 := BitVec.ofNat 32 (Ktab.getD t 0)
def H0 : S8 := ⟨1779033703, 3144134277, 1013904242, 2773480762, 1359893119, 2600822924, 528734635, 1541459225⟩
/-- The words behind a block more. -/
def mixS (s : S8) (f : Nat → UInt8) : S8 := s.add (rnds Kt (wt f) s 64)

/-- The two tables of the program lie where its variables lie. -/
structure Glob (w : World) : Prop where
  two : 2 ≤ w.heap.size
  k : ∀ j, j < 64 → w.cell? ⟨1, j, none⟩ = some (.int .u32 (n32 (Kt j)))
  h : ∀ j, j < 8 → w.cell? ⟨0, j, none⟩ = some (.int .u32 (n32 (H0.at j)))
theorem Glob.below {w w' : World} {B : Nat} (h : Glob w) (hb : Go.RowKit.Below B w w') (h2 : 2 ≤ B) : Glob w' :=
  ⟨Nat.le_trans h.two hb.size, fun j hj => by rw [hb.cell (p := ⟨1, j, none⟩) (by show 1 < B; omega)]; exact h.k j hj, fun j hj => by rw [hb.cell (p := ⟨0, j, none⟩) (by show 0 < B; omega)]; exact h.h j hj⟩
theorem Glob.belowSize {w w' : World} (h : Glob w) (hb : Go.RowKit.Below w.heap.size w w') : Glob w' := h.below hb h.two
theorem Glob.grown {w w' : World} {b : Nat} (h : Glob w) (hb : w.grownBy w' (some b)) (h2 : 2 ≤ b) : Glob w' := h.below (below_of_grown hb h2 h.two) (Nat.le_refl _)
theorem Glob.drewN {w : World} (h : Glob w) (n : Nat) : Glob (w.drewN n) := ⟨h.two, h.k, h.h⟩
theorem Glob.drew {w : World} (h : Glob w) : Glob w.drew := ⟨h.two, h.k, h.h⟩
theorem Glob.range {w : World} (h : Glob w) : w.rangeAt 0 0 (row32 H0.at 8).toList := fun j v hv => by
  have hj : j < 8 := by have := (List.getElem?_eq_some_iff.1 hv).1; simpa [row32_size] using this
  rw [Nat.zero_add, h.h j hj, ← row32_get H0.at 8 j hj]; simpa using hv

/-- The words of s, the first i of them with those of t added. -/
def addTo (s t : S8) (i : Nat) : Nat → BitVec 32 := fun j => if j < i then add32 (s.at j) (t.at j) else s.at j
theorem addTo_zero (s t : S8) : addTo s t 0 = s.at := by funext j; unfold addTo; rw [if_neg (by omega)]
theorem addTo_succ (s t : S8) (i : Nat) : upd (addTo s t i) i (add32 (addTo s t i i) (t.at i)) = addTo s t (i + 1) := by
  funext j
  unfold upd addTo
  by_cases h : j = i
  · subst h; rw [if_pos rfl, if_neg (Nat.lt_irrefl _), if_pos (Nat.lt_succ_self _)]
  · rw [if_neg h]
    by_cases h2 : j < i
    · rw [if_pos h2, if_pos (by omega)]
    · rw [if_neg h2, if_neg (by omega)]
theorem S8.add_at (s t : S8) : ∀ j, j < 8 → (s.add t).at j = add32 (s.at j) (t.at j)
  | 0, _ => rfl
  | 1, _ => rfl
  | 2, _ => rfl
  | 3, _ => rfl
  | 4, _ => rfl
  | 5, _ => rfl
  | 6, _ => rfl
  | 7, _ => rfl
  | _ + 8, h => by omega
theorem addTo_all (s t : S8) : row32 (addTo s t 8) 8 = row32 (s.add t).at 8 := row32_congr fun j hj => by unfold addTo; rw [if_pos hj, S8.add_at s t j hj]
theorem row32_eight (s : S8) : #[Value.int .u32 (n32 s.a), .int .u32 (n32 s.b), .int .u32 (n32 s.c), .int .u32 (n32 s.d), .int .u32 (n32 s.e), .int .u32 (n32 s.f), .int .u32 (n32 s.g), .int .u32 (n32 s.h)] = row32 s.at 8 := rfl

end Go.Proofs.YtmbdhngoldganaaGreatDoor.Sh
