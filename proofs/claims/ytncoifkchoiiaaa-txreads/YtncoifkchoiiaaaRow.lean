/- Arrays of words and bytes as rows of cells. -/
import Derived.Test.YtncoifkchoiiaaaCrc
import Derived.Test.YtncoifkchoiiaaaMem
namespace Go.Proofs.Ytncoifkchoiiaaa
open Go

def row32 (f : Nat → BitVec 32) (n : Nat) : Array Value := Array.ofFn (fun i : Fin n => Value.int .u32 (n32 (f i)))
def row8 (f : Nat → UInt8) (n : Nat) : Array Value := Array.ofFn (fun i : Fin n => Value.int .u8 (n8 (f i)))
def upd {α : Type} (f : Nat → α) (i : Nat) (v : α) : Nat → α := fun j => if j = i then v else f j

theorem row32_size (f : Nat → BitVec 32) (n : Nat) : (row32 f n).size = n := by simp [row32]
theorem row8_size (f : Nat → UInt8) (n : Nat) : (row8 f n).size = n := by simp [row8]
theorem row32_get (f : Nat → BitVec 32) (n j : Nat) (h : j < n) : (row32 f n)[j]? = some (.int .u32 (n32 (f j))) := by
  simp [row32, h]
theorem row8_get (f : Nat → UInt8) (n j : Nat) (h : j < n) : (row8 f n)[j]? = some (.int .u8 (n8 (f j))) := by
  simp [row8, h]
theorem row32_none (f : Nat → BitVec 32) (n j : Nat) (h : n ≤ j) : (row32 f n)[j]? = none := by
  simp [row32]; omega
theorem row8_none (f : Nat → UInt8) (n j : Nat) (h : n ≤ j) : (row8 f n)[j]? = none := by
  simp [row8]; omega
theorem row32_set (f : Nat → BitVec 32) (n i : Nat) (v : BitVec 32) : (row32 f n).setIfInBounds i (.int .u32 (n32 v)) = row32 (upd f i v) n := by
  apply Array.ext_getElem?
  intro j
  rw [Array.getElem?_setIfInBounds]
  by_cases hj : j < n
  · rw [row32_get _ _ _ hj, row32_get _ _ _ hj, row32_size]
    by_cases h : i = j
    · subst h; simp [upd, hj]
    · rw [if_neg h, upd, if_neg (fun e => h e.symm)]
  · rw [row32_none _ _ _ (by omega), row32_none _ _ _ (by omega), row32_size]
    by_cases h : i = j
    · subst h; rw [if_pos rfl, if_neg hj]
    · rw [if_neg h]
theorem row32_congr {f g : Nat → BitVec 32} {n : Nat} (h : ∀ j, j < n → f j = g j) : row32 f n = row32 g n := by
  unfold row32; congr 1; funext i; rw [h i i.2]
theorem row8_congr {f g : Nat → UInt8} {n : Nat} (h : ∀ j, j < n → f j = g j) : row8 f n = row8 g n := by
  unfold row8; congr 1; funext i; rw [h i i.2]
theorem row32_one (f : Nat → BitVec 32) (n : Nat) : (row32 f n).all (·.oneCell') = true := by
  rw [Array.all_eq_true_iff_forall_mem]
  intro v hv
  simp only [row32, Array.mem_ofFn] at hv
  obtain ⟨i, rfl⟩ := hv
  rfl
theorem row8_one (f : Nat → UInt8) (n : Nat) : (row8 f n).all (·.oneCell') = true := by
  rw [Array.all_eq_true_iff_forall_mem]
  intro v hv
  simp only [row8, Array.mem_ofFn] at hv
  obtain ⟨i, rfl⟩ := hv
  rfl

section
variable {P : Program} {ops : Array Oper} {rest : List Oper} {op : Oper} {a : Act} {w : World} {Q : Exit → Act → World → Prop}
theorem wpList_loadW (hgd : op.guard = none) (ty : TypeId) (x : Operand) (ho : op.op = .load ty x) (b o : Nat) (hx : a.eval x = .pointer (some ⟨b, o, none⟩))
    (f : Nat → BitVec 32) (n : Nat) (t : TypeId) (hb : Blk w b (row32 f n) t) (d : TypeDesc) (hu : P.underlying ty = some d) (hd : d.isRow = false) (hn : o < n)
    (h : wpList P ops Q rest (a.put op.dst (.int .u32 (n32 (f o)))) w) : wpList P ops Q (op :: rest) a w :=
  wpList_loadCell hgd ty x ho b o hx _ t hb d hu hd _ (row32_get f n o hn) h
theorem wpList_storeW (hgd : op.guard = none) (ty : TypeId) (x y : Operand) (ho : op.op = .store ty x y) (b o : Nat) (hx : a.eval x = .pointer (some ⟨b, o, none⟩)) (v : BitVec 32) (hy : a.eval y = .int .u32 (n32 v))
    (f : Nat → BitVec 32) (n : Nat) (t : TypeId) (hb : Blk w b (row32 f n) t) (hi : (P.info? ty).map (·.size) = some 1) (hn : o < n)
    (h : ∀ w1 : World, w.grownBy w1 (some b) → w1.heap.size = w.heap.size → Blk w1 b (row32 (upd f o v) n) t → wpList P ops Q rest (a.put op.dst undef) w1) : wpList P ops Q (op :: rest) a w :=
  wpList_storeCell hgd ty x y ho b o hx _ hy _ t hb hi rfl rfl (by rw [row32_size]; exact hn) (fun w1 g s hb1 => h w1 g s (by rw [row32_set] at hb1; exact hb1))
theorem wpList_indexB (hgd : op.guard = none) (ty : TypeId) (x i : Operand) (ho : op.op = .index ty x i) (f : Nat → UInt8) (len : Nat) (hx : a.eval x = .agg (row8 f len)) (k : Nat) (hi : a.eval i = .int .i64 (k : Int))
    (e : TypeId) (hu : P.underlying ty = some (.array len e)) (d : TypeDesc) (hue : P.underlying e = some d) (hd : d.isRow = false) (hse : (P.info? e).map (·.size) = some 1)
    (h1 : k < len) (h : wpList P ops Q rest (a.put op.dst (.int .u8 (n8 (f k)))) w) : wpList P ops Q (op :: rest) a w :=
  wpList_indexRow hgd ty x i ho _ hx .i64 _ hi len e hu d hue hd hse (by omega) (by omega) _ (by rw [Int.toNat_natCast]; exact row8_get f len k h1) h
theorem wpList_indexW (hgd : op.guard = none) (ty : TypeId) (x i : Operand) (ho : op.op = .index ty x i) (f : Nat → BitVec 32) (len : Nat) (hx : a.eval x = .agg (row32 f len)) (k : Nat) (hi : a.eval i = .int .i64 (k : Int))
    (e : TypeId) (hu : P.underlying ty = some (.array len e)) (d : TypeDesc) (hue : P.underlying e = some d) (hd : d.isRow = false) (hse : (P.info? e).map (·.size) = some 1)
    (h1 : k < len) (h : wpList P ops Q rest (a.put op.dst (.int .u32 (n32 (f k)))) w) : wpList P ops Q (op :: rest) a w :=
  wpList_indexRow hgd ty x i ho _ hx .i64 _ hi len e hu d hue hd hse (by omega) (by omega) _ (by rw [Int.toNat_natCast]; exact row32_get f len k h1) h
/-- The address of element o of an array of words that lies at the head of a block. -/
theorem wpList_addrW (hgd : op.guard = none) (ty : TypeId) (x i : Operand) (ho : op.op = .indexAddr ty x i) (b : Nat) (hx : a.eval x = .pointer (some ⟨b, 0, none⟩)) (k : IntKind) (n : Int) (hi : a.eval i = .int k n) (o : Nat)
    (len : Nat) (e : TypeId) (hu : P.underlying ty = some (.array len e)) (hse : (P.info? e).map (·.size) = some 1)
    (h0 : n = (o : Int)) (h1 : o < len) (h : wpList P ops Q rest (a.put op.dst (.pointer (some ⟨b, o, none⟩))) w) : wpList P ops Q (op :: rest) a w := by
  subst h0
  refine wpList_addrRow hgd ty x i ho b 0 hx k _ hi len e hu hse (by omega) (by omega) ?_
  rw [Nat.zero_add, Int.toNat_natCast]; exact h
end


end Go.Proofs.Ytncoifkchoiiaaa
