/- The bytes of a digest, and appending a string where there is room. -/
import Derived.Test.YtdolgkegeomafaaDoorSWf
namespace Go.Proofs.YtdolgkegeomafaaDoor.Sh
open Go Go.RowKit

theorem digC_one (H : S8) (fb : Nat → UInt8) (t : Nat) : (digC H fb t).all (·.oneCell') = true := by
  rw [Array.all_eq_true_iff_forall_mem]
  intro v hv
  simp only [digC, Array.mem_ofFn] at hv
  obtain ⟨i, rfl⟩ := hv
  split
  · rfl
  · split <;> rfl

theorem row8_splice (f : Nat → UInt8) (m n : Nat) (l : List UInt8) (h : n + l.length ≤ m) : spl (row8 f m) n (l.map fun b => Value.int .u8 (b.toNat : Int)) = row8 (putB f n l) m := by
  apply Array.ext_getElem?
  intro j
  rw [spl_get _ _ _ _ (by simp [row8_size]; omega)]
  simp only [List.length_map]
  by_cases h1 : n ≤ j ∧ j < n + l.length
  · rw [if_pos h1, row8_get _ _ _ (by omega), putB, if_pos h1, List.getElem?_map, List.getElem?_eq_getElem (by omega), List.getD_eq_getElem?_getD, List.getElem?_eq_getElem (by omega)]
    rfl
  · rw [if_neg h1]
    by_cases h2 : j < m
    · rw [row8_get _ _ _ h2, row8_get _ _ _ h2, putB, if_neg h1]
    · rw [row8_none _ _ _ (by omega), row8_none _ _ _ (by omega)]

/-- The byte j of a digest whose words are s. -/
def outB (s : S8) (j : Nat) : UInt8 := byteAt (s.at (j / 4)).toNat 4 (j % 4)
def outTo (s : S8) (i : Nat) : Nat → UInt8 := fun j => if j < 4 * i then outB s j else 0
theorem outTo_zero (s : S8) (m : Nat) : row8 (outTo s 0) m = row8 (fun _ => 0) m := row8_congr fun j _ => by unfold outTo; rw [if_neg (by omega)]
theorem be_length (n m : Nat) : (be n m).length = m := by simp [be]
theorem outTo_succ (s : S8) (i : Nat) : putB (outTo s i) (4 * i) (be (s.at i).toNat 4) = outTo s (i + 1) := by
  funext j
  unfold putB outTo
  rw [be_length]
  by_cases h : 4 * i ≤ j ∧ j < 4 * i + 4
  · rw [if_pos h, if_pos (by omega), List.getD_eq_getElem?_getD, outB, show j / 4 = i from by omega, show j % 4 = j - 4 * i from by omega]
    simp [be, show j - 4 * i < 4 from by omega]
  · rw [if_neg h]
    by_cases h2 : j < 4 * i
    · rw [if_pos h2, if_pos (by omega)]
    · rw [if_neg h2, if_neg (by omega)]
/-- The words behind a text that is filled up. -/
def hashAll (m : List UInt8) : S8 := hashTo (m ++ padL m.length) ((m ++ padL m.length).length / 64)
/-- THE DIGEST. -/
def digest (m : List UInt8) : List UInt8 := (List.range 32).map (outB (hashAll m))
theorem digest_length (m : List UInt8) : (digest m).length = 32 := by simp [digest]

section
variable {P : Program} {ops : Array Oper} {rest : List Oper} {op : Oper} {a : Act} {w : World} {Q : Exit → Act → World → Prop}
theorem wpList_appendStr (hgd : op.guard = none) (x y : Operand) (t tx : TypeId) (ho : op.op = .call { callee := .builtin .append, args := #[x, y], argTypes := #[t, tx] })
    (b n cap : Nat) (hx : a.eval x = .slice (some ⟨b, 0, none⟩) n cap) (l : List UInt8) (hy : a.eval y = .string ⟨l.toArray⟩)
    (e : TypeId) (i : TypeInfo) (hu : P.underlying t = some (.slice e)) (hux : P.underlying tx = some .string) (hi : P.info? e = some i) (hs : i.size = 1)
    (f : Nat → UInt8) (m : Nat) (ty : TypeId) (hb : Blk w b (row8 f m) ty) (hcap : n + l.length ≤ cap) (hm : n + l.length ≤ m)
    (h : ∀ w1 : World, w.grownBy w1 (some b) → w1.heap.size = w.heap.size → Blk w1 b (row8 (putB f n l) m) ty → wpList P ops Q rest (a.put op.dst (.slice (some ⟨b, 0, none⟩) (n + l.length) cap)) w1) :
    wpList P ops Q (op :: rest) a w := by
  have hsz : (ByteArray.mk l.toArray).size = l.length := mk_size l
  have hbc : byteCells (ByteArray.mk l.toArray) = l.map fun b => Value.int .u8 (b.toNat : Int) := by simp [byteCells]
  have hsrc := Src.ofString (P := P) w hux (ByteArray.mk l.toArray)
  rw [hsz, hbc] at hsrc
  have hr := run_append_room_src (P := P) w t tx op.type e i hu hi b 0 n cap (.string ⟨l.toArray⟩) l.length (l.map fun b => Value.int .u8 (b.toNat : Int)) (by rw [hs]; exact hsrc) hcap
    (fun j hj => by rw [hs, Nat.mul_one, Nat.zero_add]; exact (hb.there n l.length (by rw [row8_size]; omega) j (by simpa using hj)).1)
    (fun j hj => by rw [hs, Nat.mul_one, Nat.zero_add]; exact (hb.there n l.length (by rw [row8_size]; omega) j (by simpa using hj)).2)
  rw [hs, Nat.mul_one, Nat.zero_add] at hr
  have hb2 := hb.setCells (l.map fun b => Value.int .u8 (b.toNat : Int)) n
  rw [row8_splice f m n l hm] at hb2
  refine wpList_run hgd _ _ ?_ (h _ (grown_setCells _ _ _ _) (size_setCells _ _ _ _) hb2)
  unfold execOp
  simp only [ho]
  simp [resolve, invoke, builtin, hx, hy, hr, Result.andThen]
end
end Go.Proofs.YtdolgkegeomafaaDoor.Sh
