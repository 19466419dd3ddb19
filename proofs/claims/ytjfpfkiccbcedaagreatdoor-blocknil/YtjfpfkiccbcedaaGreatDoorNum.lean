/- The model of a state: texts and what they have, rising; and how a map in memory holds it. The plain mathematics of words of 32 bits: each operation of Go's uint32, as the walk spells it, is the operation on BitVec 32. CRC-32C over plain words: bit by bit, by fours, over bytes; what is changed in up to 32 bits side by side is found. Numbers as bytes, the highest first, and back. -/
import Derived.Maps.Ext
import Derived.Maps.OwnSet
import Derived.Maps.RangeWalk
import Derived.Sort.KeysCollected
import Derived.WideKeyEntry
import Derived.WalkKit
namespace Go.Proofs.YtjfpfkiccbcedaaGreatDoor
open Go Go.RowKit Go.Maps
/-- A text, and what it has. -/
abbrev KV := List UInt8 × List UInt8
def lft (p : KV) : Lit × DataW Unit := (.string p.1, .lit (.string p.2))
/-- The datum of a map that has these texts. -/
def dm (m : List KV) : DataW Unit := .map (m.map lft)
def insM (x : KV) : List KV → List KV
  | [] => [x]
  | y :: r => if bytesBefore x.1 y.1 then x :: y :: r else y :: insM x r
def delM (k : List UInt8) (m : List KV) : List KV := m.filter fun p => !(p.1 == k)
def putM (k v : List UInt8) (m : List KV) : List KV := insM (k, v) (delM k m)
def getM (m : List KV) (k : List UInt8) : Option (List UInt8) := (m.find? fun p => p.1 == k).map (·.2)
def Ris (m : List KV) : Prop := m.Pairwise fun p q => bytesBefore p.1 q.1 = true
theorem dm_ins (x : KV) : ∀ m : List KV, DataW.insert (lft x) (m.map lft) = (insM x m).map lft
  | [] => rfl
  | y :: r => by
    have e : (lft x).1.before (lft y).1 = bytesBefore x.1 y.1 := rfl
    rw [List.map_cons, DataW.insert, insM, e]
    cases bytesBefore x.1 y.1
    · rw [if_neg (by simp), if_neg (by simp), List.map_cons, dm_ins x r]
    · rw [if_pos rfl, if_pos rfl, List.map_cons, List.map_cons]
theorem dm_filter (k : List UInt8) (m : List KV) : (m.map lft).filter (fun p => !p.1.sameKey (.string k)) = (delM k m).map lft := by
  unfold delM
  rw [List.filter_map]
  rfl
theorem dm_put (k v : List UInt8) (m : List KV) : (dm m).put (.string k) (.lit (.string v)) = dm (putM k v m) := by
  unfold dm DataW.put putM
  simp only
  rw [dm_filter, ← dm_ins]
  rfl
theorem dm_del (k : List UInt8) (m : List KV) : (dm m).del (.string k) = dm (delM k m) := by
  unfold dm DataW.del
  simp only
  rw [dm_filter]
theorem dm_has (m : List KV) (k : List UInt8) : Maps.has (dm m) (.string k) = (getM m k).isSome := by
  unfold dm getM
  rw [Maps.has_eq, List.any_map, Option.isSome_map, List.isSome_find?]
  rfl
theorem dm_at (m : List KV) (k : List UInt8) (z : List UInt8) : (dm m).atKey (.string k) (.lit (.string z)) = .lit (.string ((getM m k).getD z)) := by
  unfold dm getM DataW.atKey
  simp only [List.find?_map]
  have e : ((fun p : Lit × DataW Unit => p.1.sameKey (.string k)) ∘ lft) = fun p : KV => p.1 == k := rfl
  rw [e]
  cases m.find? fun p => p.1 == k <;> rfl
theorem dm_size (m : List KV) : Maps.size (dm m) = m.length := by unfold dm; rw [Maps.size_eq, List.length_map]
/-- How what a text has lies in a map. -/
def hld : Value → Option (DataW Unit × List MemPlace)
  | .agg ⟨[.string s]⟩ => if s.size ≤ maxLen then some (.lit (.string s.data.toList), []) else none
  | _ => none
abbrev hv (v : List UInt8) : Value := .agg #[.string ⟨v.toArray⟩]
theorem hld_mk {v : List UInt8} (h : v.length ≤ maxLen) : hld (hv v) = some (.lit (.string v), []) := by
  have e : (ByteArray.mk v.toArray).size ≤ maxLen := by show v.toArray.size ≤ _; simpa using h
  show (if (ByteArray.mk v.toArray).size ≤ maxLen then some (DataW.lit (Lit.string v.toArray.toList), ([] : List MemPlace)) else none) = _
  rw [if_pos e]
theorem hld_inv {x : Value} {z : DataW Unit × List MemPlace} (h : hld x = some z) : ∃ v : List UInt8, x = hv v ∧ z = (.lit (.string v), []) ∧ v.length ≤ maxLen := by
  unfold hld at h
  split at h
  · rename_i s
    split at h
    · rename_i hs
      refine ⟨s.data.toList, rfl, (Option.some.inj h).symm, ?_⟩
      rw [Array.length_toList]
      exact hs
    · cases h
  · cases h
section
variable {P : Program} {k : TypeId} {w : World} {b n : Nat} {m : List KV}
/-- Block b is a map that has the texts m. -/
def MP (P : Program) (k : TypeId) (w : World) (b : Nat) (m : List KV) : Prop := w.ownsMap P k hld b m.length (dm m)
theorem MP.of {D : DataW Unit} (h : w.ownsMap P k hld b n D) (e : D = dm m) : MP P k w b m := by
  subst e
  obtain ⟨es, clock, hb, F, _, hD⟩ := h
  refine ⟨es, clock, hb, F, ?_, hD⟩
  have hl := congrArg Maps.size hD
  rw [dm_size, Maps.size_eq, length_sorted, List.length_map] at hl
  exact Nat.le_of_eq (Array.length_toList.symm.trans hl.symm)
theorem MP.kept {w' : World} {row : Option Nat} (h : MP P k w b m) (hg : w.grownBy w' row) (hne : some b ≠ row) : MP P k w' b m := World.ownsMap.kept h hg hne
theorem MP.below {w' : World} (h : MP P k w b m) (hg : Below w.heap.size w w') : MP P k w' b m := h.kept (row := none) ⟨hg.os, hg.tape, hg.output, hg.size, fun i hi _ => hg.block i hi⟩ (by simp)
theorem MP.drew (h : MP P k w b m) : MP P k w.drew b m := h
theorem MP.lt (h : MP P k w b m) : b < w.heap.size := World.ownsMap.lt h
theorem MP.ris (h : MP P k w b m) (K : Keyed P k) : Ris m := by
  obtain ⟨es, e, hp, _⟩ := World.ownsMap.canon h K
  unfold dm at e
  have e := DataW.map.inj e
  subst e
  rw [List.pairwise_map] at hp
  exact hp
end
/-! What the model's steps do. -/
end Go.Proofs.YtjfpfkiccbcedaaGreatDoor
namespace Go.Proofs.YtjfpfkiccbcedaaGreatDoor
open Go

/-- A word's number. -/
def n32 (x : BitVec 32) : Int := (x.toNat : Int)
def add32 (x y : BitVec 32) : BitVec 32 := x + y
def xor32 (x y : BitVec 32) : BitVec 32 := x ^^^ y
def and32 (x y : BitVec 32) : BitVec 32 := x &&& y
def or32 (x y : BitVec 32) : BitVec 32 := x ||| y
def not32 (x : BitVec 32) : BitVec 32 := ~~~ x
def shr32 (x : BitVec 32) (n : Nat) : BitVec 32 := x >>> n
def shl32 (x : BitVec 32) (n : Nat) : BitVec 32 := x <<< n
/-- A word turned to the right. -/
def rr (n : Nat) (x : BitVec 32) : BitVec 32 := or32 (shr32 x n) (shl32 x (32 - n))

theorem n32_nonneg (x : BitVec 32) : 0 ≤ n32 x := by unfold n32; omega
theorem n32_lt (x : BitVec 32) : n32 x < 4294967296 := by unfold n32; have := x.isLt; omega

theorem n32_add (x y : BitVec 32) : (n32 x + n32 y) % 4294967296 = n32 (add32 x y) := by
  unfold n32 add32; rw [BitVec.toNat_add]; omega
theorem n32_wadd (x y : BitVec 32) : IntKind.u32.wrap (n32 x + n32 y) = n32 (add32 x y) := by
  rw [IntKind.wrap_u32, n32_add]
theorem ofInt_n32 (x : BitVec 32) : BitVec.ofInt 32 (n32 x) = x := by
  unfold n32; simp
theorem wrap_n32 (x : BitVec 32) : IntKind.u32.wrap (n32 x) = n32 x := by
  rw [IntKind.wrap_u32]; have := n32_nonneg x; have := n32_lt x; omega
theorem bits_xor32 (x y : BitVec 32) : bits .xor .u32 (n32 x) (n32 y) = n32 (xor32 x y) := by
  show IntKind.u32.wrap ((BitVec.ofInt 32 (n32 x) ^^^ BitVec.ofInt 32 (n32 y)).toNat : Int) = _
  rw [ofInt_n32, ofInt_n32]; exact wrap_n32 (xor32 x y)
theorem bits_and32 (x y : BitVec 32) : bits .and .u32 (n32 x) (n32 y) = n32 (and32 x y) := by
  show IntKind.u32.wrap ((BitVec.ofInt 32 (n32 x) &&& BitVec.ofInt 32 (n32 y)).toNat : Int) = _
  rw [ofInt_n32, ofInt_n32]; exact wrap_n32 (and32 x y)
theorem bits_or32 (x y : BitVec 32) : bits .or .u32 (n32 x) (n32 y) = n32 (or32 x y) := by
  show IntKind.u32.wrap ((BitVec.ofInt 32 (n32 x) ||| BitVec.ofInt 32 (n32 y)).toNat : Int) = _
  rw [ofInt_n32, ofInt_n32]; exact wrap_n32 (or32 x y)
theorem bits_not32 (x : BitVec 32) : bits .xor .u32 4294967295 (n32 x) = n32 (not32 x) := by
  show IntKind.u32.wrap ((BitVec.ofInt 32 4294967295 ^^^ BitVec.ofInt 32 (n32 x)).toNat : Int) = _
  rw [ofInt_n32]
  have : (BitVec.ofInt 32 4294967295 ^^^ x) = not32 x := by
    unfold not32
    rw [show BitVec.ofInt 32 4294967295 = BitVec.allOnes 32 from by decide, BitVec.allOnes_xor]
  rw [this]; exact wrap_n32 _
theorem bits_notmax (x : BitVec 32) : bits .xor .u32 IntKind.u32.max (n32 x) = n32 (not32 x) := bits_not32 x
theorem sub_not32 (x : BitVec 32) : 4294967295 - n32 x = n32 (not32 x) := by
  unfold n32 not32; rw [BitVec.toNat_not]; have := x.isLt; omega
theorem n32_shr (x : BitVec 32) (n : Nat) : n32 x / 2 ^ n = n32 (shr32 x n) := by
  unfold n32 shr32; rw [BitVec.toNat_ushiftRight, Nat.shiftRight_eq_div_pow]; simp
theorem n32_shl (x : BitVec 32) (n : Nat) : n32 x * 2 ^ n % 4294967296 = n32 (shl32 x n) := by
  unfold n32 shl32; rw [BitVec.toNat_shiftLeft, Nat.shiftLeft_eq]; simp

theorem n32_shl8 (x : BitVec 32) : n32 x * 256 % 4294967296 = n32 (shl32 x 8) := n32_shl x 8
theorem n32_shl16 (x : BitVec 32) : n32 x * 65536 % 4294967296 = n32 (shl32 x 16) := n32_shl x 16
theorem n32_shl24 (x : BitVec 32) : n32 x * 16777216 % 4294967296 = n32 (shl32 x 24) := n32_shl x 24
theorem n32_shr3 (x : BitVec 32) : n32 x / 8 = n32 (shr32 x 3) := n32_shr x 3
theorem n32_shr10 (x : BitVec 32) : n32 x / 1024 = n32 (shr32 x 10) := n32_shr x 10

end Go.Proofs.YtjfpfkiccbcedaaGreatDoor
namespace Go.Proofs.YtjfpfkiccbcedaaGreatDoor
open Go

def n8 (x : UInt8) : Int := (x.toNat : Int)
theorem n8_nonneg (x : UInt8) : 0 ≤ n8 x := by unfold n8; omega
theorem n8_le (x : UInt8) : n8 x ≤ 255 := by unfold n8; have := x.toNat_lt; omega
/-- A byte as a word. -/
def w8 (x : UInt8) : BitVec 32 := BitVec.ofNat 32 x.toNat
theorem n8_n32 (x : UInt8) : n8 x = n32 (w8 x) := by
  unfold n8 n32 w8; rw [BitVec.toNat_ofNat]; have := x.toNat_lt; omega
theorem n8_wrap (x : UInt8) : IntKind.u32.wrap (n8 x) = n32 (w8 x) := by rw [n8_n32, wrap_n32]

def poly : BitVec 32 := (BitVec.ofNat 32 0x82f63b78)
/-- One bit is shifted out. -/
def stp (x : BitVec 32) : BitVec 32 := xor32 (shr32 x 1) (bif x.getLsbD 0 then poly else (BitVec.ofNat 32 0))
def stp4 (x : BitVec 32) : BitVec 32 := stp (stp (stp (stp x)))
def byt (r : BitVec 32) (b : UInt8) : BitVec 32 := stp4 (stp4 (xor32 r (w8 b)))
/-- The remainder behind bytes. -/
def crcF (r : BitVec 32) (l : List UInt8) : BitVec 32 := l.foldl byt r
def ones : BitVec 32 := (BitVec.ofNat 32 4294967295)
/-- The check of bytes. -/
def crc (l : List UInt8) : BitVec 32 := not32 (crcF ones l)
def byteOf (l : List UInt8) (k : Nat) : UInt8 := l.getD k 0
theorem stp_xor (x y : BitVec 32) : stp (xor32 x y) = xor32 (stp x) (stp y) := by
  unfold stp xor32 shr32
  rw [BitVec.ushiftRight_xor_distrib, BitVec.getLsbD_xor]
  cases x.getLsbD 0 <;> cases y.getLsbD 0 <;> simp [BitVec.xor_assoc]
  · rw [BitVec.xor_comm]
  · rw [BitVec.xor_comm poly, BitVec.xor_assoc, BitVec.xor_self, BitVec.xor_zero]
theorem stp4_xor (x y : BitVec 32) : stp4 (xor32 x y) = xor32 (stp4 x) (stp4 y) := by
  unfold stp4; rw [stp_xor, stp_xor, stp_xor, stp_xor]
/-- What shifts by fours add. -/
def tabL : List Nat := [0, 274646895, 549293790, 820201905, 1098587580, 1361435347, 1640403810, 1905808397, 2197175160, 2460548119, 2722870694, 2987750089, 3280807620, 3553878443, 3811616794, 4084100981]
def tab (i : Nat) : BitVec 32 := BitVec.ofNat 32 (tabL.getD i 0)
def low4 (x : BitVec 32) : BitVec 32 := and32 x (BitVec.ofNat 32 15)
theorem low4_lt (x : BitVec 32) : (low4 x).toNat < 16 := by
  unfold low4 and32
  rw [BitVec.toNat_and]
  exact Nat.lt_of_le_of_lt Nat.and_le_right (by decide)
theorem stp4_low : ∀ n, n < 16 → stp4 (BitVec.ofNat 32 n) = tab n := by decide
theorem stp_shl (y : BitVec 32) (h : y.toNat < 2147483648) : stp (shl32 y 1) = y := by
  unfold stp shl32 shr32 xor32
  have : (y <<< 1).getLsbD 0 = false := by simp
  rw [this]
  simp only [cond_false, BitVec.xor_zero]
  apply BitVec.eq_of_toNat_eq
  rw [BitVec.toNat_ushiftRight, BitVec.toNat_shiftLeft, Nat.shiftLeft_eq, Nat.shiftRight_eq_div_pow]
  omega
theorem nib (x : BitVec 32) : xor32 (tab (low4 x).toNat) (shr32 x 4) = stp4 x := by
  have h1 := low4_lt x
  have hx := x.isLt
  have hs : (shr32 x 4).toNat = x.toNat / 16 := by unfold shr32; rw [BitVec.toNat_ushiftRight, Nat.shiftRight_eq_div_pow]
  have hl : ∀ (y : BitVec 32), y.toNat < 2147483648 → (shl32 y 1).toNat = y.toNat * 2 := fun y hy => by
    unfold shl32; rw [BitVec.toNat_shiftLeft, Nat.shiftLeft_eq]; omega
  have e : x = xor32 (low4 x) (shl32 (shl32 (shl32 (shl32 (shr32 x 4) 1) 1) 1) 1) := by
    unfold low4 xor32 and32 shl32 shr32
    apply BitVec.eq_of_getLsbD_eq
    intro i hi
    have k : ∀ i : Nat, (BitVec.ofNat 32 15).getLsbD i = decide (i < 4) := by
      intro i
      by_cases h : i < 32
      · revert i; decide
      · rw [BitVec.getLsbD_of_ge _ _ (by omega)]; simp; omega
    simp only [BitVec.getLsbD_xor, BitVec.getLsbD_and, BitVec.getLsbD_shiftLeft, BitVec.getLsbD_ushiftRight, k]
    by_cases h4 : i < 4
    · have : i = 0 ∨ i = 1 ∨ i = 2 ∨ i = 3 := by omega
      rcases this with rfl | rfl | rfl | rfl <;> simp
    · have e1 : 4 + (i - 1 - 1 - 1 - 1) = i := by omega
      rw [e1]
      simp only [decide_eq_false h4, Bool.and_false, Bool.false_xor]
      have a0 : decide (i < 1) = false := by simp; omega
      have a1 : decide (i - 1 < 1) = false := by simp; omega
      have a2 : decide (i - 1 - 1 < 1) = false := by simp; omega
      have a3 : decide (i - 1 - 1 - 1 < 1) = false := by simp; omega
      have c0 : decide (i < 32) = true := by simp; omega
      have c1 : decide (i - 1 < 32) = true := by simp; omega
      have c2 : decide (i - 1 - 1 < 32) = true := by simp; omega
      have c3 : decide (i - 1 - 1 - 1 < 32) = true := by simp; omega
      rw [a0, a1, a2, a3, c0, c1, c2, c3]
      simp
  have e2 : stp4 (shl32 (shl32 (shl32 (shl32 (shr32 x 4) 1) 1) 1) 1) = shr32 x 4 := by
    have a1 := hl (shr32 x 4) (by omega)
    have a2 := hl (shl32 (shr32 x 4) 1) (by omega)
    have a3 := hl (shl32 (shl32 (shr32 x 4) 1) 1) (by omega)
    unfold stp4
    rw [stp_shl _ (by omega), stp_shl _ (by omega), stp_shl _ (by omega), stp_shl _ (by omega)]
  have e3 : stp4 (low4 x) = tab (low4 x).toNat := by
    have := stp4_low (low4 x).toNat h1
    rwa [BitVec.ofNat_toNat, BitVec.setWidth_eq] at this
  conv => rhs; rw [e]
  rw [stp4_xor, e2, e3]
end Go.Proofs.YtjfpfkiccbcedaaGreatDoor
namespace Go.Proofs.YtjfpfkiccbcedaaGreatDoor
open Go
/-- The k lowest bytes of a number, the highest first. -/
def num (n : Nat) : Nat → List UInt8
  | 0 => []
  | k + 1 => num (n / 256) k ++ [UInt8.ofNat (n % 256)]
theorem num_length : ∀ (k n : Nat), (num n k).length = k
  | 0, _ => rfl
  | k + 1, n => by rw [num, List.length_append, num_length k]; rfl
/-- The number that has these bytes. -/
def val (l : List UInt8) : Nat := l.foldl (fun n b => n * 256 + b.toNat) 0
theorem val_nil : val [] = 0 := rfl
theorem val_app (l : List UInt8) (b : UInt8) : val (l ++ [b]) = val l * 256 + b.toNat := by unfold val; rw [List.foldl_append]; rfl
theorem val_take (l : List UInt8) (n : Nat) (h : n < l.length) : val (l.take (n + 1)) = val (l.take n) * 256 + (byteOf l n).toNat := by
  rw [byteOf, List.take_succ_eq_append_getElem h, val_app, List.getD_eq_getElem?_getD, List.getElem?_eq_getElem h]
  rfl
theorem split_last (l : List UInt8) (k : Nat) (h : l.length = k + 1) : ∃ m b, l = m ++ [b] ∧ m.length = k := by
  refine ⟨l.take k, l[k], ?_, by rw [List.length_take]; omega⟩
  rw [← List.take_succ_eq_append_getElem (by omega), List.take_of_length_le (by omega)]
theorem val_lt : ∀ (k : Nat) (l : List UInt8), l.length = k → val l < 256 ^ k
  | 0, l, h => by rw [List.length_eq_zero_iff.1 h]; decide
  | k + 1, l, h => by
    obtain ⟨m, b, rfl, hm⟩ := split_last l k h
    have := val_lt k m hm
    have hb := b.toNat_lt
    rw [val_app, Nat.pow_succ]
    omega
theorem val_num : ∀ (k n : Nat), val (num n k) = n % 256 ^ k
  | 0, n => by rw [num, val_nil, Nat.pow_zero, Nat.mod_one]
  | k + 1, n => by
    rw [num, val_app, val_num k, UInt8.toNat_ofNat']
    rw [show (256 : Nat) ^ (k + 1) = 256 * 256 ^ k from Nat.pow_succ', Nat.mod_mul]
    omega
theorem num_range : ∀ (k n : Nat), num n k = (List.range k).map fun j => UInt8.ofNat (n / 256 ^ (k - 1 - j) % 256)
  | 0, _ => rfl
  | k + 1, n => by
    rw [num, num_range k, List.range_succ, List.map_append]
    congr 1
    · apply List.map_congr_left
      intro j hj
      have hj := List.mem_range.1 hj
      rw [Nat.div_div_eq_div_mul, show k + 1 - 1 - j = (k - 1 - j) + 1 from by omega, Nat.pow_succ']
    · simp
/-- A text's frame. -/
def frame (s : List UInt8) : List UInt8 := num s.length 4 ++ (num (crc (num s.length 4 ++ s)).toNat 4 ++ s)
/-- A reader: its bytes, how many were taken, its error. -/
structure R where
  s : List UInt8
  pos : Nat
  err : Int
def R.fail (r : R) (e : Int) : R := if r.err = 0 then ⟨r.s, r.pos, e⟩ else r
def R.bytes (r : R) (n : Int) : R × List UInt8 :=
  if r.err ≠ 0 then (r, []) else if n < 0 then (⟨r.s, r.pos, 1⟩, []) else if (r.s.length : Int) - r.pos < n then (⟨r.s, r.pos, 4⟩, []) else (⟨r.s, r.pos + n.toNat, r.err⟩, (r.s.drop r.pos).take n.toNat)
def R.early (r : R) (k : Int) : R := if r.err = 0 ∧ 8 < k then ⟨r.s, r.pos, 1⟩ else r
def R.number (r : R) (k : Int) : R × Nat := (((r.early k).bytes k).1, val ((r.early k).bytes k).2)
/-- What may be. -/
def R.ok (r : R) : Prop := r.pos ≤ r.s.length
theorem R.bytes_s (r : R) (n : Int) : (r.bytes n).1.s = r.s := by unfold R.bytes; split <;> (try split) <;> (try split) <;> rfl
theorem R.early_s (r : R) (n : Int) : (r.early n).s = r.s := by unfold R.early; split <;> rfl
theorem R.number_s (r : R) (n : Int) : (r.number n).1.s = r.s := by unfold R.number; rw [R.bytes_s, R.early_s]
theorem R.ok_early {r : R} (h : r.ok) (n : Int) : (r.early n).ok := by unfold R.early; split <;> exact h
theorem R.ok_bytes {r : R} (h : r.ok) (n : Int) : (r.bytes n).1.ok := by
  unfold R.bytes
  split
  · exact h
  · split
    · exact h
    · split
      · exact h
      · unfold R.ok at *; simp only; omega
theorem R.ok_number {r : R} (h : r.ok) (n : Int) : (r.number n).1.ok := R.ok_bytes (R.ok_early h n) n
theorem R.early_len (r : R) (k : Int) : ((r.early k).bytes k).2.length ≤ 8 := by
  unfold R.early
  split
  · rename_i h
    unfold R.bytes
    rw [if_pos (by simp)]
    simp
  · rename_i h
    unfold R.bytes
    split
    · simp
    · split
      · simp
      · split
        · simp
        · simp only [List.length_take]; omega
end Go.Proofs.YtjfpfkiccbcedaaGreatDoor
