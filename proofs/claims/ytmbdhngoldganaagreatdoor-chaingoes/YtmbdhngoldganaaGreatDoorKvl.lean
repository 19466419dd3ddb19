/- A sparse tree of leaves, plainly: bits of paths, halves, roots, proofs. Over any digest of parts for a purpose. A slice of pairs of texts that grows: what it holds, and appending to it. -/
import Derived.WalkKit
import Derived.Test.YtmbdhngoldganaaGreatDoorSSl
namespace Go.Proofs.YtmbdhngoldganaaGreatDoor
abbrev LF := List UInt8 × List UInt8
/-- A path's bit, the highest first. -/
def bitD (p : List UInt8) (i : Nat) : Nat := (p.getD (i / 8) 0).toNat / 2 ^ (7 - i % 8) % 2
theorem bitD_lt (p : List UInt8) (i : Nat) : bitD p i < 2 := Nat.mod_lt _ (by decide)
theorem byte_bits {a b : Nat} (ha : a < 256) (hb : b < 256) (h : ∀ k, k < 8 → a / 2 ^ (7 - k) % 2 = b / 2 ^ (7 - k) % 2) : a = b := by
  have h0 := h 0 (by decide)
  have h1 := h 1 (by decide)
  have h2 := h 2 (by decide)
  have h3 := h 3 (by decide)
  have h4 := h 4 (by decide)
  have h5 := h 5 (by decide)
  have h6 := h 6 (by decide)
  have h7 := h 7 (by decide)
  simp at h0 h1 h2 h3 h4 h5 h6 h7
  omega
/-- Paths of one length whose bits are the same are the same. -/
theorem bits_ext {p q : List UInt8} (hp : p.length = 32) (hq : q.length = 32) (h : ∀ i, i < 256 → bitD p i = bitD q i) : p = q := by
  apply List.ext_getElem (by omega)
  intro j h1 h2
  have hb : ∀ k, k < 8 → (p[j]).toNat / 2 ^ (7 - k) % 2 = (q[j]).toNat / 2 ^ (7 - k) % 2 := fun k hk => by
    have := h (8 * j + k) (by omega)
    unfold bitD at this
    rw [show (8 * j + k) / 8 = j by omega, show (8 * j + k) % 8 = k by omega, List.getD_eq_getElem?_getD, List.getD_eq_getElem?_getD, List.getElem?_eq_getElem h1, List.getElem?_eq_getElem h2] at this
    exact this
  exact UInt8.toNat_inj.1 (byte_bits (UInt8.toNat_lt _) (UInt8.toNat_lt _) hb)
section
variable (Tg : UInt8 → List (List UInt8) → List UInt8)
def ofD (k v : List UInt8) : LF := (Tg 80 [k], Tg 86 [v])
def hashL (x : LF) : List UInt8 := Tg 76 [x.1, x.2]
def emptyD : List UInt8 := List.replicate 32 0
def joinD (a b : List UInt8) : List UInt8 := Tg 74 [a, b]
end
end Go.Proofs.YtmbdhngoldganaaGreatDoor
namespace Go.Proofs.YtmbdhngoldganaaGreatDoor.Sh
open Go Go.RowKit
section
variable {op : Oper} {a : Act} {w : World} {K : Act → World → Prop} {Q : Exit → Act → World → Prop}
theorem wp_runK {P : Program} (v : Value) (w1 : World) (hr : (execOp a.eval op).run P w = .ok (.value v) w1) (h : K (a.put op.dst v) w1) : op.wp P a w K Q := by
  unfold Oper.wp; rw [hr]; exact h
end
theorem range2K : Array.range 2 = #[0, 1] := by decide
end Go.Proofs.YtmbdhngoldganaaGreatDoor.Sh
