/- A digest that may be new, what Write and Sum do to it. -/
import Derived.Test.YtdolgkegeomafaaDoorSWg
namespace Go.Proofs.YtdolgkegeomafaaDoor.Sh
open Go.RowKit
/-- A slice of strings that came in. -/
def IsStrs (w : World) (a : Option Addr) (len : Nat) (ss : List (List UInt8)) : Prop :=
  len = ss.length ∧ (len = 0 ∨ ∃ b o, a = some ⟨b, o, none⟩ ∧ ∀ i, i < len → w.cell? ⟨b, o + i, none⟩ = some (.string ⟨(ss.getD i []).toArray⟩))
theorem IsStrs.below {w w' : World} {a : Option Addr} {len : Nat} {ss : List (List UInt8)} (h : IsStrs w a len ss) (hb : Below w.heap.size w w') : IsStrs w' a len ss := by
  obtain ⟨h1, h2⟩ := h
  refine ⟨h1, h2.imp id ?_⟩
  rintro ⟨b, o, rfl, hc⟩
  refine ⟨b, o, rfl, fun i hi => ?_⟩
  have := hc i hi
  rw [hb.cell (p := ⟨b, o + i, none⟩) (World.block_lt_of_cell? w _ this)]
  exact this
/-- Block b holds a digest that has taken m in, or a new one. -/
structure DigZ (w : World) (b : Nat) (m : List UInt8) : Prop where
  out : ∃ (H : S8) (fb : Nat → UInt8), Blk w b (digC H fb m.length) 83 ∧ (m.length = 0 ∨ H = hashTo m (m.length / 64)) ∧ ∀ j, j < m.length % 64 → fb j = m.getD (64 * (m.length / 64) + j) 0
theorem DigZ.below {w w' : World} {b : Nat} {m : List UInt8} (h : DigZ w b m) (hb : Below w.heap.size w w') : DigZ w' b m := by
  obtain ⟨H, fb, h1, h2⟩ := h.out
  exact ⟨H, fb, h1.belowSize hb, h2⟩
theorem DigZ.new {w : World} {b : Nat} (h : Blk w b (digC S0 (fun _ => 0) 0) 83) : DigZ w b [] := by
  refine ⟨S0, fun _ => 0, ?_, ?_, ?_⟩
  · rw [List.length_nil]; exact h
  · exact .inl List.length_nil
  · intro j hj; simp at hj
theorem DigZ.lt {w : World} {b : Nat} {m : List UInt8} (h : DigZ w b m) : b < w.heap.size := by
  obtain ⟨H, fb, h1, h2⟩ := h.out
  exact h1.lt
theorem writeZ (b : Nat) (m s : List UInt8) (w : World) (hG : Glob w) (hb0 : 2 ≤ b) (hm : m.length + s.length ≤ 1099511627776) (h : DigZ w b m) :
    Calls Tryd.prog 47 #[.pointer (some ⟨b, 0, none⟩), .string ⟨s.toArray⟩] w fun e w' => e = .returned (.tuple #[]) ∧ DigZ w' b (m ++ s) ∧ w.grownBy w' (some b) := by
  obtain ⟨H, fb, h1, h2, h3⟩ := h.out
  refine (write_any b m s H fb w hG hb0 hm h1 h2 h3).mono ?_
  rintro e w' ⟨he, ⟨H', fb', hD⟩, hg⟩
  exact ⟨he, ⟨H', fb', hD.blk, .inr hD.words, hD.tail⟩, hg⟩
theorem dsumZ (b : Nat) (m : List UInt8) (w : World) (hG : Glob w) (hm : m.length ≤ 549755813888) (h : DigZ w b m) :
    Calls Tryd.prog 49 #[.pointer (some ⟨b, 0, none⟩)] w fun e w' => e = .returned (.string ⟨(digest m).toArray⟩) ∧ Below w.heap.size w w' := by
  obtain ⟨H, fb, h1, h2, h3⟩ := h.out
  exact dsum_any b m H fb w hG hm h1 h2 h3
theorem mkApp (x y : List UInt8) : (ByteArray.mk x.toArray ++ ByteArray.mk y.toArray) = ByteArray.mk (x ++ y).toArray := ByteArray.mk_append_mk x y
end Go.Proofs.YtdolgkegeomafaaDoor.Sh
