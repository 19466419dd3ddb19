/- A Merkle tree of a list, plainly: roots, proofs, and what a proof leads to. Over any digest. -/
import Derived.WalkKit
namespace Go.Proofs.YtmbdhngoldganaaGreatDoor
/-- Where a list of n things is cut: the greatest power of two below n. -/
def cutN (n : Nat) : Nat := 2 ^ (n - 1).log2
theorem cutN_pos (n : Nat) : 0 < cutN n := Nat.pow_pos (by decide)
theorem cutN_lt {n : Nat} (h : 2 ≤ n) : cutN n < n := by
  have := Nat.log2_self_le (n := n - 1) (by omega)
  unfold cutN
  omega
section
variable (H : List UInt8 → List UInt8)
/-- The digest of a leaf; of two halves. -/
def leafD (s : List UInt8) : List UInt8 := H (0 :: s)
def bothD (a b : List UInt8) : List UInt8 := H (1 :: (a ++ b))
/-- The digest of a list. -/
def rootD (l : List (List UInt8)) : List UInt8 :=
  if _h : 2 ≤ l.length then bothD H (rootD (l.take (cutN l.length))) (rootD (l.drop (cutN l.length)))
  else match l with
    | [] => H []
    | x :: _ => leafD H x
termination_by l.length
decreasing_by
  · have := cutN_lt (n := l.length) (by assumption); rw [List.length_take]; omega
  · have := cutN_pos l.length; rw [List.length_drop]; omega
theorem rootD_nil : rootD H [] = H [] := by rw [rootD]; simp
theorem rootD_one (x : List UInt8) : rootD H [x] = leafD H x := by rw [rootD]; simp
theorem rootD_cut {l : List (List UInt8)} (h : 2 ≤ l.length) : rootD H l = bothD H (rootD H (l.take (cutN l.length))) (rootD H (l.drop (cutN l.length))) := by
  rw [rootD, dif_pos h]
theorem root_len (hH : ∀ x, (H x).length = 32) (l : List (List UInt8)) : (rootD H l).length = 32 := by
  by_cases h : 2 ≤ l.length
  · rw [rootD_cut H h]
    exact hH _
  · match l, h with
    | [], _ => rw [rootD_nil]; exact hH _
    | [x], _ => rw [rootD_one]; exact hH _
    | _ :: _ :: _, h => simp at h
end
end Go.Proofs.YtmbdhngoldganaaGreatDoor
