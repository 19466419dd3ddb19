/- What Sort, Compact, Keys and Sorted do to slices of texts that the call has made, and to a state's map. -/
import Derived.Test.YtdikilhobmkpkaaGreatDoorApl
import Derived.Test.YtdikilhobmkpkaaGreatDoorLay
namespace Go.Proofs.YtdikilhobmkpkaaGreatDoor
open Go Go.RowKit Go.Maps Go.Sort Go.Shelf
abbrev srt (l : List (List UInt8)) : List (List UInt8) := l.mergeSort fun x y => decide (x ≤ y)
theorem sort_ts (lo : Nat) (v : Value) (l : List (List UInt8)) (w : World) (h : TS w lo v l) (hl : l.length < 4611686018427387904) :
    Calls Tryz.prog 28 #[v] w fun e w' => e = .returned (.tuple #[]) ∧ TS w' lo v (srt l) ∧ w.grownBy w' v.ownBlock := by
  rcases h.1.2 with ⟨h1, _⟩ | ⟨g, cap, cur, rfl, hbase, hb, h1, h2, h3, h4⟩
  · exact absurd h1 h.2
  · have hc := AnyM.slices_Sort_string laySort g 0 cap l w (holds_of_block hb (by simpa using h4)) (Array.getElem?_eq_some_iff.1 hb).1 hl
    refine hc.mono ?_
    rintro e w' ⟨rfl, nn, os, rfl⟩
    have hlen : (srt l).length = l.length := by simp [srt]
    refine ⟨rfl, ⟨?_, by simp⟩, grownBy_sorted _⟩
    have := ownsRow_sorted (w := w) (base := lo) (g := g) (cap := cap) (n := nn) (e := 9) (os := os) (cur := cur) (ss := l) (ts := srt l) hlen hbase hb h1 h2 h3
    rw [hlen]
    exact this
theorem compact_ts (lo : Nat) (v : Value) (l : List (List UInt8)) (w : World) (h : TS w lo v l) (hl : l.length < 4611686018427387904) :
    Calls Tryz.prog 29 #[v] w fun e w' => ∃ g cap, e = .returned (.slice (some ⟨g, 0, none⟩) (Lib.compact l).length cap) ∧ v.ownBlock = some g ∧ w.grownBy w' v.ownBlock := by
  rcases h.1.2 with ⟨h1, _⟩ | ⟨g, cap, cur, rfl, hbase, hb, h1, h2, h3, h4⟩
  · exact absurd h1 h.2
  · have hc := Any.slices_Compact_string layCompact g 0 cap l w (holds_of_block hb (by simpa using h4)) (by omega) h1
    refine hc.mono ?_
    rintro e w' ⟨rfl, q, hw⟩
    refine ⟨g, cap, rfl, rfl, ?_⟩
    rw [hw]
    have := grownBy_sorted (w := w) (g := g) (n := q) (os := #[]) (Lib.compact l ++ List.replicate (l.length - (Lib.compact l).length) []).toArray
    rw [grow_empty] at this
    exact this
end Go.Proofs.YtdikilhobmkpkaaGreatDoor
