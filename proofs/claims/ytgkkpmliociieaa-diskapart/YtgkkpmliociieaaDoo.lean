/- What do of the statements does, where a change is asked for. -/
import Derived.Test.YtgkkpmliociieaaDch
namespace Go.Proofs.Ytgkkpmliociieaa
open Go Go.RowKit
theorem pC_spl (p : Nat) (m m' : RD) (x y x' y' : Value) : spl (pC p m x y) 1 (rdC m' x' y').toList = pC p m' x' y' := rfl
theorem RL.chg {w w' : World} {p : Nat} {b b' : Option Nat} {d : DM} {sl : Value} {l : List RF} (h : RL w 0 sl l) (hD : DK w p b d) (hC : Chg w w' p b b') : RL w' 0 sl l := by
  refine ⟨h.1, ?_⟩
  rcases h.2 with k | ⟨g, cap, k4, rfl, k5⟩
  · exact .inl k
  · obtain ⟨cur, k6, k7⟩ := k5.out
    have hb : Blk w g cur 49 := ⟨k6⟩
    exact .inr ⟨g, cap, k4, rfl, ⟨cur, (hC.blk hD hb (by decide) (by decide)).out, k7⟩⟩
theorem blk_type {w : World} {i : Nat} {c d : Array Value} {t u : TypeId} (h : Blk w i c t) (k : Blk w i d u) : t = u := by
  have := h.out.symm.trans k.out
  simp only [Option.some.injEq, Obj.cells.injEq] at this
  exact this.2.1
theorem DK.own {w w' : World} {p i : Nat} {b : Option Nat} {d : DM} {c : Array Value} {t : TypeId} (h : DK w p b d) (hg : w.grownBy w' (some i)) (hb : Blk w i c t) (h1 : t ≠ 73) (h2 : t ≠ 80) : DK w' p b d := by
  obtain ⟨sl, k1, k2, k3⟩ := h.out
  refine ⟨sl, k1.grown hg (fun e => ?_), k2.grown hg (k2.ne hb h2), k3⟩
  have e2 := Option.some.inj e
  subst e2
  exact h1 (blk_type hb k1)
theorem built4C (k : Int) (n t : B) (z : Int) : Try.prog.built 66 [(0, .int .i64 k), (1, .string ⟨n.toArray⟩), (2, .string ⟨t.toArray⟩), (4, .int .i64 z)] = some (chC ⟨k, n, t, [], z⟩) := by kernel_rfl
theorem zChc : (∀ w, (zeroValue 66).run Try.prog w = .ok (.agg (chC ⟨0, [], [], [], 0⟩)) w) ∧ (Try.prog.info? 66).map (·.size) = some 5 := zero_of_info (by kernel_rfl)
theorem chC_s3 (c : RC) (s : B) : (chC c).setIfInBounds 3 (.string ⟨s.toArray⟩) = chC { c with s := s } := rfl
theorem DoC {w w1 w2 w3 : World} {p i : Nat} {b b' : Option Nat} (hB : Below w.heap.size w w1) (hC : Chg w1 w2 p b b') (hg : w2.grownBy w3 (some i)) (hi : w.heap.size ≤ i) : Chg w w3 p b b' := by
  have h1 := (Chg.below (p := p) (b := b) hB).trans hC
  exact ⟨hg.os.trans h1.os, hg.tape.trans h1.tape, hg.output.trans h1.output, Nat.le_trans h1.size hg.size, fun k hk e1 e2 => (hg.block k (Nat.lt_of_lt_of_le hk h1.size) (fun e => by have := Option.some.inj e; omega)).trans (h1.block k hk e1 e2), h1.new⟩
/-- What do leaves. -/
def DoP (w : World) (p : Nat) (b : Option Nat) (d : DM) (m : RD) (e : Ending) (w' : World) : Prop := ∃ x y b', e = .returned (.tuple #[.agg (pC p m x y), .bool true]) ∧ Chg w w' p b b' ∧ DK w' p b' d ∧ RL w' 0 x m.now ∧ RL w' 0 y m.sure
end Go.Proofs.Ytgkkpmliociieaa
