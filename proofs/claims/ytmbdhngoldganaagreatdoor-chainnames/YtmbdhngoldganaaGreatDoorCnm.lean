/- What ChainNames does. -/
import Derived.Test.YtmbdhngoldganaaGreatDoorCpl
namespace Go.Proofs.YtmbdhngoldganaaGreatDoor
open Go Go.RowKit
/-- What stands behind batches: the one goes on, the other one takes the blocks that it can. -/
structure NM (wl : World) (NA ca sa ta : Nat) (slA : Value) (NB cb sb tb : Nat) (slB : Value) (cA cB : CN) (n : Nat) : Prop where
  a : CH wl NA ca sa ta slA cA
  b : CH wl NB cb sb tb slB cB
  ra : Room cA n
  rb : Room cB n
  ne : ca ≠ cb ∧ sa ≠ sb ∧ ta ≠ tb
  row : ∀ r, Sh.slBlk slA = some r → Sh.slBlk slB ≠ some r
theorem NM.below {wl w' : World} {NA ca sa ta : Nat} {slA : Value} {NB cb sb tb : Nat} {slB : Value} {cA cB : CN} {n : Nat} (h : NM wl NA ca sa ta slA NB cb sb tb slB cA cB n) (hb : Below wl.heap.size wl w') : NM w' NA ca sa ta slA NB cb sb tb slB cA cB n := ⟨h.a.below hb, h.b.below hb, h.ra, h.rb, h.ne, h.row⟩
theorem NM.local {w w' : World} {NA ca sa ta : Nat} {slA : Value} {NB cb sb tb : Nat} {slB : Value} {cA cB : CN} {n : Nat} {B : Nat} {d : Array Value} {u : TypeId} (h : NM w NA ca sa ta slA NB cb sb tb slB cA cB n) (hg : w.grownBy w' (some B)) (hB : Blk w B d u) (h2 : 2 ≤ B)
    (hu : u ≠ 103 ∧ u ≠ 167 ∧ u ≠ 215 ∧ u ≠ 196 ∧ u ≠ 3 ∧ u ≠ 95 ∧ u ≠ 97) (hrA : Sh.slBlk slA ≠ some B) (hrB : Sh.slBlk slB ≠ some B) : NM w' NA ca sa ta slA NB cb sb tb slB cA cB n :=
  ⟨h.a.local hg hB h2 hu hrA, h.b.local hg hB h2 hu hrB, h.ra, h.rb, h.ne, h.row⟩
/-- The one makes a block. -/
theorem NM.goA {w w' : World} {NA ca sa ta : Nat} {slA slA' : Value} {NB cb sb tb : Nat} {slB : Value} {cA cB : CN} {n : Nat} {b : BT} (h : NM w NA ca sa ta slA NB cb sb tb slB cA cB (n + 1)) (hb : chkB b = 0) (hO : Own (ownC ca sa ta slA) w w') (hr : ∀ r, Sh.slBlk slA' = some r → Sh.slBlk slA = some r ∨ w.heap.size ≤ r) :
    CH w' NB cb sb tb slB cB ∧ Room (nextC cA b) n ∧ (∀ r, Sh.slBlk slA' = some r → Sh.slBlk slB ≠ some r) := by
  refine ⟨h.a.apart h.b hO h.ne.1.symm h.ne.2.1.symm h.ne.2.2.symm (fun r hr e => h.row r e hr), h.ra.next hb, fun r h1 e => ?_⟩
  rcases hr r h1 with h2 | h2
  · exact h.row r h2 e
  · have := (h.b.blocks (.inr (.inr (.inr e.symm)))).2
    omega
/-- ONE -/
theorem run_eqS {op : Oper} {a : Act} {w : World} {x y : Operand} {s t : List UInt8} {q : Bool} (ho : op.op = .binOp .eql 9 x y 9) (hx : a.eval x = .string ⟨s.toArray⟩) (hy : a.eval y = .string ⟨t.toArray⟩) (hq : decide (s = t) = q) : (execOp a.eval op).run Tryz.prog w = .ok (.value (.bool q)) w := by
  subst hq
  unfold execOp
  simp only [ho, hx, hy]
  simp [go_sem]
  exact Bool.eq_iff_iff.2 (by simp)
theorem run_neE {op : Oper} {a : Act} {w : World} {x : Operand} (ho : op.op = .binOp .neq 31 x (.const (.int .i64 0)) 31) (hx : a.eval x = .int .i64 0) : (execOp a.eval op).run Tryz.prog w = .ok (.value (.bool false)) w := by
  unfold execOp
  simp only [ho, hx]
  simp [go_sem]
/-- The variables that stand through the rounds. -/
structure LV (w : World) (B3 B4 B8 B11 : Nat) (x y p q : Array Value) : Prop where
  b3 : Blk w B3 x 24
  b4 : Blk w B4 y 24
  b8 : Blk w B8 p 45
  b11 : Blk w B11 q 45
theorem LV.below {w w' : World} {B3 B4 B8 B11 : Nat} {x y p q : Array Value} (h : LV w B3 B4 B8 B11 x y p q) (hb : Below w.heap.size w w') : LV w' B3 B4 B8 B11 x y p q := ⟨h.b3.belowSize hb, h.b4.belowSize hb, h.b8.belowSize hb, h.b11.belowSize hb⟩
theorem LV.own {w w' : World} {B3 B4 B8 B11 : Nat} {x y p q : Array Value} {N cb bs bt : Nat} {sl : Value} {c : CN} (h : LV w B3 B4 B8 B11 x y p q) (hc : CH w N cb bs bt sl c) (k : Own (ownC cb bs bt sl) w w') : LV w' B3 B4 B8 B11 x y p q := ⟨hc.keepBlk k h.b3 (by decide), hc.keepBlk k h.b4 (by decide), hc.keepBlk k h.b8 (by decide), hc.keepBlk k h.b11 (by decide)⟩
theorem LV.local {w w' : World} {B3 B4 B8 B11 : Nat} {x y p q : Array Value} {B : Nat} {d : Array Value} (h : LV w B3 B4 B8 B11 x y p q) (hg : w.grownBy w' (some B)) (hB : Blk w B d 53) : LV w' B3 B4 B8 B11 x y p q :=
  ⟨h.b3.grown hg (fun e => h.b3.neT hB (by decide) (Option.some.inj e)), h.b4.grown hg (fun e => h.b4.neT hB (by decide) (Option.some.inj e)), h.b8.grown hg (fun e => h.b8.neT hB (by decide) (Option.some.inj e)), h.b11.grown hg (fun e => h.b11.neT hB (by decide) (Option.some.inj e))⟩
/-- What the rounds keep. -/
def NMR (w wl : World) (NA ca sa ta NB cb sb tb : Nat) (nx ny : List UInt8) (lx ly : List Int) (K : List BT) (i : Nat) : Prop :=
  ∃ slA slB cB, NM wl NA ca sa ta slA NB cb sb tb slB (plC (newC nx lx) (K.take i)) cB (20 - i) ∧ (gD nx lx ≠ gD ny ly → cB = newC ny ly) ∧ (nx = ny → lx = ly → cB = plC (newC nx lx) (K.take i)) ∧ Below w.heap.size w wl
theorem NMR.below {w wl w' : World} {NA ca sa ta NB cb sb tb : Nat} {nx ny : List UInt8} {lx ly : List Int} {K : List BT} {i : Nat} (h : NMR w wl NA ca sa ta NB cb sb tb nx ny lx ly K i) (hb : Below wl.heap.size wl w') : NMR w w' NA ca sa ta NB cb sb tb nx ny lx ly K i := by
  obtain ⟨slA, slB, cB, h1, h2, h3, h4⟩ := h
  exact ⟨slA, slB, cB, h1.below hb, h2, h3, h4.trans (hb.mono h4.size)⟩
end Go.Proofs.YtmbdhngoldganaaGreatDoor
