/- Growing slices of transactions; what Batch does. -/
import Derived.Test.YtjfpfkiccbcedaaGreatDoorBck
import Derived.Test.YtjfpfkiccbcedaaGreatDoorGsl
import Derived.Deep.RegionHeld3
namespace Go.Proofs.YtjfpfkiccbcedaaGreatDoor
open Go Go.RowKit
theorem Blk.sh {w : World} {b : Nat} {c : Array Value} {t : TypeId} (h : Blk w b c t) : Sh.Blk w b c t := ⟨h.out⟩
theorem Blk.of_sh {w : World} {b : Nat} {c : Array Value} {t : TypeId} (h : Sh.Blk w b c t) : Blk w b c t := ⟨h.out⟩
theorem below_row {w w1 : World} {row : Option Nat} {lo : Nat} (hg : w.grownBy w1 row) (hr : ∀ r, row = some r → lo ≤ r) (hlo : lo ≤ w.heap.size) : Below lo w w1 :=
  ⟨hg.os, hg.tape, hg.output, hg.size, fun k hk => hg.block k (by omega) (fun e => by have := hr k e.symm; omega)⟩
/-- A slice's block is an elder one than B, or one of operations. -/
def NB (w : World) (B : Nat) (t : TypeId) (sa : Option Addr) : Prop := ∀ g o, sa = some ⟨g, o, none⟩ → g < w.heap.size ∧ (g < B ∨ ∃ c fr, w.heap[g]? = some (.cells c t fr))
/-- A block that may be written beside them. -/
def Beside (w : World) (B : Nat) (t : TypeId) (row : Option Nat) : Prop := ∀ r, row = some r → B ≤ r ∧ ∃ c u fr, w.heap[r]? = some (.cells c u fr) ∧ u ≠ t
theorem NB.apart {w : World} {B : Nat} {t : TypeId} {sa : Option Addr} {row : Option Nat} (h : NB w B t sa) (hr : Beside w B t row) {g o : Nat} (hs : sa = some ⟨g, o, none⟩) : some g ≠ row := fun e => by
  obtain ⟨h1, c, u, fr, h2, h3⟩ := hr g e.symm
  rcases (h g o hs).2 with h4 | ⟨c', fr', h4⟩
  · omega
  · rw [h2] at h4
    simp only [Option.some.injEq, Obj.cells.injEq] at h4
    exact h3 h4.2.1
theorem NB.grown {w w' : World} {B : Nat} {t : TypeId} {sa : Option Addr} {row : Option Nat} (h : NB w B t sa) (hg : w.grownBy w' row) (hr : Beside w B t row) : NB w' B t sa := fun g o hs => by
  obtain ⟨h1, h2⟩ := h g o hs
  refine ⟨Nat.lt_of_lt_of_le h1 hg.size, h2.imp id fun ⟨c, fr, h3⟩ => ⟨c, fr, ?_⟩⟩
  rw [hg.block g h1 (h.apart hr hs)]
  exact h3
theorem SL.turn {w w' : World} {B : Nat} {t : TypeId} {sa : Option Addr} {row : Option Nat} {l : List O} (h : SL w sa l) (hn : NB w B t sa) (hg : w.grownBy w' row) (hr : Beside w B t row) : SL w' sa l := fun i hi => by
  obtain ⟨g, o, ha, hc⟩ := h i hi
  refine ⟨g, o, ha, fun j v hv => ?_⟩
  have h3 := hc j v hv
  have hl := World.block_lt_of_cell? _ _ h3
  have e := hg.block g hl (hn.apart hr ha)
  simp only [World.cell?] at h3 ⊢
  rw [e]
  exact h3
theorem NB.below {w w' : World} {B : Nat} {t : TypeId} {sa : Option Addr} (h : NB w B t sa) (hb : Below w.heap.size w w') : NB w' B t sa := h.grown (row := none) (grown_of_below hb) (fun _ e => nomatch e)
theorem OL.nb {w : World} {t : TypeId} {lo B : Nat} {a : Option Addr} {n cap : Nat} {l : List O} (h : OL w t lo (.slice a n cap) l) : NB w B t a := fun g o hs => by
  subst hs
  rcases h with ⟨_, h⟩ | ⟨g', cap', h1, h2, h3⟩
  · cases h
  · simp only [Value.slice.injEq, Option.some.injEq, Addr.mk.injEq] at h2
    obtain ⟨⟨rfl, _⟩, _⟩ := h2
    obtain ⟨cur, h4, _⟩ := h3.out
    exact ⟨h3.lt, .inr ⟨cur, _, h4⟩⟩
/-- The cells ls are those of the transactions l. -/
structure TXL (w : World) (B : Nat) (t : TypeId) (ls : List (List Value)) (l : List TX) : Prop where
  len : ls.length = l.length
  each : ∀ i (h : i < l.length), ∃ sa cap, ls[i]? = some (txc l[i].client l[i].nonce (.slice sa l[i].ops.length cap)).toList ∧ SL w sa l[i].ops ∧ NB w B t sa ∧ l[i].client < 18446744073709551616 ∧ l[i].nonce < 18446744073709551616
theorem TXL.nil (w : World) (B : Nat) (t : TypeId) : TXL w B t [] [] := ⟨rfl, fun i h => by simp at h⟩
theorem TXL.grown {w w' : World} {B : Nat} {t : TypeId} {ls : List (List Value)} {l : List TX} {row : Option Nat} (h : TXL w B t ls l) (hg : w.grownBy w' row) (hr : Beside w B t row) : TXL w' B t ls l := ⟨h.len, fun i hi => by
  obtain ⟨sa, cap, h1, h2, h3, h4⟩ := h.each i hi
  exact ⟨sa, cap, h1, h2.turn h3 hg hr, h3.grown hg hr, h4⟩⟩
theorem TXL.below {w w' : World} {B : Nat} {t : TypeId} {ls : List (List Value)} {l : List TX} (h : TXL w B t ls l) (hb : Below w.heap.size w w') : TXL w' B t ls l := h.grown (row := none) (grown_of_below hb) (fun _ e => nomatch e)
theorem TXL.snoc {w : World} {B : Nat} {ty : TypeId} {ls : List (List Value)} {l : List TX} (h : TXL w B ty ls l) (t : TX) (sa : Option Addr) (cap : Nat) (hs : SL w sa t.ops) (hn : NB w B ty sa) (h1 : t.client < 18446744073709551616) (h2 : t.nonce < 18446744073709551616) : TXL w B ty (ls ++ [(txc t.client t.nonce (.slice sa t.ops.length cap)).toList]) (l ++ [t]) := by
  refine ⟨by rw [List.length_append, List.length_append, h.len]; rfl, fun i hi => ?_⟩
  rw [List.length_append, List.length_singleton] at hi
  by_cases hlt : i < l.length
  · obtain ⟨sa', cap', e1, e2, e3, e4⟩ := h.each i hlt
    refine ⟨sa', cap', ?_, ?_⟩
    · rw [List.getElem?_append_left (by rw [h.len]; exact hlt), e1, List.getElem_append_left hlt]
    · rw [List.getElem_append_left hlt]
      exact ⟨e2, e3, e4⟩
  · obtain rfl : i = l.length := by omega
    refine ⟨sa, cap, ?_, ?_⟩
    · rw [List.getElem?_append_right (by rw [h.len]; exact Nat.le_refl _), h.len]
      simp
    · simp only [List.getElem_concat_length]
      exact ⟨hs, hn, h1, h2⟩
theorem GLbeside {w : World} {t u : TypeId} {k lo B : Nat} {sl : Value} {ls : List (List Value)} (hG : Sh.GL w u k lo sl ls) (hB : B ≤ lo) (hu : u ≠ t) : Beside w B t (Sh.slBlk sl) := fun r e => by
  have h1 := hG.lt r e
  refine ⟨by omega, ?_⟩
  rcases hG.2 with ⟨_, rfl⟩ | ⟨g, cap, h2, rfl, h3⟩
  · cases e
  · cases e
    obtain ⟨cur, h4, _⟩ := h3.out
    exact ⟨cur, u, _, h4, hu⟩
theorem TXL.ta {w : World} {t u : TypeId} {lo B : Nat} {sl : Value} {ls : List (List Value)} {l : List TX} (hG : Sh.GL w t 3 lo sl ls) (h : TXL w B u ls l) : ∃ a cap, sl = .slice a l.length cap ∧ TA w a l := by
  obtain ⟨a, cap, rfl, hc⟩ := hG.sl
  refine ⟨a, cap, by rw [h.len], fun i hi => ?_⟩
  obtain ⟨sa, sc, h1, h2, _, h3⟩ := h.each i hi
  obtain ⟨g, hg, hcc⟩ := hc i (by rw [h.len]; exact hi)
  refine ⟨g, 0, sa, sc, hg, fun j v hv => ?_, h2, h3⟩
  have e : ls[i]'(by rw [h.len]; exact hi) = (txc l[i].client l[i].nonce (.slice sa l[i].ops.length sc)).toList := by
    rw [List.getElem?_eq_getElem (by rw [h.len]; exact hi)] at h1
    exact Option.some.inj h1
  rw [Nat.zero_add]
  exact hcc j v (by rw [e]; exact hv)
/-- A transaction of which more than nine operations are left out. -/
def cut9 (t : TX) : TX := ⟨t.client, t.nonce, t.ops.take 9⟩
theorem infoRtx : ∃ i, Tryz.prog.info? 87 = some i ∧ i.zero = some (.agg (txc 0 0 (.slice none 0 0))) ∧ i.size = 3 ∧ i.bytes ≤ 64 := by
  have h : (Tryz.prog.info? 87).map (fun i => (i.zero, i.size, i.bytes)) = some (some (.agg (txc 0 0 (.slice none 0 0))), 3, 40) := by kernel_rfl
  cases hq : Tryz.prog.info? 87 with
  | none => rw [hq] at h; cases h
  | some i => rw [hq] at h; simp at h; exact ⟨i, rfl, h.1, h.2.1, by omega⟩
theorem bslRtx (c n : Nat) (a : Option Addr) (k cap : Nat) (w : World) : (Instr.buildSlice 33 1 #[(0, .agg (txc c n (.slice a k cap)))]).run Tryz.prog w = .ok (.slice (some ⟨w.heap.size, 0, none⟩) 1 1) (w.alloc (.cells (txc c n (.slice a k cap)) 87)) := by
  simp [Instr.buildSlice, run_underlying Tryz.underlying33, sizeOf_run zRtx.2, Sem.run_bind, Instr.fill, newRow, zRtx.1]
  congr 2
  simp [txc, Value.cells, range3]
theorem wp_bslRtx {op : Oper} {a : Act} {w : World} {K : Act → World → Prop} {Q : Exit → Act → World → Prop} (x : Operand) (ho : op.op = .buildSlice 33 1 #[(0, x)]) (c n : Nat) (sa : Option Addr) (k cap : Nat) (hx : a.eval x = .agg (txc c n (.slice sa k cap)))
    (h : ∀ w1 : World, Below w.heap.size w w1 → w1.heap.size = w.heap.size + 1 → Blk w1 w.heap.size (txc c n (.slice sa k cap)) 87 → K (a.put op.dst (.slice (some ⟨w.heap.size, 0, none⟩) 1 1)) w1) : op.wp Tryz.prog a w K Q := by
  refine wp_run _ _ ?_ (h _ ((Below.refl _ _).alloc (Nat.le_refl _) _) (by simp) (Blk.new _ _ _))
  unfold execOp
  have e : (#[(0, x)] : Array (Nat × Operand)).map (fun (i, x) => (i, a.eval x)) = #[(0, .agg (txc c n (.slice sa k cap)))] := by simp [hx]
  have hr := bslRtx c n sa k cap w
  rw [← e] at hr
  simp only [ho, Sem.run_bind, hr, Result.andThen_ok]
  rfl
end Go.Proofs.YtjfpfkiccbcedaaGreatDoor
