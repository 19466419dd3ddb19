/- What WalReads and WalOpens have in common: their arguments, and the files that they lay. -/
import Derived.Test.YtaiiojbakmminaaGreatDoorKCl2
import Derived.Test.YtaiiojbakmminaaGreatDoorWpl
import Derived.Test.YtaiiojbakmminaaGreatDoorUfr
import Derived.Test.YtaiiojbakmminaaGreatDoorRc
import Derived.Deep.RegionHeld3
import Derived.Deep.CutBlock
import Derived.Deep.CutRange
namespace Go.Proofs.YtaiiojbakmminaaGreatDoor
open Go Go.RowKit
section
variable {ops : Array Oper} {rest : List Oper} {op : Oper} {a : Act} {w : World} {Q : Exit → Act → World → Prop}
theorem iU8 : (Tryz.prog.info? 5).map (·.size) = some 1 := by kernel_rfl
theorem bslY (z : Int) (w : World) : (Instr.buildSlice 50 1 #[(0, .int .u8 z)]).run Tryz.prog w = .ok (.slice (some ⟨w.heap.size, 0, none⟩) 1 1) (w.alloc (.cells #[.int .u8 z] 5)) := by
  simp [Instr.buildSlice, run_underlying Tryz.underlying50, sizeOf_run iU8, Sem.run_bind, Instr.fill, newRow, Tryz.zeroValue5, Value.cells, krange1]
/-- A slice of one byte. -/
theorem wpList_bsl1 (hgd : op.guard = none) (x : Operand) (ho : op.op = .buildSlice 50 1 #[(0, x)]) (c : UInt8) (hx : a.eval x = .int .u8 (n8 c))
    (h : ∀ w1 : World, Below w.heap.size w w1 → Blk w1 w.heap.size (row8 (fun _ => c) 1) 5 → wpList Tryz.prog ops Q rest (a.put op.dst (.slice (some ⟨w.heap.size, 0, none⟩) 1 1)) w1) : wpList Tryz.prog ops Q (op :: rest) a w := by
  have e : (#[(0, x)] : Array (Nat × Operand)).map (fun (i, x) => (i, a.eval x)) = #[(0, .int .u8 (n8 c))] := by simp [hx]
  refine wpList_run hgd _ _ ?_ (h _ ((Below.refl _ _).alloc (Nat.le_refl _) _) (Blk.new _ _ _))
  unfold execOp
  simp only [ho, Sem.run_bind, e, bslY, Result.andThen_ok]
  rfl
end
/-- A slice of texts within a slice. -/
structure SG where
  a : Option Addr
  l : List B
  c : Nat
/-- Slices of texts lie at an address. -/
structure SA (w : World) (ad : Option Addr) (l : List SG) : Prop where
  out : ∀ (i : Nat) (x : SG), l[i]? = some x → ∃ g o, ad = some ⟨g, o, none⟩ ∧ w.cell? ⟨g, o + i, none⟩ = some (.slice x.a x.l.length x.c) ∧ XA w x.a x.l ∧ x.l.length ≤ x.c
theorem cut_len (l : List B) : (cutL l).length ≤ 6 := by unfold cutL; rw [List.length_map, List.length_take]; omega
theorem cut_mem {l : List B} {x : B} (h : x ∈ cutL l) : x.length ≤ 200 := by
  obtain ⟨y, _, rfl⟩ := List.mem_map.1 h
  unfold c200
  rw [List.length_take]
  omega
theorem frs_cutl (l : List B) : (frs (cutL l)).length ≤ 1248 := frs_cut (cut_len l) (fun _ hx => cut_mem hx)
theorem unfT_few (s : B) : (unfT s).1.length ≤ s.length := unfF_len _ s
/-- A segment more, beside others. -/
theorem dx_more {P : PP} {g : Nat} {bt : B} {txs : List B} (h : Dx P g bt txs) (t : B) (hn : txs.length < 90) (hl : P.length ≤ 299) : Dx (putP (segN g (txs.length + 1)) (some t) P) g bt (txs ++ [t]) := by
  have hgl := h.g2
  refine ⟨putP_ris h.ris, h.g1, h.g2, by simp; omega, ?_, fun i u hu => ?_, fun x hx => ?_, ?_⟩
  · rw [getP_put, if_neg (base_seg _ _ _)]; exact h.base
  · rw [getP_put]
    by_cases e : i = txs.length
    · subst e
      rw [if_pos rfl]
      simpa using hu
    · have hi : i < txs.length := by
        have := (List.getElem?_eq_some_iff.1 hu).1
        simp at this
        omega
      rw [if_neg (fun e2 => e (by have := (seg_inj hgl hgl (by omega) (by omega) e2).2; omega))]
      rw [List.getElem?_append_left hi] at hu
      exact h.seg i u hu
  · refine putP_names (q := fun n => n = baseN g ∨ (∃ i, i < (txs ++ [t]).length ∧ n = segN g (i + 1)) ∨ Oth g n) (fun y hy => ?_) (fun _ => .inr (.inl ⟨txs.length, by simp, rfl⟩)) x hx
    rcases h.only y hy with e | ⟨i, hi, e⟩ | e
    · exact .inl e
    · exact .inr (.inl ⟨i, by simp; omega, e⟩)
    · exact .inr (.inr e)
  · have := putP_len (n := segN g (txs.length + 1)) (c := some t) (P := P)
    omega
/-- What another file is. -/
theorem dx_oth {P : PP} {g : Nat} {bt : B} (h : Dx P g bt []) (n s : B) (ho : Oth g n) (hl : P.length ≤ 299) : Dx (putP n (some s) P) g bt [] := by
  have hb : n ≠ baseN g := fun e => by
    have := ho.oth h.g2
    rw [e, oth_base h.g2 h.g2] at this
    simp at this
  refine ⟨putP_ris h.ris, h.g1, h.g2, h.n, by rw [getP_put, if_neg (fun e => hb e.symm)]; exact h.base, fun i t ht => by simp at ht, fun x hx => ?_, by have := putP_len (n := n) (c := some s) (P := P); omega⟩
  refine putP_names (q := fun n => n = baseN g ∨ (∃ i, i < ([] : List B).length ∧ n = segN g (i + 1)) ∨ Oth g n) (fun y hy => h.only y hy) (fun _ => .inr (.inr ho)) x hx
theorem nm2 : baseN 2 = [98, 97, 115, 101, 45, 50] := by decide
/-- A slice without its first. -/
def sl1 (g o n c : Nat) : Value := if c = 1 then .slice (some ⟨g, o, none⟩) 0 0 else .slice (some ⟨g, o + 1, none⟩) n (c - 1)
end Go.Proofs.YtaiiojbakmminaaGreatDoor
