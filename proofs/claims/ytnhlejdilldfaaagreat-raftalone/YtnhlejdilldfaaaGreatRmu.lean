/- A replica's maps are written. -/
import Derived.Test.YtnhlejdilldfaaaGreatRask
namespace Go.Proofs.YtnhlejdilldfaaaGreat
open Go Go.RowKit Go.Maps
theorem lt_max16 : (S16 : List Int).length < maxLen := by decide
section
variable {nb : Nat} {M : NM} {F : Nat → Prop} {lb : Option Nat} {w w' : World} {N : RN}
theorem ND.mapsTo (h : ND F nb M lb w N) (b : Nat) (hb : b = M.bv ∨ b = M.bn ∨ b = M.bh ∨ b = M.be) (hg : w.grownBy w' (some b)) (N' : RN) (he : { N' with votes := N.votes, next := N.next, had := N.had, ends := N.ends, keys := N.keys } = N)
    (h1 : MB w' M.bv S16 N'.votes) (h2 : MI w' M.bn (S16 ++ N'.keys) N'.next) (h3 : MI w' M.bh S16 N'.had) (h4 : MI w' M.be S16 N'.ends) : ND F nb M lb w' N' := by
  have hk : ∀ k, k < w.heap.size → k ≠ b → w'.heap[k]? = w.heap[k]? := fun k hk hn => hg.block k hk (fun e => hn (Option.some.inj e))
  have hn := h.ne
  have hbn : nb ≠ b := by rcases hb with e | e | e | e <;> rw [e] <;> first | exact hn.1.symm | exact hn.2.1.symm | exact hn.2.2.1.symm | exact hn.2.2.2.1.symm
  have hbl : ∀ k, lb = some k → k ≠ b := fun k e => by
    have := hn.2.2.2.2 k e
    rcases hb with e | e | e | e <;> rw [e] <;> first | exact this.2.1.symm | exact this.2.2.1.symm | exact this.2.2.2.1.symm | exact this.2.2.2.2.symm
  have hbo : own nb M lb b := by
    rcases hb with e | e | e | e
    · exact .inr (.inl e)
    · exact .inr (.inr (.inl e))
    · exact .inr (.inr (.inr (.inl e)))
    · exact .inr (.inr (.inr (.inr (.inl e))))
  have hF : ∀ k, F k → w'.heap[k]? = w.heap[k]? := fun k hF => hk k (h.flt k hF) (fun e => h.off k hF (e ▸ hbo))
  obtain ⟨ba, ca, lv, da, dc, k1, k2, k3, k4, k5, k6⟩ := h.out
  have e1 : N'.k = N.k := by rw [← he]
  have e2 : N'.draws = N.draws := by rw [← he]
  refine ⟨⟨ba, ca, lv, da, dc, ⟨(hk nb k1.lt hbn).trans ?_⟩, k2, ?_, ?_, ?_, by rw [e2]; exact k6⟩, h1, h2, h3, h4, h.apart, h.off, fun k hk => Nat.lt_of_lt_of_le (h.flt k hk) hg.size⟩
  · have : ncells M N' ba ca lv da dc = ncells M N ba ca lv da dc := by rw [← he]; rfl
    rw [this]; exact k1.out
  · rw [e1]; exact k3.kept hF (fun _ h => h)
  · rw [e1]; exact k4.kept (fun k e => hk k (h.lbLt k (k2.symm.trans e)) (hbl k (k2.symm.trans e))) hF (fun _ h => h)
  · rw [e2]; exact k5.kept hF (fun _ h => h)
theorem ND.toVotes (h : ND F nb M lb w N) {f : Int → Bool} (hm : MB w' M.bv S16 f) (hg : w.grownBy w' (some M.bv)) : ND F nb M lb w' { N with votes := f } :=
  h.mapsTo M.bv (.inl rfl) hg _ rfl hm (h.next.block (hg.block _ h.next.lt (fun e => h.apart.1 (Option.some.inj e).symm))) (h.had.block (hg.block _ h.had.lt (fun e => h.apart.2.1 (Option.some.inj e).symm))) (h.ends.block (hg.block _ h.ends.lt (fun e => h.apart.2.2.1 (Option.some.inj e).symm)))
theorem ND.toNext (h : ND F nb M lb w N) {f : Int → Int} {ks : List Int} (hm : MI w' M.bn (S16 ++ ks) f) (hg : w.grownBy w' (some M.bn)) : ND F nb M lb w' { N with next := f, keys := ks } :=
  h.mapsTo M.bn (.inr (.inl rfl)) hg _ rfl (h.votes.block (hg.block _ h.votes.lt (fun e => h.apart.1 (Option.some.inj e)))) hm (h.had.block (hg.block _ h.had.lt (fun e => h.apart.2.2.2.1 (Option.some.inj e).symm))) (h.ends.block (hg.block _ h.ends.lt (fun e => h.apart.2.2.2.2.1 (Option.some.inj e).symm)))
theorem ND.toHad (h : ND F nb M lb w N) {f : Int → Int} (hm : MI w' M.bh S16 f) (hg : w.grownBy w' (some M.bh)) : ND F nb M lb w' { N with had := f } :=
  h.mapsTo M.bh (.inr (.inr (.inl rfl))) hg _ rfl (h.votes.block (hg.block _ h.votes.lt (fun e => h.apart.2.1 (Option.some.inj e)))) (h.next.block (hg.block _ h.next.lt (fun e => h.apart.2.2.2.1 (Option.some.inj e)))) hm (h.ends.block (hg.block _ h.ends.lt (fun e => h.apart.2.2.2.2.2 (Option.some.inj e).symm)))
theorem ND.toEnds (h : ND F nb M lb w N) {f : Int → Int} (hm : MI w' M.be S16 f) (hg : w.grownBy w' (some M.be)) : ND F nb M lb w' { N with ends := f } :=
  h.mapsTo M.be (.inr (.inr (.inr rfl))) hg _ rfl (h.votes.block (hg.block _ h.votes.lt (fun e => h.apart.2.2.1 (Option.some.inj e)))) (h.next.block (hg.block _ h.next.lt (fun e => h.apart.2.2.2.2.1 (Option.some.inj e)))) (h.had.block (hg.block _ h.had.lt (fun e => h.apart.2.2.2.2.2 (Option.some.inj e)))) hm
theorem own_bv : own nb M lb M.bv := .inr (.inl rfl)
theorem own_bn : own nb M lb M.bn := .inr (.inr (.inl rfl))
theorem own_bh : own nb M lb M.bh := .inr (.inr (.inr (.inl rfl)))
theorem own_be : own nb M lb M.be := .inr (.inr (.inr (.inr (.inl rfl))))
end
end Go.Proofs.YtnhlejdilldfaaaGreat
