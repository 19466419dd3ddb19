/- Hard. -/
import Derived.Test.YtnhlejdilldfaaaGreatRhd
namespace Go.Proofs.YtnhlejdilldfaaaGreat
open Go Go.RowKit Go.Maps
section
variable (F : Nat → Prop) (nb : Nat) (M : NM) (lb : Option Nat) (w : World) (N : RN)
set_option maxRecDepth 100000 in
set_option maxHeartbeats 1000000 in
theorem hard_any (h : ND F nb M lb w N) (hb : Bnd N) : Calls Tryz.prog 22 #[.pointer (some ⟨nb, 0, none⟩)] w (HdP w N.k) := by
  have hA0 := bl_al (Below.refl w.heap.size w) (.cells #[.int .i64 0, .int .i64 0, .int .i64 0, .int .i64 0, .string ⟨#[]⟩, .slice none 0 0, .slice none 0 0] 43)
  have hBA := Blk.new w #[.int .i64 0, .int .i64 0, .int .i64 0, .int .i64 0, .string ⟨#[]⟩, .slice none 0 0, .slice none 0 0] 43
  go_enter Tryz.func22, Tryz.ntmps22
  go_upto_region 1 with fail
  generalize w.alloc (.cells #[.int .i64 0, .int .i64 0, .int .i64 0, .int .i64 0, .string ⟨#[]⟩, .slice none 0 0, .slice none 0 0] 43) = A at *
  have hN := h.below hA0
  have HNo := none_any F nb M lb A N hN
  obtain ⟨ba, bc, c6, hI6⟩ := hN.c6
  obtain ⟨lv, c7, hL, _⟩ := hN.c7
  obtain ⟨la, lc, rfl, _, hE, _⟩ := hL.sl
  have c1 := hN.c1
  have c2 := hN.c2
  have c3 := hN.c3
  have c4 := hN.c4
  have c5 := hN.c5
  have HC := cloneHard_any N.k ba la bc lc A hI6.ia hE hb.bconf (Nat.le_trans hb.log (by decide))
  have hs0 := hA0.size
  have hlt := hBA.lt
  go_wp2_with (first
    | (go_at_call 63; refine HNo.mono ?_; rintro e w1 ⟨rfl, hw1⟩; replace hw1 := hw1.symm; subst hw1; clear HNo)
    | (go_at_call 60; refine HC.mono ?_; rintro e w2 hce; obtain ⟨x, c, v, rfl, hw2, hv2, hI2, hG2⟩ := hce; obtain ⟨a3, c3', rfl, _⟩ := hG2.sl; have hB2 := hBA.belowSize hw2; clear HC)
    | (with_reducible refine at_list ?_; refine wpList_storeRow (op := ⟨none, .store 43 (.tmp 2) (.tmp 10), _, _, _, _⟩) rfl _ _ _ rfl w.heap.size #[.int .i64 N.k.term, .int .i64 N.k.vote, .int .i64 N.k.bi, .int .i64 N.k.bt, .string ⟨N.k.base.toArray⟩, .slice x N.k.bconf.length c, .slice a3 N.k.log.length c3'] rfl rfl _ _ hB2 (hd_size ..) (hd_info ..) (hd_one ..) ?_; intro w5 hg5 hs5 h5b))
  have hb2 := bl_ca hA0 hw2
  have hs2 := hw2.size
  have h5 := hg5.size
  have hkq : ∀ q, A.heap.size ≤ q → q < w2.heap.size → w5.heap[q]? = w2.heap[q]? := fun q k1 k2 => hg5.block q k2 (fun e => by have := Option.some.inj e; omega)
  have hll : ∀ q, slBlk (.slice a3 N.k.log.length c3') = some q → q < w2.heap.size := fun q e => by
    obtain ⟨ls, hl, _⟩ := hG2
    exact (hl.lt q e).2
  refine bodyPost_ret (v := .agg #[.int .i64 N.k.term, .int .i64 N.k.vote, .int .i64 N.k.bi, .int .i64 N.k.bt, .string ⟨N.k.base.toArray⟩, .slice x N.k.bconf.length c, .slice a3 N.k.log.length c3']) ?_ rfl ⟨x, c, _, rfl, bl_gr hb2 hg5 (Nat.le_refl _), fun r e => Nat.le_trans hs0 (hv2 r e), hI2.kept (fun q hq => hkq q hq.1.1 hq.1.2) (fun q hq => ⟨⟨Nat.le_trans hs0 hq.1.1, Nat.lt_of_lt_of_le hq.1.2 h5⟩, hq.2⟩), hG2.kept (fun q e => hkq q (hv2 q e) (hll q e)) (fun q hq => hkq q hq.1.1 hq.1.2) (fun q hq => ⟨⟨Nat.le_trans hs0 hq.1.1, Nat.lt_of_lt_of_le hq.1.2 h5⟩, hq.2⟩)⟩
  exact results_cell_row rfl _ _ w.heap.size _ _ _ _ rfl h5b.out Tryz.underlying43 rfl (hd_info ..)
end
end Go.Proofs.YtnhlejdilldfaaaGreat
