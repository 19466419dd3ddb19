/- What Same does. -/
import Derived.Test.YtdolgkegeomafaaDoorHmf
namespace Go.Proofs.YtdolgkegeomafaaDoor
open Go Go.RowKit
section
attribute [local go_sem] Oper.semAt_some
set_option maxRecDepth 100000 in
set_option maxHeartbeats 4000000 in
theorem sameH_p (PP : Prop) (x y : HH) (a a2 : Option Addr) (cap cap2 : Nat) (w : World) (h : IA w a x.mem) (h2 : IA w a2 y.mem) (hl : x.mem.length ≤ 1000000) (hPP : Hid (PP ↔ x = y)) :
    Calls Tryd.prog 18 #[.agg (hA x.height x.prev x.txr x.str (.slice a x.mem.length cap)), .agg (hA y.height y.prev y.txr y.str (.slice a2 y.mem.length cap2))] w (EqP w PP) := by
  obtain ⟨ht, p, t, s, l⟩ := x
  obtain ⟨ht', p', t', s', m⟩ := y
  dsimp only at *
  by_cases c1 : ht = ht'
  · subst c1
    by_cases c2 : p = p'
    · subst c2
      by_cases c3 : t = t'
      · subst c3
        by_cases c4 : s = s'
        · subst c4
          have HQ := fun w' (hB : Below w.heap.size w w') => equalI_any a a2 l m cap cap2 w' (h.below hB) (h2.below hB) hl
          have HP : Hid (PP ↔ l = m) := by show _ ↔ _; rw [hPP.out]; simp
          go_enter Tryd.func18, Tryd.ntmps18
          go_wp2_with (first
            | (go_at_call 37; refine (HQ _ (hw1.trans (hw2.mono hw1.size))).mono ?_; rintro e w3 ⟨y, rfl, hy, hw3⟩; clear HQ)
            | (with_reducible refine at_list ?_; first
              | (refine wpList_boxRow (op := ⟨some 2, _, _, _, _, _⟩) rfl _ _ rfl _ rfl ?_; intro w1 hw1 hs1 hb1; replace hs1 := hs1.symm)
              | (refine wpList_boxRow (op := ⟨some 3, _, _, _, _, _⟩) rfl _ _ rfl _ rfl ?_; intro w2 hw2 hs2 hb2; replace hs2 := hs2.symm; replace hb1 := hb1.belowSize hw2; have c0 := (hb1.cell 0).trans (hA_g0 _ _ _ _ _); have c1 := (hb1.cell 1).trans (hA_g1 _ _ _ _ _); have c2 := (hb1.cell 2).trans (hA_g2 _ _ _ _ _); have c3 := (hb1.cell 3).trans (hA_g3 _ _ _ _ _); have c4 := (hb1.cell 4).trans (hA_g4 _ _ _ _ _); have d0 := (hb2.cell 0).trans (hA_g0 _ _ _ _ _); have d1 := (hb2.cell 1).trans (hA_g1 _ _ _ _ _); have d2 := (hb2.cell 2).trans (hA_g2 _ _ _ _ _); have d3 := (hb2.cell 3).trans (hA_g3 _ _ _ _ _); have d4 := (hb2.cell 4).trans (hA_g4 _ _ _ _ _))))
          go_ret
          exact ⟨y, rfl, hy.trans HP.out.symm, (hw1.trans (hw2.mono hw1.size)).trans (hw3.mono (Nat.le_trans hw1.size hw2.size))⟩
        · skip
          have HP : Hid (¬ PP) := fun e => c4 (by have e := hPP.out.1 e; injection e)
          go_enter Tryd.func18, Tryd.ntmps18
          go_wp2_with (with_reducible refine at_list ?_; first
              | (refine wpList_boxRow (op := ⟨some 2, _, _, _, _, _⟩) rfl _ _ rfl _ rfl ?_; intro w1 hw1 hs1 hb1; replace hs1 := hs1.symm)
              | (refine wpList_boxRow (op := ⟨some 3, _, _, _, _, _⟩) rfl _ _ rfl _ rfl ?_; intro w2 hw2 hs2 hb2; replace hs2 := hs2.symm; replace hb1 := hb1.belowSize hw2; have c0 := (hb1.cell 0).trans (hA_g0 _ _ _ _ _); have c1 := (hb1.cell 1).trans (hA_g1 _ _ _ _ _); have c2 := (hb1.cell 2).trans (hA_g2 _ _ _ _ _); have c3 := (hb1.cell 3).trans (hA_g3 _ _ _ _ _); have d0 := (hb2.cell 0).trans (hA_g0 _ _ _ _ _); have d1 := (hb2.cell 1).trans (hA_g1 _ _ _ _ _); have d2 := (hb2.cell 2).trans (hA_g2 _ _ _ _ _); have d3 := (hb2.cell 3).trans (hA_g3 _ _ _ _ _)))
          go_ret
          exact ⟨false, rfl, by simp [HP.out], hw1.trans (hw2.mono hw1.size)⟩
      · skip
        have HP : Hid (¬ PP) := fun e => c3 (by have e := hPP.out.1 e; injection e)
        go_enter Tryd.func18, Tryd.ntmps18
        go_wp2_with (with_reducible refine at_list ?_; first
            | (refine wpList_boxRow (op := ⟨some 2, _, _, _, _, _⟩) rfl _ _ rfl _ rfl ?_; intro w1 hw1 hs1 hb1; replace hs1 := hs1.symm)
            | (refine wpList_boxRow (op := ⟨some 3, _, _, _, _, _⟩) rfl _ _ rfl _ rfl ?_; intro w2 hw2 hs2 hb2; replace hs2 := hs2.symm; replace hb1 := hb1.belowSize hw2; have c0 := (hb1.cell 0).trans (hA_g0 _ _ _ _ _); have c1 := (hb1.cell 1).trans (hA_g1 _ _ _ _ _); have c2 := (hb1.cell 2).trans (hA_g2 _ _ _ _ _); have d0 := (hb2.cell 0).trans (hA_g0 _ _ _ _ _); have d1 := (hb2.cell 1).trans (hA_g1 _ _ _ _ _); have d2 := (hb2.cell 2).trans (hA_g2 _ _ _ _ _)))
        go_ret
        exact ⟨false, rfl, by simp [HP.out], hw1.trans (hw2.mono hw1.size)⟩
    · skip
      have HP : Hid (¬ PP) := fun e => c2 (by have e := hPP.out.1 e; injection e)
      go_enter Tryd.func18, Tryd.ntmps18
      go_wp2_with (with_reducible refine at_list ?_; first
          | (refine wpList_boxRow (op := ⟨some 2, _, _, _, _, _⟩) rfl _ _ rfl _ rfl ?_; intro w1 hw1 hs1 hb1; replace hs1 := hs1.symm)
          | (refine wpList_boxRow (op := ⟨some 3, _, _, _, _, _⟩) rfl _ _ rfl _ rfl ?_; intro w2 hw2 hs2 hb2; replace hs2 := hs2.symm; replace hb1 := hb1.belowSize hw2; have c0 := (hb1.cell 0).trans (hA_g0 _ _ _ _ _); have c1 := (hb1.cell 1).trans (hA_g1 _ _ _ _ _); have d0 := (hb2.cell 0).trans (hA_g0 _ _ _ _ _); have d1 := (hb2.cell 1).trans (hA_g1 _ _ _ _ _)))
      go_ret
      exact ⟨false, rfl, by simp [HP.out], hw1.trans (hw2.mono hw1.size)⟩
  · have hb0 : ((ht : Int) == (ht' : Int)) = false := by rw [beq_eq_false_iff_ne]; omega
    have HP : Hid (¬ PP) := fun e => c1 (by have e := hPP.out.1 e; injection e)
    clear c1
    go_enter Tryd.func18, Tryd.ntmps18
    go_wp2_with (with_reducible refine at_list ?_; first
        | (refine wpList_boxRow (op := ⟨some 2, _, _, _, _, _⟩) rfl _ _ rfl _ rfl ?_; intro w1 hw1 hs1 hb1; replace hs1 := hs1.symm)
        | (refine wpList_boxRow (op := ⟨some 3, _, _, _, _, _⟩) rfl _ _ rfl _ rfl ?_; intro w2 hw2 hs2 hb2; replace hs2 := hs2.symm; replace hb1 := hb1.belowSize hw2; have c0 := (hb1.cell 0).trans (hA_g0 _ _ _ _ _); have d0 := (hb2.cell 0).trans (hA_g0 _ _ _ _ _)))
    go_ret
    exact ⟨false, rfl, by simp [HP.out], hw1.trans (hw2.mono hw1.size)⟩
end
theorem sameH_any (x y : HH) (a a2 : Option Addr) (cap cap2 : Nat) (w : World) (h : IA w a x.mem) (h2 : IA w a2 y.mem) (hl : x.mem.length ≤ 1000000) :
    Calls Tryd.prog 18 #[.agg (hA x.height x.prev x.txr x.str (.slice a x.mem.length cap)), .agg (hA y.height y.prev y.txr y.str (.slice a2 y.mem.length cap2))] w (EqP w (x = y)) :=
  sameH_p (x = y) x y a a2 cap cap2 w h h2 hl Iff.rfl
end Go.Proofs.YtdolgkegeomafaaDoor
