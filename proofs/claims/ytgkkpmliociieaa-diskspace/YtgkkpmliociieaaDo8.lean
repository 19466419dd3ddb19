/- What do of the statements does, where room is told. -/
import Derived.Test.YtgkkpmliociieaaDoo
namespace Go.Proofs.Ytgkkpmliociieaa
open Go Go.RowKit
theorem pC_s3 (p : Nat) (m : RD) (x y : Value) (n : Int) : (pC p m x y).setIfInBounds 3 (.int .i64 n) = pC p { m with room := n } x y := rfl
set_option maxRecDepth 100000 in
set_option maxHeartbeats 4000000 in
theorem do_room (p : Nat) (b : Option Nat) (d : DM) (m : RD) (x y : Value) (a : AC) (w : World) (hD : DK w p b d) (hx : RL w 0 x m.now) (hy : RL w 0 y m.sure) (hk : a.kind = 8) :
    Calls Try.prog 8 #[.agg (pC p m x y), .agg (aC a)] w (DoP w p b { d with lim := decide (0 ≤ a.n), room := a.n } { m with room := a.n }) := by
  have HG := fun w1 (hD1 : DK w1 p b d) => room_any p b d a.n w1 hD1
  have hx1 := hx.cells.2
  have hy1 := hy.cells.2
  have g0 := aC_g0 a
  rw [hk] at g0
  go_enter Try.func8, Try.ntmps8
  go_wp2_with (first | (go_at_call 19; refine (HG _ (hD.below hB3)).mono ?_; rintro e w7 ⟨rfl, hC7, hD7⟩; clear HG c30 c34 c20; have hD3 := hD.below hB3; have hx7 := (hx.below hB3).chg hD3 hC7; have hy7 := (hy.below hB3).chg hD3 hC7; have l2 := h2.lt; have l3 := h3.lt; replace h2 := hC7.blk hD3 h2 (by decide) (by decide); replace h3 := hC7.blk hD3 h3 (by decide) (by decide); replace h4 := hC7.blk hD3 h4 (by decide) (by decide); have c34 := (h3.cell 4).trans (aC_g4 a)) | (with_reducible refine at_list ?_; first | (refine wpList_boxRow (op := ⟨some 2, _, _, _, _, _⟩) rfl _ _ rfl _ rfl ?_; intro w1 hw1 hs1 h2; clear hs1) | (refine wpList_boxRow (op := ⟨some 3, _, _, _, _, _⟩) rfl _ _ rfl _ rfl ?_; intro w2 hw2 hs2 h3; clear hs2; have hB2 := hw1.trans (hw2.mono hw1.size); have l2 := h2.lt; replace h2 := h2.belowSize hw2) | (refine wpList_allocRow (op := ⟨some 4, _, _, _, _, _⟩) rfl _ rfl _ zPr.1 ?_; intro w3 hw3 hs3 h4; clear hs3; have hB3 := hB2.trans (hw3.mono hB2.size); have l3 := h3.lt; replace h2 := h2.belowSize hw3; replace h3 := h3.belowSize hw3; have hs1 := hw1.size; have hs2 := hw2.size; have hs3 := hw3.size; have c30 := (h3.cell 0).trans g0; have c34 := (h3.cell 4).trans (aC_g4 a); have c20 := (h2.cell 0).trans (pC_g0 _ _ _ _); have l4 := h4.lt) | (refine wpList_storeCell (op := ⟨none, .store 3 (.tmp 76) (.tmp 74), _, _, _, _⟩) rfl _ _ _ rfl w.heap.size 3 rfl (.int .i64 a.n) rfl _ _ h2 iInt rfl rfl (by rw [pC_size]; decide) ?_; intro w8 hg8 hs8 h2b; clear hs8 c34; rw [pC_s3] at h2b; replace h4 := h4.grown hg8 (fun e => by have := Option.some.inj e; omega); have hD8 := hD7.own hg8 h2 (by decide) (by decide); have hx8 := hx7.other hg8 h2 (.inl (by decide)); have hy8 := hy7.other hg8 h2 (.inl (by decide))) | (refine wpList_loadRow (op := ⟨some 77, _, _, _, _, _⟩) rfl _ _ rfl w.heap.size rfl _ _ h2b _ Try.underlying29 rfl (iPr _ _ _ _) ?_) | (refine wpList_storeRow (op := ⟨none, .store 29 (.tmp 4) (.tmp 77), _, _, _, _⟩) rfl _ _ _ rfl w2.heap.size (pC p { m with room := a.n } x y) rfl rfl _ _ h4 rfl (iPr _ _ _ _) (pC_one _ _ _ _ hx1 hy1) ?_; intro w9 hg9 hs9 h4f; clear hs9; have hD9 := hD8.own hg9 h4 (by decide) (by decide); have hx9 := hx8.other hg9 h4 (.inl (by decide)); have hy9 := hy8.other hg9 h4 (.inl (by decide)))))
  have l4s : w.heap.size ≤ w2.heap.size := by omega
  have hC8 := DoC hB3 hC7 hg8 (Nat.le_refl _)
  have hC9 := DoC (Below.refl w.heap.size w) hC8 hg9 l4s
  refine bodyPost_ret (v := .tuple #[.agg (pC p { m with room := a.n } x y), .bool true]) ?_ rfl ⟨x, y, b, rfl, hC9, hD9, hx9, hy9⟩
  exact res_cv rfl _ _ w2.heap.size _ _ _ _ rfl rfl h4f Try.underlying29 rfl (iPr _ _ _ _)
end Go.Proofs.Ytgkkpmliociieaa
