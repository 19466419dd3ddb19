/- What ChainNames does, of all names. -/
import Derived.Test.YtmbdhngoldganaaGreatDoorCnq
namespace Go.Proofs.YtmbdhngoldganaaGreatDoor
open Go Go.RowKit
section
attribute [local go_sem] Oper.semAt_some
set_option maxRecDepth 100000 in
set_option maxHeartbeats 16000000 in
theorem names_bad (nx : List UInt8) (lx : List Int) (ax : Option Addr) (cx : Nat) (ny : List UInt8) (ly : List Int) (ay : Option Addr) (cy : Nat) (sv : Value) (w : World) (hG : Sh.Glob w) (hIx : IA w ax lx) (hIy : IA w ay ly) (hk : okS nx lx = false ∨ okS ny ly = false) :
    Calls Tryz.prog 7 #[.agg (suC nx (.slice ax lx.length cx)), .agg (suC ny (.slice ay ly.length cy)), sv] w fun e w' => e = .returned (.bool true) ∧ Below w.heap.size w w' := by
  have HMa := fun w1 (hb : Below w.heap.size w w1) => (made_any nx lx ax cx w1 (hIx.below hb) (hG.belowSize hb)).mono fun e w' h => h.out
  have HMb := fun w1 (hb : Below w.heap.size w w1) => (made_any ny ly ay cy w1 (hIy.below hb) (hG.belowSize hb)).mono fun e w' h => h.out
  have HW := fun w1 (hb : Below w.heap.size w w1) => awakeC_any w1 (hG.belowSize hb)
  have HW2 := HW
  have iX : ∀ n s, (Tryz.prog.info? 24).map (·.size) = some (suC n s).size := suC_info
  generalize okS nx lx = okx at *
  generalize okS ny ly = oky at *
  go_enter Tryz.func7, Tryz.ntmps7
  go_upto_region 3 with (first
    | (go_at_call 17; first
      | (refine (HMa _ hB2).mono ?_; rintro e w3 ⟨px, rx, rfl, hw3, rxi, rxo, rx7⟩; clear HMa; replace h3 := h3.belowSize hw3; replace h4 := h4.belowSize hw3; have hB3 := hB2.trans (hw3.mono hB2.size))
      | (refine (HMb _ hB5).mono ?_; rintro e w6 ⟨py, ry, rfl, hw6, ryi, ryo, ry7⟩; clear HMb; have hB6 := hB5.trans (hw6.mono hB5.size)))
    | (with_reducible refine at_list ?_; first
      | (refine wpList_boxRow (op := ⟨some 3, _, _, _, _, _⟩) rfl _ _ rfl _ rfl ?_; intro w1 hw1 hs1 h3; clear hs1)
      | (refine wpList_boxRow (op := ⟨some 4, _, _, _, _, _⟩) rfl _ _ rfl _ rfl ?_; intro w2 hw2 hs2 h4; clear hs2; replace h3 := h3.belowSize hw2; have hB2 := hw1.trans (hw2.mono hw1.size))
      | (refine wpList_loadRow (op := ⟨some 21, _, _, _, _, _⟩) rfl _ _ rfl w.heap.size rfl _ _ h3 _ Tryz.underlying24 rfl (iX _ _) ?_)
      | (refine wpList_allocRow (op := ⟨some 8, _, _, _, _, _⟩) rfl _ rfl _ zRc.1 ?_; intro w4 hw4 hs4 h8z; clear hs4; replace h4 := h4.belowSize hw4; have hB4 := hB3.trans (hw4.mono hB3.size))
      | (refine wpList_storeRow (op := ⟨none, .store 45 (.tmp 8) (.tmp 24), _, _, _, _⟩) rfl _ _ _ rfl w3.heap.size rx rfl rfl _ _ h8z (by rw [rx7, rcC_size]) rxi rxo ?_; intro w5 hg5 hs5 h8; clear hs5; have k4 := h4.neT h8z (by decide); replace h4 := h4.grown hg5 (fun e => absurd (Option.some.inj e) k4); have hB5 := hB4.trans (below_of_grown hg5 hB3.size hB4.size); clear hg5 h8z hB4 k4)
      | (refine wpList_loadRow (op := ⟨some 27, _, _, _, _, _⟩) rfl _ _ rfl w1.heap.size rfl _ _ h4 _ Tryz.underlying24 rfl (iX _ _) ?_)
      | (refine wpList_allocRow (op := ⟨some 11, _, _, _, _, _⟩) rfl _ rfl _ zRc.1 ?_; intro w7 hw7 hs7 h11z; clear hs7; have hB7 := hB6.trans (hw7.mono hB6.size))
      | (refine wpList_storeRow (op := ⟨none, .store 45 (.tmp 11) (.tmp 30), _, _, _, _⟩) rfl _ _ _ rfl w6.heap.size ry rfl rfl _ _ h11z (by rw [ry7, rcC_size]) ryi ryo ?_; intro w8 hg8 hs8 h11; clear hs8; have hB8 := hB7.trans (below_of_grown hg8 hB6.size hB7.size); clear hg8 h11z hB7)))
  clear h3 h4 h8 h11 hB2 hB3 hB5 hB6 hw1 hw2 hw3 hw4 hw6 hw7 rxi rxo rx7 ryi ryo ry7
  cases okx
  · go_wp2_with (go_at_call 13; first
      | (refine (HW _ hB8).mono ?_; rintro e w9 ⟨rfl, hw9⟩; clear HW; have hB9 := hB8.trans (hw9.mono hB8.size))
      | (refine (HW2 _ hB9).mono ?_; rintro e wA ⟨rfl, hwA⟩; clear HW2; have hBA := hB9.trans (hwA.mono hB9.size)))
    go_ret
    exact ⟨rfl, hBA⟩
  · cases oky
    · go_wp2_with (go_at_call 13; first
        | (refine (HW _ hB8).mono ?_; rintro e w9 ⟨rfl, hw9⟩; clear HW; have hB9 := hB8.trans (hw9.mono hB8.size))
        | (refine (HW2 _ hB9).mono ?_; rintro e wA ⟨rfl, hwA⟩; clear HW2; have hBA := hB9.trans (hwA.mono hB9.size)))
      go_ret
      exact ⟨rfl, hBA⟩
    · rcases hk with hk | hk <;> cases hk
end
theorem chainNames_any (nx : List UInt8) (lx : List Int) (ax : Option Addr) (cx : Nat) (ny : List UInt8) (ly : List Int) (ay : Option Addr) (cy : Nat) (l : List BT) (a : Option Addr) (cap : Nat) (w : World) (hG : Sh.Glob w) (hIx : IA w ax lx) (hIy : IA w ay ly) (hB : BA w a l) (hl : l.length ≤ maxLen) :
    Calls Tryz.prog 7 #[.agg (suC nx (.slice ax lx.length cx)), .agg (suC ny (.slice ay ly.length cy)), .slice a l.length cap] w fun e w' => e = .returned (.bool true) ∧ Below w.heap.size w w' := by
  cases hx : okS nx lx
  · exact names_bad nx lx ax cx ny ly ay cy _ w hG hIx hIy (.inl hx)
  · cases hy : okS ny ly
    · exact names_bad nx lx ax cx ny ly ay cy _ w hG hIx hIy (.inr hy)
    · exact names_good nx lx ax cx ny ly ay cy l a cap w hG hIx hIy hB hl hx hy
end Go.Proofs.YtmbdhngoldganaaGreatDoor
