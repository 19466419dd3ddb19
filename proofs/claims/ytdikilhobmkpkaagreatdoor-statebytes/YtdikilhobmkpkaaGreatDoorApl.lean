/- What Apply does. -/
import Derived.Test.YtdikilhobmkpkaaGreatDoorApm
import Derived.Test.YtdikilhobmkpkaaGreatDoorCpy
namespace Go.Proofs.YtdikilhobmkpkaaGreatDoor
open Go Go.RowKit Go.Maps
theorem ApP.err {m : List KV} {t : TX} {b : Nat} {w w' : World} {e : Ending} {x : Int} (h : apE m t = x) (hx : x ≠ 0) (hS : ST w b m) (hB : Below w.heap.size w w') (he : e = .returned (.tuple #[.slice none 0 0, .int .i64 x])) : ApP m t b w e w' := by
  subst h
  refine ⟨⟨none, 0, by rw [he, apL_err hx]⟩, ?_, grown_of_below hB⟩
  rw [apM_err hx]
  exact hS.below hB
theorem SL.belowTo {w w' : World} {a : Option Addr} {l : List O} (h : SL w a l) (hb : Below w.heap.size w w') : SL w' a l := h.below hb
theorem TS.ne_map {w : World} {lo mb : Nat} {v : Value} {l : List (List UInt8)} {m : List KV} (h : TS w lo v l) (hM : MB w mb m) : v.ownBlock ≠ some mb := by
  rcases h.1.2 with ⟨h1, _⟩ | ⟨g, cap, cur, rfl, _, hc, _⟩
  · exact absurd h1 h.2
  · intro e
    obtain rfl : g = mb := by simpa [Value.ownBlock] using e
    obtain ⟨es, clock, h3, _⟩ := hM
    rw [hc] at h3
    cases h3
theorem TS.ne_blk {w : World} {lo b : Nat} {v : Value} {l : List (List UInt8)} {c : Array Value} {t : TypeId} (h : TS w lo v l) (hb : Blk w b c t) (ht : t ≠ 9) : v.ownBlock ≠ some b := by
  rcases h.1.2 with ⟨h1, _⟩ | ⟨g, cap, cur, rfl, _, hc, _⟩
  · exact absurd h1 h.2
  · intro e
    obtain rfl : g = b := by simpa [Value.ownBlock] using e
    have h3 := hb.out
    rw [hc] at h3
    simp only [Option.some.injEq, Obj.cells.injEq] at h3
    exact ht h3.2.1.symm
theorem TS.low {w : World} {lo : Nat} {v : Value} {l : List (List UInt8)} (h : TS w lo v l) : ∀ k, v.ownBlock = some k → lo ≤ k := fun k e => (h.1.lt k e).1
theorem TS.lower {w : World} {lo lo' : Nat} {v : Value} {l : List (List UInt8)} (h : TS w lo v l) (hl : lo' ≤ lo) : TS w lo' v l := by
  refine ⟨⟨h.1.1, ?_⟩, h.2⟩
  rcases h.1.2 with h1 | ⟨g, cap, cur, h1, h2, h3⟩
  · exact .inl h1
  · exact .inr ⟨g, cap, cur, h1, Nat.le_trans hl h2, h3⟩
theorem TS.below {w w' : World} {lo : Nat} {v : Value} {l : List (List UInt8)} (h : TS w lo v l) (hb : Below w.heap.size w w') : TS w' lo v l := by
  refine ⟨h.1.kept (row := none) (grown_of_below hb) ?_, h.2⟩
  rcases h.1.2 with ⟨h1, _⟩ | ⟨g, cap, cur, rfl, _⟩
  · exact absurd h1 h.2
  · exact .inr (by simp [Value.ownBlock])
theorem clone_ex (b : Nat) (m : List KV) (w : World) (h : ST w b m) (hm : m.length ≤ 100000) :
    Calls Tryz.prog 18 #[.pointer (some ⟨b, 0, none⟩)] w fun e w' => ∃ bb mb, e = .returned (.pointer (some ⟨bb, 0, none⟩)) ∧ Below w.heap.size w w' ∧ w.heap.size ≤ mb ∧ w.heap.size ≤ bb ∧ Blk w' bb #[.map (some mb)] 57 ∧ MB w' mb m :=
  (clone_st b m w h hm).mono fun _ _ ⟨h1, h2, h3, h4⟩ => ⟨_, _, h1, h2, Nat.le_refl _, by omega, h3, h4⟩
set_option maxRecDepth 100000 in
set_option maxHeartbeats 400000 in
theorem apply_not (t : TX) (a : Option Addr) (cap b : Nat) (m : List KV) (w : World) (hS : ST w b m) (hL : SL w a t.ops) (hn : ¬ okTx t = true) :
    Calls Tryz.prog 7 #[.pointer (some ⟨b, 0, none⟩), .agg (txc t.client t.nonce (.slice a t.ops.length cap))] w (ApP m t b w) := by
  have HC := fun w1 (hw1 : Below w.heap.size w w1) => check_any t a cap w1 (hL.below hw1)
  rw [chk_not hn] at HC
  have HE : Hid (apE m t = 40) := apE_not hn
  have hER := @ApP.err m t b w
  clear hn
  generalize ApP m t b w = P at *
  obtain ⟨c, n, l⟩ := t
  dsimp only at *
  generalize (Value.slice a l.length cap) = sl at *
  go_enter Tryz.func7, Tryz.ntmps7
  go_wp2_with (first
    | (go_at_call 23; refine (HC _ hw1).mono ?_; rintro e w2 ⟨rfl, hw2⟩; have hB2 := hw1.trans (hw2.mono hw1.size); have hb2 := hb1.belowSize hw2; have c0 := (hb2.cell 0).trans (txc_g0 _ _ _); have c1 := (hb2.cell 1).trans (txc_g1 _ _ _))
    | (with_reducible refine at_list ?_; first
      | (refine wpList_boxRow (op := ⟨some 3, _, _, _, _, _⟩) rfl _ _ rfl _ rfl ?_; intro w1 hw1 hs1 hb1; replace hs1 := hs1.symm; have c0 := (hb1.cell 0).trans (txc_g0 _ _ _); have c1 := (hb1.cell 1).trans (txc_g1 _ _ _); have c2 := (hb1.cell 2).trans (txc_g2 _ _ _))
      | (refine wpList_loadRow (op := ⟨some 15, _, _, _, _, _⟩) rfl _ _ rfl w.heap.size rfl _ _ hb1 _ Tryz.underlying33 rfl (by rw [txc_size]; exact zTx.2) ?_)))
  exact hER HE.out (by decide) hS hB2 rfl
set_option maxRecDepth 100000 in
set_option maxHeartbeats 400000 in
theorem apply_nonce (t : TX) (a : Option Addr) (cap b : Nat) (m : List KV) (w : World) (hS : ST w b m) (hL : SL w a t.ops) (hk : okTx t = true) (hc : t.client < 18446744073709551616) (hnn : t.nonce < 18446744073709551616) (hv1 : (valM m (nOf t.client)).length ≤ 140737488355328) (hn : ¬ t.nonce - 1 = lastM m t.client) :
    Calls Tryz.prog 7 #[.pointer (some ⟨b, 0, none⟩), .agg (txc t.client t.nonce (.slice a t.ops.length cap))] w (ApP m t b w) := by
  have HC := fun w1 (hw1 : Below w.heap.size w w1) => check_any t a cap w1 (hL.below hw1)
  rw [chk_zero hk] at HC
  have HS := fun w1 (hw1 : Below w.heap.size w w1) => last_st b m t.client w1 (hS.below hw1) hv1
  have HE : Hid (apE m t = 50) := apE_nonce hk hn
  have hn0 := (okTx_of hk).nonce
  have hER := @ApP.err m t b w
  generalize lastI m t.client = li at *
  generalize lastM m t.client = ln at *
  generalize ApP m t b w = P at *
  obtain ⟨c, n, l⟩ := t
  dsimp only at *
  generalize (Value.slice a l.length cap) = sl at *
  go_enter Tryz.func7, Tryz.ntmps7
  go_wp2_with (first
    | (go_at_call 23; refine (HC _ hw1).mono ?_; rintro e w2 ⟨rfl, hw2⟩; have hB2 := hw1.trans (hw2.mono hw1.size); have hb2 := hb1.belowSize hw2; have c0 := (hb2.cell 0).trans (txc_g0 _ _ _); have c1 := (hb2.cell 1).trans (txc_g1 _ _ _))
    | (go_at_call 15; refine (HS _ hB2).mono ?_; rintro e w3 ⟨rfl, hw3⟩; have hB3 := hB2.trans (hw3.mono hB2.size); have hb3 := hb2.belowSize hw3; have c0 := (hb3.cell 0).trans (txc_g0 _ _ _); have c1 := (hb3.cell 1).trans (txc_g1 _ _ _))
    | (with_reducible refine at_list ?_; first
      | (refine wpList_boxRow (op := ⟨some 3, _, _, _, _, _⟩) rfl _ _ rfl _ rfl ?_; intro w1 hw1 hs1 hb1; replace hs1 := hs1.symm; have c0 := (hb1.cell 0).trans (txc_g0 _ _ _); have c1 := (hb1.cell 1).trans (txc_g1 _ _ _); have c2 := (hb1.cell 2).trans (txc_g2 _ _ _))
      | (refine wpList_loadRow (op := ⟨some 15, _, _, _, _, _⟩) rfl _ _ rfl w.heap.size rfl _ _ hb1 _ Tryz.underlying33 rfl (by rw [txc_size]; exact zTx.2) ?_)))
  exact hER HE.out (by decide) hS hB3 rfl
end Go.Proofs.YtdikilhobmkpkaaGreatDoor
