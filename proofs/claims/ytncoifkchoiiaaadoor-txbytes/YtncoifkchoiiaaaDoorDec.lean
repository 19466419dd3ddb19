/- What Decode does. -/
import Derived.Test.YtncoifkchoiiaaaDoorTk
namespace Go.Proofs.YtncoifkchoiiaaaDoor
open Go Go.RowKit
theorem OL.lower {w : World} {t : TypeId} {lo lo' : Nat} {sl : Value} {l : List O} (h : OL w t lo sl l) (hl : lo' ≤ lo) : OL w t lo' sl l := by
  rcases h with h | ⟨g, cap, h1, h2, h3⟩
  · exact .inl h
  · exact .inr ⟨g, cap, Nat.le_trans hl h1, h2, h3⟩
theorem res_ct {fn : Func} {p u : Tmp} {t : TypeId} (h : fn.results = #[.cell p t, .tmp u]) (tmps : Array Value) (w : World) (b : Nat) (c : Array Value) (v : Value) (ty : TypeId) (d : TypeDesc)
    (hp : tmps.getD p undef = .pointer (some ⟨b, 0, none⟩)) (hv : tmps.getD u undef = v) (hb : Blk w b c ty) (hu : Tryd.prog.underlying t = some d) (hd : d.isRow = true) (hi : (Tryd.prog.info? t).map (·.size) = some c.size) :
    (results fn tmps).run Tryd.prog w = .ok (.tuple #[.agg c, v]) w := by
  rw [results_cell_tmp h, hp, hv]
  simp [asAddr, hb.loadVar d hu hd hi]
/-- What Decode leaves. -/
def DecP (w : World) (rF : R) (rT : TX) (e : Ending) (w' : World) : Prop := ∃ sl, e = .returned (.tuple #[.agg (takeV rF rT sl), .int .i64 rF.err]) ∧ Below w.heap.size w w' ∧ OL w' 52 w.heap.size sl rT.ops
theorem R.fin_err {r : R} (h : r.fin.err = 0) : r.err = 0 := by
  unfold R.fin at h
  by_cases hh : r.err = 0 ∧ r.pos < r.s.length
  · exact hh.1
  · rw [if_neg hh] at h; exact h
set_option maxRecDepth 100000 in
set_option maxHeartbeats 400000 in
theorem decode_any (s : List UInt8) (w : World) (hl : s.length ≤ 140737488355328) : Calls Tryd.prog 10 #[.string ⟨s.toArray⟩] w (DecP w (rdE ⟨s, 0, 0⟩).fin (rdT ⟨s, 0, 0⟩)) := by
  have hk0 : (⟨s, 0, 0⟩ : R).ok := Nat.zero_le _
  have HN := fun w => newr_any s w
  have HT := fun b w (h : RD w b ⟨s, 0, 0⟩) => take_any b ⟨s, 0, 0⟩ w h hk0 hl
  have hEs := rdE_s ⟨s, 0, 0⟩
  have hEk := rdE_ok hk0
  have HE := fun b w (h : RD w b (rdE ⟨s, 0, 0⟩)) => end_any b (rdE ⟨s, 0, 0⟩) w h hEk (by rw [hEs]; exact hl)
  generalize rdT ⟨s, 0, 0⟩ = rT at *
  have hF := @R.fin_err (rdE ⟨s, 0, 0⟩)
  generalize rdE ⟨s, 0, 0⟩ = rE at *
  generalize rE.fin = rF at *
  clear hEs hEk hk0
  by_cases hz0 : rF.err = 0
  · have hE0 : Hid (∀ sl, takeV rE rT sl = txc rT.client rT.nonce sl) := fun sl => if_pos (hF hz0)
    have hF0 : Hid (∀ sl, takeV rF rT sl = txc rT.client rT.nonce sl) := fun sl => if_pos hz0
    have hz : Hid (rF.err = 0) := hz0
    rw [hz0] at HE
    clear hz0 hF
    go_enter Tryd.func10, Tryd.ntmps10
    go_wp2_with (first
      | (go_at_call 13; refine (HN _).mono ?_; rintro e w2 ⟨rfl, hw2, hR2⟩; replace hz1 := hz1.belowSize hw2; have hl2 := hR2.lt; replace HB := HB.trans (hw2.mono HB.size))
      | (go_at_call 14; refine (HT _ _ hR2).mono ?_; rintro e w3 ⟨sl, rfl, hT3, hO3⟩; rw [hE0.out sl]; replace hz1 := hz1.to hT3 (by omega); obtain ⟨a, cap, rfl, hSL⟩ := hO3.sl; replace HB := HB.trans (below_of_grown hT3.grown hw1.size HB.size))
      | (go_at_call 26; refine (HE _ _ (hR5)).mono ?_; rintro e w6 ⟨rfl, hT6⟩; have hz6 := hz5.to hT6 (by omega); replace hz1 := hz1.to hT6 (by omega); have hO6 := hO5.grown hT6.grown hR5.blk (by decide); replace HB := HB.trans (below_of_grown hT6.grown hw1.size HB.size))
      | (with_reducible refine at_list ?_; first
        | (refine wpList_allocRow (op := ⟨some 2, _, _, _, _, _⟩) rfl _ rfl _ zTx.1 ?_; intro w1 hw1 hs1 hz1; replace hs1 := hs1.symm; have HB := hw1)
        | (refine wpList_allocRow (op := ⟨some 5, _, _, _, _, _⟩) rfl _ rfl _ zTx.1 ?_; intro w4 hw4 hs4 hz4; replace hs4 := hs4.symm; replace hz1 := hz1.belowSize hw4; have hO4 := hO3.below hw4; have hl3 := hT3.grown.size; have hHB := HB.size; replace HB := HB.trans (hw4.mono HB.size))
        | (refine wpList_storeRow (op := ⟨none, .store 25 (.tmp 5) (.tmp 10), _, _, _, _⟩) rfl _ _ _ rfl w3.heap.size (txc rT.client rT.nonce (.slice a rT.ops.length cap)) rfl rfl _ _ hz4 (by simp only [txc_size]) (by rw [txc_size]; exact zTx.2) (txc_one _ _ _ _ _) ?_; intro w5 hg5 hs5 hz5; replace hz1 := hz1.grown hg5 (by simp; omega); have hR5 := (hT3.rd.below hw4).grown hg5 (by omega); have hO5 := hO4.grown hg5 hz4 (by decide); replace HB := HB.trans (below_of_grown hg5 hHB HB.size))
        | (refine wpList_loadRow (op := ⟨some 17, _, _, _, _, _⟩) rfl _ _ rfl w3.heap.size rfl _ _ hz6 _ Tryd.underlying25 rfl (by rw [txc_size]; exact zTx.2) ?_)
        | (refine wpList_storeRow (op := ⟨none, .store 25 (.tmp 2) (.tmp 17), _, _, _, _⟩) rfl _ _ _ rfl w.heap.size (txc rT.client rT.nonce (.slice a rT.ops.length cap)) rfl rfl _ _ hz1 (by simp only [txc_size]) (by rw [txc_size]; exact zTx.2) (txc_one _ _ _ _ _) ?_; intro w7 hg7 hs7 hz7; replace HB := HB.trans (below_of_grown hg7 (Nat.le_refl _) HB.size); have hO7 := hO6.grown hg7 hz1 (by decide))))
    refine bodyPost_ret (v := .tuple #[.agg (txc rT.client rT.nonce (.slice a rT.ops.length cap)), .int .i64 0]) ?_ rfl ⟨.slice a rT.ops.length cap, by rw [hF0.out, hz.out], HB, hO7.lower (Nat.le_trans hw1.size hw2.size)⟩
    exact res_ct rfl _ _ w.heap.size _ _ _ _ rfl rfl hz7 Tryd.underlying25 rfl (by exact zTx.2)
  · have hF0 : Hid (∀ sl, takeV rF rT sl = txc 0 0 (.slice none 0 0)) := fun sl => if_neg hz0
    have hne : (rF.err != 0) = true := by simpa using hz0
    clear hF hz0
    by_cases hE1 : rE.err = 0
    · have hE0 : Hid (∀ sl, takeV rE rT sl = txc rT.client rT.nonce sl) := fun sl => if_pos hE1
      clear hE1
      go_enter Tryd.func10, Tryd.ntmps10
      go_wp2_with (first
        | (go_at_call 13; refine (HN _).mono ?_; rintro e w2 ⟨rfl, hw2, hR2⟩; replace hz1 := hz1.belowSize hw2; have hl2 := hR2.lt; replace HB := HB.trans (hw2.mono HB.size))
        | (go_at_call 14; refine (HT _ _ hR2).mono ?_; rintro e w3 ⟨sl, rfl, hT3, hO3⟩; rw [hE0.out sl]; replace hz1 := hz1.to hT3 (by omega); obtain ⟨a, cap, rfl, hSL⟩ := hO3.sl; replace HB := HB.trans (below_of_grown hT3.grown hw1.size HB.size))
        | (go_at_call 26; refine (HE _ _ (hR5)).mono ?_; rintro e w6 ⟨rfl, hT6⟩; have hz6 := hz5.to hT6 (by omega); replace hz1 := hz1.to hT6 (by omega); have hO6 := hO5.grown hT6.grown hR5.blk (by decide); replace HB := HB.trans (below_of_grown hT6.grown hw1.size HB.size))
        | (with_reducible refine at_list ?_; first
          | (refine wpList_allocRow (op := ⟨some 2, _, _, _, _, _⟩) rfl _ rfl _ zTx.1 ?_; intro w1 hw1 hs1 hz1; replace hs1 := hs1.symm; have HB := hw1)
          | (refine wpList_allocRow (op := ⟨some 5, _, _, _, _, _⟩) rfl _ rfl _ zTx.1 ?_; intro w4 hw4 hs4 hz4; replace hs4 := hs4.symm; replace hz1 := hz1.belowSize hw4; have hO4 := hO3.below hw4; have hl3 := hT3.grown.size; have hHB := HB.size; replace HB := HB.trans (hw4.mono HB.size))
          | (refine wpList_storeRow (op := ⟨none, .store 25 (.tmp 5) (.tmp 10), _, _, _, _⟩) rfl _ _ _ rfl w3.heap.size (txc rT.client rT.nonce (.slice a rT.ops.length cap)) rfl rfl _ _ hz4 (by simp only [txc_size]) (by rw [txc_size]; exact zTx.2) (txc_one _ _ _ _ _) ?_; intro w5 hg5 hs5 hz5; replace hz1 := hz1.grown hg5 (by simp; omega); have hR5 := (hT3.rd.below hw4).grown hg5 (by omega); have hO5 := hO4.grown hg5 hz4 (by decide); replace HB := HB.trans (below_of_grown hg5 hHB HB.size))
          | (refine wpList_storeRow (op := ⟨none, .store 25 (.tmp 2) (.tmp 15), _, _, _, _⟩) rfl _ _ _ rfl w.heap.size #[.int .u64 0, .int .u64 0, .slice none 0 0] rfl rfl _ _ hz1 (by simp [txc]) (by simpa using zTx.2) (by simp [Value.oneCell']) ?_; intro w7 hg7 hs7 hz7; replace HB := HB.trans (below_of_grown hg7 (Nat.le_refl _) HB.size); have hO7 := hO6.grown hg7 hz1 (by decide))))
      refine bodyPost_ret (v := .tuple #[.agg (txc 0 0 (.slice none 0 0)), .int .i64 rF.err]) ?_ rfl ⟨.slice a rT.ops.length cap, by rw [hF0.out], HB, hO7.lower (Nat.le_trans hw1.size hw2.size)⟩
      exact res_ct rfl _ _ w.heap.size _ _ _ _ rfl rfl hz7 Tryd.underlying25 rfl (by exact zTx.2)
    · have hE0 : Hid (∀ sl, takeV rE rT sl = txc 0 0 (.slice none 0 0)) := fun sl => if_neg hE1
      clear hE1
      go_enter Tryd.func10, Tryd.ntmps10
      go_wp2_with (first
        | (go_at_call 13; refine (HN _).mono ?_; rintro e w2 ⟨rfl, hw2, hR2⟩; replace hz1 := hz1.belowSize hw2; have hl2 := hR2.lt; replace HB := HB.trans (hw2.mono HB.size))
        | (go_at_call 14; refine (HT _ _ hR2).mono ?_; rintro e w3 ⟨sl, rfl, hT3, hO3⟩; rw [hE0.out sl]; replace hz1 := hz1.to hT3 (by omega); obtain ⟨a, cap, rfl, hSL⟩ := hO3.sl; replace HB := HB.trans (below_of_grown hT3.grown hw1.size HB.size))
        | (go_at_call 26; refine (HE _ _ (hR5)).mono ?_; rintro e w6 ⟨rfl, hT6⟩; have hz6 := hz5.to hT6 (by omega); replace hz1 := hz1.to hT6 (by omega); have hO6 := hO5.grown hT6.grown hR5.blk (by decide); replace HB := HB.trans (below_of_grown hT6.grown hw1.size HB.size))
        | (with_reducible refine at_list ?_; first
          | (refine wpList_allocRow (op := ⟨some 2, _, _, _, _, _⟩) rfl _ rfl _ zTx.1 ?_; intro w1 hw1 hs1 hz1; replace hs1 := hs1.symm; have HB := hw1)
          | (refine wpList_allocRow (op := ⟨some 5, _, _, _, _, _⟩) rfl _ rfl _ zTx.1 ?_; intro w4 hw4 hs4 hz4; replace hs4 := hs4.symm; replace hz1 := hz1.belowSize hw4; have hO4 := hO3.below hw4; have hl3 := hT3.grown.size; have hHB := HB.size; replace HB := HB.trans (hw4.mono HB.size))
          | (refine wpList_storeRow (op := ⟨none, .store 25 (.tmp 5) (.tmp 10), _, _, _, _⟩) rfl _ _ _ rfl w3.heap.size (txc 0 0 (.slice none 0 0)) rfl rfl _ _ hz4 (by simp only [txc_size]) (by rw [txc_size]; exact zTx.2) (txc_one _ _ _ _ _) ?_; intro w5 hg5 hs5 hz5; replace hz1 := hz1.grown hg5 (by simp; omega); have hR5 := (hT3.rd.below hw4).grown hg5 (by omega); have hO5 := hO4.grown hg5 hz4 (by decide); replace HB := HB.trans (below_of_grown hg5 hHB HB.size))
          | (refine wpList_storeRow (op := ⟨none, .store 25 (.tmp 2) (.tmp 15), _, _, _, _⟩) rfl _ _ _ rfl w.heap.size #[.int .u64 0, .int .u64 0, .slice none 0 0] rfl rfl _ _ hz1 (by simp [txc]) (by simpa using zTx.2) (by simp [Value.oneCell']) ?_; intro w7 hg7 hs7 hz7; replace HB := HB.trans (below_of_grown hg7 (Nat.le_refl _) HB.size); have hO7 := hO6.grown hg7 hz1 (by decide))))
      refine bodyPost_ret (v := .tuple #[.agg (txc 0 0 (.slice none 0 0)), .int .i64 rF.err]) ?_ rfl ⟨.slice a rT.ops.length cap, by rw [hF0.out], HB, hO7.lower (Nat.le_trans hw1.size hw2.size)⟩
      exact res_ct rfl _ _ w.heap.size _ _ _ _ rfl rfl hz7 Tryd.underlying25 rfl (by exact zTx.2)
end Go.Proofs.YtncoifkchoiiaaaDoor
