/- What the plain Sync does. -/
import Derived.Test.YtgkkpmliociieaaRsz
namespace Go.Proofs.Ytgkkpmliociieaa
open Go Go.RowKit
def syF (f : RF) : RF := ⟨f.name, f.s, false⟩
def syD (m : RD) : RD := { m with now := m.now.map syF, sure := m.now.map syF }
theorem builtR (n s : B) : Try.prog.built 49 [(0, .string ⟨n.toArray⟩), (1, .string ⟨s.toArray⟩)] = some #[.string ⟨n.toArray⟩, .string ⟨s.toArray⟩, .bool false] := by kernel_rfl
theorem rangeAt_drew {w : World} {g o : Nat} {l : List Value} (h : w.rangeAt g o l) : w.drew.rangeAt g o l := fun j v hv => h j v hv
theorem run_loadC {P : Program} {op : Oper} {a : Act} {w : World} (ty : TypeId) (x : Operand) (ho : op.op = .load ty x) (b o : Nat) (hx : a.eval x = .pointer (some ⟨b, o, none⟩)) (d : TypeDesc) (hu : P.underlying ty = some d) (hd : d.isRow = false) (v : Value) (hc : w.cell? ⟨b, o, none⟩ = some v) :
    (execOp a.eval op).run P w = .ok (.value v) w := by
  unfold execOp
  simp only [ho, hx]
  simp [Instr.loadAt, Instr.sureAddr, Sem.run_bind, loadVar, isAgg_run hu hd, hc, go_sem]
theorem SyS {w w' : World} {N g o : Nat} {c : Array Value} {l : List Value} {t : TypeId} (h : Blk w N c t ∧ w.rangeAt g o l) (hg : g < w.heap.size) (hb : Below w.heap.size w w') : Blk w' N c t ∧ w'.rangeAt g o l := ⟨h.1.belowSize hb, rangeAt_below h.2 hb hg⟩
theorem SyG {w w' : World} {N g o lo : Nat} {c : Array Value} {l : List Value} {t : TypeId} (h : Blk w N c t ∧ w.rangeAt g o l) (hb : Below lo w w') (hN : N < lo) (hg : g < lo) : Blk w' N c t ∧ w'.rangeAt g o l := ⟨h.1.below hb hN, rangeAt_below h.2 hb hg⟩
theorem iRsl : (Try.prog.info? 24).map (·.size) = some 1 := by kernel_rfl
theorem sy_take (l : List RF) (i : Nat) (f : RF) (h : l[i]? = some f) : (l.take (i + 1)).map syF = (l.take i).map syF ++ [syF f] := by
  obtain ⟨hi, rfl⟩ := List.getElem?_eq_some_iff.1 h
  rw [List.take_succ_eq_append_getElem hi, List.map_append]
  rfl
/-- What a function that makes a plain disk anew leaves. -/
def DskP (w : World) (m : RD) (c : Int) (e : Ending) (w' : World) : Prop := ∃ v x y, e = .returned (.tuple #[v, .int .i64 c]) ∧ RK w' v m x y ∧ Below w.heap.size w w'
set_option maxRecDepth 100000 in
set_option maxHeartbeats 4000000 in
theorem rsync_any (m : RD) (x y v : Value) (w : World) (h : RK w v m x y) (hl : m.now.length ≤ 1000000) :
    Calls Try.prog 12 #[v] w (DskP w (if m.off = true then m else syD m) (if m.off = true then 7 else 0)) := by
  have h1 := h.one
  have hx1 := h.now.cells.2
  have hy1 := h.sure.cells.2
  obtain ⟨rfl, hn, hs⟩ := h
  cases hoff : m.off with
  | true =>
    rw [if_pos rfl, if_pos rfl]
    have g5 := rdC_g5 m x y
    rw [hoff] at g5
    go_enter Try.func12, Try.ntmps12
    go_wp2_with (with_reducible refine at_list ?_; first
      | (refine wpList_boxRow (op := ⟨some 1, _, _, _, _, _⟩) rfl _ _ rfl _ rfl ?_; intro w1 hw1 hs1 h3; clear hs1)
      | (refine wpList_allocRow (op := ⟨some 2, _, _, _, _, _⟩) rfl _ rfl _ zRd.1 ?_; intro w2 hw2 hs2 h4; clear hs2; have hB2 := hw1.trans (hw2.mono hw1.size); replace h3 := h3.belowSize hw2)
      | (refine wpList_loadCell (op := ⟨some 7, _, _, _, _, _⟩) rfl _ _ rfl w.heap.size 5 rfl _ _ h3 _ Try.underlying4 rfl _ g5 ?_)
      | (refine wpList_loadRow (op := ⟨some 8, _, _, _, _, _⟩) rfl _ _ rfl w.heap.size rfl _ _ h3 _ Try.underlying27 rfl (iRd _ _ _) ?_)
      | (refine wpList_storeRow (op := ⟨none, .store 27 (.tmp 2) (.tmp 8), _, _, _, _⟩) rfl _ _ _ rfl w1.heap.size (rdC m x y) rfl rfl _ _ h4 rfl (iRd _ _ _) h1 ?_; intro w4 hg4 hs4 h6; clear hs4))
    have hB3 := hB2.trans (below_of_grown hg4 hw1.size hB2.size)
    refine bodyPost_ret (v := .tuple #[.agg (rdC m x y), .int .i64 7]) ?_ rfl ⟨_, x, y, rfl, ⟨rfl, hn.below hB3, hs.below hB3⟩, hB3⟩
    exact res_cv rfl _ _ w1.heap.size _ _ _ _ rfl rfl h6 Try.underlying27 rfl (iRd _ _ _)
  | false =>
    rw [if_neg (by simp), if_neg (by simp)]
    have g5 := rdC_g5 m x y
    rw [hoff] at g5
    obtain ⟨a, cap, rfl⟩ := hn.sl
    obtain ⟨PP, hPP⟩ : ∃ PP, Hid (PP = DskP w (syD m) 0) := ⟨_, rfl⟩
    rw [← hPP.out]
    go_enter Try.func12, Try.ntmps12
    go_wp2_with (with_reducible refine at_list ?_; first
      | (refine wpList_boxRow (op := ⟨some 1, _, _, _, _, _⟩) rfl _ _ rfl _ rfl ?_; intro w1 hw1 hs1 h3; clear hs1)
      | (refine wpList_allocRow (op := ⟨some 2, _, _, _, _, _⟩) rfl _ rfl _ zRd.1 ?_; intro w2 hw2 hs2 h4; clear hs2; have hB2 := hw1.trans (hw2.mono hw1.size); have hlt3 := h3.lt; replace h3 := h3.belowSize hw2)
      | (refine wpList_loadCell (op := ⟨some 7, _, _, _, _, _⟩) rfl _ _ rfl w.heap.size 5 rfl _ _ h3 _ Try.underlying4 rfl _ g5 ?_)
      | (refine wpList_rsl0 (op := ⟨some 9, _, _, _, _, _⟩) rfl rfl ?_; intro w3 hw3 hX3; have hlt4 := h4.lt; replace h3 := h3.belowSize hw3; replace h4 := h4.belowSize hw3))
    have hs12 := hw1.size
    have hs22 := hw2.size
    have hB3 := hB2.trans (hw3.mono hB2.size)
    obtain ⟨lo, hlo⟩ : ∃ lo, Hid (lo = w2.heap.size) := ⟨_, rfl⟩
    obtain ⟨N, hN⟩ : ∃ N, Hid (N = w.heap.size) := ⟨_, rfl⟩
    obtain ⟨M, hM⟩ : ∃ M, Hid (M = w1.heap.size) := ⟨_, rfl⟩
    have hNM : N < M := by rw [hN.out, hM.out]; exact hlt3
    have hMlo : M < lo := by rw [hM.out, hlo.out]; exact hlt4
    have hls : lo ≤ w3.heap.size := by rw [hlo.out]; exact hw3.size
    rw [← hlo.out] at hX3 ⊢
    rw [← hN.out] at h3 ⊢
    rw [← hM.out] at h4 ⊢
    have hnn := hn.below hB3
    have hss := hs.below hB3
    have hnlo : ∀ r, slBlk (.slice a m.now.length cap) = some r → r < N := fun r e => by rw [hN.out]; exact (GL.lt hn r e).2
    have hslo : ∀ r, slBlk y = some r → r < N := fun r e => by rw [hN.out]; exact (GL.lt hs r e).2
    have hNw : N ≤ w.heap.size := by rw [hN.out]; exact Nat.le_refl _
    clear hw1 hw2 hw3 hB2 hlt3 hlt4 hs12 hs22 hlo hM
    go_loopw [4, 5] (fun v4 v5 wl => ∃ i : Nat, i ≤ m.now.length ∧ v5 = .int .i64 i ∧ RL wl lo v4 ((m.now.take i).map syF) ∧ Below lo w3 wl) (fun _ v5 _ => m.now.length - (intOf v5).toNat)
    case atStart => exact ⟨0, by omega, rfl, hX3, Below.refl _ _⟩
    case round =>
      obtain ⟨i, hil, rfl, hX, hB⟩ := hrel
      have hsz := hB.size
      have h3d := h3.below hB (by omega)
      by_cases hlt : i < m.now.length
      · have hz2 : (i : Int) < (m.now.length : Int) := by omega
        obtain ⟨f, hf⟩ : ∃ f, m.now[i]? = some f := ⟨_, List.getElem?_eq_getElem hlt⟩
        obtain ⟨g, rfl, hg, hgl, _⟩ := hnn.at i f hf
        have hgN : g < lo := Nat.lt_trans (Nat.lt_trans (hnlo g rfl) hNM) hMlo
        have hg2 := rangeAt_below hg hB hgN
        have e3 : Hid _ := sy_take m.now i f hf
        have e4 : ((m.now.take i).map syF).length ≤ 1000000 := by rw [List.length_map, List.length_take]; omega
        have hNlo : N < lo := Nat.lt_trans hNM hMlo
        have c0 : wr.cell? ⟨N, 0, none⟩ = some (.slice (some ⟨g, 0, none⟩) m.now.length cap) := (h3d.cell 0).trans (rdC_g0 _ _ _)
        have hls2 : lo ≤ wr.heap.size := by omega
        clear hf hg
        generalize (m.now.take i).map syF = u at *
        go_wp2_with fail
        have hB0 := hB.drew
        have hX0 := hX.drew
        refine wp_region_held_drew (S := fun w' : World => Blk w' N (rdC m (.slice (some ⟨g, 0, none⟩) m.now.length cap) y) 27 ∧ w'.rangeAt g (i * 3) (rC f).toList) (by kernel_rfl) ⟨h3d.drew, rangeAt_drew hg2⟩ (fun hH => ?_)
        try go_frame
        refine wpAnyH_take (i := 0) (oi := ⟨some 17, _, _, _, _, _⟩) (v := u4) rfl (by kernel_rfl) (by kernel_rfl) (by kernel_rfl) (fun _ _ _ h => h) (Or.inl ⟨by rfl, fun w hSw => by go_simp⟩) hH ?_
        try simp only [Act.put, List.setIfInBounds_toArray, List.set_cons_zero, List.set_cons_succ]
        refine wpAnyH_take (i := 1) (oi := ⟨some 18, _, _, _, _, _⟩) (v := .pointer (some ⟨N, 0, none⟩)) rfl (by kernel_rfl) (by kernel_rfl) (by kernel_rfl) (fun _ _ _ h => h) (Or.inl ⟨by rfl, fun w hSw => by go_simp⟩) hH ?_
        try simp only [Act.put, List.setIfInBounds_toArray, List.set_cons_zero, List.set_cons_succ]
        refine wpAnyH_take (i := 2) (oi := ⟨some 19, _, _, _, _, _⟩) (v := (.slice (some ⟨g, 0, none⟩) m.now.length cap)) rfl (by kernel_rfl) (by kernel_rfl) (by kernel_rfl) (fun _ _ _ h => h) (Or.inl ⟨by rfl, fun w hSw => run_loadCellB _ _ rfl _ 0 rfl _ _ hSw.1 _ Try.underlying24 rfl _ (rdC_g0 _ _ _)⟩) hH ?_
        try simp only [Act.put, List.setIfInBounds_toArray, List.set_cons_zero, List.set_cons_succ]
        refine wpAnyH_take (i := 3) (oi := ⟨some 20, _, _, _, _, _⟩) (v := .int .i64 i) rfl (by kernel_rfl) (by kernel_rfl) (by kernel_rfl) (fun _ _ _ h => h) (Or.inl ⟨by rfl, fun w hSw => by go_simp⟩) hH ?_
        try simp only [Act.put, List.setIfInBounds_toArray, List.set_cons_zero, List.set_cons_succ]
        refine wpAnyH_take (i := 4) (oi := ⟨some 21, _, _, _, _, _⟩) (v := .pointer (some ⟨g, i * 3, none⟩)) rfl (by kernel_rfl) (by kernel_rfl) (by kernel_rfl) (fun _ _ _ h => h) (Or.inl ⟨by rfl, fun w hSw => by go_simp⟩) hH ?_
        try simp only [Act.put, List.setIfInBounds_toArray, List.set_cons_zero, List.set_cons_succ]
        refine wpAnyH_take (i := 5) (oi := ⟨some 22, _, _, _, _, _⟩) (v := .pointer (some ⟨g, i * 3, none⟩)) rfl (by kernel_rfl) (by kernel_rfl) (by kernel_rfl) (fun _ _ _ h => h) (Or.inl ⟨by rfl, fun w hSw => by go_simp⟩) hH ?_
        try simp only [Act.put, List.setIfInBounds_toArray, List.set_cons_zero, List.set_cons_succ]
        refine wpAnyH_take (i := 6) (oi := ⟨some 23, _, _, _, _, _⟩) (v := .string ⟨f.name.toArray⟩) rfl (by kernel_rfl) (by kernel_rfl) (by kernel_rfl) (fun _ _ _ h => h) (Or.inl ⟨by rfl, fun w hSw => run_loadC _ _ rfl _ _ rfl _ Try.underlying9 rfl _ (rL_nm hSw.2)⟩) hH ?_
        try simp only [Act.put, List.setIfInBounds_toArray, List.set_cons_zero, List.set_cons_succ]
        refine wpAnyH_take (i := 7) (oi := ⟨some 24, _, _, _, _, _⟩) (v := .pointer (some ⟨N, 0, none⟩)) rfl (by kernel_rfl) (by kernel_rfl) (by kernel_rfl) (fun _ _ _ h => h) (Or.inl ⟨by rfl, fun w hSw => by go_simp⟩) hH ?_
        try simp only [Act.put, List.setIfInBounds_toArray, List.set_cons_zero, List.set_cons_succ]
        refine wpAnyH_take (i := 8) (oi := ⟨some 25, _, _, _, _, _⟩) (v := (.slice (some ⟨g, 0, none⟩) m.now.length cap)) rfl (by kernel_rfl) (by kernel_rfl) (by kernel_rfl) (fun _ _ _ h => h) (Or.inl ⟨by rfl, fun w hSw => run_loadCellB _ _ rfl _ 0 rfl _ _ hSw.1 _ Try.underlying24 rfl _ (rdC_g0 _ _ _)⟩) hH ?_
        try simp only [Act.put, List.setIfInBounds_toArray, List.set_cons_zero, List.set_cons_succ]
        refine wpAnyH_take (i := 9) (oi := ⟨some 26, _, _, _, _, _⟩) (v := .int .i64 i) rfl (by kernel_rfl) (by kernel_rfl) (by kernel_rfl) (fun _ _ _ h => h) (Or.inl ⟨by rfl, fun w hSw => by go_simp⟩) hH ?_
        try simp only [Act.put, List.setIfInBounds_toArray, List.set_cons_zero, List.set_cons_succ]
        refine wpAnyH_take (i := 10) (oi := ⟨some 27, _, _, _, _, _⟩) (v := .pointer (some ⟨g, i * 3, none⟩)) rfl (by kernel_rfl) (by kernel_rfl) (by kernel_rfl) (fun _ _ _ h => h) (Or.inl ⟨by rfl, fun w hSw => by go_simp⟩) hH ?_
        try simp only [Act.put, List.setIfInBounds_toArray, List.set_cons_zero, List.set_cons_succ]
        refine wpAnyH_take (i := 11) (oi := ⟨some 28, _, _, _, _, _⟩) (v := .pointer (some ⟨g, i * 3 + 1, none⟩)) rfl (by kernel_rfl) (by kernel_rfl) (by kernel_rfl) (fun _ _ _ h => h) (Or.inl ⟨by rfl, fun w hSw => by go_simp⟩) hH ?_
        try simp only [Act.put, List.setIfInBounds_toArray, List.set_cons_zero, List.set_cons_succ]
        refine wpAnyH_take (i := 12) (oi := ⟨some 29, _, _, _, _, _⟩) (v := .string ⟨f.s.toArray⟩) rfl (by kernel_rfl) (by kernel_rfl) (by kernel_rfl) (fun _ _ _ h => h) (Or.inl ⟨by rfl, fun w hSw => run_loadC _ _ rfl _ _ rfl _ Try.underlying9 rfl _ (rL_s hSw.2)⟩) hH ?_
        try simp only [Act.put, List.setIfInBounds_toArray, List.set_cons_zero, List.set_cons_succ]
        refine wpAnyH_take (i := 13) (oi := ⟨some 30, _, _, _, _, _⟩) (v := .agg (rC (syF f))) rfl (by kernel_rfl) (by kernel_rfl) (by kernel_rfl) (fun _ _ _ h => h) (Or.inl ⟨by rfl, fun w hSw => run_built2 _ _ _ _ _ rfl _ _ rfl rfl _ (builtR _ _)⟩) hH ?_
        try simp only [Act.put, List.setIfInBounds_toArray, List.set_cons_zero, List.set_cons_succ]
        refine wpAnyH_solo (i := 14) (o := ⟨some 31, _, _, _, _, _⟩) rfl (by kernel_rfl) (fun K hK => ?_)
        refine wpList_rsl1 rfl _ rfl (syF f) rfl ?_
        intro w4 hw4 h6
        have hB4 := hB0.trans (hw4.mono (Nat.le_trans hls hB0.size))
        have hX4 := hX0.below hw4
        have hH4 := SyS hH (Nat.lt_of_lt_of_le hgN hls2) hw4
        refine hK _ _ hH4 ?_
        clear hK K
        try simp only [Act.put, List.setIfInBounds_toArray, List.set_cons_zero, List.set_cons_succ]
        refine wpAnyH_solo (i := 15) (o := ⟨some 32, _, _, _, _, _⟩) rfl (by kernel_rfl) (fun K hK => ?_)
        refine wpList_appR rfl _ _ rfl lo u4 u (Nat.le_trans hls hB4.size) rfl hX4 _ rfl (syF f) h6 e4 ?_
        intro w5 sl5 hg5 hX5
        have hB5 := hB4.trans (hX4.grow hg5 (Nat.le_trans hls hB4.size))
        have hH5 := SyG hH4 (hX4.grow hg5 (Nat.le_trans hls hB4.size)) hNlo hgN
        refine hK _ _ hH5 ?_
        clear hK K
        try simp only [Act.put, List.setIfInBounds_toArray, List.set_cons_zero, List.set_cons_succ]
        refine wpAnyH_solo (i := 16) (o := ⟨some 4, _, _, _, _, _⟩) rfl (by kernel_rfl) (fun K hK => ?_)
        refine wpList_pure rfl sl5 (run_assignV _ rfl _ rfl) ?_
        refine hK _ _ hH5 ?_
        clear hK K
        try simp only [Act.put, List.setIfInBounds_toArray, List.set_cons_zero, List.set_cons_succ]
        refine wpAnyH_done (by kernel_rfl) ?_ _
        go_simp
        go_wp2_with fail
        go_roundw
        case rel => exact ⟨i + 1, by omega, by go_num, by rw [e3.out]; exact hX5, hB5⟩
        case measure => simp [intOf]; omega
      · have hz2 : ¬ (i : Int) < (m.now.length : Int) := by omega
        have e1 : (m.now.take i).map syF = m.now.map syF := by rw [List.take_of_length_le (by omega)]
        rw [e1] at hX
        have h4d := h4.below hB (by omega)
        have hx4 := hX.cells.2
        have hx4c : Hid (u4.cells = #[u4]) := hX.cells.1
        have c0 : wr.cell? ⟨N, 0, none⟩ = some (.slice a m.now.length cap) := (h3d.cell 0).trans (rdC_g0 _ _ _)
        have h1b : (rdC (syD m) u4 u4).all (·.oneCell') = true := rdC_one _ _ _ hx4 hx4
        go_wp2_with (with_reducible refine at_list ?_; first
          | (refine wpList_storeCell (op := ⟨none, .store 24 (.tmp 35) (.tmp 33), _, _, _, _⟩) rfl _ _ _ rfl N 0 rfl u4 rfl _ _ h3d iRsl hx4c.out hx4 (by rw [rdC_size]; decide) ?_; intro w5 hg5 hs5 h5; clear hs5; rw [rdC_s0 _ _ _ _ (m.now.map syF)] at h5; replace h4d := h4d.grown hg5 (fun e => by have := Option.some.inj e; omega); replace hX := hX.other hg5 h3d (.inr (by omega)))
          | (refine wpList_storeCell (op := ⟨none, .store 24 (.tmp 36) (.tmp 34), _, _, _, _⟩) rfl _ _ _ rfl N 1 rfl u4 rfl _ _ h5 iRsl hx4c.out hx4 (by rw [rdC_size]; decide) ?_; intro w6 hg6 hs6 h6; clear hs6; rw [rdC_s1 _ _ _ _ (m.now.map syF)] at h6; replace h4d := h4d.grown hg6 (fun e => by have := Option.some.inj e; omega); replace hX := hX.other hg6 h5 (.inr (by omega)))
          | (refine wpList_loadRow (op := ⟨some 37, _, _, _, _, _⟩) rfl _ _ rfl N rfl _ _ h6 _ Try.underlying27 rfl (iRd _ _ _) ?_)
          | (refine wpList_storeRow (op := ⟨none, .store 27 (.tmp 2) (.tmp 37), _, _, _, _⟩) rfl _ _ _ rfl M (rdC (syD m) u4 u4) rfl rfl _ _ h4d rfl (iRd _ _ _) h1b ?_; intro w7 hg7 hs7 h7; clear hs7; replace hX := hX.other hg7 h4d (.inr (by omega))))
        have hBf : Below w.heap.size w w7 := by
          have k1 := hB3.trans (hB.mono (by rw [← hN.out]; omega))
          have k2 := k1.trans (below_of_grown hg5 (by rw [hN.out]; exact Nat.le_refl _) k1.size)
          have k3 := k2.trans (below_of_grown hg6 (by rw [hN.out]; exact Nat.le_refl _) k2.size)
          exact k3.trans (below_of_grown hg7 (by rw [← hN.out]; omega) k3.size)
        have hfin : PP (.returned (.tuple #[.agg (rdC (syD m) u4 u4), .int .i64 0])) w7 := by
          rw [hPP.out]
          exact ⟨_, u4, u4, rfl, ⟨rfl, hX.lo (Nat.zero_le _), hX.lo (Nat.zero_le _)⟩, hBf⟩
        refine bodyPost_ret (v := .tuple #[.agg (rdC (syD m) u4 u4), .int .i64 0]) ?_ rfl hfin
        exact res_cv rfl _ _ M _ _ _ _ rfl rfl h7 Try.underlying27 rfl (iRd _ _ _)
end Go.Proofs.Ytgkkpmliociieaa
