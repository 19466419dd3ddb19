/- What the plain Change does. -/
import Derived.Test.YtgkkpmliociieaaRwh
namespace Go.Proofs.Ytgkkpmliociieaa
open Go Go.RowKit
/-- The files behind a change that may be. -/
def chgL (l : List RF) (f : RF) (c : RC) : List RF :=
  if c.kind = 0 then wiR ⟨c.name, f.s ++ c.s, true⟩ l else if c.kind = 1 then wiR ⟨c.name, c.s, true⟩ l else if c.kind = 2 then wiR ⟨c.to, f.s, false⟩ (woR c.name l) else if c.kind = 3 then woR c.name l else wiR ⟨c.name, f.s.take c.n.toNat, false⟩ l
def chgR (m : RD) (c : RC) : RD := if whyR m c = 0 then { m with ch := m.ch + 1, now := chgL m.now ((findR m.now c.name).getD rf0) c } else m
theorem built3R (n s : B) (b : Bool) : Try.prog.built 49 [(0, .string ⟨n.toArray⟩), (1, .string ⟨s.toArray⟩), (2, .bool b)] = some (rC ⟨n, s, b⟩) := by kernel_rfl
theorem run_built3 {P : Program} {op : Oper} {a : Act} {w : World} (t : TypeId) (k l j : Nat) (x y z : Operand) (ho : op.op = .build t #[(k, x), (l, y), (j, z)]) (v u r : Value) (hx : a.eval x = v) (hy : a.eval y = u) (hz : a.eval z = r) (c : Array Value) (h : P.built t [(k, v), (l, u), (j, r)] = some c) :
    (execOp a.eval op).run P w = .ok (.value (.agg c)) w := by
  subst hx hy hz
  have e : (#[(k, x), (l, y), (j, z)] : Array (Nat × Operand)).map (fun (i, x) => (i, a.eval x)) = #[(k, a.eval x), (l, a.eval y), (j, a.eval z)] := by simp
  unfold execOp
  simp only [ho, Sem.run_bind, e, run_build w t _ c h, Result.andThen_ok]
  rfl
theorem keepX {w w' : World} {sl : Value} {l : List RF} {i : Nat} {c : Array Value} (h : RL w 0 sl l) (hg : w.grownBy w' (some i)) (hb : Blk w i c 27) : RL w' 0 sl l := h.other hg hb (.inl (by decide))
theorem S2b {w w' : World} {i j : Nat} {c d : Array Value} {t u : TypeId} (h : Blk w i c t ∧ Blk w j d u) (hb : Below w.heap.size w w') : Blk w' i c t ∧ Blk w' j d u := ⟨h.1.belowSize hb, h.2.belowSize hb⟩
theorem S2g {w w' : World} {i j k : Nat} {c d : Array Value} {t u : TypeId} (h : Blk w i c t ∧ Blk w j d u) (hg : w.grownBy w' (some k)) (h1 : i ≠ k) (h2 : j ≠ k) : Blk w' i c t ∧ Blk w' j d u := ⟨h.1.grown hg (fun e => h1 (Option.some.inj e)), h.2.grown hg (fun e => h2 (Option.some.inj e))⟩
section
attribute [local go_sem] extract_take
theorem why_len (m : RD) (c : RC) (h : whyR m c = 0) (hk : c.kind = 4) : 0 ≤ c.n ∧ c.n ≤ (((findR m.now c.name).getD rf0).s.length : Int) := by
  unfold whyR whyB at h
  rw [hk] at h
  split at h
  · cases h
  · split at h
    · cases h
    · split at h
      · cases h
      · split at h
        · cases h
        · split at h
          · cases h
          · rename_i q
            omega
set_option maxRecDepth 100000 in
set_option maxHeartbeats 4000000 in
theorem rchange_any (m : RD) (c : RC) (x y v : Value) (w : World) (h : RK w v m x y) (hl : m.now.length ≤ 99999) (hu : usedR m.now ≤ 1000000000000) (h1 : c.name.length ≤ 9223372036854775807) (h2 : c.to.length ≤ 9223372036854775807) (h3 : c.s.length ≤ 1000000000000) (h4 : ((findR m.now c.name).getD rf0).s.length ≤ 1000000000000) (hr : m.room ≤ 9223372036854775807) (hch : m.ch ≤ 1000000) (hkk : c.kind = 0 ∨ c.kind = 1 ∨ c.kind = 2 ∨ c.kind = 3 ∨ c.kind = 4) :
    Calls Try.prog 33 #[v, .agg (chC c)] w (DskP w (chgR m c) (whyR m c)) := by
  have HW := fun w1 (hB : Below w.heap.size w w1) => why_any m c x y v w1 (h.below hB) (by omega) hu h1 h2 h3 h4 hr hkk
  have HF := fun w1 (hB : Below w.heap.size w w1) => find_any m.now c.name x 0 w1 (h.now.below hB) (by omega)
  have HK := fun w1 (hB : Below w.heap.size w w1) => strike_any m x y v w1 (h.below hB) (by omega)
  have hbig : ¬ 9223372036854775807 < ((findR m.now c.name).getD rf0).s.length + c.s.length := by omega
  have h1 := h.one
  have hx1 := h.now.cells.2
  have hy1 := h.sure.cells.2
  obtain ⟨rfl, hn, hs⟩ := h
  unfold chgR
  by_cases hy : whyR m c = 0
  · have hnn : whyB = whyB := rfl
    have hz4 : c.kind = 4 → 0 ≤ c.n ∧ c.n ≤ (((findR m.now c.name).getD rf0).s.length : Int) := fun e => why_len m c hy e
    rw [hy] at HW ⊢
    rw [if_pos rfl]
    generalize (findR m.now c.name).getD rf0 = f0 at *
    generalize (findR m.now c.name).isSome = b0 at *
    have h1b : (rdC { m with ch := m.ch + 1 } x y).all (·.oneCell') = true := rdC_one _ _ _ hx1 hy1
    obtain ⟨k, nm, to, s, n⟩ := c
    dsimp only at HW HF hkk hz4 hbig h3 ⊢
    clear hy hnn hu hr hch h2
    rcases hkk with hk | hk | hk | hk | hk
    · subst hk
      clear hz4
      have HX := fun w1 (hB : Below w.heap.size w w1) => with_any m.now ⟨nm, f0.s ++ s, true⟩ x 0 w1 (hn.below hB) (by omega)
      obtain ⟨L, hL⟩ : ∃ L, Hid (L = wiR ⟨nm, f0.s ++ s, true⟩ m.now) := ⟨_, rfl⟩
      rw [← hL.out] at HX
      rw [show chgL m.now f0 ⟨0, nm, to, s, n⟩ = L by rw [hL.out]; rfl]
      go_enter Try.func33, Try.ntmps33
      go_wp2_with (first | (go_at_call 53; refine (HW _ hB3).mono ?_; rintro e w4 ⟨rfl, hw4⟩; clear HW; have hB4 := hB3.trans (hw4.mono hB3.size); have l4 := h4.lt; replace h2 := h2.belowSize hw4; replace h3 := h3.belowSize hw4; replace h4 := h4.belowSize hw4; have c20 := (h2.cell 0).trans (rdC_g0 m x y); have c31 := (h3.cell 1).trans (chC_g1 _); have l24 := h2.lt) | (go_at_call 17; refine (HF _ hB4).mono ?_; rintro e w5 ⟨rfl, hw5⟩; clear HF c20 c31; have hB5 := hB4.trans (hw5.mono hB4.size); replace h2 := h2.belowSize hw5; replace h3 := h3.belowSize hw5; replace h4 := h4.belowSize hw5) | (go_at_call 54; refine (HK _ hB7).mono ?_; rintro e w8 ⟨rfl, hw8⟩; clear HK; have hB8 := hB7.trans (hw8.mono hB7.size); replace h2 := h2.belowSize hw8; replace h3 := h3.belowSize hw8; replace h4 := h4.belowSize hw8; replace h7b := h7b.belowSize hw8) | (go_at_call 37; refine (HX _ hB9).mono ?_; rintro e w10 ⟨sl, rfl, hw10, hX⟩; clear HX c20 c30 c31 c32 c33 c34 c71; have hB10 := hB9.trans (hw10.mono hB9.size); replace h9 := h9.belowSize hw10; replace h4 := h4.belowSize hw10; replace hX := hX.lo (Nat.zero_le _); have hc1 : Hid (sl.cells = #[sl]) := hX.cells.1; have hc2 := hX.cells.2) | (with_reducible refine at_list ?_; first | (refine wpList_boxRow (op := ⟨some 2, _, _, _, _, _⟩) rfl _ _ rfl _ rfl ?_; intro w1 hw1 hs1 h2; clear hs1) | (refine wpList_boxRow (op := ⟨some 3, _, _, _, _, _⟩) rfl _ _ rfl _ rfl ?_; intro w2 hw2 hs2 h3; clear hs2; have hB2 := hw1.trans (hw2.mono hw1.size); have l2 := h2.lt; replace h2 := h2.belowSize hw2) | (refine wpList_allocRow (op := ⟨some 4, _, _, _, _, _⟩) rfl _ rfl _ zRd.1 ?_; intro w3 hw3 hs3 h4; clear hs3; have hB3 := hB2.trans (hw3.mono hB2.size); have l3 := h3.lt; replace h2 := h2.belowSize hw3; replace h3 := h3.belowSize hw3; have hs1 := hw1.size; have hs2 := hw2.size) | (refine wpList_loadRow (op := ⟨some 10, _, _, _, _, _⟩) rfl _ _ rfl w.heap.size rfl _ _ h2 _ Try.underlying27 rfl (iRd _ _ _) ?_) | (refine wpList_loadRow (op := ⟨some 11, _, _, _, _, _⟩) rfl _ _ rfl w1.heap.size rfl _ _ h3 _ Try.underlying66 rfl (iChc _) ?_) | (refine wpList_allocRow (op := ⟨some 7, _, _, _, _, _⟩) rfl _ rfl _ zRf.1 ?_; intro w6 hw6 hs6 h7; clear hs6; have hB6 := hB5.trans (hw6.mono hB5.size); have l25 := h2.lt; have l35 := h3.lt; have l45 := h4.lt; replace h2 := h2.belowSize hw6; replace h3 := h3.belowSize hw6; replace h4 := h4.belowSize hw6) | (refine wpList_storeRow (op := ⟨none, .store 49 (.tmp 7) (.tmp 23), _, _, _, _⟩) rfl _ _ _ rfl w5.heap.size (rC f0) rfl rfl _ _ h7 rfl (iRf _) (rC_one _) ?_; intro w7 hg7 hs7 h7b; clear hs7 h7; have hB7 := hB6.trans (below_of_grown hg7 hB5.size hB6.size); replace h2 := h2.grown hg7 (fun e => by have := Option.some.inj e; omega); replace h3 := h3.grown hg7 (fun e => by have := Option.some.inj e; omega); replace h4 := h4.grown hg7 (fun e => by have := Option.some.inj e; omega)) | (refine wpList_loadRow (op := ⟨some 26, _, _, _, _, _⟩) rfl _ _ rfl w.heap.size rfl _ _ h2 _ Try.underlying27 rfl (iRd _ _ _) ?_) | (refine wpList_storeRow (op := ⟨none, .store 27 (.tmp 2) (.tmp 28), _, _, _, _⟩) rfl _ _ _ rfl w.heap.size (rdC { m with ch := m.ch + 1 } x y) rfl rfl _ _ h2 rfl (iRd _ _ _) h1b ?_; intro w9 hg9 hs9 h9; clear hs9 h2; have hB9 := hB8.trans (below_of_grown hg9 (Nat.le_refl _) hB8.size); replace h3 := h3.grown hg9 (fun e => by have := Option.some.inj e; omega); replace h4 := h4.grown hg9 (fun e => by have := Option.some.inj e; omega); replace h7b := h7b.grown hg9 (fun e => by have := Option.some.inj e; omega); have c20 := (h9.cell 0).trans (rdC_g0 _ x y); have c30 := (h3.cell 0).trans (chC_g0 _); have c31 := (h3.cell 1).trans (chC_g1 _); have c32 := (h3.cell 2).trans (chC_g2 _); have c33 := (h3.cell 3).trans (chC_g3 _); have c34 := (h3.cell 4).trans (chC_g4 _); have c71 := (h7b.cell 1).trans (rC_g1 f0)) | (refine wpList_storeCell (op := ⟨none, .store 24 (.tmp 59) (.tmp 58), _, _, _, _⟩) rfl _ _ _ rfl w.heap.size 0 rfl sl rfl _ _ h9 iRsl hc1.out hc2 (by rw [rdC_size]; decide) ?_; intro w11 hg11 hs11 h11; clear hs11; rw [rdC_s0 _ _ _ _ L] at h11; have hB11 := hB10.trans (below_of_grown hg11 (Nat.le_refl _) hB10.size); replace h4 := h4.grown hg11 (fun e => by have := Option.some.inj e; omega); replace hX := keepX hX hg11 h9) | (refine wpList_loadRow (op := ⟨some 93, _, _, _, _, _⟩) rfl _ _ rfl w.heap.size rfl _ _ h11 _ Try.underlying27 rfl (iRd _ _ _) ?_) | (refine wpList_storeRow (op := ⟨none, .store 27 (.tmp 4) (.tmp 93), _, _, _, _⟩) rfl _ _ _ rfl w2.heap.size (rdC { m with ch := m.ch + 1, now := L } sl y) rfl rfl _ _ h4 rfl (iRd _ _ _) (rdC_one _ _ _ hc2 hy1) ?_; intro w12 hg12 hs12 h12; clear hs12; have hB12 := hB11.trans (below_of_grown hg12 (by omega) hB11.size); replace hX := keepX hX hg12 h4)))
      refine bodyPost_ret (v := .tuple #[.agg (rdC { m with ch := m.ch + 1, now := L } sl y), .int .i64 0]) ?_ rfl ⟨_, sl, y, rfl, ⟨rfl, hX, hs.below hB12⟩, hB12⟩
      exact res_cv rfl _ _ w2.heap.size _ _ _ _ rfl rfl h12 Try.underlying27 rfl (iRd _ _ _)
    · subst hk
      clear hz4
      clear hbig
      have HX := fun w1 (hB : Below w.heap.size w w1) => with_any m.now ⟨nm, s, true⟩ x 0 w1 (hn.below hB) (by omega)
      obtain ⟨L, hL⟩ : ∃ L, Hid (L = wiR ⟨nm, s, true⟩ m.now) := ⟨_, rfl⟩
      rw [← hL.out] at HX
      rw [show chgL m.now f0 ⟨1, nm, to, s, n⟩ = L by rw [hL.out]; rfl]
      go_enter Try.func33, Try.ntmps33
      go_wp2_with (first | (go_at_call 53; refine (HW _ hB3).mono ?_; rintro e w4 ⟨rfl, hw4⟩; clear HW; have hB4 := hB3.trans (hw4.mono hB3.size); have l4 := h4.lt; replace h2 := h2.belowSize hw4; replace h3 := h3.belowSize hw4; replace h4 := h4.belowSize hw4; have c20 := (h2.cell 0).trans (rdC_g0 m x y); have c31 := (h3.cell 1).trans (chC_g1 _); have l24 := h2.lt) | (go_at_call 17; refine (HF _ hB4).mono ?_; rintro e w5 ⟨rfl, hw5⟩; clear HF c20 c31; have hB5 := hB4.trans (hw5.mono hB4.size); replace h2 := h2.belowSize hw5; replace h3 := h3.belowSize hw5; replace h4 := h4.belowSize hw5) | (go_at_call 54; refine (HK _ hB7).mono ?_; rintro e w8 ⟨rfl, hw8⟩; clear HK; have hB8 := hB7.trans (hw8.mono hB7.size); replace h2 := h2.belowSize hw8; replace h3 := h3.belowSize hw8; replace h4 := h4.belowSize hw8; replace h7b := h7b.belowSize hw8) | (go_at_call 37; refine (HX _ hB9).mono ?_; rintro e w10 ⟨sl, rfl, hw10, hX⟩; clear HX c20 c30 c31 c32 c33 c34 c71; have hB10 := hB9.trans (hw10.mono hB9.size); replace h9 := h9.belowSize hw10; replace h4 := h4.belowSize hw10; replace hX := hX.lo (Nat.zero_le _); have hc1 : Hid (sl.cells = #[sl]) := hX.cells.1; have hc2 := hX.cells.2) | (with_reducible refine at_list ?_; first | (refine wpList_boxRow (op := ⟨some 2, _, _, _, _, _⟩) rfl _ _ rfl _ rfl ?_; intro w1 hw1 hs1 h2; clear hs1) | (refine wpList_boxRow (op := ⟨some 3, _, _, _, _, _⟩) rfl _ _ rfl _ rfl ?_; intro w2 hw2 hs2 h3; clear hs2; have hB2 := hw1.trans (hw2.mono hw1.size); have l2 := h2.lt; replace h2 := h2.belowSize hw2) | (refine wpList_allocRow (op := ⟨some 4, _, _, _, _, _⟩) rfl _ rfl _ zRd.1 ?_; intro w3 hw3 hs3 h4; clear hs3; have hB3 := hB2.trans (hw3.mono hB2.size); have l3 := h3.lt; replace h2 := h2.belowSize hw3; replace h3 := h3.belowSize hw3; have hs1 := hw1.size; have hs2 := hw2.size) | (refine wpList_loadRow (op := ⟨some 10, _, _, _, _, _⟩) rfl _ _ rfl w.heap.size rfl _ _ h2 _ Try.underlying27 rfl (iRd _ _ _) ?_) | (refine wpList_loadRow (op := ⟨some 11, _, _, _, _, _⟩) rfl _ _ rfl w1.heap.size rfl _ _ h3 _ Try.underlying66 rfl (iChc _) ?_) | (refine wpList_allocRow (op := ⟨some 7, _, _, _, _, _⟩) rfl _ rfl _ zRf.1 ?_; intro w6 hw6 hs6 h7; clear hs6; have hB6 := hB5.trans (hw6.mono hB5.size); have l25 := h2.lt; have l35 := h3.lt; have l45 := h4.lt; replace h2 := h2.belowSize hw6; replace h3 := h3.belowSize hw6; replace h4 := h4.belowSize hw6) | (refine wpList_storeRow (op := ⟨none, .store 49 (.tmp 7) (.tmp 23), _, _, _, _⟩) rfl _ _ _ rfl w5.heap.size (rC f0) rfl rfl _ _ h7 rfl (iRf _) (rC_one _) ?_; intro w7 hg7 hs7 h7b; clear hs7 h7; have hB7 := hB6.trans (below_of_grown hg7 hB5.size hB6.size); replace h2 := h2.grown hg7 (fun e => by have := Option.some.inj e; omega); replace h3 := h3.grown hg7 (fun e => by have := Option.some.inj e; omega); replace h4 := h4.grown hg7 (fun e => by have := Option.some.inj e; omega)) | (refine wpList_loadRow (op := ⟨some 26, _, _, _, _, _⟩) rfl _ _ rfl w.heap.size rfl _ _ h2 _ Try.underlying27 rfl (iRd _ _ _) ?_) | (refine wpList_storeRow (op := ⟨none, .store 27 (.tmp 2) (.tmp 28), _, _, _, _⟩) rfl _ _ _ rfl w.heap.size (rdC { m with ch := m.ch + 1 } x y) rfl rfl _ _ h2 rfl (iRd _ _ _) h1b ?_; intro w9 hg9 hs9 h9; clear hs9 h2; have hB9 := hB8.trans (below_of_grown hg9 (Nat.le_refl _) hB8.size); replace h3 := h3.grown hg9 (fun e => by have := Option.some.inj e; omega); replace h4 := h4.grown hg9 (fun e => by have := Option.some.inj e; omega); replace h7b := h7b.grown hg9 (fun e => by have := Option.some.inj e; omega); have c20 := (h9.cell 0).trans (rdC_g0 _ x y); have c30 := (h3.cell 0).trans (chC_g0 _); have c31 := (h3.cell 1).trans (chC_g1 _); have c32 := (h3.cell 2).trans (chC_g2 _); have c33 := (h3.cell 3).trans (chC_g3 _); have c34 := (h3.cell 4).trans (chC_g4 _); have c71 := (h7b.cell 1).trans (rC_g1 f0)) | (refine wpList_storeCell (op := ⟨none, .store 24 (.tmp 70) (.tmp 69), _, _, _, _⟩) rfl _ _ _ rfl w.heap.size 0 rfl sl rfl _ _ h9 iRsl hc1.out hc2 (by rw [rdC_size]; decide) ?_; intro w11 hg11 hs11 h11; clear hs11; rw [rdC_s0 _ _ _ _ L] at h11; have hB11 := hB10.trans (below_of_grown hg11 (Nat.le_refl _) hB10.size); replace h4 := h4.grown hg11 (fun e => by have := Option.some.inj e; omega); replace hX := keepX hX hg11 h9) | (refine wpList_loadRow (op := ⟨some 93, _, _, _, _, _⟩) rfl _ _ rfl w.heap.size rfl _ _ h11 _ Try.underlying27 rfl (iRd _ _ _) ?_) | (refine wpList_storeRow (op := ⟨none, .store 27 (.tmp 4) (.tmp 93), _, _, _, _⟩) rfl _ _ _ rfl w2.heap.size (rdC { m with ch := m.ch + 1, now := L } sl y) rfl rfl _ _ h4 rfl (iRd _ _ _) (rdC_one _ _ _ hc2 hy1) ?_; intro w12 hg12 hs12 h12; clear hs12; have hB12 := hB11.trans (below_of_grown hg12 (by omega) hB11.size); replace hX := keepX hX hg12 h4)))
      refine bodyPost_ret (v := .tuple #[.agg (rdC { m with ch := m.ch + 1, now := L } sl y), .int .i64 0]) ?_ rfl ⟨_, sl, y, rfl, ⟨rfl, hX, hs.below hB12⟩, hB12⟩
      exact res_cv rfl _ _ w2.heap.size _ _ _ _ rfl rfl h12 Try.underlying27 rfl (iRd _ _ _)
    · subst hk
      clear hz4 hbig
      have HO := fun w1 (hB : Below w.heap.size w w1) => without_any m.now nm x 0 w1 (hn.below hB) (by omega)
      have HX := fun (w1 : World) (lo1 : Nat) (sl1 : Value) (hL1 : RL w1 lo1 sl1 (woR nm m.now)) => with_any (woR nm m.now) ⟨to, f0.s, false⟩ sl1 lo1 w1 hL1 (by have := wo_len nm m.now; omega)
      obtain ⟨L, hL⟩ : ∃ L, Hid (L = wiR ⟨to, f0.s, false⟩ (woR nm m.now)) := ⟨_, rfl⟩
      rw [← hL.out] at HX
      rw [show chgL m.now f0 ⟨2, nm, to, s, n⟩ = L by rw [hL.out]; rfl]
      generalize woR nm m.now = Lo at *
      go_enter Try.func33, Try.ntmps33
      go_wp2_with (first | (go_at_call 53; refine (HW _ hB3).mono ?_; rintro e w4 ⟨rfl, hw4⟩; clear HW; have hB4 := hB3.trans (hw4.mono hB3.size); have l4 := h4.lt; replace h2 := h2.belowSize hw4; replace h3 := h3.belowSize hw4; replace h4 := h4.belowSize hw4; have c20 := (h2.cell 0).trans (rdC_g0 m x y); have c31 := (h3.cell 1).trans (chC_g1 _); have l24 := h2.lt) | (go_at_call 17; refine (HF _ hB4).mono ?_; rintro e w5 ⟨rfl, hw5⟩; clear HF c20 c31; have hB5 := hB4.trans (hw5.mono hB4.size); replace h2 := h2.belowSize hw5; replace h3 := h3.belowSize hw5; replace h4 := h4.belowSize hw5) | (go_at_call 54; refine (HK _ hB7).mono ?_; rintro e w8 ⟨rfl, hw8⟩; clear HK; have hB8 := hB7.trans (hw8.mono hB7.size); replace h2 := h2.belowSize hw8; replace h3 := h3.belowSize hw8; replace h4 := h4.belowSize hw8; replace h7b := h7b.belowSize hw8) | (with_reducible refine at_list ?_; first | (refine wpList_boxRow (op := ⟨some 2, _, _, _, _, _⟩) rfl _ _ rfl _ rfl ?_; intro w1 hw1 hs1 h2; clear hs1) | (refine wpList_boxRow (op := ⟨some 3, _, _, _, _, _⟩) rfl _ _ rfl _ rfl ?_; intro w2 hw2 hs2 h3; clear hs2; have hB2 := hw1.trans (hw2.mono hw1.size); have l2 := h2.lt; replace h2 := h2.belowSize hw2) | (refine wpList_allocRow (op := ⟨some 4, _, _, _, _, _⟩) rfl _ rfl _ zRd.1 ?_; intro w3 hw3 hs3 h4; clear hs3; have hB3 := hB2.trans (hw3.mono hB2.size); have l3 := h3.lt; replace h2 := h2.belowSize hw3; replace h3 := h3.belowSize hw3; have hs1 := hw1.size; have hs2 := hw2.size) | (refine wpList_loadRow (op := ⟨some 10, _, _, _, _, _⟩) rfl _ _ rfl w.heap.size rfl _ _ h2 _ Try.underlying27 rfl (iRd _ _ _) ?_) | (refine wpList_loadRow (op := ⟨some 11, _, _, _, _, _⟩) rfl _ _ rfl w1.heap.size rfl _ _ h3 _ Try.underlying66 rfl (iChc _) ?_) | (refine wpList_allocRow (op := ⟨some 7, _, _, _, _, _⟩) rfl _ rfl _ zRf.1 ?_; intro w6 hw6 hs6 h7; clear hs6; have hB6 := hB5.trans (hw6.mono hB5.size); have l25 := h2.lt; have l35 := h3.lt; have l45 := h4.lt; replace h2 := h2.belowSize hw6; replace h3 := h3.belowSize hw6; replace h4 := h4.belowSize hw6) | (refine wpList_storeRow (op := ⟨none, .store 49 (.tmp 7) (.tmp 23), _, _, _, _⟩) rfl _ _ _ rfl w5.heap.size (rC f0) rfl rfl _ _ h7 rfl (iRf _) (rC_one _) ?_; intro w7 hg7 hs7 h7b; clear hs7 h7; have hB7 := hB6.trans (below_of_grown hg7 hB5.size hB6.size); replace h2 := h2.grown hg7 (fun e => by have := Option.some.inj e; omega); replace h3 := h3.grown hg7 (fun e => by have := Option.some.inj e; omega); replace h4 := h4.grown hg7 (fun e => by have := Option.some.inj e; omega)) | (refine wpList_loadRow (op := ⟨some 26, _, _, _, _, _⟩) rfl _ _ rfl w.heap.size rfl _ _ h2 _ Try.underlying27 rfl (iRd _ _ _) ?_) | (refine wpList_storeRow (op := ⟨none, .store 27 (.tmp 2) (.tmp 28), _, _, _, _⟩) rfl _ _ _ rfl w.heap.size (rdC { m with ch := m.ch + 1 } x y) rfl rfl _ _ h2 rfl (iRd _ _ _) h1b ?_; intro w9 hg9 hs9 h9; clear hs9 h2; have hB9 := hB8.trans (below_of_grown hg9 (Nat.le_refl _) hB8.size); replace h3 := h3.grown hg9 (fun e => by have := Option.some.inj e; omega); replace h4 := h4.grown hg9 (fun e => by have := Option.some.inj e; omega); replace h7b := h7b.grown hg9 (fun e => by have := Option.some.inj e; omega); have c20 := (h9.cell 0).trans (rdC_g0 _ x y); have c30 := (h3.cell 0).trans (chC_g0 _); have c31 := (h3.cell 1).trans (chC_g1 _); have c32 := (h3.cell 2).trans (chC_g2 _); have c33 := (h3.cell 3).trans (chC_g3 _); have c34 := (h3.cell 4).trans (chC_g4 _); have c71 := (h7b.cell 1).trans (rC_g1 f0))))
      have hB9d := hB9.drew
      have h4d := h4.drew
      have h9d := h9.drew
      clear c20 c30 c31 c32 c33 c34 c71
      refine wp_region_held_drew (S := fun w' : World => Blk w' w1.heap.size (chC ⟨2, nm, to, s, n⟩) 66 ∧ Blk w' w5.heap.size (rC f0) 49) (by kernel_rfl) ⟨h3.drew, h7b.drew⟩ (fun hH => ?_)
      try go_frame
      refine wpAnyH_take (i := 0) (oi := ⟨some 73, _, _, _, _, _⟩) (v := .pointer (some ⟨w.heap.size, 0, none⟩)) rfl (by kernel_rfl) (by kernel_rfl) (by kernel_rfl) (fun _ _ _ h => h) (Or.inl ⟨by rfl, fun w hSw => by go_simp⟩) hH ?_
      try simp only [Act.put, List.setIfInBounds_toArray, List.set_cons_zero, List.set_cons_succ]
      refine wpAnyH_take (i := 2) (oi := ⟨some 75, _, _, _, _, _⟩) (v := .pointer (some ⟨w1.heap.size, 1, none⟩)) rfl (by kernel_rfl) (by kernel_rfl) (by kernel_rfl) (fun _ _ _ h => h) (Or.inl ⟨by rfl, fun w hSw => by go_simp⟩) hH ?_
      try simp only [Act.put, List.setIfInBounds_toArray, List.set_cons_zero, List.set_cons_succ]
      refine wpAnyH_take (i := 3) (oi := ⟨some 76, _, _, _, _, _⟩) (v := .string ⟨nm.toArray⟩) rfl (by kernel_rfl) (by kernel_rfl) (by kernel_rfl) (fun _ _ _ h => h) (Or.inl ⟨by rfl, fun w hSw => run_loadCellB _ _ rfl _ 1 rfl _ _ hSw.1 _ Try.underlying9 rfl _ (chC_g1 _)⟩) hH ?_
      try simp only [Act.put, List.setIfInBounds_toArray, List.set_cons_zero, List.set_cons_succ]
      refine wpAnyH_take (i := 5) (oi := ⟨some 78, _, _, _, _, _⟩) (v := .pointer (some ⟨w1.heap.size, 2, none⟩)) rfl (by kernel_rfl) (by kernel_rfl) (by kernel_rfl) (fun _ _ _ h => h) (Or.inl ⟨by rfl, fun w hSw => by go_simp⟩) hH ?_
      try simp only [Act.put, List.setIfInBounds_toArray, List.set_cons_zero, List.set_cons_succ]
      refine wpAnyH_take (i := 6) (oi := ⟨some 79, _, _, _, _, _⟩) (v := .string ⟨to.toArray⟩) rfl (by kernel_rfl) (by kernel_rfl) (by kernel_rfl) (fun _ _ _ h => h) (Or.inl ⟨by rfl, fun w hSw => run_loadCellB _ _ rfl _ 2 rfl _ _ hSw.1 _ Try.underlying9 rfl _ (chC_g2 _)⟩) hH ?_
      try simp only [Act.put, List.setIfInBounds_toArray, List.set_cons_zero, List.set_cons_succ]
      refine wpAnyH_take (i := 7) (oi := ⟨some 80, _, _, _, _, _⟩) (v := .pointer (some ⟨w5.heap.size, 1, none⟩)) rfl (by kernel_rfl) (by kernel_rfl) (by kernel_rfl) (fun _ _ _ h => h) (Or.inl ⟨by rfl, fun w hSw => by go_simp⟩) hH ?_
      try simp only [Act.put, List.setIfInBounds_toArray, List.set_cons_zero, List.set_cons_succ]
      refine wpAnyH_take (i := 8) (oi := ⟨some 81, _, _, _, _, _⟩) (v := .string ⟨f0.s.toArray⟩) rfl (by kernel_rfl) (by kernel_rfl) (by kernel_rfl) (fun _ _ _ h => h) (Or.inl ⟨by rfl, fun w hSw => run_loadCellB _ _ rfl _ 1 rfl _ _ hSw.2 _ Try.underlying9 rfl _ (rC_g1 f0)⟩) hH ?_
      try simp only [Act.put, List.setIfInBounds_toArray, List.set_cons_zero, List.set_cons_succ]
      refine wpAnyH_take (i := 9) (oi := ⟨some 82, _, _, _, _, _⟩) (v := .agg (rC ⟨to, f0.s, false⟩)) rfl (by kernel_rfl) (by kernel_rfl) (by kernel_rfl) (fun _ _ _ h => h) (Or.inl ⟨by rfl, fun w hSw => run_built3 _ _ _ _ _ _ _ rfl _ _ _ rfl rfl rfl _ (built3R _ _ _)⟩) hH ?_
      try simp only [Act.put, List.setIfInBounds_toArray, List.set_cons_zero, List.set_cons_succ]
      refine wpAnyH_solo (i := 1) (o := ⟨some 74, _, _, _, _, _⟩) rfl (by kernel_rfl) (fun K hK => ?_)
      refine wpList_loadCell rfl _ _ rfl w.heap.size 0 rfl _ _ h9d _ Try.underlying24 rfl _ (rdC_g0 _ _ _) ?_
      refine hK _ _ hH ?_
      clear hK K
      try simp only [Act.put, List.setIfInBounds_toArray, List.set_cons_zero, List.set_cons_succ]
      refine wpAnyH_solo (i := 4) (o := ⟨some 77, _, _, _, _, _⟩) rfl (by kernel_rfl) (fun K hK => ?_)
      refine wpList_callR Try.func52 (by kernel_rfl) (by kernel_rfl) rfl _ _ rfl #[x, .string ⟨nm.toArray⟩] (args2 rfl rfl) _ (HO _ hB9d) ?_
      rintro e wo ⟨slo, rfl, hwo, hXo⟩
      refine ⟨_, rfl, ?_⟩
      have hBo := hB9d.trans (hwo.mono hB9d.size)
      have hHo := S2b hH hwo
      replace h4d := h4d.belowSize hwo
      replace h9d := h9d.belowSize hwo
      refine hK _ _ hHo ?_
      clear hK K hH
      have hH := hHo
      clear hHo
      try simp only [Act.put, List.setIfInBounds_toArray, List.set_cons_zero, List.set_cons_succ]
      refine wpAnyH_solo (i := 10) (o := ⟨some 83, _, _, _, _, _⟩) rfl (by kernel_rfl) (fun K hK => ?_)
      refine wpList_callR Try.func37 (by kernel_rfl) (by kernel_rfl) rfl _ _ rfl #[slo, .agg (rC ⟨to, f0.s, false⟩)] (args2 rfl rfl) _ (HX _ _ slo hXo) ?_
      rintro e w10 ⟨sl, rfl, hw10, hX⟩
      refine ⟨_, rfl, ?_⟩
      have hB10 := hBo.trans (hw10.mono hBo.size)
      have hH10 := S2b hH hw10
      replace h4d := h4d.belowSize hw10
      replace h9d := h9d.belowSize hw10
      replace hX := hX.lo (Nat.zero_le _)
      have hc1 : Hid (sl.cells = #[sl]) := hX.cells.1
      have hc2 := hX.cells.2
      refine hK _ _ hH10 ?_
      clear hK K
      try simp only [Act.put, List.setIfInBounds_toArray, List.set_cons_zero, List.set_cons_succ]
      refine wpAnyH_take (i := 11) (oi := ⟨some 84, _, _, _, _, _⟩) (v := .pointer (some ⟨w.heap.size, 0, none⟩)) rfl (by kernel_rfl) (by kernel_rfl) (by kernel_rfl) (fun _ _ _ h => h) (Or.inl ⟨by rfl, fun w hSw => by go_simp⟩) hH10 ?_
      try simp only [Act.put, List.setIfInBounds_toArray, List.set_cons_zero, List.set_cons_succ]
      refine wpAnyH_solo (i := 12) (o := ⟨none, _, _, _, _, _⟩) rfl (by kernel_rfl) (fun K hK => ?_)
      refine wpList_storeCell rfl _ _ _ rfl w.heap.size 0 rfl sl rfl _ _ h9d iRsl hc1.out hc2 (by rw [rdC_size]; decide) ?_
      intro w11 hg11 hs11 h11
      clear hs11
      rw [rdC_s0 _ _ _ _ L] at h11
      have hH11 := S2g hH10 hg11 (by omega) (by omega)
      have hB11 := hB10.trans (below_of_grown hg11 (Nat.le_refl _) hB10.size)
      replace h4 := h4d.grown hg11 (fun e => by have := Option.some.inj e; omega)
      replace hX := keepX hX hg11 h9d
      refine hK _ _ hH11 ?_
      clear hK K
      try simp only [Act.put]
      refine wpAnyH_done (by kernel_rfl) ?_ _
      go_simp
      go_wp2_with (first | (go_at_call 53; refine (HW _ hB3).mono ?_; rintro e w4 ⟨rfl, hw4⟩; clear HW; have hB4 := hB3.trans (hw4.mono hB3.size); have l4 := h4.lt; replace h2 := h2.belowSize hw4; replace h3 := h3.belowSize hw4; replace h4 := h4.belowSize hw4; have c20 := (h2.cell 0).trans (rdC_g0 m x y); have c31 := (h3.cell 1).trans (chC_g1 _); have l24 := h2.lt) | (go_at_call 17; refine (HF _ hB4).mono ?_; rintro e w5 ⟨rfl, hw5⟩; clear HF c20 c31; have hB5 := hB4.trans (hw5.mono hB4.size); replace h2 := h2.belowSize hw5; replace h3 := h3.belowSize hw5; replace h4 := h4.belowSize hw5) | (go_at_call 54; refine (HK _ hB7).mono ?_; rintro e w8 ⟨rfl, hw8⟩; clear HK; have hB8 := hB7.trans (hw8.mono hB7.size); replace h2 := h2.belowSize hw8; replace h3 := h3.belowSize hw8; replace h4 := h4.belowSize hw8; replace h7b := h7b.belowSize hw8) | (with_reducible refine at_list ?_; first | (refine wpList_loadRow (op := ⟨some 93, _, _, _, _, _⟩) rfl _ _ rfl w.heap.size rfl _ _ h11 _ Try.underlying27 rfl (iRd _ _ _) ?_) | (refine wpList_storeRow (op := ⟨none, .store 27 (.tmp 4) (.tmp 93), _, _, _, _⟩) rfl _ _ _ rfl w2.heap.size (rdC { m with ch := m.ch + 1, now := L } sl y) rfl rfl _ _ h4 rfl (iRd _ _ _) (rdC_one _ _ _ hc2 hy1) ?_; intro w12 hg12 hs12 h12; clear hs12; have hB12 := hB11.trans (below_of_grown hg12 (by omega) hB11.size); replace hX := keepX hX hg12 h4)))
      refine bodyPost_ret (v := .tuple #[.agg (rdC { m with ch := m.ch + 1, now := L } sl y), .int .i64 0]) ?_ rfl ⟨_, sl, y, rfl, ⟨rfl, hX, hs.below hB12⟩, hB12⟩
      exact res_cv rfl _ _ w2.heap.size _ _ _ _ rfl rfl h12 Try.underlying27 rfl (iRd _ _ _)
    · subst hk
      clear hz4 hbig
      have HX := fun w1 (hB : Below w.heap.size w w1) => without_any m.now nm x 0 w1 (hn.below hB) (by omega)
      obtain ⟨L, hL⟩ : ∃ L, Hid (L = woR nm m.now) := ⟨_, rfl⟩
      rw [← hL.out] at HX
      rw [show chgL m.now f0 ⟨3, nm, to, s, n⟩ = L by rw [hL.out]; rfl]
      go_enter Try.func33, Try.ntmps33
      go_wp2_with (first | (go_at_call 53; refine (HW _ hB3).mono ?_; rintro e w4 ⟨rfl, hw4⟩; clear HW; have hB4 := hB3.trans (hw4.mono hB3.size); have l4 := h4.lt; replace h2 := h2.belowSize hw4; replace h3 := h3.belowSize hw4; replace h4 := h4.belowSize hw4; have c20 := (h2.cell 0).trans (rdC_g0 m x y); have c31 := (h3.cell 1).trans (chC_g1 _); have l24 := h2.lt) | (go_at_call 17; refine (HF _ hB4).mono ?_; rintro e w5 ⟨rfl, hw5⟩; clear HF c20 c31; have hB5 := hB4.trans (hw5.mono hB4.size); replace h2 := h2.belowSize hw5; replace h3 := h3.belowSize hw5; replace h4 := h4.belowSize hw5) | (go_at_call 54; refine (HK _ hB7).mono ?_; rintro e w8 ⟨rfl, hw8⟩; clear HK; have hB8 := hB7.trans (hw8.mono hB7.size); replace h2 := h2.belowSize hw8; replace h3 := h3.belowSize hw8; replace h4 := h4.belowSize hw8; replace h7b := h7b.belowSize hw8) | (go_at_call 52; refine (HX _ hB9).mono ?_; rintro e w10 ⟨sl, rfl, hw10, hX⟩; clear HX c20 c30 c31 c32 c33 c34 c71; have hB10 := hB9.trans (hw10.mono hB9.size); replace h9 := h9.belowSize hw10; replace h4 := h4.belowSize hw10; replace hX := hX.lo (Nat.zero_le _); have hc1 : Hid (sl.cells = #[sl]) := hX.cells.1; have hc2 := hX.cells.2) | (with_reducible refine at_list ?_; first | (refine wpList_boxRow (op := ⟨some 2, _, _, _, _, _⟩) rfl _ _ rfl _ rfl ?_; intro w1 hw1 hs1 h2; clear hs1) | (refine wpList_boxRow (op := ⟨some 3, _, _, _, _, _⟩) rfl _ _ rfl _ rfl ?_; intro w2 hw2 hs2 h3; clear hs2; have hB2 := hw1.trans (hw2.mono hw1.size); have l2 := h2.lt; replace h2 := h2.belowSize hw2) | (refine wpList_allocRow (op := ⟨some 4, _, _, _, _, _⟩) rfl _ rfl _ zRd.1 ?_; intro w3 hw3 hs3 h4; clear hs3; have hB3 := hB2.trans (hw3.mono hB2.size); have l3 := h3.lt; replace h2 := h2.belowSize hw3; replace h3 := h3.belowSize hw3; have hs1 := hw1.size; have hs2 := hw2.size) | (refine wpList_loadRow (op := ⟨some 10, _, _, _, _, _⟩) rfl _ _ rfl w.heap.size rfl _ _ h2 _ Try.underlying27 rfl (iRd _ _ _) ?_) | (refine wpList_loadRow (op := ⟨some 11, _, _, _, _, _⟩) rfl _ _ rfl w1.heap.size rfl _ _ h3 _ Try.underlying66 rfl (iChc _) ?_) | (refine wpList_allocRow (op := ⟨some 7, _, _, _, _, _⟩) rfl _ rfl _ zRf.1 ?_; intro w6 hw6 hs6 h7; clear hs6; have hB6 := hB5.trans (hw6.mono hB5.size); have l25 := h2.lt; have l35 := h3.lt; have l45 := h4.lt; replace h2 := h2.belowSize hw6; replace h3 := h3.belowSize hw6; replace h4 := h4.belowSize hw6) | (refine wpList_storeRow (op := ⟨none, .store 49 (.tmp 7) (.tmp 23), _, _, _, _⟩) rfl _ _ _ rfl w5.heap.size (rC f0) rfl rfl _ _ h7 rfl (iRf _) (rC_one _) ?_; intro w7 hg7 hs7 h7b; clear hs7 h7; have hB7 := hB6.trans (below_of_grown hg7 hB5.size hB6.size); replace h2 := h2.grown hg7 (fun e => by have := Option.some.inj e; omega); replace h3 := h3.grown hg7 (fun e => by have := Option.some.inj e; omega); replace h4 := h4.grown hg7 (fun e => by have := Option.some.inj e; omega)) | (refine wpList_loadRow (op := ⟨some 26, _, _, _, _, _⟩) rfl _ _ rfl w.heap.size rfl _ _ h2 _ Try.underlying27 rfl (iRd _ _ _) ?_) | (refine wpList_storeRow (op := ⟨none, .store 27 (.tmp 2) (.tmp 28), _, _, _, _⟩) rfl _ _ _ rfl w.heap.size (rdC { m with ch := m.ch + 1 } x y) rfl rfl _ _ h2 rfl (iRd _ _ _) h1b ?_; intro w9 hg9 hs9 h9; clear hs9 h2; have hB9 := hB8.trans (below_of_grown hg9 (Nat.le_refl _) hB8.size); replace h3 := h3.grown hg9 (fun e => by have := Option.some.inj e; omega); replace h4 := h4.grown hg9 (fun e => by have := Option.some.inj e; omega); replace h7b := h7b.grown hg9 (fun e => by have := Option.some.inj e; omega); have c20 := (h9.cell 0).trans (rdC_g0 _ x y); have c30 := (h3.cell 0).trans (chC_g0 _); have c31 := (h3.cell 1).trans (chC_g1 _); have c32 := (h3.cell 2).trans (chC_g2 _); have c33 := (h3.cell 3).trans (chC_g3 _); have c34 := (h3.cell 4).trans (chC_g4 _); have c71 := (h7b.cell 1).trans (rC_g1 f0)) | (refine wpList_storeCell (op := ⟨none, .store 24 (.tmp 92) (.tmp 91), _, _, _, _⟩) rfl _ _ _ rfl w.heap.size 0 rfl sl rfl _ _ h9 iRsl hc1.out hc2 (by rw [rdC_size]; decide) ?_; intro w11 hg11 hs11 h11; clear hs11; rw [rdC_s0 _ _ _ _ L] at h11; have hB11 := hB10.trans (below_of_grown hg11 (Nat.le_refl _) hB10.size); replace h4 := h4.grown hg11 (fun e => by have := Option.some.inj e; omega); replace hX := keepX hX hg11 h9) | (refine wpList_loadRow (op := ⟨some 93, _, _, _, _, _⟩) rfl _ _ rfl w.heap.size rfl _ _ h11 _ Try.underlying27 rfl (iRd _ _ _) ?_) | (refine wpList_storeRow (op := ⟨none, .store 27 (.tmp 4) (.tmp 93), _, _, _, _⟩) rfl _ _ _ rfl w2.heap.size (rdC { m with ch := m.ch + 1, now := L } sl y) rfl rfl _ _ h4 rfl (iRd _ _ _) (rdC_one _ _ _ hc2 hy1) ?_; intro w12 hg12 hs12 h12; clear hs12; have hB12 := hB11.trans (below_of_grown hg12 (by omega) hB11.size); replace hX := keepX hX hg12 h4)))
      refine bodyPost_ret (v := .tuple #[.agg (rdC { m with ch := m.ch + 1, now := L } sl y), .int .i64 0]) ?_ rfl ⟨_, sl, y, rfl, ⟨rfl, hX, hs.below hB12⟩, hB12⟩
      exact res_cv rfl _ _ w2.heap.size _ _ _ _ rfl rfl h12 Try.underlying27 rfl (iRd _ _ _)
    · subst hk
      have hz := hz4 rfl
      clear hz4 hbig
      obtain ⟨q, rfl⟩ := Int.eq_ofNat_of_zero_le hz.1
      have hq1 : (q : Int) ≤ (f0.s.length : Int) := hz.2
      have hq2 : q ≤ f0.s.length := by omega
      clear hz
      have HX := fun w1 (hB : Below w.heap.size w w1) => with_any m.now ⟨nm, f0.s.take q, false⟩ x 0 w1 (hn.below hB) (by omega)
      obtain ⟨L, hL⟩ : ∃ L, Hid (L = wiR ⟨nm, f0.s.take q, false⟩ m.now) := ⟨_, rfl⟩
      rw [← hL.out] at HX
      rw [show chgL m.now f0 ⟨4, nm, to, s, (q : Nat)⟩ = L by rw [hL.out]; rfl]
      go_enter Try.func33, Try.ntmps33
      go_wp2_with (first | (go_at_call 53; refine (HW _ hB3).mono ?_; rintro e w4 ⟨rfl, hw4⟩; clear HW; have hB4 := hB3.trans (hw4.mono hB3.size); have l4 := h4.lt; replace h2 := h2.belowSize hw4; replace h3 := h3.belowSize hw4; replace h4 := h4.belowSize hw4; have c20 := (h2.cell 0).trans (rdC_g0 m x y); have c31 := (h3.cell 1).trans (chC_g1 _); have l24 := h2.lt) | (go_at_call 17; refine (HF _ hB4).mono ?_; rintro e w5 ⟨rfl, hw5⟩; clear HF c20 c31; have hB5 := hB4.trans (hw5.mono hB4.size); replace h2 := h2.belowSize hw5; replace h3 := h3.belowSize hw5; replace h4 := h4.belowSize hw5) | (go_at_call 54; refine (HK _ hB7).mono ?_; rintro e w8 ⟨rfl, hw8⟩; clear HK; have hB8 := hB7.trans (hw8.mono hB7.size); replace h2 := h2.belowSize hw8; replace h3 := h3.belowSize hw8; replace h4 := h4.belowSize hw8; replace h7b := h7b.belowSize hw8) | (with_reducible refine at_list ?_; first | (refine wpList_boxRow (op := ⟨some 2, _, _, _, _, _⟩) rfl _ _ rfl _ rfl ?_; intro w1 hw1 hs1 h2; clear hs1) | (refine wpList_boxRow (op := ⟨some 3, _, _, _, _, _⟩) rfl _ _ rfl _ rfl ?_; intro w2 hw2 hs2 h3; clear hs2; have hB2 := hw1.trans (hw2.mono hw1.size); have l2 := h2.lt; replace h2 := h2.belowSize hw2) | (refine wpList_allocRow (op := ⟨some 4, _, _, _, _, _⟩) rfl _ rfl _ zRd.1 ?_; intro w3 hw3 hs3 h4; clear hs3; have hB3 := hB2.trans (hw3.mono hB2.size); have l3 := h3.lt; replace h2 := h2.belowSize hw3; replace h3 := h3.belowSize hw3; have hs1 := hw1.size; have hs2 := hw2.size) | (refine wpList_loadRow (op := ⟨some 10, _, _, _, _, _⟩) rfl _ _ rfl w.heap.size rfl _ _ h2 _ Try.underlying27 rfl (iRd _ _ _) ?_) | (refine wpList_loadRow (op := ⟨some 11, _, _, _, _, _⟩) rfl _ _ rfl w1.heap.size rfl _ _ h3 _ Try.underlying66 rfl (iChc _) ?_) | (refine wpList_allocRow (op := ⟨some 7, _, _, _, _, _⟩) rfl _ rfl _ zRf.1 ?_; intro w6 hw6 hs6 h7; clear hs6; have hB6 := hB5.trans (hw6.mono hB5.size); have l25 := h2.lt; have l35 := h3.lt; have l45 := h4.lt; replace h2 := h2.belowSize hw6; replace h3 := h3.belowSize hw6; replace h4 := h4.belowSize hw6) | (refine wpList_storeRow (op := ⟨none, .store 49 (.tmp 7) (.tmp 23), _, _, _, _⟩) rfl _ _ _ rfl w5.heap.size (rC f0) rfl rfl _ _ h7 rfl (iRf _) (rC_one _) ?_; intro w7 hg7 hs7 h7b; clear hs7 h7; have hB7 := hB6.trans (below_of_grown hg7 hB5.size hB6.size); replace h2 := h2.grown hg7 (fun e => by have := Option.some.inj e; omega); replace h3 := h3.grown hg7 (fun e => by have := Option.some.inj e; omega); replace h4 := h4.grown hg7 (fun e => by have := Option.some.inj e; omega)) | (refine wpList_loadRow (op := ⟨some 26, _, _, _, _, _⟩) rfl _ _ rfl w.heap.size rfl _ _ h2 _ Try.underlying27 rfl (iRd _ _ _) ?_) | (refine wpList_storeRow (op := ⟨none, .store 27 (.tmp 2) (.tmp 28), _, _, _, _⟩) rfl _ _ _ rfl w.heap.size (rdC { m with ch := m.ch + 1 } x y) rfl rfl _ _ h2 rfl (iRd _ _ _) h1b ?_; intro w9 hg9 hs9 h9; clear hs9 h2; have hB9 := hB8.trans (below_of_grown hg9 (Nat.le_refl _) hB8.size); replace h3 := h3.grown hg9 (fun e => by have := Option.some.inj e; omega); replace h4 := h4.grown hg9 (fun e => by have := Option.some.inj e; omega); replace h7b := h7b.grown hg9 (fun e => by have := Option.some.inj e; omega); have c20 := (h9.cell 0).trans (rdC_g0 _ x y); have c30 := (h3.cell 0).trans (chC_g0 _); have c31 := (h3.cell 1).trans (chC_g1 _); have c32 := (h3.cell 2).trans (chC_g2 _); have c33 := (h3.cell 3).trans (chC_g3 _); have c34 := (h3.cell 4).trans (chC_g4 _); have c71 := (h7b.cell 1).trans (rC_g1 f0))))
      have hB9d := hB9.drew
      have h4d := h4.drew
      have h9d := h9.drew
      clear c20 c30 c31 c32 c33 c34 c71
      refine wp_region_held_drew (S := fun w' : World => Blk w' w1.heap.size (chC ⟨4, nm, to, s, (q : Nat)⟩) 66 ∧ Blk w' w5.heap.size (rC f0) 49) (by kernel_rfl) ⟨h3.drew, h7b.drew⟩ (fun hH => ?_)
      try go_frame
      refine wpAnyH_take (i := 0) (oi := ⟨some 34, _, _, _, _, _⟩) (v := .pointer (some ⟨w.heap.size, 0, none⟩)) rfl (by kernel_rfl) (by kernel_rfl) (by kernel_rfl) (fun _ _ _ h => h) (Or.inl ⟨by rfl, fun w hSw => by go_simp⟩) hH ?_
      try simp only [Act.put, List.setIfInBounds_toArray, List.set_cons_zero, List.set_cons_succ]
      refine wpAnyH_take (i := 2) (oi := ⟨some 36, _, _, _, _, _⟩) (v := .pointer (some ⟨w1.heap.size, 1, none⟩)) rfl (by kernel_rfl) (by kernel_rfl) (by kernel_rfl) (fun _ _ _ h => h) (Or.inl ⟨by rfl, fun w hSw => by go_simp⟩) hH ?_
      try simp only [Act.put, List.setIfInBounds_toArray, List.set_cons_zero, List.set_cons_succ]
      refine wpAnyH_take (i := 3) (oi := ⟨some 37, _, _, _, _, _⟩) (v := .string ⟨nm.toArray⟩) rfl (by kernel_rfl) (by kernel_rfl) (by kernel_rfl) (fun _ _ _ h => h) (Or.inl ⟨by rfl, fun w hSw => run_loadCellB _ _ rfl _ 1 rfl _ _ hSw.1 _ Try.underlying9 rfl _ (chC_g1 _)⟩) hH ?_
      try simp only [Act.put, List.setIfInBounds_toArray, List.set_cons_zero, List.set_cons_succ]
      refine wpAnyH_take (i := 4) (oi := ⟨some 38, _, _, _, _, _⟩) (v := .pointer (some ⟨w5.heap.size, 1, none⟩)) rfl (by kernel_rfl) (by kernel_rfl) (by kernel_rfl) (fun _ _ _ h => h) (Or.inl ⟨by rfl, fun w hSw => by go_simp⟩) hH ?_
      try simp only [Act.put, List.setIfInBounds_toArray, List.set_cons_zero, List.set_cons_succ]
      refine wpAnyH_take (i := 5) (oi := ⟨some 39, _, _, _, _, _⟩) (v := .string ⟨f0.s.toArray⟩) rfl (by kernel_rfl) (by kernel_rfl) (by kernel_rfl) (fun _ _ _ h => h) (Or.inl ⟨by rfl, fun w hSw => run_loadCellB _ _ rfl _ 1 rfl _ _ hSw.2 _ Try.underlying9 rfl _ (rC_g1 f0)⟩) hH ?_
      try simp only [Act.put, List.setIfInBounds_toArray, List.set_cons_zero, List.set_cons_succ]
      refine wpAnyH_take (i := 6) (oi := ⟨some 40, _, _, _, _, _⟩) (v := .pointer (some ⟨w1.heap.size, 4, none⟩)) rfl (by kernel_rfl) (by kernel_rfl) (by kernel_rfl) (fun _ _ _ h => h) (Or.inl ⟨by rfl, fun w hSw => by go_simp⟩) hH ?_
      try simp only [Act.put, List.setIfInBounds_toArray, List.set_cons_zero, List.set_cons_succ]
      refine wpAnyH_take (i := 7) (oi := ⟨some 41, _, _, _, _, _⟩) (v := .int .i64 (q : Nat)) rfl (by kernel_rfl) (by kernel_rfl) (by kernel_rfl) (fun _ _ _ h => h) (Or.inl ⟨by rfl, fun w hSw => run_loadCellB _ _ rfl _ 4 rfl _ _ hSw.1 _ Try.underlying3 rfl _ (chC_g4 _)⟩) hH ?_
      try simp only [Act.put, List.setIfInBounds_toArray, List.set_cons_zero, List.set_cons_succ]
      refine wpAnyH_take (i := 8) (oi := ⟨some 42, _, _, _, _, _⟩) (v := .string ⟨(f0.s.take q).toArray⟩) rfl (by kernel_rfl) (by kernel_rfl) (by kernel_rfl) (fun _ _ _ h => h) (Or.inl ⟨by rfl, fun w hSw => by go_simp⟩) hH ?_
      try simp only [Act.put, List.setIfInBounds_toArray, List.set_cons_zero, List.set_cons_succ]
      refine wpAnyH_take (i := 9) (oi := ⟨some 43, _, _, _, _, _⟩) (v := .agg (rC ⟨nm, f0.s.take q, false⟩)) rfl (by kernel_rfl) (by kernel_rfl) (by kernel_rfl) (fun _ _ _ h => h) (Or.inl ⟨by rfl, fun w hSw => run_built3 _ _ _ _ _ _ _ rfl _ _ _ rfl rfl rfl _ (built3R _ _ _)⟩) hH ?_
      try simp only [Act.put, List.setIfInBounds_toArray, List.set_cons_zero, List.set_cons_succ]
      refine wpAnyH_solo (i := 1) (o := ⟨some 35, _, _, _, _, _⟩) rfl (by kernel_rfl) (fun K hK => ?_)
      refine wpList_loadCell rfl _ _ rfl w.heap.size 0 rfl _ _ h9d _ Try.underlying24 rfl _ (rdC_g0 _ _ _) ?_
      refine hK _ _ hH ?_
      clear hK K
      try simp only [Act.put, List.setIfInBounds_toArray, List.set_cons_zero, List.set_cons_succ]
      refine wpAnyH_solo (i := 10) (o := ⟨some 44, _, _, _, _, _⟩) rfl (by kernel_rfl) (fun K hK => ?_)
      refine wpList_callR Try.func37 (by kernel_rfl) (by kernel_rfl) rfl _ _ rfl #[x, .agg (rC ⟨nm, f0.s.take q, false⟩)] (args2 rfl rfl) _ (HX _ hB9d) ?_
      rintro e w10 ⟨sl, rfl, hw10, hX⟩
      refine ⟨_, rfl, ?_⟩
      have hB10 := hB9d.trans (hw10.mono hB9d.size)
      have hH10 := S2b hH hw10
      replace h4d := h4d.belowSize hw10
      replace h9d := h9d.belowSize hw10
      replace hX := hX.lo (Nat.zero_le _)
      have hc1 : Hid (sl.cells = #[sl]) := hX.cells.1
      have hc2 := hX.cells.2
      refine hK _ _ hH10 ?_
      clear hK K
      try simp only [Act.put, List.setIfInBounds_toArray, List.set_cons_zero, List.set_cons_succ]
      refine wpAnyH_take (i := 11) (oi := ⟨some 45, _, _, _, _, _⟩) (v := .pointer (some ⟨w.heap.size, 0, none⟩)) rfl (by kernel_rfl) (by kernel_rfl) (by kernel_rfl) (fun _ _ _ h => h) (Or.inl ⟨by rfl, fun w hSw => by go_simp⟩) hH10 ?_
      try simp only [Act.put, List.setIfInBounds_toArray, List.set_cons_zero, List.set_cons_succ]
      refine wpAnyH_solo (i := 12) (o := ⟨none, _, _, _, _, _⟩) rfl (by kernel_rfl) (fun K hK => ?_)
      refine wpList_storeCell rfl _ _ _ rfl w.heap.size 0 rfl sl rfl _ _ h9d iRsl hc1.out hc2 (by rw [rdC_size]; decide) ?_
      intro w11 hg11 hs11 h11
      clear hs11
      rw [rdC_s0 _ _ _ _ L] at h11
      have hH11 := S2g hH10 hg11 (by omega) (by omega)
      have hB11 := hB10.trans (below_of_grown hg11 (Nat.le_refl _) hB10.size)
      replace h4 := h4d.grown hg11 (fun e => by have := Option.some.inj e; omega)
      replace hX := keepX hX hg11 h9d
      refine hK _ _ hH11 ?_
      clear hK K
      try simp only [Act.put]
      refine wpAnyH_done (by kernel_rfl) ?_ _
      go_simp
      go_wp2_with (first | (go_at_call 53; refine (HW _ hB3).mono ?_; rintro e w4 ⟨rfl, hw4⟩; clear HW; have hB4 := hB3.trans (hw4.mono hB3.size); have l4 := h4.lt; replace h2 := h2.belowSize hw4; replace h3 := h3.belowSize hw4; replace h4 := h4.belowSize hw4; have c20 := (h2.cell 0).trans (rdC_g0 m x y); have c31 := (h3.cell 1).trans (chC_g1 _); have l24 := h2.lt) | (go_at_call 17; refine (HF _ hB4).mono ?_; rintro e w5 ⟨rfl, hw5⟩; clear HF c20 c31; have hB5 := hB4.trans (hw5.mono hB4.size); replace h2 := h2.belowSize hw5; replace h3 := h3.belowSize hw5; replace h4 := h4.belowSize hw5) | (go_at_call 54; refine (HK _ hB7).mono ?_; rintro e w8 ⟨rfl, hw8⟩; clear HK; have hB8 := hB7.trans (hw8.mono hB7.size); replace h2 := h2.belowSize hw8; replace h3 := h3.belowSize hw8; replace h4 := h4.belowSize hw8; replace h7b := h7b.belowSize hw8) | (with_reducible refine at_list ?_; first | (refine wpList_loadRow (op := ⟨some 93, _, _, _, _, _⟩) rfl _ _ rfl w.heap.size rfl _ _ h11 _ Try.underlying27 rfl (iRd _ _ _) ?_) | (refine wpList_storeRow (op := ⟨none, .store 27 (.tmp 4) (.tmp 93), _, _, _, _⟩) rfl _ _ _ rfl w2.heap.size (rdC { m with ch := m.ch + 1, now := L } sl y) rfl rfl _ _ h4 rfl (iRd _ _ _) (rdC_one _ _ _ hc2 hy1) ?_; intro w12 hg12 hs12 h12; clear hs12; have hB12 := hB11.trans (below_of_grown hg12 (by omega) hB11.size); replace hX := keepX hX hg12 h4)))
      refine bodyPost_ret (v := .tuple #[.agg (rdC { m with ch := m.ch + 1, now := L } sl y), .int .i64 0]) ?_ rfl ⟨_, sl, y, rfl, ⟨rfl, hX, hs.below hB12⟩, hB12⟩
      exact res_cv rfl _ _ w2.heap.size _ _ _ _ rfl rfl h12 Try.underlying27 rfl (iRd _ _ _)
  · rw [if_neg hy]
    generalize whyR m c = V at *
    clear HF HK hkk hl hu hr hch h2 h3 h4 hbig
    go_enter Try.func33, Try.ntmps33
    go_wp2_with (first | (go_at_call 53; refine (HW _ hB3).mono ?_; rintro e w4 ⟨rfl, hw4⟩; clear HW; have hB4 := hB3.trans (hw4.mono hB3.size); have l4 := h4.lt; replace h2 := h2.belowSize hw4; replace h3 := h3.belowSize hw4; replace h4 := h4.belowSize hw4; have c20 := (h2.cell 0).trans (rdC_g0 m x y); have c31 := (h3.cell 1).trans (chC_g1 _); have l24 := h2.lt) | (with_reducible refine at_list ?_; first | (refine wpList_boxRow (op := ⟨some 2, _, _, _, _, _⟩) rfl _ _ rfl _ rfl ?_; intro w1 hw1 hs1 h2; clear hs1) | (refine wpList_boxRow (op := ⟨some 3, _, _, _, _, _⟩) rfl _ _ rfl _ rfl ?_; intro w2 hw2 hs2 h3; clear hs2; have hB2 := hw1.trans (hw2.mono hw1.size); have l2 := h2.lt; replace h2 := h2.belowSize hw2) | (refine wpList_allocRow (op := ⟨some 4, _, _, _, _, _⟩) rfl _ rfl _ zRd.1 ?_; intro w3 hw3 hs3 h4; clear hs3; have hB3 := hB2.trans (hw3.mono hB2.size); have l3 := h3.lt; replace h2 := h2.belowSize hw3; replace h3 := h3.belowSize hw3; have hs1 := hw1.size; have hs2 := hw2.size) | (refine wpList_loadRow (op := ⟨some 10, _, _, _, _, _⟩) rfl _ _ rfl w.heap.size rfl _ _ h2 _ Try.underlying27 rfl (iRd _ _ _) ?_) | (refine wpList_loadRow (op := ⟨some 11, _, _, _, _, _⟩) rfl _ _ rfl w1.heap.size rfl _ _ h3 _ Try.underlying66 rfl (iChc _) ?_) | (refine wpList_loadRow (op := ⟨some 15, _, _, _, _, _⟩) rfl _ _ rfl w.heap.size rfl _ _ h2 _ Try.underlying27 rfl (iRd _ _ _) ?_) | (refine wpList_storeRow (op := ⟨none, .store 27 (.tmp 4) (.tmp 15), _, _, _, _⟩) rfl _ _ _ rfl w2.heap.size (rdC m x y) rfl rfl _ _ h4 rfl (iRd _ _ _) h1 ?_; intro w5 hg5 hs5 h5; clear hs5)))
    have hB5 := hB4.trans (below_of_grown hg5 (by omega) hB4.size)
    refine bodyPost_ret (v := .tuple #[.agg (rdC m x y), .int .i64 V]) ?_ rfl ⟨_, x, y, rfl, ⟨rfl, hn.below hB5, hs.below hB5⟩, hB5⟩
    exact res_cv rfl _ _ w2.heap.size _ _ _ _ rfl rfl h5 Try.underlying27 rfl (iRd _ _ _)
end
end Go.Proofs.Ytgkkpmliociieaa
