/- A tree in memory: New, topOf, Root, Len, Put. A tree in memory: Delete, Get, Prove, Clone. -/
import Derived.Test.YtmeolaeoaoldoaaDoorSwi
namespace Go.Proofs.YtmeolaeoaoldoaaDoor.Sh
open Go Go.RowKit Go.Shelf
set_option maxRecDepth 100000 in
theorem top_any (b : Nat) (q : Option Addr) (w : World) (hb : Blk w b #[.pointer q] 75) : Calls Tryd.prog 38 #[.pointer (some ⟨b, 0, none⟩)] w fun e w' => e = .returned (.pointer q) ∧ w' = w := by
  have hc := blk1c hb
  go_enter Tryd.func38, Tryd.ntmps38
  go_wp2_with fail
  go_ret
  exact ⟨rfl, rfl⟩
set_option maxRecDepth 100000 in
theorem top_nil (w : World) : Calls Tryd.prog 38 #[.pointer none] w fun e w' => e = .returned (.pointer none) ∧ w' = w := by
  go_enter Tryd.func38, Tryd.ntmps38
  go_wp2_with fail
  go_ret
  exact ⟨rfl, rfl⟩
set_option maxRecDepth 100000 in
theorem tnew_any (w : World) : Calls Tryd.prog 15 #[] w fun e w' => e = .returned (.pointer (some ⟨w.heap.size, 0, none⟩)) ∧ Blk w' w.heap.size #[.pointer none] 75 ∧ Below w.heap.size w w' := by
  go_enter Tryd.func15, Tryd.ntmps15
  go_wp2_with fail
  go_ret
  exact ⟨rfl, Blk.new _ _ _, (Below.refl _ _).alloc (Nat.le_refl _) _⟩
set_option maxRecDepth 100000 in
theorem troot_any (b : Nat) (q : Option Addr) (t : Tr) (w : World) (hb : Blk w b #[.pointer q] 75) (h : HF w t q) : Calls Tryd.prog 12 #[.pointer (some ⟨b, 0, none⟩)] w fun e w' => e = .returned (.string ⟨(t.hash TgD).toArray⟩) ∧ Below w.heap.size w w' := by
  have H1 := top_any b q w hb
  have H2 := hhash_any t q w h
  generalize t.hash TgD = R at *
  go_enter Tryd.func12, Tryd.ntmps12
  go_wp2_with (first
    | (go_at_call 38; refine H1.mono ?_; rintro e w1 ⟨rfl, hw1⟩; have hw1 := hw1.symm; subst hw1)
    | (go_at_call 40; refine H2.mono ?_; rintro e w2 ⟨rfl, hw2⟩))
  go_ret
  exact ⟨rfl, hw2⟩
set_option maxRecDepth 100000 in
theorem tlen_any (b : Nat) (q : Option Addr) (t : Tr) (w : World) (hb : Blk w b #[.pointer q] 75) (h : HF w t q) : Calls Tryd.prog 11 #[.pointer (some ⟨b, 0, none⟩)] w fun e w' => e = .returned (.int .i64 t.cnt) ∧ w' = w := by
  have H1 := top_any b q w hb
  have H2 := count_any t q w h
  go_enter Tryd.func11, Tryd.ntmps11
  go_wp2_with (first
    | (go_at_call 38; refine H1.mono ?_; rintro e w1 ⟨rfl, hw1⟩; have hw1 := hw1.symm; subst hw1)
    | (go_at_call 39; refine H2.mono ?_; rintro e w2 ⟨rfl, hw2⟩; have hw2 := hw2.symm; subst hw2))
  go_ret
  exact ⟨rfl, rfl⟩
theorem zLa : (∀ w, (zeroValue 46).run Tryd.prog w = .ok (.agg #[.string ⟨#[]⟩, .string ⟨#[]⟩]) w) ∧ (Tryd.prog.info? 46).map (·.size) = some 2 := zero_of_info (by kernel_rfl)
set_option maxRecDepth 100000 in
set_option maxHeartbeats 4000000 in
theorem tput_any (b : Nat) (q : Option Addr) (t : Tr) (k v : List UInt8) (w : World) (hG : Glob w) (hb : Blk w b #[.pointer q] 75) (h : HF w t q) (hc : Tr.Canon 0 t) (hn : t.cnt ≤ 1000) (hk : k.length ≤ 1000) (hv : v.length ≤ 1000) :
    Calls Tryd.prog 16 #[.pointer (some ⟨b, 0, none⟩), .string ⟨k.toArray⟩, .string ⟨v.toArray⟩] w fun e w' => e = .returned (.int .i64 0) ∧ ∃ q', Blk w' b #[.pointer q'] 75 ∧ HF w' (Tr.put 256 0 t (ofD TgD k v)) q' ∧ w.grownBy w' (some b) := by
  have HP := fun w1 (hG : Glob w1) => spath_any k w1 hG (by omega)
  have HV := fun w1 (hG : Glob w1) => sval_any v w1 hG (by omega)
  obtain ⟨x, hx⟩ : ∃ x, ofD TgD k v = x := ⟨_, rfl⟩
  have hx1 : x.1.length = 32 := by rw [← hx]; exact TgD_len _ _
  have hx2 : x.2.length = 32 := by rw [← hx]; exact TgD_len _ _
  rw [show TgD 80 [k] = x.1 from by rw [← hx]; rfl] at HP
  rw [show TgD 86 [v] = x.2 from by rw [← hx]; rfl] at HV
  rw [hx]
  clear hx
  go_enter Tryd.func16, Tryd.ntmps16
  go_upto_region 4 with (first
    | (go_at_call 29; refine (HP _ hG).mono ?_; rintro e w1 ⟨rfl, hw1⟩)
    | (go_at_call 18; refine (HV _ (hG.belowSize hw1)).mono ?_; rintro e w2 ⟨rfl, hw2⟩; have hB2 := hw1.trans (hw2.mono hw1.size))
    | (with_reducible refine at_list ?_; first
      | (refine wpList_allocRow (op := ⟨some 7, _, _, _, _, _⟩) rfl _ rfl _ zLa.1 ?_; intro w3 hw3 hs3 hz3; replace hs3 := hs3.symm)
      | (refine wpList_storeRow (op := ⟨none, .store 46 (.tmp 7) (.tmp 14), _, _, _, _⟩) rfl _ _ _ rfl w2.heap.size #[.string ⟨x.1.toArray⟩, .string ⟨x.2.toArray⟩] rfl rfl _ _ hz3 (by simp) (by simpa using zLa.2) (by simp [Value.oneCell']) ?_; intro w4 hg4 hs4 hl4)))
  have hB3 := hB2.trans (hw3.mono hB2.size)
  have hB4 : Below w.heap.size w w4 := hB3.trans (below_of_grown hg4 hB2.size hB3.size)
  have hb4 := hb.belowSize hB4
  have h4 := h.below hB4
  have hG4 := hG.belowSize hB4
  obtain ⟨l4, hl4'⟩ : ∃ l4, w2.heap.size = l4 := ⟨_, rfl⟩
  rw [hl4'] at hl4
  rw [hl4']
  clear hz3 hg4 hs4 hs3 hw3 hB3 hw1 hw2 hB2 hl4' HP HV
  have HA := alone_any x w4.drew hG4.drew hx1 hx2
  have hS : ∀ {V : World}, Below w4.heap.size w4 V → V.cell? ⟨b, 0, none⟩ = some (.pointer q) ∧ V.cell? ⟨l4, 0, none⟩ = some (.string ⟨x.1.toArray⟩) ∧ V.cell? ⟨l4, 1, none⟩ = some (.string ⟨x.2.toArray⟩) := fun hV => ⟨blk1c (hb4.belowSize hV), (blk2c (hl4.belowSize hV)).1, (blk2c (hl4.belowSize hV)).2⟩
  have B0 : Below w4.heap.size w4 w4.drew := (Below.refl _ _).drew
  have s0 := hS B0
  refine wp_region_L (z := 12) (S := fun V => V.cell? ⟨b, 0, none⟩ = some (.pointer q) ∧ V.cell? ⟨l4, 0, none⟩ = some (.string ⟨x.1.toArray⟩) ∧ V.cell? ⟨l4, 1, none⟩ = some (.string ⟨x.2.toArray⟩)) (by kernel_rfl) ?_
  refine wpAnyL_take (i := 0) (oi := ⟨some 15, _, _, _, _, _⟩) (v := .pointer (some ⟨b, 0, none⟩)) rfl (by kernel_rfl) (by kernel_rfl) (by kernel_rfl) (by kernel_rfl) (fun _ _ _ h => h) (Or.inl ⟨by rfl, fun w hSw => by (go_simp; try rfl)⟩) s0 ?_
  refine wpAnyL_take (i := 1) (oi := ⟨some 16, _, _, _, _, _⟩) (v := .pointer (some ⟨b, 0, none⟩)) rfl (by kernel_rfl) (by kernel_rfl) (by kernel_rfl) (by kernel_rfl) (fun _ _ _ h => h) (Or.inl ⟨by rfl, fun w hSw => by (go_simp; try rfl)⟩) s0 ?_
  try simp only [Act.put, List.setIfInBounds_toArray, List.set_cons_zero, List.set_cons_succ]
  refine wpAnyL_take (i := 2) (oi := ⟨some 17, _, _, _, _, _⟩) (v := .pointer (some ⟨b, 0, none⟩)) rfl (by kernel_rfl) (by kernel_rfl) (by kernel_rfl) (by kernel_rfl) (fun _ _ _ h => h) (Or.inl ⟨by rfl, fun w hSw => by (go_simp; try rfl)⟩) s0 ?_
  try simp only [Act.put, List.setIfInBounds_toArray, List.set_cons_zero, List.set_cons_succ]
  refine wpAnyL_take (i := 3) (oi := ⟨some 18, _, _, _, _, _⟩) (v := .pointer (some ⟨b, 0, none⟩)) rfl (by kernel_rfl) (by kernel_rfl) (by kernel_rfl) (by kernel_rfl) (fun _ _ _ h => h) (Or.inl ⟨by rfl, fun w hSw => by (go_simp; try rfl)⟩) s0 ?_
  try simp only [Act.put, List.setIfInBounds_toArray, List.set_cons_zero, List.set_cons_succ]
  refine wpAnyL_take (i := 4) (oi := ⟨some 19, _, _, _, _, _⟩) (v := .pointer q) rfl (by kernel_rfl) (by kernel_rfl) (by kernel_rfl) (by kernel_rfl) (fun _ _ _ h => h) (Or.inl ⟨by rfl, fun w hSw => by (try dsimp only at hSw); obtain ⟨r0, r1, r2⟩ := hSw; go_simp⟩) s0 ?_
  refine wpAnyL_take (i := 5) (oi := ⟨some 20, _, _, _, _, _⟩) (v := .pointer (some ⟨l4, 0, none⟩)) rfl (by kernel_rfl) (by kernel_rfl) (by kernel_rfl) (by kernel_rfl) (fun _ _ _ h => h) (Or.inl ⟨by rfl, fun w hSw => by (go_simp; try rfl)⟩) s0 ?_
  try simp only [Act.put, List.setIfInBounds_toArray, List.set_cons_zero, List.set_cons_succ]
  refine wpAnyL_take (i := 6) (oi := ⟨some 21, _, _, _, _, _⟩) (v := .string ⟨x.1.toArray⟩) rfl (by kernel_rfl) (by kernel_rfl) (by kernel_rfl) (by kernel_rfl) (fun _ _ _ h => h) (Or.inl ⟨by rfl, fun w hSw => by (try dsimp only at hSw); obtain ⟨r0, r1, r2⟩ := hSw; go_simp⟩) s0 ?_
  refine wpAnyL_take (i := 7) (oi := ⟨some 22, _, _, _, _, _⟩) (v := .agg #[.string ⟨x.1.toArray⟩, .string ⟨x.2.toArray⟩]) rfl (by kernel_rfl) (by kernel_rfl) (by kernel_rfl) (by kernel_rfl) (fun _ _ _ h => h) (Or.inl ⟨by rfl, fun w hSw => by (try dsimp only at hSw); obtain ⟨r0, r1, r2⟩ := hSw; go_simp⟩) s0 ?_
  try simp only [Act.put, List.setIfInBounds_toArray, List.set_cons_zero, List.set_cons_succ]
  refine wpAnyL_one (i := 8) (o := ⟨some 23, .call ⟨.value (.func 43), #[.tmp 22], #[46]⟩, _, _, _, _⟩) rfl (by kernel_rfl) (fun K hK => ?_)
  rw [if_pos (by rfl)]
  go_simp
  refine (HA).mono ?_
  rintro e w5 ⟨qe, rfl, he5, hw5⟩
  have B5 := B0.trans (hw5.mono B0.size)
  have s5 := hS B5
  refine hK.out _ _ (fun _ => s5) ?_
  clear hK K
  try simp only [Act.put, List.setIfInBounds_toArray, List.set_cons_zero, List.set_cons_succ]
  try simp only [Act.put, List.setIfInBounds_toArray, List.set_cons_zero, List.set_cons_succ]
  refine wpAnyL_one (i := 9) (o := ⟨some 24, .call ⟨.value (.func 42), #[.tmp 19, .tmp 21, .tmp 23], #[71, 9, 71]⟩, _, _, _, _⟩) rfl (by kernel_rfl) (fun K hK => ?_)
  rw [if_pos (by rfl)]
  go_simp
  refine (hwith_any t (.lf x) q qe x.1 w5 (hG4.belowSize B5) (h4.below B5) he5 hx1 (by omega) (by show 1 ≤ 1000; omega)).mono ?_
  rintro e w6 ⟨q6, rfl, h6, hw6⟩
  have B6 := B5.trans (hw6.mono B5.size)
  have s6 := hS B6
  refine hK.out _ _ (fun _ => s6) ?_
  clear hK K
  try simp only [Act.put, List.setIfInBounds_toArray, List.set_cons_zero, List.set_cons_succ]
  try simp only [Act.put, List.setIfInBounds_toArray, List.set_cons_zero, List.set_cons_succ]
  refine wpAnyL_one (i := 10) (o := ⟨some 25, .nilCheck (.tmp 15), _, _, _, _⟩) rfl (by kernel_rfl) (fun K hK => ?_)
  rw [if_pos (by rfl)]
  go_simp
  refine hK.out _ _ (fun _ => s6) ?_
  clear hK K
  try simp only [Act.put, List.setIfInBounds_toArray, List.set_cons_zero, List.set_cons_succ]
  refine wpAnyL_one (i := 11) (o := ⟨some 26, .fieldAddr 75 (.tmp 25) 0, _, _, _, _⟩) rfl (by kernel_rfl) (fun K hK => ?_)
  rw [if_pos (by rfl)]
  go_simp
  refine hK.out _ _ (fun _ => s6) ?_
  clear hK K
  try simp only [Act.put, List.setIfInBounds_toArray, List.set_cons_zero, List.set_cons_succ]
  refine wpAnyL_one (i := 12) (o := ⟨none, .store 71 (.tmp 26) (.tmp 24), _, _, _, _⟩) rfl (by kernel_rfl) (fun K hK => ?_)
  rw [if_pos (by rfl)]
  have hb6 := hb4.belowSize B6
  have f6 := hb6.frozen 0
  obtain ⟨s60, _, _⟩ := s6
  go_simp
  refine hK.out _ _ (fun h => absurd rfl h) ?_
  clear hK K
  try simp only [Act.put, List.setIfInBounds_toArray, List.set_cons_zero, List.set_cons_succ]
  refine wpAnyL_done (by kernel_rfl) ?_ _
  go_wp2_with fail
  go_ret
  have hg := grown_setCell b (.pointer q6) 0 w6
  have hB9 := hB4.trans (B6.mono hB4.size)
  refine ⟨rfl, q6, hb6.setCell 0 (.pointer q6), ?_, grown_trans (grown_of_below hB9) hg⟩
  rw [← Tr.put_with 256 t 0 x rfl hc hx1 (fun _ _ j hj => absurd hj (Nat.not_lt_zero _))]
  exact h6.grown hg hb6 (by decide)
end Go.Proofs.YtmeolaeoaoldoaaDoor.Sh
namespace Go.Proofs.YtmeolaeoaoldoaaDoor.Sh
open Go Go.RowKit Go.Shelf
theorem del_none : ∀ {t : Tr} {f i : Nat} {p : List UInt8}, Tr.Canon i t → Tr.find i t p = none → Tr.del f i t p = t
  | .emp, f, _, _, _, _ => by cases f <;> rfl
  | .lf y, f, i, p, _, h => by
    have e : ¬ y.1 = p := fun e => by
      have : Tr.find i (.lf y) p = some y := if_pos e
      rw [this] at h
      cases h
    have e2 : Tr.del f i (.lf y) p = if y.1 = p then .emp else .lf y := by cases f <;> rfl
    rw [e2, if_neg e]
  | .nd l r, 0, _, _, _, _ => rfl
  | .nd l r, f + 1, i, p, hc, h => by
    have hj : Tr.join l r = .nd l r := by
      rw [← Tr.joinG_join hc.2.1 hc.2.2.1]
      exact Tr.joinG_two hc.2.2.2.2.2
    show (if bitD p i = 0 then Tr.join (Tr.del f (i + 1) l p) r else Tr.join l (Tr.del f (i + 1) r p)) = _
    by_cases hb : bitD p i = 0
    · have h1 : Tr.find (i + 1) l p = none := by rw [← h]; exact (if_pos hb).symm
      rw [if_pos hb, del_none hc.2.1 h1, hj]
    · have h1 : Tr.find (i + 1) r p = none := by rw [← h]; exact (if_neg hb).symm
      rw [if_neg hb, del_none hc.2.2.1 h1, hj]
theorem FE.at {t u : Tr} {p : List UInt8} {bs : List (List UInt8)} (h : FE t p u bs) : (Tr.find 0 t p).isSome = isAtT p u := by
  rw [h.find]
  have hl := h.lone
  cases u with
  | emp => rfl
  | lf x =>
    show (if (x.1 == p) = true then some x else none).isSome = (x.1 == p)
    cases (x.1 == p) <;> rfl
  | nd l r => cases hl
set_option maxRecDepth 100000 in
set_option maxHeartbeats 4000000 in
theorem tdel_any (b : Nat) (q : Option Addr) (t : Tr) (k : List UInt8) (w : World) (hG : Glob w) (hb : Blk w b #[.pointer q] 75) (h : HF w t q) (hc : Tr.Canon 0 t) (hn : t.cnt ≤ 1000) (hk : k.length ≤ 1000) :
    Calls Tryd.prog 26 #[.pointer (some ⟨b, 0, none⟩), .string ⟨k.toArray⟩] w fun e w' => e = .returned (.bool (Tr.find 0 t (TgD 80 [k])).isSome) ∧ ∃ q', Blk w' b #[.pointer q'] 75 ∧ HF w' (Tr.del 256 0 t (TgD 80 [k])) q' ∧ w.grownBy w' (some b) := by
  have HP := spath_any k w hG (by omega)
  have hp : (TgD 80 [k]).length = 32 := TgD_len _ _
  generalize TgD 80 [k] = p at *
  have H1 := fun w1 (hw : Below w.heap.size w w1) => top_any b q w1 (hb.belowSize hw)
  have H2 := fun w1 (hw : Below w.heap.size w w1) => find_any t q p w1 (h.below hw) hc hp (by omega)
  have H3 := fun w1 u qu (hu : HF w1 u qu) (h1 : u.cnt ≤ 1) => isLeaf_any u qu p w1 hu (by omega)
  have HW := fun w1 (hw : Below w.heap.size w w1) => hwith_any t .emp q none p w1 (hG.belowSize hw) (h.below hw) rfl hp hn (by decide)
  have hnone : Hid (Tr.find 0 t p = none → Tr.del 256 0 t p = t) := fun e => del_none hc e
  have hwd : Hid (Tr.withT p .emp 256 0 t = Tr.del 256 0 t p) := Tr.del_with 256 t 0 p rfl hc hp (fun _ _ j hj => absurd hj (Nat.not_lt_zero _))
  go_enter Tryd.func26, Tryd.ntmps26
  go_upto_region 3 with (first
    | (go_at_call 29; refine HP.mono ?_; rintro e w1 ⟨rfl, hw1⟩)
    | (go_at_call 38; refine (H1 _ hw1).mono ?_; rintro e w2 ⟨rfl, hw2⟩; have hw2 := hw2.symm; subst hw2)
    | (go_at_call 44; refine (H2 _ hw1).mono ?_; rintro e w3 ⟨a3, c3, bs, u, qu, rfl, hX, hXg, hu, hu1, hE, hw3⟩; have hB3 := hw1.trans (hw3.mono hw1.size); have hfi := hE.at; have hu3 := hu.below hw3))
  replace H3 := H3 _ _ _ hu3 hu1
  have hb3 := hb.belowSize hB3
  cases hat : isAtT p u
  · rw [hat] at H3 hfi
    go_wp2_with (go_at_call 45; refine H3.mono ?_; rintro e w4 ⟨rfl, hw4⟩; have hw4 := hw4.symm; subst hw4)
    go_ret
    refine ⟨by rw [hfi]; rfl, q, hb3, ?_, grown_of_below hB3⟩
    rw [hnone.out (Option.isSome_eq_false_iff.1 hfi |> Option.isNone_iff_eq_none.1)]
    exact h.below hB3
  · rw [hat] at H3 hfi
    have c3b := blk1c hb3
    replace HW := HW _ hB3
    go_wp2_with (first
      | (go_at_call 45; refine H3.mono ?_; rintro e w4 ⟨rfl, hw4⟩; have hw4 := hw4.symm; subst hw4)
      | (go_at_call 42; refine HW.mono ?_; rintro e w5 ⟨q5, rfl, h5, hw5⟩; have hb5 := hb3.belowSize hw5; have c5b := blk1c hb5; have f5 := hb5.frozen 0))
    go_ret
    have hB5 := hB3.trans (hw5.mono hB3.size)
    have hg := grown_setCell b (.pointer q5) 0 w5
    refine ⟨by rw [hfi]; rfl, q5, hb5.setCell 0 (.pointer q5), ?_, grown_trans (grown_of_below hB5) hg⟩
    rw [← hwd.out]
    exact h5.grown hg hb5 (by decide)
/-- What Get leaves. -/
def GetP (o : Option LF) (w : World) (e : Ending) (w' : World) : Prop := (match o with
  | some x => e = .returned (.tuple #[.string ⟨x.2.toArray⟩, .bool true])
  | none => e = .returned (.tuple #[.string ⟨#[]⟩, .bool false])) ∧ Below w.heap.size w w'
set_option maxRecDepth 100000 in
set_option maxHeartbeats 4000000 in
theorem tget_any (b : Nat) (q : Option Addr) (t : Tr) (k : List UInt8) (w : World) (hG : Glob w) (hb : Blk w b #[.pointer q] 75) (h : HF w t q) (hc : Tr.Canon 0 t) (hn : t.cnt ≤ 1000) (hk : k.length ≤ 1000) :
    Calls Tryd.prog 17 #[.pointer (some ⟨b, 0, none⟩), .string ⟨k.toArray⟩] w (GetP (Tr.find 0 t (TgD 80 [k])) w) := by
  have HP := spath_any k w hG (by omega)
  have hp : (TgD 80 [k]).length = 32 := TgD_len _ _
  generalize TgD 80 [k] = p at *
  have H1 := fun w1 (hw : Below w.heap.size w w1) => top_any b q w1 (hb.belowSize hw)
  have H2 := fun w1 (hw : Below w.heap.size w w1) => find_any t q p w1 (h.below hw) hc hp (by omega)
  have H3 := fun w1 u qu (hu : HF w1 u qu) (h1 : u.cnt ≤ 1) => isLeaf_any u qu p w1 hu (by omega)
  go_enter Tryd.func17, Tryd.ntmps17
  go_upto_region 3 with (first
    | (go_at_call 29; refine HP.mono ?_; rintro e w1 ⟨rfl, hw1⟩)
    | (go_at_call 38; refine (H1 _ hw1).mono ?_; rintro e w2 ⟨rfl, hw2⟩; have hw2 := hw2.symm; subst hw2)
    | (go_at_call 44; refine (H2 _ hw1).mono ?_; rintro e w3 ⟨a3, c3, bs, u, qu, rfl, hX, hXg, hu, hu1, hE, hw3⟩; have hB3 := hw1.trans (hw3.mono hw1.size); have hfi := hE.at; have hu3 := hu.below hw3))
  replace H3 := H3 _ _ _ hu3 hu1
  have hfin := hE.find
  cases hat : isAtT p u
  · rw [hat] at H3
    rw [hat, if_neg (by decide)] at hfin
    go_wp2_with (go_at_call 45; refine H3.mono ?_; rintro e w4 ⟨rfl, hw4⟩; have hw4 := hw4.symm; subst hw4)
    go_ret2
    rw [hfin]
    exact ⟨rfl, hB3⟩
  · rw [hat] at H3
    rw [hat, if_pos rfl] at hfin
    cases u with
    | emp => cases hat
    | nd l r => cases hat
    | lf x =>
      replace hfin : Tr.find 0 t p = some x := hfin
      obtain ⟨bu, rfl, hbu, _⟩ := hu3
      obtain ⟨_, _, _, d3, _⟩ := half_cells hbu
      go_wp2_with (go_at_call 45; refine H3.mono ?_; rintro e w4 ⟨rfl, hw4⟩; have hw4 := hw4.symm; subst hw4)
      go_ret2
      rw [hfin]
      exact ⟨rfl, hB3⟩
end Go.Proofs.YtmeolaeoaoldoaaDoor.Sh
