/- A tree in memory: New, topOf, Root, Len, Put. A tree in memory: Delete, Get, Prove, Clone. A tree in memory: Prove, Clone. Transactions done one behind another, plainly: the state and the sparse tree behind them, those that were done, what each was told; how large all of it is. -/
import Derived.Test.YtmbdhngoldganaaGreatDoorSwi
import Derived.Test.YtmbdhngoldganaaGreatDoorEnc
namespace Go.Proofs.YtmbdhngoldganaaGreatDoor.Sh
open Go Go.RowKit Go.Shelf
set_option maxRecDepth 100000 in
theorem top_any (b : Nat) (q : Option Addr) (w : World) (hb : Blk w b #[.pointer q] 215) : Calls Tryz.prog 122 #[.pointer (some ⟨b, 0, none⟩)] w fun e w' => e = .returned (.pointer q) ∧ w' = w := by
  have hc := blk1c hb
  go_enter Tryz.func122, Tryz.ntmps122
  go_wp2_with fail
  go_ret
  exact ⟨rfl, rfl⟩
set_option maxRecDepth 100000 in
theorem tnew_any (w : World) : Calls Tryz.prog 98 #[] w fun e w' => e = .returned (.pointer (some ⟨w.heap.size, 0, none⟩)) ∧ Blk w' w.heap.size #[.pointer none] 215 ∧ Below w.heap.size w w' := by
  go_enter Tryz.func98, Tryz.ntmps98
  go_wp2_with fail
  go_ret
  exact ⟨rfl, Blk.new _ _ _, (Below.refl _ _).alloc (Nat.le_refl _) _⟩
set_option maxRecDepth 100000 in
theorem troot_any (b : Nat) (q : Option Addr) (t : Tr) (w : World) (hb : Blk w b #[.pointer q] 215) (h : HF w t q) : Calls Tryz.prog 108 #[.pointer (some ⟨b, 0, none⟩)] w fun e w' => e = .returned (.string ⟨(t.hash TgD).toArray⟩) ∧ Below w.heap.size w w' := by
  have H1 := top_any b q w hb
  have H2 := hhash_any t q w h
  generalize t.hash TgD = R at *
  go_enter Tryz.func108, Tryz.ntmps108
  go_wp2_with (first
    | (go_at_call 122; refine H1.mono ?_; rintro e w1 ⟨rfl, hw1⟩; have hw1 := hw1.symm; subst hw1)
    | (go_at_call 148; refine H2.mono ?_; rintro e w2 ⟨rfl, hw2⟩))
  go_ret
  exact ⟨rfl, hw2⟩
theorem zLa : (∀ w, (zeroValue 75).run Tryz.prog w = .ok (.agg #[.string ⟨#[]⟩, .string ⟨#[]⟩]) w) ∧ (Tryz.prog.info? 75).map (·.size) = some 2 := zero_of_info (by kernel_rfl)
set_option maxRecDepth 100000 in
set_option maxHeartbeats 4000000 in
theorem tput_any (b : Nat) (q : Option Addr) (t : Tr) (k v : List UInt8) (w : World) (hG : Glob w) (hb : Blk w b #[.pointer q] 215) (h : HF w t q) (hc : Tr.Canon 0 t) (hn : t.cnt ≤ 3500) (hk : k.length ≤ 1000) (hv : v.length ≤ 1000) :
    Calls Tryz.prog 99 #[.pointer (some ⟨b, 0, none⟩), .string ⟨k.toArray⟩, .string ⟨v.toArray⟩] w fun e w' => e = .returned (.int .i64 0) ∧ ∃ q', Blk w' b #[.pointer q'] 215 ∧ HF w' (Tr.put 256 0 t (ofD TgD k v)) q' ∧ w.grownBy w' (some b) := by
  have HP := fun w1 (hG : Glob w1) => spath_any k w1 hG (by omega)
  have HV := fun w1 (hG : Glob w1) => sval_any v w1 hG (by omega)
  obtain ⟨x, hx⟩ : ∃ x, ofD TgD k v = x := ⟨_, rfl⟩
  have hx1 : x.1.length = 32 := by rw [← hx]; exact TgD_len _ _
  have hx2 : x.2.length = 32 := by rw [← hx]; exact TgD_len _ _
  rw [show TgD 80 [k] = x.1 from by rw [← hx]; rfl] at HP
  rw [show TgD 86 [v] = x.2 from by rw [← hx]; rfl] at HV
  rw [hx]
  clear hx
  go_enter Tryz.func99, Tryz.ntmps99
  go_upto_region 4 with (first
    | (go_at_call 124; refine (HP _ hG).mono ?_; rintro e w1 ⟨rfl, hw1⟩)
    | (go_at_call 138; refine (HV _ (hG.belowSize hw1)).mono ?_; rintro e w2 ⟨rfl, hw2⟩; have hB2 := hw1.trans (hw2.mono hw1.size))
    | (with_reducible refine at_list ?_; first
      | (refine wpList_allocRow (op := ⟨some 7, _, _, _, _, _⟩) rfl _ rfl _ zLa.1 ?_; intro w3 hw3 hs3 hz3; replace hs3 := hs3.symm)
      | (refine wpList_storeRow (op := ⟨none, .store 75 (.tmp 7) (.tmp 14), _, _, _, _⟩) rfl _ _ _ rfl w2.heap.size #[.string ⟨x.1.toArray⟩, .string ⟨x.2.toArray⟩] rfl rfl _ _ hz3 (by simp) (by simpa using zLa.2) (by simp [Value.oneCell']) ?_; intro w4 hg4 hs4 hl4)))
  have hB3 := hB2.trans (hw3.mono hB2.size)
  have hB4 : Below w.heap.size w w4 := hB3.trans (below_of_grown hg4 hB2.size hB3.size)
  have hb4 := hb.belowSize hB4
  have h4 := h.below hB4
  have hG4 := hG.belowSize hB4
  obtain ⟨l4, hl4'⟩ : ∃ l4, w2.heap.size = l4 := ⟨_, rfl⟩
  rw [hl4'] at hl4
  rw [hl4']
  clear hz3 hg4 hs4 hs3 hw3 hB3 hw1 hw2 hB2 hl4' HP HV
  have HA := alone_any x w4.drew hG4.drew hx1 hx2
  have hS : ∀ {V : World}, Below w4.heap.size w4 V → V.cell? ⟨b, 0, none⟩ = some (.pointer q) ∧ V.cell? ⟨l4, 0, none⟩ = some (.string ⟨x.1.toArray⟩) ∧ V.cell? ⟨l4, 1, none⟩ = some (.string ⟨x.2.toArray⟩) := fun hV => ⟨blk1c (hb4.belowSize hV), (blk2c (hl4.belowSize hV)).1, (blk2c (hl4.belowSize hV)).2⟩
  have B0 : Below w4.heap.size w4 w4.drew := (Below.refl _ _).drew
  have s0 := hS B0
  refine wp_region_L (z := 12) (S := fun V => V.cell? ⟨b, 0, none⟩ = some (.pointer q) ∧ V.cell? ⟨l4, 0, none⟩ = some (.string ⟨x.1.toArray⟩) ∧ V.cell? ⟨l4, 1, none⟩ = some (.string ⟨x.2.toArray⟩)) (by kernel_rfl) ?_
  refine wpAnyL_take (i := 0) (oi := ⟨some 15, _, _, _, _, _⟩) (v := .pointer (some ⟨b, 0, none⟩)) rfl (by kernel_rfl) (by kernel_rfl) (by kernel_rfl) (by kernel_rfl) (fun _ _ _ h => h) (Or.inl ⟨by rfl, fun w hSw => by (go_simp; try rfl)⟩) s0 ?_
  refine wpAnyL_take (i := 1) (oi := ⟨some 16, _, _, _, _, _⟩) (v := .pointer (some ⟨b, 0, none⟩)) rfl (by kernel_rfl) (by kernel_rfl) (by kernel_rfl) (by kernel_rfl) (fun _ _ _ h => h) (Or.inl ⟨by rfl, fun w hSw => by (go_simp; try rfl)⟩) s0 ?_
  try simp only [Act.put, List.setIfInBounds_toArray, List.set_cons_zero, List.set_cons_succ]
  refine wpAnyL_take (i := 2) (oi := ⟨some 17, _, _, _, _, _⟩) (v := .pointer (some ⟨b, 0, none⟩)) rfl (by kernel_rfl) (by kernel_rfl) (by kernel_rfl) (by kernel_rfl) (fun _ _ _ h => h) (Or.inl ⟨by rfl, fun w hSw => by (go_simp; try rfl)⟩) s0 ?_
  try simp only [Act.put, List.setIfInBounds_toArray, List.set_cons_zero, List.set_cons_succ]
  refine wpAnyL_take (i := 3) (oi := ⟨some 18, _, _, _, _, _⟩) (v := .pointer (some ⟨b, 0, none⟩)) rfl (by kernel_rfl) (by kernel_rfl) (by kernel_rfl) (by kernel_rfl) (fun _ _ _ h => h) (Or.inl ⟨by rfl, fun w hSw => by (go_simp; try rfl)⟩) s0 ?_
  try simp only [Act.put, List.setIfInBounds_toArray, List.set_cons_zero, List.set_cons_succ]
  refine wpAnyL_take (i := 4) (oi := ⟨some 19, _, _, _, _, _⟩) (v := .pointer q) rfl (by kernel_rfl) (by kernel_rfl) (by kernel_rfl) (by kernel_rfl) (fun _ _ _ h => h) (Or.inl ⟨by rfl, fun w hSw => by (try dsimp only at hSw); obtain ⟨r0, r1, r2⟩ := hSw; go_simp⟩) s0 ?_
  refine wpAnyL_take (i := 5) (oi := ⟨some 20, _, _, _, _, _⟩) (v := .pointer (some ⟨l4, 0, none⟩)) rfl (by kernel_rfl) (by kernel_rfl) (by kernel_rfl) (by kernel_rfl) (fun _ _ _ h => h) (Or.inl ⟨by rfl, fun w hSw => by (go_simp; try rfl)⟩) s0 ?_
  try simp only [Act.put, List.setIfInBounds_toArray, List.set_cons_zero, List.set_cons_succ]
  refine wpAnyL_take (i := 6) (oi := ⟨some 21, _, _, _, _, _⟩) (v := .string ⟨x.1.toArray⟩) rfl (by kernel_rfl) (by kernel_rfl) (by kernel_rfl) (by kernel_rfl) (fun _ _ _ h => h) (Or.inl ⟨by rfl, fun w hSw => by (try dsimp only at hSw); obtain ⟨r0, r1, r2⟩ := hSw; go_simp⟩) s0 ?_
  refine wpAnyL_take (i := 7) (oi := ⟨some 22, _, _, _, _, _⟩) (v := .agg #[.string ⟨x.1.toArray⟩, .string ⟨x.2.toArray⟩]) rfl (by kernel_rfl) (by kernel_rfl) (by kernel_rfl) (by kernel_rfl) (fun _ _ _ h => h) (Or.inl ⟨by rfl, fun w hSw => by (try dsimp only at hSw); obtain ⟨r0, r1, r2⟩ := hSw; go_simp⟩) s0 ?_
  try simp only [Act.put, List.setIfInBounds_toArray, List.set_cons_zero, List.set_cons_succ]
  refine wpAnyL_one (i := 8) (o := ⟨some 23, .call ⟨.value (.func 140), #[.tmp 22], #[75]⟩, _, _, _, _⟩) rfl (by kernel_rfl) (fun K hK => ?_)
  rw [if_pos (by rfl)]
  go_simp
  refine (HA).mono ?_
  rintro e w5 ⟨qe, rfl, he5, hw5⟩
  have B5 := B0.trans (hw5.mono B0.size)
  have s5 := hS B5
  refine hK.out _ _ (fun _ => s5) ?_
  clear hK K
  try simp only [Act.put, List.setIfInBounds_toArray, List.set_cons_zero, List.set_cons_succ]
  try simp only [Act.put, List.setIfInBounds_toArray, List.set_cons_zero, List.set_cons_succ]
  refine wpAnyL_one (i := 9) (o := ⟨some 24, .call ⟨.value (.func 139), #[.tmp 19, .tmp 21, .tmp 23], #[190, 9, 190]⟩, _, _, _, _⟩) rfl (by kernel_rfl) (fun K hK => ?_)
  rw [if_pos (by rfl)]
  go_simp
  refine (hwith_any t (.lf x) q qe x.1 w5 (hG4.belowSize B5) (h4.below B5) he5 hx1 (by omega) (by show 1 ≤ 3500; omega)).mono ?_
  rintro e w6 ⟨q6, rfl, h6, hw6⟩
  have B6 := B5.trans (hw6.mono B5.size)
  have s6 := hS B6
  refine hK.out _ _ (fun _ => s6) ?_
  clear hK K
  try simp only [Act.put, List.setIfInBounds_toArray, List.set_cons_zero, List.set_cons_succ]
  try simp only [Act.put, List.setIfInBounds_toArray, List.set_cons_zero, List.set_cons_succ]
  refine wpAnyL_one (i := 10) (o := ⟨some 25, .nilCheck (.tmp 15), _, _, _, _⟩) rfl (by kernel_rfl) (fun K hK => ?_)
  rw [if_pos (by rfl)]
  go_simp
  refine hK.out _ _ (fun _ => s6) ?_
  clear hK K
  try simp only [Act.put, List.setIfInBounds_toArray, List.set_cons_zero, List.set_cons_succ]
  refine wpAnyL_one (i := 11) (o := ⟨some 26, .fieldAddr 215 (.tmp 25) 0, _, _, _, _⟩) rfl (by kernel_rfl) (fun K hK => ?_)
  rw [if_pos (by rfl)]
  go_simp
  refine hK.out _ _ (fun _ => s6) ?_
  clear hK K
  try simp only [Act.put, List.setIfInBounds_toArray, List.set_cons_zero, List.set_cons_succ]
  refine wpAnyL_one (i := 12) (o := ⟨none, .store 190 (.tmp 26) (.tmp 24), _, _, _, _⟩) rfl (by kernel_rfl) (fun K hK => ?_)
  rw [if_pos (by rfl)]
  have hb6 := hb4.belowSize B6
  have f6 := hb6.frozen 0
  obtain ⟨s60, _, _⟩ := s6
  go_simp
  refine hK.out _ _ (fun h => absurd rfl h) ?_
  clear hK K
  try simp only [Act.put, List.setIfInBounds_toArray, List.set_cons_zero, List.set_cons_succ]
  refine wpAnyL_done (by kernel_rfl) ?_ _
  go_wp2_with fail
  go_ret
  have hg := grown_setCell b (.pointer q6) 0 w6
  have hB9 := hB4.trans (B6.mono hB4.size)
  refine ⟨rfl, q6, hb6.setCell 0 (.pointer q6), ?_, grown_trans (grown_of_below hB9) hg⟩
  rw [← Tr.put_with 256 t 0 x rfl hc hx1 (fun _ _ j hj => absurd hj (Nat.not_lt_zero _))]
  exact h6.grown hg hb6 (by decide)
end Go.Proofs.YtmbdhngoldganaaGreatDoor.Sh
namespace Go.Proofs.YtmbdhngoldganaaGreatDoor.Sh
open Go Go.RowKit Go.Shelf
theorem del_none : ∀ {t : Tr} {f i : Nat} {p : List UInt8}, Tr.Canon i t → Tr.find i t p = none → Tr.del f i t p = t
  | .emp, f, _, _, _, _ => by cases f <;> rfl
  | .lf y, f, i, p, _, h => by
    have e : ¬ y.1 = p := fun e => by
      have : Tr.find i (.lf y) p = some y := if_pos e
      rw [this] at h
      cases h
    have e2 : Tr.del f i (.lf y) p = if y.1 = p then .emp else .lf y := by cases f <;> rfl
    rw [e2, if_neg e]
  | .nd l r, 0, _, _, _, _ => rfl
  | .nd l r, f + 1, i, p, hc, h => by
    have hj : Tr.join l r = .nd l r := by
      rw [← Tr.joinG_join hc.2.1 hc.2.2.1]
      exact Tr.joinG_two hc.2.2.2.2.2
    show (if bitD p i = 0 then Tr.join (Tr.del f (i + 1) l p) r else Tr.join l (Tr.del f (i + 1) r p)) = _
    by_cases hb : bitD p i = 0
    · have h1 : Tr.find (i + 1) l p = none := by rw [← h]; exact (if_pos hb).symm
      rw [if_pos hb, del_none hc.2.1 h1, hj]
    · have h1 : Tr.find (i + 1) r p = none := by rw [← h]; exact (if_neg hb).symm
      rw [if_neg hb, del_none hc.2.2.1 h1, hj]
theorem FE.at {t u : Tr} {p : List UInt8} {bs : List (List UInt8)} (h : FE t p u bs) : (Tr.find 0 t p).isSome = isAtT p u := by
  rw [h.find]
  have hl := h.lone
  cases u with
  | emp => rfl
  | lf x =>
    show (if (x.1 == p) = true then some x else none).isSome = (x.1 == p)
    cases (x.1 == p) <;> rfl
  | nd l r => cases hl
set_option maxRecDepth 100000 in
set_option maxHeartbeats 4000000 in
theorem tdel_any (b : Nat) (q : Option Addr) (t : Tr) (k : List UInt8) (w : World) (hG : Glob w) (hb : Blk w b #[.pointer q] 215) (h : HF w t q) (hc : Tr.Canon 0 t) (hn : t.cnt ≤ 3500) (hk : k.length ≤ 1000) :
    Calls Tryz.prog 178 #[.pointer (some ⟨b, 0, none⟩), .string ⟨k.toArray⟩] w fun e w' => e = .returned (.bool (Tr.find 0 t (TgD 80 [k])).isSome) ∧ ∃ q', Blk w' b #[.pointer q'] 215 ∧ HF w' (Tr.del 256 0 t (TgD 80 [k])) q' ∧ w.grownBy w' (some b) := by
  have HP := spath_any k w hG (by omega)
  have hp : (TgD 80 [k]).length = 32 := TgD_len _ _
  generalize TgD 80 [k] = p at *
  have H1 := fun w1 (hw : Below w.heap.size w w1) => top_any b q w1 (hb.belowSize hw)
  have H2 := fun w1 (hw : Below w.heap.size w w1) => find_any t q p w1 (h.below hw) hc hp (by omega)
  have H3 := fun w1 u qu (hu : HF w1 u qu) (h1 : u.cnt ≤ 1) => isLeaf_any u qu p w1 hu (by omega)
  have HW := fun w1 (hw : Below w.heap.size w w1) => hwith_any t .emp q none p w1 (hG.belowSize hw) (h.below hw) rfl hp hn (by decide)
  have hnone : Hid (Tr.find 0 t p = none → Tr.del 256 0 t p = t) := fun e => del_none hc e
  have hwd : Hid (Tr.withT p .emp 256 0 t = Tr.del 256 0 t p) := Tr.del_with 256 t 0 p rfl hc hp (fun _ _ j hj => absurd hj (Nat.not_lt_zero _))
  go_enter Tryz.func178, Tryz.ntmps178
  go_upto_region 3 with (first
    | (go_at_call 124; refine HP.mono ?_; rintro e w1 ⟨rfl, hw1⟩)
    | (go_at_call 122; refine (H1 _ hw1).mono ?_; rintro e w2 ⟨rfl, hw2⟩; have hw2 := hw2.symm; subst hw2)
    | (go_at_call 123; refine (H2 _ hw1).mono ?_; rintro e w3 ⟨a3, c3, bs, u, qu, rfl, hX, hXg, hu, hu1, hE, hw3⟩; have hB3 := hw1.trans (hw3.mono hw1.size); have hfi := hE.at; have hu3 := hu.below hw3))
  replace H3 := H3 _ _ _ hu3 hu1
  have hb3 := hb.belowSize hB3
  cases hat : isAtT p u
  · rw [hat] at H3 hfi
    go_wp2_with (go_at_call 165; refine H3.mono ?_; rintro e w4 ⟨rfl, hw4⟩; have hw4 := hw4.symm; subst hw4)
    go_ret
    refine ⟨by rw [hfi]; rfl, q, hb3, ?_, grown_of_below hB3⟩
    rw [hnone.out (Option.isSome_eq_false_iff.1 hfi |> Option.isNone_iff_eq_none.1)]
    exact h.below hB3
  · rw [hat] at H3 hfi
    have c3b := blk1c hb3
    replace HW := HW _ hB3
    go_wp2_with (first
      | (go_at_call 165; refine H3.mono ?_; rintro e w4 ⟨rfl, hw4⟩; have hw4 := hw4.symm; subst hw4)
      | (go_at_call 139; refine HW.mono ?_; rintro e w5 ⟨q5, rfl, h5, hw5⟩; have hb5 := hb3.belowSize hw5; have c5b := blk1c hb5; have f5 := hb5.frozen 0))
    go_ret
    have hB5 := hB3.trans (hw5.mono hB3.size)
    have hg := grown_setCell b (.pointer q5) 0 w5
    refine ⟨by rw [hfi]; rfl, q5, hb5.setCell 0 (.pointer q5), ?_, grown_trans (grown_of_below hB5) hg⟩
    rw [← hwd.out]
    exact h5.grown hg hb5 (by decide)
end Go.Proofs.YtmbdhngoldganaaGreatDoor.Sh
namespace Go.Proofs.YtmbdhngoldganaaGreatDoor.Sh
open Go Go.RowKit Go.Shelf
set_option maxRecDepth 100000 in
theorem tclone_any (b : Nat) (q : Option Addr) (w : World) (hb : Blk w b #[.pointer q] 215) : Calls Tryz.prog 119 #[.pointer (some ⟨b, 0, none⟩)] w fun e w' => e = .returned (.pointer (some ⟨w.heap.size, 0, none⟩)) ∧ Blk w' w.heap.size #[.pointer q] 215 ∧ Below w.heap.size w w' := by
  have hc := blk1c hb
  go_enter Tryz.func119, Tryz.ntmps119
  go_wp2_with fail
  go_ret
  exact ⟨rfl, Blk.new _ _ _, (Below.refl _ _).alloc (Nat.le_refl _) _⟩
end Go.Proofs.YtmbdhngoldganaaGreatDoor.Sh
namespace Go.Proofs.YtmbdhngoldganaaGreatDoor
open Go
theorem mem_ins {x p : KV} : ∀ {m : List KV}, p ∈ insM x m → p = x ∨ p ∈ m
  | [], h => by simp [insM] at h; exact .inl h
  | y :: r, h => by
    unfold insM at h
    split at h
    · rcases List.mem_cons.1 h with h | h
      · exact .inl h
      · exact .inr h
    · rcases List.mem_cons.1 h with h | h
      · exact .inr (by rw [h]; exact List.mem_cons_self)
      · rcases mem_ins h with h | h
        · exact .inl h
        · exact .inr (List.mem_cons_of_mem _ h)
theorem mem_put {k v : List UInt8} {p : KV} {m : List KV} (h : p ∈ putM k v m) : p = (k, v) ∨ p ∈ m := by
  rcases mem_ins h with h | h
  · exact .inl h
  · exact .inr (List.mem_filter.1 h).1
/-- How large a state's texts are. -/
def Ech (m : List KV) : Prop := ∀ p ∈ m, p.1.length ≤ 33 ∧ p.2.length ≤ 64
theorem Ech.do {m : List KV} (h : Ech m) {o : O} (ho : OkO o) : Ech (doM m o) := by
  unfold doM
  split
  · intro p hp
    rcases mem_put hp with rfl | hp
    · have h2 := ho.key1
      have h3 := ho.val1
      exact ⟨by rw [kOf_length]; omega, h3⟩
    · exact h p hp
  · split
    · exact fun p hp => h p (List.mem_filter.1 hp).1
    · exact h
theorem Ech.run {m : List KV} (h : Ech m) : ∀ {l : List O} {mm : List KV}, (∀ o ∈ l, OkO o) → runM m l = some mm → Ech mm := by
  intro l
  unfold runM
  induction l generalizing m with
  | nil => intro mm _ e; simp at e; subst e; exact h
  | cons o r ih =>
    intro mm hl e
    rw [List.foldl_cons] at e
    change r.foldl _ (stepM m o) = _ at e
    by_cases ha : agM m o = true
    · rw [show stepM m o = some (doM m o) from if_pos ha] at e
      exact ih (h.do (hl o List.mem_cons_self)) (fun x hx => hl x (List.mem_cons_of_mem _ hx)) e
    · rw [show stepM m o = none from if_neg ha, foldl_none r] at e
      cases e
/-- What a state may be. -/
structure Sz (m : List KV) : Prop where
  len : m.length ≤ 1024
  each : Ech m
theorem Sz.nil : Sz [] := ⟨by simp, fun p hp => nomatch hp⟩
theorem Sz.apply {m : List KV} (h : Sz m) (t : TX) : Sz (apM m t) := by
  by_cases he : apE m t = 0
  · have hok : okTx t = true := Classical.byContradiction fun k => by rw [apE_not k] at he; cases he
    have hn : t.nonce - 1 = lastM m t.client := Classical.byContradiction fun k => by rw [apE_nonce hok k] at he; cases he
    cases hr : runM m t.ops with
    | none => rw [apE_check hok hn hr] at he; cases he
    | some mm =>
      have hlen : ¬ 1024 < (endM t mm).length := fun k => by rw [apE_room hok hn hr k] at he; cases he
      rw [apM_ok he hr]
      refine ⟨by omega, fun p hp => ?_⟩
      rcases mem_put hp with rfl | hp
      · exact ⟨by rw [nOf_length]; decide, by rw [lastB_length]; decide⟩
      · exact h.each.run (fun o ho => (okTx_of hok).okO ho) hr p hp
  · rw [apM_err he]
    exact h
theorem Sz.val {m : List KV} (h : Sz m) (k : List UInt8) : (valM m k).length ≤ 64 := by
  unfold valM getM
  cases hf : m.find? fun p => p.1 == k with
  | none => simp
  | some p => exact (h.each p (List.mem_of_find?_eq_some hf)).2
theorem mem_compact {l : List (List UInt8)} {x : List UInt8} (h : x ∈ Lib.compact l) : x ∈ l := by
  unfold Lib.compact Lib.compactUpTo at h
  obtain ⟨i, hi, rfl⟩ := List.mem_map.1 h
  have hlt : i < l.length := List.mem_range.1 (List.mem_filter.1 hi).1
  have : l.toArray[i]! = l[i] := by simp [hlt]
  rw [this]
  exact List.getElem_mem hlt
theorem apT_each {t : TX} (h : okTx t = true) : ∀ k ∈ apT t, k.length ≤ 33 := fun k hk => by
  have h1 := mem_compact hk
  rw [List.mem_mergeSort] at h1
  unfold txs at h1
  rcases List.mem_cons.1 h1 with rfl | h1
  · rw [nOf_length]; decide
  · obtain ⟨o, ho, rfl⟩ := List.mem_map.1 h1
    have := ((okTx_of h).okO (List.mem_filter.1 ho).1).key1
    rw [kOf_length]
    omega
theorem apT_len {t : TX} (h : okTx t = true) : (apT t).length ≤ 9 := by
  have h1 := Lib.compact_length_le ((txs t.client t.ops).mergeSort fun x y => decide (x ≤ y))
  rw [List.length_mergeSort] at h1
  have h2 := txs_len t.client t.ops
  have h3 := (okTx_of h).len1
  unfold apT
  omega
/-- A text of the state is laid into the tree, or taken away. -/
def stepK (m : List KV) (t : Tr) (k : List UInt8) : Tr := if hasM m k = true then Tr.put 256 0 t (ofD Sh.TgD k (valM m k)) else Tr.del 256 0 t (Sh.TgD 80 [k])
def laysK (m : List KV) (t : Tr) (l : List (List UInt8)) : Tr := l.foldl (stepK m) t
/-- The tree behind a transaction. -/
def exT (m : List KV) (t : Tr) (x : TX) : Tr := if apE m x = 0 then laysK (apM m x) t (apT x) else t
/-- State and tree behind transactions. -/
def exS (m : List KV) : List TX → List KV
  | [] => m
  | x :: r => exS (apM m x) r
def exR (m : List KV) (t : Tr) : List TX → Tr
  | [] => t
  | x :: r => exR (apM m x) (exT m t x) r
/-- Those that were done; what each was told. -/
def exD (m : List KV) : List TX → List TX
  | [] => []
  | x :: r => if apE m x = 0 then x :: exD (apM m x) r else exD (apM m x) r
def exE (m : List KV) : List TX → List Int
  | [] => []
  | x :: r => apE m x :: exE (apM m x) r
theorem exS_app (m : List KV) (a b : List TX) : exS m (a ++ b) = exS (exS m a) b := by
  induction a generalizing m with
  | nil => rfl
  | cons x r ih => exact ih _
theorem exR_app (m : List KV) (t : Tr) (a b : List TX) : exR m t (a ++ b) = exR (exS m a) (exR m t a) b := by
  induction a generalizing m t with
  | nil => rfl
  | cons x r ih => exact ih _ _
theorem exD_app (m : List KV) (a b : List TX) : exD m (a ++ b) = exD m a ++ exD (exS m a) b := by
  induction a generalizing m with
  | nil => rfl
  | cons x r ih =>
    show (if apE m x = 0 then x :: exD (apM m x) (r ++ b) else exD (apM m x) (r ++ b)) = _
    show _ = (if apE m x = 0 then x :: exD (apM m x) r else exD (apM m x) r) ++ exD (exS (apM m x) r) b
    rw [ih]
    split <;> rfl
theorem exE_app (m : List KV) (a b : List TX) : exE m (a ++ b) = exE m a ++ exE (exS m a) b := by
  induction a generalizing m with
  | nil => rfl
  | cons x r ih =>
    show apE m x :: exE (apM m x) (r ++ b) = _
    rw [ih]
    rfl
theorem exE_len (m : List KV) (l : List TX) : (exE m l).length = l.length := by
  induction l generalizing m with
  | nil => rfl
  | cons x r ih => show (exE (apM m x) r).length + 1 = _; rw [ih]; rfl
theorem exD_len (m : List KV) (l : List TX) : (exD m l).length ≤ l.length := by
  induction l generalizing m with
  | nil => exact Nat.le_refl _
  | cons x r ih =>
    have := ih (apM m x)
    unfold exD
    split
    · simp only [List.length_cons]; omega
    · simp only [List.length_cons]; omega
theorem Sz.exS {m : List KV} (h : Sz m) (l : List TX) : Sz (exS m l) := by
  induction l generalizing m with
  | nil => exact h
  | cons x r ih => exact ih (h.apply x)
theorem lessD_len (l : List LF) (p : List UInt8) : (Tr.lessD l p).length ≤ l.length := List.length_filter_le _ _
theorem stepK_ok {m : List KV} {t : Tr} {k : List UInt8} (h : Tr.Canon 0 t) : Tr.Canon 0 (stepK m t k) ∧ (stepK m t k).cnt ≤ t.cnt + 1 := by
  unfold stepK
  split
  · obtain ⟨h1, h2⟩ := Tr.put_spec t 256 0 (ofD Sh.TgD k (valM m k)) rfl h (Sh.TgD_len _ _) (fun _ _ j hj => absurd hj (Nat.not_lt_zero _))
    refine ⟨h1, ?_⟩
    have h3 := h2.length_eq
    have h4 := lessD_len t.leaves (ofD Sh.TgD k (valM m k)).1
    rw [List.length_cons] at h3
    show (Tr.put 256 0 t (ofD Sh.TgD k (valM m k))).leaves.length ≤ t.leaves.length + 1
    omega
  · obtain ⟨h1, h2⟩ := Tr.del_spec t 256 0 (Sh.TgD 80 [k]) rfl h
    refine ⟨h1, ?_⟩
    have h4 := lessD_len t.leaves (Sh.TgD 80 [k])
    show (Tr.del 256 0 t (Sh.TgD 80 [k])).leaves.length ≤ t.leaves.length + 1
    rw [h2]
    omega
theorem laysK_ok {m : List KV} : ∀ {l : List (List UInt8)} {t : Tr}, Tr.Canon 0 t → Tr.Canon 0 (laysK m t l) ∧ (laysK m t l).cnt ≤ t.cnt + l.length
  | [], t, h => ⟨h, Nat.le_refl _⟩
  | k :: r, t, h => by
    obtain ⟨h1, h2⟩ := stepK_ok (m := m) (k := k) h
    obtain ⟨h3, h4⟩ := laysK_ok (m := m) (l := r) h1
    refine ⟨h3, ?_⟩
    show (laysK m (stepK m t k) r).cnt ≤ _
    rw [List.length_cons]
    omega
theorem laysK_snoc (m : List KV) (t : Tr) (l : List (List UInt8)) (k : List UInt8) : laysK m t (l ++ [k]) = stepK m (laysK m t l) k := by simp [laysK]
theorem exT_ok {m : List KV} {t : Tr} {x : TX} (hx : okTx x = true) (h : Tr.Canon 0 t) : Tr.Canon 0 (exT m t x) ∧ (exT m t x).cnt ≤ t.cnt + 9 := by
  unfold exT
  split
  · obtain ⟨h1, h2⟩ := laysK_ok (m := apM m x) (l := apT x) h
    have := apT_len hx
    exact ⟨h1, by omega⟩
  · exact ⟨h, by omega⟩
theorem exR_ok {m : List KV} {t : Tr} : ∀ {l : List TX}, (∀ x ∈ l, okTx x = true) → Tr.Canon 0 t → Tr.Canon 0 (exR m t l) ∧ (exR m t l).cnt ≤ t.cnt + 9 * l.length := by
  intro l
  induction l generalizing m t with
  | nil => exact fun _ h => ⟨h, Nat.le_refl _⟩
  | cons x r ih =>
    intro hx h
    obtain ⟨h1, h2⟩ := exT_ok (m := m) (hx x List.mem_cons_self) h
    obtain ⟨h3, h4⟩ := ih (m := apM m x) (t := exT m t x) (fun y hy => hx y (List.mem_cons_of_mem _ hy)) h1
    refine ⟨h3, ?_⟩
    show (exR (apM m x) (exT m t x) r).cnt ≤ _
    rw [List.length_cons]
    omega
end Go.Proofs.YtmbdhngoldganaaGreatDoor
