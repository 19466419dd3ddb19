/- What HeadSame does at two headers that may be. -/
import Derived.Test.YtdolgkegeomafaaHsm
namespace Go.Proofs.Ytdolgkegeomafaa
open Go Go.RowKit
theorem CB.put {w' : World} {g : Nat} {l : List Int} {c : Array Value} (v : Int) (h0 : 0 < l.length) (h1 : l.length ≤ c.size) (h2 : ∀ (j : Nat) (x : Int), l[j]? = some x → c[j]? = some (.int .i64 x)) (hb : Blk w' g (c.setIfInBounds 0 (.int .i64 v)) 3) : CB w' g (v :: l.tail) := by
  refine ⟨_, hb, by rw [Array.size_setIfInBounds, List.length_cons, List.length_tail]; omega, fun j x hx => ?_⟩
  cases j with
  | zero =>
    simp at hx
    subst hx
    rw [Array.getElem?_setIfInBounds_self_of_lt (by omega)]
  | succ j =>
    rw [Array.getElem?_setIfInBounds_ne (by omega)]
    rw [List.getElem?_cons_succ] at hx
    refine h2 (j + 1) x ?_
    rw [← hx, List.getElem?_tail]
section
attribute [local go_sem] Oper.semAt_some
set_option maxRecDepth 100000 in
set_option maxHeartbeats 4000000 in
theorem hsame_good (x y : HH) (hx : OkH x) (hy : OkH y) (hhx : x.height < 18446744073709551616) (hhy : y.height < 18446744073709551616) (a b : Option Addr) (cap cap2 : Nat) (n : Int) (w : World) (h : IA w a x.mem) (h' : IA w b y.mem) :
    Calls Try.prog 4 #[.agg (hA x.height x.prev x.txr x.str (.slice a x.mem.length cap)), .agg (hA y.height y.prev y.txr y.str (.slice b y.mem.length cap2)), .int .i64 n] w fun e w' => e = .returned (.bool true) ∧ Below w.heap.size w w' := by
  have h16 := hx.m.len
  have h0 := hx.m.pos
  have HF1 := fun w => refH_any x.height x.prev x.txr x.str a x.mem.length cap w
  have HF2 := fun w => refH_any y.height y.prev y.txr y.str b y.mem.length cap2 w
  have HK1 := fun w' (hB : Below w.heap.size w w') => rcheckH_any x a cap w' (h.below hB)
  have HK2 := fun w' (hB : Below w.heap.size w w') => rcheckH_any y b cap2 w' (h'.below hB)
  have HB1 := fun w' (hB : Below w.heap.size w w') => rbytesH_any x a cap w' (h.below hB) hx hhx
  have HB2 := fun w' (hB : Below w.heap.size w w') => rbytesH_any y b cap2 w' (h'.below hB) hy hhy
  have HA := fun w => awakeH_any w
  have HCl := fun w' (hB : Below w.heap.size w w') => cloneH_any x.height x.prev x.txr x.str x.mem a cap w' (h.below hB) h0 (by omega)
  obtain ⟨sm, hsm0⟩ : ∃ sm, (hB x == hB y) = sm := ⟨_, rfl⟩
  have hsm : Hid ((hB x == hB y) = sm) := hsm0
  have hsmI : x = y ↔ sm = true := by
    rw [← hsm0, beq_iff_eq]
    exact ⟨fun e => by rw [e], fun e => hB_inj hx hy hhx hhy e⟩
  have HS1 := fun w' (hB : Below w.heap.size w w') => sameH_p (sm = true) x y a b cap cap2 w' (h.below hB) (h'.below hB) (by omega) hsmI.symm
  have HS2 := fun g capc w' (hB : Below w.heap.size w w') (hO : CB w' g x.mem) => sameH_p True x x a (some ⟨g, 0, none⟩) cap capc w' (h.below hB) hO.ia (by omega) (by show True ↔ _; simp)
  have hlen3 : (99 :: x.mem.tail).length = x.mem.length := by rw [List.length_cons, List.length_tail]; omega
  have HS3 := fun g capc w' (hB : Below w.heap.size w w') (hO : CB w' g (99 :: x.mem.tail)) => sameH_p False x ⟨x.height, x.prev, x.txr, x.str, 99 :: x.mem.tail⟩ a (some ⟨g, 0, none⟩) cap capc w' (h.below hB) hO.ia (by omega) (by
    show False ↔ _
    refine ⟨False.elim, fun e => ?_⟩
    have e2 : x.mem = 99 :: x.mem.tail := congrArg HH.mem e
    have := hx.m.each 99 (by rw [e2]; exact List.mem_cons_self ..)
    omega)
  dsimp only at HS3
  rw [hlen3] at HS3
  obtain ⟨k, hk1, hk2⟩ := and1023 n
  have HM := fun w => most_any k hk2 w
  rw [chkH_zero hx] at HK1
  rw [chkH_zero hy] at HK2
  clear hx hy hhx hhy hlen3 hsmI hsm0 h h'
  obtain ⟨ht, p, t, s, l⟩ := x
  obtain ⟨ht', p', t', s', m⟩ := y
  dsimp only at *
  generalize hB ⟨ht, p, t, s, l⟩ = S1 at *
  generalize hB ⟨ht', p', t', s', m⟩ = S2 at *
  change ∀ w', Below w.heap.size w w' → Calls Try.prog 11 #[.agg (hA ht p t s (.slice a l.length cap))] w' _ at HK1
  change ∀ w', Below w.heap.size w w' → Calls Try.prog 11 #[.agg (hA ht' p' t' s' (.slice b m.length cap2))] w' _ at HK2
  change ∀ w', Below w.heap.size w w' → Calls Try.prog 9 #[.agg (hA ht p t s (.slice a l.length cap))] w' _ at HB1
  change ∀ w', Below w.heap.size w w' → Calls Try.prog 9 #[.agg (hA ht' p' t' s' (.slice b m.length cap2))] w' _ at HB2
  have HF1a := HF1
  have HF2l : ∀ w, Calls Try.prog 10 #[.agg #[.int .u64 (ht' : Nat), .string ⟨p'.toArray⟩, .string ⟨t'.toArray⟩, .string ⟨s'.toArray⟩, .slice b m.length cap2]] w fun e w' => e = .returned (.agg (hA ht' p' t' s' (.slice b m.length cap2))) ∧ Below w.heap.size w w' := HF2
  change ∀ w', Below w.heap.size w w' → Calls Try.prog 13 #[.agg #[.int .u64 (ht : Nat), .string ⟨p.toArray⟩, .string ⟨t.toArray⟩, .string ⟨s.toArray⟩, .slice a l.length cap], .agg #[.int .u64 (ht' : Nat), .string ⟨p'.toArray⟩, .string ⟨t'.toArray⟩, .string ⟨s'.toArray⟩, .slice b m.length cap2]] w' _ at HS1
  change ∀ g capc w', Below w.heap.size w w' → CB w' g l → Calls Try.prog 13 #[.agg #[.int .u64 (ht : Nat), .string ⟨p.toArray⟩, .string ⟨t.toArray⟩, .string ⟨s.toArray⟩, .slice a l.length cap], .agg #[.int .u64 (ht : Nat), .string ⟨p.toArray⟩, .string ⟨t.toArray⟩, .string ⟨s.toArray⟩, .slice (some ⟨g, 0, none⟩) l.length capc]] w' _ at HS2
  go_enter Try.func4, Try.ntmps4
  go_wp2_with (first
    | (go_at_call 10; refine (HF1a _).mono ?_; rintro e w3 ⟨rfl, hw3⟩; clear HF1a; replace h3 := h3.belowSize hw3; replace h4 := h4.belowSize hw3; replace HB := HB.trans (hw3.mono HB.size); clear hw3)
    | (go_at_call 11; refine (HK1 _ HB).mono ?_; rintro e w4 ⟨rfl, hw4⟩; clear HK1; replace h3 := h3.belowSize hw4; replace h4 := h4.belowSize hw4; replace HB := HB.trans (hw4.mono HB.size); clear hw4; have d0 := (h4.cell 0).trans (hA_g0 _ _ _ _ _); have d1 := (h4.cell 1).trans (hA_g1 _ _ _ _ _); have d2 := (h4.cell 2).trans (hA_g2 _ _ _ _ _); have d3 := (h4.cell 3).trans (hA_g3 _ _ _ _ _); have d4 := (h4.cell 4).trans (hA_g4 _ _ _ _ _))
    | (go_at_call 10; refine (HF2l _).mono ?_; rintro e w5 ⟨rfl, hw5⟩; clear HF2l d0 d1 d2 d3 d4; replace h3 := h3.belowSize hw5; replace h4 := h4.belowSize hw5; replace HB := HB.trans (hw5.mono HB.size); clear hw5)
    | (go_at_call 11; refine (HK2 _ HB).mono ?_; rintro e w6 ⟨rfl, hw6⟩; clear HK2; replace h3 := h3.belowSize hw6; replace h4 := h4.belowSize hw6; replace HB := HB.trans (hw6.mono HB.size); clear hw6)
    | (go_at_call 12; refine (HCl _ HB).mono ?_; rintro e w8 ⟨g, capc, rfl, hg8, hw8, hOc⟩; clear HCl; have hB8 := HB.size; have hl4 := h4.lt; replace h3 := h3.belowSize hw8; replace h4 := h4.belowSize hw8; replace HB := HB.trans (hw8.mono HB.size); clear hw8)
    | (with_reducible refine at_list ?_; first
      | (refine wpList_boxRow (op := ⟨some 3, _, _, _, _, _⟩) rfl _ _ rfl _ rfl ?_; intro w1 hw1 hs1 h3; replace hs1 := hs1.symm; have HB := hw1; clear hw1)
      | (refine wpList_boxRow (op := ⟨some 4, _, _, _, _, _⟩) rfl _ _ rfl _ rfl ?_; intro w2 hw2 hs2 h4; replace hs2 := hs2.symm; replace h3 := h3.belowSize hw2; replace HB := HB.trans (hw2.mono HB.size); clear hw2)
      | (refine wpList_loadRow (op := ⟨some 11, _, _, _, _, _⟩) rfl _ _ rfl w.heap.size rfl _ _ h3 _ Try.underlying25 rfl (by rw [hA_size]; exact zH.2) ?_)
      | (refine wpList_loadRow (op := ⟨some 22, _, _, _, _, _⟩) rfl _ _ rfl w.heap.size rfl _ _ h3 _ Try.underlying25 rfl (by rw [hA_size]; exact zH.2) ?_)
      | (refine wpList_allocRow (op := ⟨some 7, _, _, _, _, _⟩) rfl _ rfl _ zH0.1 ?_; intro w9 hw9 hs9 h7; replace hs9 := hs9.symm; have hl49 := h4.lt; have hl39 := h3.lt; have hB9 := HB.size; replace hOc := hOc.below hw9; replace h3 := h3.belowSize hw9; replace h4 := h4.belowSize hw9; replace HB := HB.trans (hw9.mono HB.size); clear hw9)
      | (refine wpList_storeRow (op := ⟨none, .store 25 (.tmp 7) (.tmp 23), _, _, _, _⟩) rfl _ _ _ rfl w8.heap.size (hA ht p t s (.slice (some ⟨g, 0, none⟩) l.length capc)) rfl rfl _ _ h7 (by simp only [hA_size]) (by rw [hA_size]; exact zH.2) (hA_one _ _ _ _ _ _ _) ?_; intro w10 hg10 hs10 hb10; clear hs10; replace hOc := hOc.other hg10 h7 (by decide); replace h3 := h3.grown hg10 (by simp; omega); replace h4 := h4.grown hg10 (by simp; omega); replace HB := HB.trans (below_of_grown hg10 hB9 HB.size); replace h7 := hb10; clear hg10 hb10)))
  obtain ⟨B4, hB40⟩ : ∃ B, B = w1.heap.size := ⟨_, rfl⟩
  have hB4 : w.heap.size < B4 := by omega
  obtain ⟨B7, hB70⟩ : ∃ B, B = w8.heap.size := ⟨_, rfl⟩
  rw [← hB40] at h4 ⊢
  rw [← hB70] at h7 ⊢
  have hB7 : B4 < B7 := by omega
  clear hB40 hB70 hs1 hs2 hs9 hl49 hl39 hB9
  replace HB := HB.drew
  refine wp_region_held_drew (S := fun w' => Blk w' w.heap.size (hA ht p t s (.slice a l.length cap)) 25 ∧ Blk w' B4 (hA ht' p' t' s' (.slice b m.length cap2)) 25 ∧ Blk w' B7 (hA ht p t s (.slice (some ⟨g, 0, none⟩) l.length capc)) 25 ∧ CB w' g l) (by kernel_rfl) ⟨h3.drew, h4.drew, h7.drew, hOc.drew⟩ (fun hHeld => ?_)
  clear h3 h4 h7 hOc
  refine wpAnyH_take (i := 0) (oi := ⟨some 24, _, _, _, _, _⟩) (v := .agg (hA ht p t s (.slice a l.length cap))) rfl (by kernel_rfl) (by kernel_rfl) (by kernel_rfl) (fun _ _ _ h => h) (Or.inl ⟨by rfl, fun w hSw => run_loadRow _ _ rfl _ rfl _ _ hSw.1 _ Try.underlying25 rfl (by rw [hA_size]; exact zH.2)⟩) hHeld ?_
  refine wpAnyH_take (i := 3) (oi := ⟨some 27, _, _, _, _, _⟩) (v := .agg (hA ht' p' t' s' (.slice b m.length cap2))) rfl (by kernel_rfl) (by kernel_rfl) (by kernel_rfl) (fun _ _ _ h => h) (Or.inl ⟨by rfl, fun w hSw => run_loadRow _ _ rfl _ rfl _ _ hSw.2.1 _ Try.underlying25 rfl (by rw [hA_size]; exact zH.2)⟩) hHeld ?_
  simp only [Act.put, List.setIfInBounds_toArray, List.set_cons_zero, List.set_cons_succ]
  refine wpAnyH_ready (rs := [1]) (by kernel_rfl) (by simp) ?_
  refine AllReadyH.cons (o := ⟨some 25, .call ⟨.value (.func 10), #[.tmp 24], #[25]⟩, _, _, _, _⟩) rfl (fun K hK => ?_) AllReadyH.nil
  rw [if_pos (by rfl)]
  go_simp
  refine (HF1 _).mono ?_
  rintro e wA ⟨rfl, hwA⟩
  have hHx : (_ ∧ _ ∧ _ ∧ _) := ⟨hHeld.1.belowSize hwA, hHeld.2.1.belowSize hwA, hHeld.2.2.1.belowSize hwA, hHeld.2.2.2.below hwA⟩
  refine hK.out _ _ hHx (fun _ => ?_)
  clear hK K hHeld
  have hHeld := hHx
  clear hHx
  replace HB := HB.trans (hwA.mono HB.size)
  refine wpAnyH_ready (rs := [2]) (by kernel_rfl) (by simp) ?_
  refine AllReadyH.cons (o := ⟨some 26, .call ⟨.value (.func 9), #[.tmp 25], #[31]⟩, _, _, _, _⟩) rfl (fun K hK => ?_) AllReadyH.nil
  rw [if_pos (by rfl)]
  go_simp
  refine (HB1 _ HB).mono ?_
  rintro e wB ⟨rfl, hwB⟩
  have hHx : (_ ∧ _ ∧ _ ∧ _) := ⟨hHeld.1.belowSize hwB, hHeld.2.1.belowSize hwB, hHeld.2.2.1.belowSize hwB, hHeld.2.2.2.below hwB⟩
  refine hK.out _ _ hHx (fun _ => ?_)
  clear hK K hHeld
  have hHeld := hHx
  clear hHx
  replace HB := HB.trans (hwB.mono HB.size)
  refine wpAnyH_ready (rs := [4]) (by kernel_rfl) (by simp) ?_
  refine AllReadyH.cons (o := ⟨some 28, .call ⟨.value (.func 10), #[.tmp 27], #[25]⟩, _, _, _, _⟩) rfl (fun K hK => ?_) AllReadyH.nil
  rw [if_pos (by rfl)]
  go_simp
  refine (HF2 _).mono ?_
  rintro e wC ⟨rfl, hwC⟩
  have hHx : (_ ∧ _ ∧ _ ∧ _) := ⟨hHeld.1.belowSize hwC, hHeld.2.1.belowSize hwC, hHeld.2.2.1.belowSize hwC, hHeld.2.2.2.below hwC⟩
  refine hK.out _ _ hHx (fun _ => ?_)
  clear hK K hHeld
  have hHeld := hHx
  clear hHx
  replace HB := HB.trans (hwC.mono HB.size)
  refine wpAnyH_ready (rs := [5]) (by kernel_rfl) (by simp) ?_
  refine AllReadyH.cons (o := ⟨some 29, .call ⟨.value (.func 9), #[.tmp 28], #[31]⟩, _, _, _, _⟩) rfl (fun K hK => ?_) AllReadyH.nil
  rw [if_pos (by rfl)]
  go_simp
  refine (HB2 _ HB).mono ?_
  rintro e wD ⟨rfl, hwD⟩
  have hHx : (_ ∧ _ ∧ _ ∧ _) := ⟨hHeld.1.belowSize hwD, hHeld.2.1.belowSize hwD, hHeld.2.2.1.belowSize hwD, hHeld.2.2.2.below hwD⟩
  refine hK.out _ _ hHx (fun _ => ?_)
  clear hK K hHeld
  have hHeld := hHx
  clear hHx
  replace HB := HB.trans (hwD.mono HB.size)
  try simp only [Act.put, List.setIfInBounds_toArray, List.set_cons_zero, List.set_cons_succ]
  refine wpAnyH_take (i := 6) (oi := ⟨some 30, _, _, _, _, _⟩) (v := .bool sm) rfl (by kernel_rfl) (by kernel_rfl) (by kernel_rfl) (fun _ _ _ h => h) (Or.inl ⟨by rfl, fun w hSw => by go_simp; exact hsm.out⟩) hHeld ?_
  refine wpAnyH_take (i := 7) (oi := ⟨some 8, _, _, _, _, _⟩) (v := .bool sm) rfl (by kernel_rfl) (by kernel_rfl) (by kernel_rfl) (fun _ _ _ h => h) (Or.inl ⟨by rfl, fun w hSw => by go_simp⟩) hHeld ?_
  refine wpAnyH_done (by kernel_rfl) ?_ _
  simp only [Act.put]
  obtain ⟨h3, h4, h7, hOc⟩ := hHeld
  clear hwA hwB hwC hwD hsm
  go_simp
  clear HF1 HF2 HB1 HB2
  have hz0 : (0 : Int) < (l.length : Int) := by omega
  have hm1 : IntKind.i64.wrap (2 * ((k / 2 + 1 : Nat) : Int)) = 2 * ((k / 2 + 1 : Nat) : Int) := by rw [IntKind.wrap_i64]; omega
  have hm2 : IntKind.i64.wrap (((k / 2 + 1 : Nat) : Int) - 1) = ((k / 2 : Nat) : Int) := by rw [IntKind.wrap_i64]; omega
  have hm3 : IntKind.i64.wrap (2 * ((k / 2 : Nat) : Int)) = 2 * ((k / 2 : Nat) : Int) := by rw [IntKind.wrap_i64]; omega
  have hm4 : decide ((k : Int) < 2 * ((k / 2 + 1 : Nat) : Int)) = true := decide_eq_true (by omega)
  have hm5 : decide (2 * ((k / 2 : Nat) : Int) ≤ (k : Int)) = true := decide_eq_true (by omega)
  generalize k / 2 + 1 = M at *
  generalize k / 2 = N at *
  go_wp2_with (first
    | (go_at_call 8; refine (HA _).mono ?_; rintro e w11 ⟨rfl, hw11⟩; clear HA; replace hOc := hOc.below hw11; replace h3 := h3.belowSize hw11; replace h4 := h4.belowSize hw11; replace h7 := h7.belowSize hw11; replace HB := HB.trans (hw11.mono HB.size); clear hw11; have c0 := (h3.cell 0).trans (hA_g0 _ _ _ _ _); have c1 := (h3.cell 1).trans (hA_g1 _ _ _ _ _); have c2 := (h3.cell 2).trans (hA_g2 _ _ _ _ _); have c3 := (h3.cell 3).trans (hA_g3 _ _ _ _ _); have c4 := (h3.cell 4).trans (hA_g4 _ _ _ _ _); have d0 := (h4.cell 0).trans (hA_g0 _ _ _ _ _); have d1 := (h4.cell 1).trans (hA_g1 _ _ _ _ _); have d2 := (h4.cell 2).trans (hA_g2 _ _ _ _ _); have d3 := (h4.cell 3).trans (hA_g3 _ _ _ _ _); have d4 := (h4.cell 4).trans (hA_g4 _ _ _ _ _))
    | (go_at_call 13; refine (HS1 _ HB).mono ?_; rintro e w12 ⟨y1, rfl, hy1, hw12⟩; obtain rfl : y1 = sm := Bool.eq_iff_iff.2 hy1; clear HS1 hy1 c0 c1 c2 c3 c4 d0 d1 d2 d3 d4; replace hOc := hOc.below hw12; replace h3 := h3.belowSize hw12; replace h4 := h4.belowSize hw12; replace h7 := h7.belowSize hw12; replace HB := HB.trans (hw12.mono HB.size); clear hw12; have c0 := (h3.cell 0).trans (hA_g0 _ _ _ _ _); have c1 := (h3.cell 1).trans (hA_g1 _ _ _ _ _); have c2 := (h3.cell 2).trans (hA_g2 _ _ _ _ _); have c3 := (h3.cell 3).trans (hA_g3 _ _ _ _ _); have c4 := (h3.cell 4).trans (hA_g4 _ _ _ _ _); have f0 := (h7.cell 0).trans (hA_g0 _ _ _ _ _); have f1 := (h7.cell 1).trans (hA_g1 _ _ _ _ _); have f2 := (h7.cell 2).trans (hA_g2 _ _ _ _ _); have f3 := (h7.cell 3).trans (hA_g3 _ _ _ _ _); have f4 := (h7.cell 4).trans (hA_g4 _ _ _ _ _))
    | (go_at_call 13; refine (HS2 _ _ _ HB hOc).mono ?_; rintro e w13 ⟨y2, rfl, hy2, hw13⟩; obtain rfl : y2 = true := hy2.2 trivial; clear HS2 hy2 c0 c1 c2 c3 c4 f0 f1 f2 f3 f4; replace hOc := hOc.below hw13; replace h3 := h3.belowSize hw13; replace h4 := h4.belowSize hw13; replace h7 := h7.belowSize hw13; replace HB := HB.trans (hw13.mono HB.size); clear hw13; have c4 := (h3.cell 4).trans (hA_g4 _ _ _ _ _); have f4 := (h7.cell 4).trans (hA_g4 _ _ _ _ _); obtain ⟨cc, hbc, hq1, hq2⟩ := hOc.out)
    | (go_at_call 14; refine (HM _).mono ?_; rintro e w15 ⟨rfl, hw15⟩; have hw15 := hw15.symm; subst hw15; clear HM)
    | (go_at_call 13; refine (HS3 _ _ _ HB hOd).mono ?_; rintro e w16 ⟨y3, rfl, hy3, hw16⟩; obtain rfl : y3 = false := Bool.eq_false_iff.2 (fun e => hy3.1 e); clear HS3 hy3; replace HB := HB.trans (hw16.mono HB.size); clear hw16)
    | (with_reducible refine at_list ?_; first
      | (refine wpList_storeCell (op := ⟨none, .store 3 (.tmp 57) _, _, _, _, _⟩) rfl _ _ _ rfl g 0 rfl (.int .i64 99) rfl _ _ hbc i3 rfl rfl (by omega) ?_; intro w14 hg14 hs14 hb14; clear hs14; replace h3 := h3.grown hg14 (fun e => absurd (Option.some.inj e) (hOc.ne h3 (by decide))); replace h7 := h7.grown hg14 (fun e => absurd (Option.some.inj e) (hOc.ne h7 (by decide))); have hOd := CB.put 99 h0 hq1 hq2 hb14; replace HB := HB.trans (below_of_grown hg14 (by omega) HB.size); clear hOc hbc hg14 hb14 c4 f4)
      | (refine wpList_loadRow (op := ⟨some 62, _, _, _, _, _⟩) rfl _ _ rfl w.heap.size rfl _ _ h3 _ Try.underlying25 rfl (by rw [hA_size]; exact zH.2) ?_)
      | (refine wpList_loadRow (op := ⟨some 63, _, _, _, _, _⟩) rfl _ _ rfl B7 rfl _ _ h7 _ Try.underlying25 rfl (by rw [hA_size]; exact zH.2) ?_)))

  go_ret
  exact ⟨rfl, HB⟩
end
end Go.Proofs.Ytdolgkegeomafaa
