/- What TxCopies does. -/
import Derived.Test.YtncoifkchoiiaaaDoorTxb
import Derived.Test.YtncoifkchoiiaaaDoorCln
namespace Go.Proofs.YtncoifkchoiiaaaDoor
open Go Go.RowKit
def lit (t : TX) (a : Option Addr) (cap : Nat) : Array Value := #[.int .u64 (t.client : Nat), .int .u64 (t.nonce : Nat), .slice a t.ops.length cap]
set_option maxRecDepth 100000 in
set_option maxHeartbeats 1000000 in
theorem copies_bad (s t : TX) (hbad : ¬ okTx s = true ∨ ¬ okTx t = true) (a b : Option Addr) (cap cap2 : Nat) (w : World) (h : SL w a s.ops) (h' : SL w b t.ops) :
    Calls Tryd.prog 4 #[.agg (txc s.client s.nonce (.slice a s.ops.length cap)), .agg (txc t.client t.nonce (.slice b t.ops.length cap2))] w fun e w' => e = .returned (.bool true) ∧ Below w.heap.size w w' := by
  have HF1 := fun w' (hB : Below w.heap.size w w') => ref_any s.client s.nonce s.ops a cap w' (h.below hB)
  have HK1 := fun a cap w (h : SL w a (s.ops.take 9)) => rcheck_any ⟨s.client, s.nonce, s.ops.take 9⟩ a cap w h
  have HF2 := fun w' (hB : Below w.heap.size w w') => ref_any t.client t.nonce t.ops b cap2 w' (h'.below hB)
  have HK2 := fun a cap w (h : SL w a (t.ops.take 9)) => rcheck_any ⟨t.client, t.nonce, t.ops.take 9⟩ a cap w h
  have HA := fun w => awake_any w
  rw [chk_take] at HK1 HK2
  dsimp only at HK1 HK2
  generalize s.ops.take 9 = l9 at *
  generalize t.ops.take 9 = m9 at *
  by_cases hs : okTx s = true
  · have ht : ¬ okTx t = true := by rcases hbad with h9 | h9; exact absurd hs h9; exact h9
    rw [chk_zero hs] at HK1
    rw [chk_not ht] at HK2
    clear hs ht hbad
    change ∀ w', Below w.heap.size w w' → Calls Tryd.prog 7 #[.agg #[.int .u64 (t.client : Nat), .int .u64 (t.nonce : Nat), .slice b t.ops.length cap2]] w' _ at HF2
    generalize (Value.slice a s.ops.length cap) = sl at *
    generalize (Value.slice b t.ops.length cap2) = sl' at *
    generalize s.client = cl at *
    generalize s.nonce = nn at *
    generalize t.client = cl' at *
    generalize t.nonce = nn' at *
    go_enter Tryd.func4, Tryd.ntmps4
    go_wp2_with (first
      | (go_at_call 7; refine (HF1 _ HB).mono ?_; rintro e w3 ⟨sl3, rfl, hw3, hO3⟩; obtain ⟨a3, cap3, rfl, hSL3⟩ := hO3.sl; clear HF1 hO3; replace h3 := h3.belowSize hw3; replace HB := HB.trans (hw3.mono HB.size); clear hw3)
      | (go_at_call 6; refine (HK1 _ _ _ hSL3).mono ?_; rintro e w4 ⟨rfl, hw4⟩; clear HK1 hSL3; replace h3 := h3.belowSize hw4; replace HB := HB.trans (hw4.mono HB.size); clear hw4; have d0 := (h3.cell 0).trans (txc_g0 _ _ _); have d1 := (h3.cell 1).trans (txc_g1 _ _ _); have d2 := (h3.cell 2).trans (txc_g2 _ _ _))
      | (go_at_call 7; refine (HF2 _ HB).mono ?_; rintro e w5 ⟨sl5, rfl, hw5, hO5⟩; obtain ⟨a5, cap5, rfl, hSL5⟩ := hO5.sl; clear HF2 hO5 d0 d1 d2; replace HB := HB.trans (hw5.mono HB.size); clear hw5)
      | (go_at_call 6; refine (HK2 _ _ _ hSL5).mono ?_; rintro e w6 ⟨rfl, hw6⟩; clear HK2 hSL5; replace HB := HB.trans (hw6.mono HB.size); clear hw6)
      | (go_at_call 8; refine (HA _).mono ?_; rintro e w7 ⟨rfl, hw7⟩; clear HA; replace HB := HB.trans (hw7.mono HB.size); clear hw7)
      | (with_reducible refine at_list ?_; first
        | (refine wpList_boxRow (op := ⟨some 2, _, _, _, _, _⟩) rfl _ _ rfl _ rfl ?_; intro w1 hw1 hs1 h2; replace hs1 := hs1.symm; have HB := hw1; clear hw1)
        | (refine wpList_boxRow (op := ⟨some 3, _, _, _, _, _⟩) rfl _ _ rfl _ rfl ?_; intro w2 hw2 hs2 h3; replace hs2 := hs2.symm; replace h2 := h2.belowSize hw2; replace HB := HB.trans (hw2.mono HB.size); clear hw2)
        | (refine wpList_loadRow (op := ⟨some 7, _, _, _, _, _⟩) rfl _ _ rfl w.heap.size rfl _ _ h2 _ Tryd.underlying25 rfl (by rw [txc_size]; exact zTx.2) ?_)))
    go_ret
    exact ⟨rfl, HB⟩
  · rw [chk_not hs] at HK1
    clear hs hbad
    generalize (Value.slice a s.ops.length cap) = sl at *
    generalize (Value.slice b t.ops.length cap2) = sl' at *
    generalize s.client = cl at *
    generalize s.nonce = nn at *
    generalize t.client = cl' at *
    generalize t.nonce = nn' at *
    go_enter Tryd.func4, Tryd.ntmps4
    go_wp2_with (first
      | (go_at_call 7; refine (HF1 _ HB).mono ?_; rintro e w3 ⟨sl3, rfl, hw3, hO3⟩; obtain ⟨a3, cap3, rfl, hSL3⟩ := hO3.sl; clear HF1 hO3; replace HB := HB.trans (hw3.mono HB.size); clear hw3)
      | (go_at_call 6; refine (HK1 _ _ _ hSL3).mono ?_; rintro e w4 ⟨rfl, hw4⟩; clear HK1 hSL3; replace HB := HB.trans (hw4.mono HB.size); clear hw4)
      | (go_at_call 8; refine (HA _).mono ?_; rintro e w7 ⟨rfl, hw7⟩; clear HA; replace HB := HB.trans (hw7.mono HB.size); clear hw7)
      | (with_reducible refine at_list ?_; first
        | (refine wpList_boxRow (op := ⟨some 2, _, _, _, _, _⟩) rfl _ _ rfl _ rfl ?_; intro w1 hw1 hs1 h2; replace hs1 := hs1.symm; have HB := hw1; clear hw1)
        | (refine wpList_boxRow (op := ⟨some 3, _, _, _, _, _⟩) rfl _ _ rfl _ rfl ?_; intro w2 hw2 hs2 h3; replace hs2 := hs2.symm; replace h2 := h2.belowSize hw2; replace HB := HB.trans (hw2.mono HB.size); clear hw2)
        | (refine wpList_loadRow (op := ⟨some 7, _, _, _, _, _⟩) rfl _ _ rfl w.heap.size rfl _ _ h2 _ Tryd.underlying25 rfl (by rw [txc_size]; exact zTx.2) ?_)))
    go_ret
    exact ⟨rfl, HB⟩
theorem OS.setKey {w' : World} {t : TypeId} {g cap : Nat} {o : O} {l : List O} (k' : List UInt8) (cur : Array Value) (h2 : (o :: l).length ≤ cap) (h3 : cap * 3 ≤ cur.size) (h4 : ∀ (j : Nat) (v : Value), (opsC (o :: l))[j]? = some v → cur[j]? = some v)
    (hb' : Blk w' g (cur.setIfInBounds 1 (.string ⟨k'.toArray⟩)) t) : OS w' t g cap (⟨o.kind, k', o.val⟩ :: l) := by
  refine ⟨_, hb'.out, h2, by simpa using h3, fun j v hj => ?_⟩
  rw [opsC_cons] at hj
  have hl1 : 1 ≤ cap := by simp at h2; omega
  have hs : 1 < cur.size := by omega
  rw [Array.getElem?_setIfInBounds]
  match j, hj with
  | 0, hj =>
    rw [if_neg (by omega)]
    refine h4 0 v ?_
    rw [opsC_cons]
    exact hj
  | 1, hj =>
    rw [if_pos rfl, if_pos hs]
    exact hj
  | 2, hj =>
    rw [if_neg (by omega)]
    refine h4 2 v ?_
    rw [opsC_cons]
    exact hj
  | j + 3, hj =>
    rw [if_neg (by omega)]
    refine h4 (j + 3) v ?_
    rw [opsC_cons]
    rw [List.getElem?_append_right (by show 3 ≤ j + 3; omega)] at hj ⊢
    exact hj
theorem OS.key {w : World} {t : TypeId} {g cap : Nat} {o : O} {l : List O} (h : OS w t g cap (o :: l)) : w.cell? ⟨g, 1, none⟩ = some (.string ⟨o.key.toArray⟩) := h.cell 1 _ (by rw [opsC_cons]; rfl)
theorem OS.sl {w : World} {t : TypeId} {g cap : Nat} {l : List O} (h : OS w t g cap l) : SL w (some ⟨g, 0, none⟩) l := fun i hi => ⟨g, 0, rfl, fun j v hv => by
  rw [Nat.zero_add]
  exact h.cell _ _ (opsC_get l i hi j v hv)⟩
theorem txB_inj {s t : TX} (hs : okTx s = true) (ht : okTx t = true) (h1 : s.client < 18446744073709551616) (h2 : s.nonce < 18446744073709551616) (h3 : t.client < 18446744073709551616) (h4 : t.nonce < 18446744073709551616) (h : txB s = txB t) : s = t := by
  have e1 := (dec_t s hs h1 h2).1
  have e2 := (dec_t t ht h3 h4).1
  rw [← e1, h, e2]
set_option maxRecDepth 100000 in
set_option maxHeartbeats 4000000 in
theorem copies_good (cl nn cl' nn' : Nat) (L M : List O) (hs : okTx ⟨cl, nn, L⟩ = true) (ht : okTx ⟨cl', nn', M⟩ = true) (hc : cl < 18446744073709551616) (hn : nn < 18446744073709551616) (hc' : cl' < 18446744073709551616) (hn' : nn' < 18446744073709551616)
    (a b : Option Addr) (cap cap2 : Nat) (w : World) (h : SL w a L) (h' : SL w b M) (hG : Sh.Glob w) :
    Calls Tryd.prog 4 #[.agg (txc cl nn (.slice a L.length cap)), .agg (txc cl' nn' (.slice b M.length cap2))] w fun e w' => e = .returned (.bool true) ∧ Below w.heap.size w w' := by
  have hoks := okTx_of hs
  have hokt := okTx_of ht
  have hl8 : L.length ≤ 8 := hoks.len1
  have hl0 : 1 ≤ L.length := hoks.len0
  have hm8 : M.length ≤ 8 := hokt.len1
  obtain ⟨o, l, hL0⟩ : ∃ o l, L = o :: l := by
    cases L with
    | nil => simp at hl0
    | cons o l => exact ⟨o, l, rfl⟩
  have hL : Hid (L = o :: l) := hL0
  have hoo : OkO o := hoks.okO (by rw [hL0]; simp)
  have hkl := hoo.key1
  have HF1 := fun w' (hB : Below w.heap.size w w') => ref_any cl nn L a cap w' (h.below hB)
  have HK1 := fun a cap w (h : SL w a L) => rcheck_any ⟨cl, nn, L⟩ a cap w h
  have HF2 := fun w' (hB : Below w.heap.size w w') => ref_any cl' nn' M b cap2 w' (h'.below hB)
  have HK2 := fun a cap w (h : SL w a M) => rcheck_any ⟨cl', nn', M⟩ a cap w h
  rw [List.take_of_length_le (show L.length ≤ 9 by omega)] at HF1
  rw [List.take_of_length_le (show M.length ≤ 9 by omega)] at HF2
  rw [chk_zero hs] at HK1
  rw [chk_zero ht] at HK2
  have HA := fun w => awake_any w
  have HRB1 := fun a cap w (h : SL w a L) => rtxb_any ⟨cl, nn, L⟩ hoks hc hn a cap w h
  have HRB2 := fun a cap w (h : SL w a M) => rtxb_any ⟨cl', nn', M⟩ hokt hc' hn' a cap w h
  have HCl := fun w' (hB : Below w.heap.size w w') => tclone_any ⟨cl, nn, L⟩ a cap w' (h.below hB) (by show 0 < L.length; omega) (by show L.length ≤ _; omega)
  have HS1 := fun w' (hB : Below w.heap.size w w') => same_any ⟨cl, nn, L⟩ ⟨cl', nn', M⟩ a b cap cap2 w' (h.below hB) (h'.below hB) (by show L.length ≤ _; omega)
  have HS2 := fun g capc w' (hB : Below w.heap.size w w') (hO : OS w' 52 g capc L) => same_any ⟨cl, nn, L⟩ ⟨cl, nn, L⟩ a (some ⟨g, 0, none⟩) cap capc w' (h.below hB) hO.sl (by show L.length ≤ _; omega)
  have hlen3 : (⟨o.kind, o.key ++ [120], o.val⟩ :: l : List O).length = L.length := by rw [hL0]; rfl
  have HS3 := fun g capc w' (hB : Below w.heap.size w w') (hO : OS w' 52 g capc (⟨o.kind, o.key ++ [120], o.val⟩ :: l)) => same_any ⟨cl, nn, L⟩ ⟨cl, nn, ⟨o.kind, o.key ++ [120], o.val⟩ :: l⟩ a (some ⟨g, 0, none⟩) cap capc w' (h.below hB) hO.sl (by show L.length ≤ _; omega)
  dsimp only at HK1 HK2 HRB1 HRB2 HCl HS1 HS2 HS3
  rw [hlen3] at HS3
  have hneq : Hid (¬ (⟨cl, nn, L⟩ : TX) = ⟨cl, nn, ⟨o.kind, o.key ++ [120], o.val⟩ :: l⟩) := fun e => by
    rw [hL0] at e
    injection e with _ _ e3
    injection e3 with e4 _
    have e5 := congrArg (fun z : O => z.key.length) e4
    simp at e5
  have HI1 := fun w' (hB : Below w.heap.size w w') => id_any ⟨cl, nn, L⟩ hoks a cap w' (h.below hB) (hG.belowSize hB)
  have HI2 := fun w' (hB : Below w.heap.size w w') => id_any ⟨cl', nn', M⟩ hokt b cap2 w' (h'.below hB) (hG.belowSize hB)
  dsimp only at HI1 HI2
  obtain ⟨sm, hsm0⟩ : ∃ sm, (txB ⟨cl, nn, L⟩ == txB ⟨cl', nn', M⟩) = sm := ⟨_, rfl⟩
  have hsm : Hid ((txB ⟨cl, nn, L⟩ == txB ⟨cl', nn', M⟩) = sm) := hsm0
  have hsmI : Hid (sm = true ↔ (⟨cl, nn, L⟩ : TX) = ⟨cl', nn', M⟩) := by
    rw [← hsm0, beq_iff_eq]
    exact ⟨fun e => txB_inj hs ht hc hn hc' hn' e, fun e => by rw [e]⟩
  have hid : Hid (sm = true → idB ⟨cl, nn, L⟩ = idB ⟨cl', nn', M⟩) := fun e => by rw [hsmI.out.1 e]
  have HPst : Hid ((⟨cl, nn, L⟩ : TX) = ⟨cl', nn', M⟩ ↔ sm = true) := hsmI.out.symm
  generalize hPP : ((⟨cl, nn, L⟩ : TX) = ⟨cl', nn', M⟩) = PP at HS1 HPst
  generalize hQQ : ((⟨cl, nn, L⟩ : TX) = ⟨cl, nn, ⟨o.kind, o.key ++ [120], o.val⟩ :: l⟩) = QQ at HS3 hneq
  clear hPP hQQ hsmI hsm0
  generalize txB ⟨cl, nn, L⟩ = tbs at *
  generalize txB ⟨cl', nn', M⟩ = tbt at *
  generalize idB ⟨cl, nn, L⟩ = ibs at *
  generalize idB ⟨cl', nn', M⟩ = ibt at *
  have HF1a := HF1
  have HF2l : ∀ w', Below w.heap.size w w' → Calls Tryd.prog 7 #[.agg #[.int .u64 (cl' : Nat), .int .u64 (nn' : Nat), .slice b M.length cap2]] w' (RefP w' cl' nn' M) := HF2
  change ∀ w', Below w.heap.size w w' → Calls Tryd.prog 17 #[.agg #[.int .u64 (cl : Nat), .int .u64 (nn : Nat), .slice a L.length cap], .agg #[.int .u64 (cl' : Nat), .int .u64 (nn' : Nat), .slice b M.length cap2]] w' _ at HS1
  change ∀ g capc w', Below w.heap.size w w' → OS w' 52 g capc L → Calls Tryd.prog 17 #[.agg #[.int .u64 (cl : Nat), .int .u64 (nn : Nat), .slice a L.length cap], .agg #[.int .u64 (cl : Nat), .int .u64 (nn : Nat), .slice (some ⟨g, 0, none⟩) L.length capc]] w' _ at HS2
  have fk : ¬ 9223372036854775807 < o.key.length + 1 := by omega
  clear hs ht hoks hokt hl8 hm8 hL0 hoo hkl hlen3 hG h h'
  go_enter Tryd.func4, Tryd.ntmps4
  go_wp2_with (first
    | (go_at_call 7; refine (HF1a _ HB).mono ?_; rintro e w3 ⟨sl3, rfl, hw3, hO3⟩; obtain ⟨a3, cap3, rfl, hSL3⟩ := hO3.sl; clear hO3 HF1a; replace h2 := h2.belowSize hw3; replace h3 := h3.belowSize hw3; replace HB := HB.trans (hw3.mono HB.size); clear hw3)
    | (go_at_call 6; refine (HK1 _ _ _ hSL3).mono ?_; rintro e w4 ⟨rfl, hw4⟩; clear HK1 hSL3; replace h2 := h2.belowSize hw4; replace h3 := h3.belowSize hw4; replace HB := HB.trans (hw4.mono HB.size); clear hw4; have d0 := (h3.cell 0).trans (txc_g0 _ _ _); have d1 := (h3.cell 1).trans (txc_g1 _ _ _); have d2 := (h3.cell 2).trans (txc_g2 _ _ _))
    | (go_at_call 7; refine (HF2l _ HB).mono ?_; rintro e w5 ⟨sl5, rfl, hw5, hO5⟩; obtain ⟨a5, cap5, rfl, hSL5⟩ := hO5.sl; clear HF2l hO5 d0 d1 d2; replace h2 := h2.belowSize hw5; replace h3 := h3.belowSize hw5; replace HB := HB.trans (hw5.mono HB.size); clear hw5)
    | (go_at_call 6; refine (HK2 _ _ _ hSL5).mono ?_; rintro e w6 ⟨rfl, hw6⟩; clear HK2 hSL5; replace h2 := h2.belowSize hw6; replace h3 := h3.belowSize hw6; replace HB := HB.trans (hw6.mono HB.size); clear hw6)
    | (with_reducible refine at_list ?_; first
      | (refine wpList_boxRow (op := ⟨some 2, _, _, _, _, _⟩) rfl _ _ rfl _ rfl ?_; intro w1 hw1 hs1 h2; replace hs1 := hs1.symm; have HB := hw1; clear hw1)
      | (refine wpList_boxRow (op := ⟨some 3, _, _, _, _, _⟩) rfl _ _ rfl _ rfl ?_; intro w2 hw2 hs2 h3; replace hs2 := hs2.symm; replace h2 := h2.belowSize hw2; replace HB := HB.trans (hw2.mono HB.size); clear hw2)
      | (refine wpList_loadRow (op := ⟨some 7, _, _, _, _, _⟩) rfl _ _ rfl w.heap.size rfl _ _ h2 _ Tryd.underlying25 rfl (by rw [txc_size]; exact zTx.2) ?_)))
  obtain ⟨B3, hB30⟩ : ∃ B, B = w1.heap.size := ⟨_, rfl⟩
  have hB3 : w.heap.size < B3 := by omega
  rw [← hB30] at h3 ⊢
  clear hB30 hs1 hs2
  replace HB := HB.drew
  refine wp_region_held_drew (S := fun w' => Blk w' w.heap.size (txc cl nn (.slice a L.length cap)) 25 ∧ Blk w' B3 (txc cl' nn' (.slice b M.length cap2)) 25) (by kernel_rfl) ⟨h2.drew, h3.drew⟩ (fun hHeld => ?_)
  clear h2 h3
  refine wpAnyH_take (i := 0) (oi := ⟨some 18, _, _, _, _, _⟩) (v := .agg (txc cl nn (.slice a L.length cap))) rfl (by kernel_rfl) (by kernel_rfl) (by kernel_rfl) (fun _ _ _ h => h) (Or.inl ⟨by rfl, fun w hSw => run_loadRow _ _ rfl _ rfl _ _ hSw.1 _ Tryd.underlying25 rfl (by rw [txc_size]; exact zTx.2)⟩) hHeld ?_
  refine wpAnyH_take (i := 3) (oi := ⟨some 21, _, _, _, _, _⟩) (v := .agg (txc cl' nn' (.slice b M.length cap2))) rfl (by kernel_rfl) (by kernel_rfl) (by kernel_rfl) (fun _ _ _ h => h) (Or.inl ⟨by rfl, fun w hSw => run_loadRow _ _ rfl _ rfl _ _ hSw.2 _ Tryd.underlying25 rfl (by rw [txc_size]; exact zTx.2)⟩) hHeld ?_
  simp only [Act.put, List.setIfInBounds_toArray, List.set_cons_zero, List.set_cons_succ]
  refine wpAnyH_ready (rs := [1]) (by kernel_rfl) (by simp) ?_
  refine AllReadyH.cons (o := ⟨some 19, .call ⟨.value (.func 7), #[.tmp 18], #[25]⟩, _, _, _, _⟩) rfl (fun K hK => ?_) AllReadyH.nil
  rw [if_pos (by rfl)]
  go_simp
  refine (HF1 _ HB).mono ?_
  rintro e wA ⟨slA, rfl, hwA, hOA⟩
  have hHx := And.intro (hHeld.1.belowSize hwA) (hHeld.2.belowSize hwA)
  refine hK.out _ _ hHx (fun _ => ?_)
  clear hK K hHeld
  have hHeld := hHx
  clear hHx
  replace HB := HB.trans (hwA.mono HB.size)
  obtain ⟨aA, capA, rfl, hSLA⟩ := hOA.sl
  refine wpAnyH_ready (rs := [2]) (by kernel_rfl) (by simp) ?_
  refine AllReadyH.cons (o := ⟨some 20, .call ⟨.value (.func 15), #[.tmp 19], #[32]⟩, _, _, _, _⟩) rfl (fun K hK => ?_) AllReadyH.nil
  rw [if_pos (by rfl)]
  go_simp
  refine (HRB1 _ _ _ hSLA).mono ?_
  rintro e wB ⟨rfl, hwB⟩
  have hHx := And.intro (hHeld.1.belowSize hwB) (hHeld.2.belowSize hwB)
  refine hK.out _ _ hHx (fun _ => ?_)
  clear hK K hHeld
  have hHeld := hHx
  clear hHx
  replace HB := HB.trans (hwB.mono HB.size)
  refine wpAnyH_ready (rs := [4]) (by kernel_rfl) (by simp) ?_
  refine AllReadyH.cons (o := ⟨some 22, .call ⟨.value (.func 7), #[.tmp 21], #[25]⟩, _, _, _, _⟩) rfl (fun K hK => ?_) AllReadyH.nil
  rw [if_pos (by rfl)]
  go_simp
  refine (HF2 _ HB).mono ?_
  rintro e wC ⟨slC, rfl, hwC, hOC⟩
  have hHx := And.intro (hHeld.1.belowSize hwC) (hHeld.2.belowSize hwC)
  refine hK.out _ _ hHx (fun _ => ?_)
  clear hK K hHeld
  have hHeld := hHx
  clear hHx
  replace HB := HB.trans (hwC.mono HB.size)
  obtain ⟨aC, capC, rfl, hSLC⟩ := hOC.sl
  refine wpAnyH_ready (rs := [5]) (by kernel_rfl) (by simp) ?_
  refine AllReadyH.cons (o := ⟨some 23, .call ⟨.value (.func 15), #[.tmp 22], #[32]⟩, _, _, _, _⟩) rfl (fun K hK => ?_) AllReadyH.nil
  rw [if_pos (by rfl)]
  go_simp
  refine (HRB2 _ _ _ hSLC).mono ?_
  rintro e wD ⟨rfl, hwD⟩
  have hHx := And.intro (hHeld.1.belowSize hwD) (hHeld.2.belowSize hwD)
  refine hK.out _ _ hHx (fun _ => ?_)
  clear hK K hHeld
  have hHeld := hHx
  clear hHx
  replace HB := HB.trans (hwD.mono HB.size)
  clear hSLA hOA hSLC hOC
  try simp only [Act.put, List.setIfInBounds_toArray, List.set_cons_zero, List.set_cons_succ]
  refine wpAnyH_take (i := 6) (oi := ⟨some 24, _, _, _, _, _⟩) (v := .bool sm) rfl (by kernel_rfl) (by kernel_rfl) (by kernel_rfl) (fun _ _ _ h => h) (Or.inl ⟨by rfl, fun w hSw => by go_simp; exact hsm.out⟩) hHeld ?_
  refine wpAnyH_take (i := 7) (oi := ⟨some 5, _, _, _, _, _⟩) (v := .bool sm) rfl (by kernel_rfl) (by kernel_rfl) (by kernel_rfl) (fun _ _ _ h => h) (Or.inl ⟨by rfl, fun w hSw => by go_simp⟩) hHeld ?_
  refine wpAnyH_done (by kernel_rfl) ?_ _
  simp only [Act.put]
  obtain ⟨h2, h3⟩ := hHeld
  clear hwA hwB hwC hwD
  go_simp
  clear HF1 HF2 HRB1 HRB2
  have hz0 : (0 : Int) < (L.length : Int) := by omega
  go_wp2_with (first
    | (go_at_call 21; refine (HCl _ HB).mono ?_; rintro e w8 ⟨g, capc, rfl, hg8, hw8, hOc⟩; clear HCl; have hB8 := HB.size; have hl3 := h3.lt; replace h2 := h2.belowSize hw8; replace h3 := h3.belowSize hw8; replace HB := HB.trans (hw8.mono HB.size); clear hw8)
    | (go_at_call 8; refine (HA _).mono ?_; rintro e w11 ⟨rfl, hw11⟩; clear HA; replace hOc := hOc.below hw11; replace h2 := h2.belowSize hw11; replace h3 := h3.belowSize hw11; replace h6 := h6.belowSize hw11; replace HB := HB.trans (hw11.mono HB.size); clear hw11; have c0 := (h2.cell 0).trans (txc_g0 _ _ _); have c1 := (h2.cell 1).trans (txc_g1 _ _ _); have c2 := (h2.cell 2).trans (txc_g2 _ _ _); have d0 := (h3.cell 0).trans (txc_g0 _ _ _); have d1 := (h3.cell 1).trans (txc_g1 _ _ _); have d2 := (h3.cell 2).trans (txc_g2 _ _ _); have f0 := (h6.cell 0).trans (txc_g0 _ _ _); have f1 := (h6.cell 1).trans (txc_g1 _ _ _); have f2 := (h6.cell 2).trans (txc_g2 _ _ _))
    | (go_at_call 17; refine (HS1 _ HB).mono ?_; rintro e w12 ⟨y1, rfl, hy1, hw12⟩; obtain rfl : y1 = sm := Bool.eq_iff_iff.2 (hy1.trans HPst.out); clear HS1 hy1 c0 c1 c2 d0 d1 d2 f0 f1 f2; replace hOc := hOc.below hw12; replace h2 := h2.belowSize hw12; replace h3 := h3.belowSize hw12; replace h6 := h6.belowSize hw12; replace HB := HB.trans (hw12.mono HB.size); clear hw12; have c0 := (h2.cell 0).trans (txc_g0 _ _ _); have c1 := (h2.cell 1).trans (txc_g1 _ _ _); have c2 := (h2.cell 2).trans (txc_g2 _ _ _); have f0 := (h6.cell 0).trans (txc_g0 _ _ _); have f1 := (h6.cell 1).trans (txc_g1 _ _ _); have f2 := (h6.cell 2).trans (txc_g2 _ _ _))
    | (go_at_call 17; refine (HS2 _ _ _ HB hOc).mono ?_; rintro e w13 ⟨y2, rfl, hy2, hw13⟩; obtain rfl : y2 = true := hy2.2 (by trivial); clear HS2 hy2 c0 c1 c2 f0 f1 f2; replace hOc := hOc.below hw13; replace h2 := h2.belowSize hw13; replace h3 := h3.belowSize hw13; replace h6 := h6.belowSize hw13; replace HB := HB.trans (hw13.mono HB.size); clear hw13; have c0 := (h2.cell 0).trans (txc_g0 _ _ _); have c1 := (h2.cell 1).trans (txc_g1 _ _ _); have c2 := (h2.cell 2).trans (txc_g2 _ _ _); have f0 := (h6.cell 0).trans (txc_g0 _ _ _); have f1 := (h6.cell 1).trans (txc_g1 _ _ _); have f2 := (h6.cell 2).trans (txc_g2 _ _ _); rw [hL.out] at hOc; have k1 := hOc.key; obtain ⟨cur, hbc, hq2, hq3, hq4⟩ := hOc.blk)
    | (with_reducible refine at_list ?_; first
      | (refine wpList_loadRow (op := ⟨some 25, _, _, _, _, _⟩) rfl _ _ rfl w.heap.size rfl _ _ h2 _ Tryd.underlying25 rfl (by rw [txc_size]; exact zTx.2) ?_)
      | (refine wpList_allocRow (op := ⟨some 6, _, _, _, _, _⟩) rfl _ rfl _ zTx.1 ?_; intro w9 hw9 hs9 h6; replace hs9 := hs9.symm; have hl38 := h3.lt; have hl28 := h2.lt; have hB9 := HB.size; replace hOc := hOc.below hw9; replace h2 := h2.belowSize hw9; replace h3 := h3.belowSize hw9; replace HB := HB.trans (hw9.mono HB.size); clear hw9)
      | (refine wpList_storeRow (op := ⟨none, .store 25 (.tmp 6) (.tmp 26), _, _, _, _⟩) rfl _ _ _ rfl w8.heap.size (txc cl nn (.slice (some ⟨g, 0, none⟩) L.length capc)) rfl rfl _ _ h6 (by simp only [txc_size]) (by rw [txc_size]; exact zTx.2) (txc_one _ _ _ _ _) ?_; intro w10 hg10 hs10 hb10; clear hs10; replace hOc := hOc.other hg10 h6 (by decide); replace h2 := h2.grown hg10 (by simp; omega); replace h3 := h3.grown hg10 (by simp; omega); replace HB := HB.trans (below_of_grown hg10 hB9 HB.size); replace h6 := hb10; clear hg10 hb10)
      | (refine wpList_storeCell (op := ⟨none, .store 9 (.tmp 58) (.tmp 56), _, _, _, _⟩) rfl _ _ _ rfl g 1 rfl (.string ⟨(o.key ++ [120]).toArray⟩) rfl _ _ hbc i9 rfl rfl (by simp only [List.length_cons] at hq2; omega) ?_; intro w14 hg14 hs14 hb14; clear hs14; replace h2 := h2.grown hg14 (fun e => absurd (Option.some.inj e) (hOc.ne h2 (by decide))); replace h3 := h3.grown hg14 (fun e => absurd (Option.some.inj e) (hOc.ne h3 (by decide))); replace h6 := h6.grown hg14 (fun e => absurd (Option.some.inj e) (hOc.ne h6 (by decide))); have hOd := OS.setKey (o.key ++ [120]) cur hq2 hq3 hq4 hb14; replace HB := HB.trans (below_of_grown hg14 (by omega) HB.size); clear hOc hbc hg14 hb14 c0 c1 c2 f0 f1 f2 k1)))
  obtain ⟨B6, hB60⟩ : ∃ B, B = w8.heap.size := ⟨_, rfl⟩
  rw [← hB60] at h6 ⊢
  clear hB60
  have hOc := hOd
  clear hOd
  cases y1
  · skip
    replace HB := HB.drew
    replace hOc := hOc.drew
    refine wp_region_held_drew (S := fun w' => Blk w' w.heap.size (txc cl nn (.slice a L.length cap)) 25 ∧ Blk w' B3 (txc cl' nn' (.slice b M.length cap2)) 25 ∧ Blk w' B6 (txc cl nn (.slice (some ⟨g, 0, none⟩) L.length capc)) 25) (by kernel_rfl) ⟨h2.drew, h3.drew, h6.drew⟩ (fun hHeld => ?_)
    clear h2 h3 h6
    refine wpAnyH_take (i := 0) (oi := ⟨some 59, _, _, _, _, _⟩) (v := .agg (txc cl nn (.slice a L.length cap))) rfl (by kernel_rfl) (by kernel_rfl) (by kernel_rfl) (fun _ _ _ h => h) (Or.inl ⟨by rfl, fun w hSw => run_loadRow _ _ rfl _ rfl _ _ hSw.1 _ Tryd.underlying25 rfl (by rw [txc_size]; exact zTx.2)⟩) hHeld ?_
    refine wpAnyH_take (i := 1) (oi := ⟨some 60, _, _, _, _, _⟩) (v := .agg (txc cl nn (.slice (some ⟨g, 0, none⟩) L.length capc))) rfl (by kernel_rfl) (by kernel_rfl) (by kernel_rfl) (fun _ _ _ h => h) (Or.inl ⟨by rfl, fun w hSw => run_loadRow _ _ rfl _ rfl _ _ hSw.2.2 _ Tryd.underlying25 rfl (by rw [txc_size]; exact zTx.2)⟩) hHeld ?_
    simp only [Act.put, List.setIfInBounds_toArray, List.set_cons_zero, List.set_cons_succ]
    refine wpAnyH_ready (rs := [2]) (by kernel_rfl) (by simp) ?_
    refine AllReadyH.cons (o := ⟨some 61, .call ⟨.value (.func 17), #[.tmp 59, .tmp 60], #[25, 25]⟩, _, _, _, _⟩) rfl (fun K hK => ?_) AllReadyH.nil
    rw [if_pos (by rfl)]
    go_simp
    refine (HS3 _ _ _ HB hOc).mono ?_
    rintro e wP ⟨yP, rfl, hyP, hwP⟩
    obtain rfl : yP = false := by simpa [hneq.out] using hyP
    have hHx := And.intro (hHeld.1.belowSize hwP) (And.intro (hHeld.2.1.belowSize hwP) (hHeld.2.2.belowSize hwP))
    refine hK.out _ _ hHx (fun _ => ?_)
    clear hK K hHeld
    have hHeld := hHx
    clear hHx
    replace hOc := hOc.below hwP
    replace HB := HB.trans (hwP.mono HB.size)
    try simp only [Act.put, List.setIfInBounds_toArray, List.set_cons_zero, List.set_cons_succ]
    refine wpAnyH_take (i := 3) (oi := ⟨some 62, _, _, _, _, _⟩) (v := .bool true) rfl (by kernel_rfl) (by kernel_rfl) (by kernel_rfl) (fun _ _ _ h => h) (Or.inl ⟨by rfl, fun w hSw => by go_simp⟩) hHeld ?_
    refine wpAnyH_take (i := 4) (oi := ⟨some 63, _, _, _, _, _⟩) (v := .bool true) rfl (by kernel_rfl) (by kernel_rfl) (by kernel_rfl) (fun _ _ _ h => h) (Or.inl ⟨by rfl, fun w hSw => by go_simp⟩) hHeld ?_
    simp only [Act.put, List.setIfInBounds_toArray, List.set_cons_zero, List.set_cons_succ]
    refine wpAnyH_take (i := 5) (oi := ⟨some 64, _, _, _, _, _⟩) (v := .bool false) rfl (by kernel_rfl) (by kernel_rfl) (by kernel_rfl) (fun _ _ _ h => h) (Or.inl ⟨by rfl, fun w hSw => by go_simp⟩) hHeld ?_
    refine wpAnyH_take (i := 6) (oi := ⟨some 65, _, _, _, _, _⟩) (v := .bool true) rfl (by kernel_rfl) (by kernel_rfl) (by kernel_rfl) (fun _ _ _ h => h) (Or.inl ⟨by rfl, fun w hSw => by go_simp⟩) hHeld ?_
    refine wpAnyH_take (i := 7) (oi := ⟨some 66, _, _, _, _, _⟩) (v := .bool true) rfl (by kernel_rfl) (by kernel_rfl) (by kernel_rfl) (fun _ _ _ h => h) (Or.inl ⟨by rfl, fun w hSw => by go_simp⟩) hHeld ?_
    simp only [Act.put, List.setIfInBounds_toArray, List.set_cons_zero, List.set_cons_succ]
    refine wpAnyH_take (i := 8) (oi := ⟨some 67, _, _, _, _, _⟩) (v := undef) rfl (by kernel_rfl) (by kernel_rfl) (by kernel_rfl) (fun _ _ _ h => h) (Or.inr ⟨by rfl, rfl⟩) hHeld ?_
    refine wpAnyH_take (i := 9) (oi := ⟨some 68, _, _, _, _, _⟩) (v := undef) rfl (by kernel_rfl) (by kernel_rfl) (by kernel_rfl) (fun _ _ _ h => h) (Or.inr ⟨by rfl, rfl⟩) hHeld ?_
    refine wpAnyH_take (i := 10) (oi := ⟨some 69, _, _, _, _, _⟩) (v := undef) rfl (by kernel_rfl) (by kernel_rfl) (by kernel_rfl) (fun _ _ _ h => h) (Or.inr ⟨by rfl, rfl⟩) hHeld ?_
    refine wpAnyH_take (i := 11) (oi := ⟨some 70, _, _, _, _, _⟩) (v := undef) rfl (by kernel_rfl) (by kernel_rfl) (by kernel_rfl) (fun _ _ _ h => h) (Or.inr ⟨by rfl, rfl⟩) hHeld ?_
    refine wpAnyH_take (i := 12) (oi := ⟨some 71, _, _, _, _, _⟩) (v := undef) rfl (by kernel_rfl) (by kernel_rfl) (by kernel_rfl) (fun _ _ _ h => h) (Or.inr ⟨by rfl, rfl⟩) hHeld ?_
    simp only [Act.put, List.setIfInBounds_toArray, List.set_cons_zero, List.set_cons_succ]
    refine wpAnyH_take (i := 13) (oi := ⟨some 72, _, _, _, _, _⟩) (v := .bool true) rfl (by kernel_rfl) (by kernel_rfl) (by kernel_rfl) (fun _ _ _ h => h) (Or.inl ⟨by rfl, fun w hSw => by go_simp⟩) hHeld ?_
    refine wpAnyH_take (i := 14) (oi := ⟨some 73, _, _, _, _, _⟩) (v := .bool true) rfl (by kernel_rfl) (by kernel_rfl) (by kernel_rfl) (fun _ _ _ h => h) (Or.inl ⟨by rfl, fun w hSw => by go_simp⟩) hHeld ?_
    refine wpAnyH_take (i := 15) (oi := ⟨some 4, _, _, _, _, _⟩) (v := .bool true) rfl (by kernel_rfl) (by kernel_rfl) (by kernel_rfl) (fun _ _ _ h => h) (Or.inl ⟨by rfl, fun w hSw => by go_simp⟩) hHeld ?_
    refine wpAnyH_done (by kernel_rfl) ?_ _
    simp only [Act.put]
    go_simp
    go_wp2_with fail
    go_ret
    exact ⟨rfl, HB⟩
  · have hib := hid.out rfl
    rw [hib] at HI1
    replace HB := HB.drew
    replace hOc := hOc.drew
    refine wp_region_held_drew (S := fun w' => Blk w' w.heap.size (txc cl nn (.slice a L.length cap)) 25 ∧ Blk w' B3 (txc cl' nn' (.slice b M.length cap2)) 25 ∧ Blk w' B6 (txc cl nn (.slice (some ⟨g, 0, none⟩) L.length capc)) 25) (by kernel_rfl) ⟨h2.drew, h3.drew, h6.drew⟩ (fun hHeld => ?_)
    clear h2 h3 h6
    refine wpAnyH_take (i := 0) (oi := ⟨some 59, _, _, _, _, _⟩) (v := .agg (txc cl nn (.slice a L.length cap))) rfl (by kernel_rfl) (by kernel_rfl) (by kernel_rfl) (fun _ _ _ h => h) (Or.inl ⟨by rfl, fun w hSw => run_loadRow _ _ rfl _ rfl _ _ hSw.1 _ Tryd.underlying25 rfl (by rw [txc_size]; exact zTx.2)⟩) hHeld ?_
    refine wpAnyH_take (i := 1) (oi := ⟨some 60, _, _, _, _, _⟩) (v := .agg (txc cl nn (.slice (some ⟨g, 0, none⟩) L.length capc))) rfl (by kernel_rfl) (by kernel_rfl) (by kernel_rfl) (fun _ _ _ h => h) (Or.inl ⟨by rfl, fun w hSw => run_loadRow _ _ rfl _ rfl _ _ hSw.2.2 _ Tryd.underlying25 rfl (by rw [txc_size]; exact zTx.2)⟩) hHeld ?_
    simp only [Act.put, List.setIfInBounds_toArray, List.set_cons_zero, List.set_cons_succ]
    refine wpAnyH_ready (rs := [2]) (by kernel_rfl) (by simp) ?_
    refine AllReadyH.cons (o := ⟨some 61, .call ⟨.value (.func 17), #[.tmp 59, .tmp 60], #[25, 25]⟩, _, _, _, _⟩) rfl (fun K hK => ?_) AllReadyH.nil
    rw [if_pos (by rfl)]
    go_simp
    refine (HS3 _ _ _ HB hOc).mono ?_
    rintro e wP ⟨yP, rfl, hyP, hwP⟩
    obtain rfl : yP = false := by simpa [hneq.out] using hyP
    have hHx := And.intro (hHeld.1.belowSize hwP) (And.intro (hHeld.2.1.belowSize hwP) (hHeld.2.2.belowSize hwP))
    refine hK.out _ _ hHx (fun _ => ?_)
    clear hK K hHeld
    have hHeld := hHx
    clear hHx
    replace hOc := hOc.below hwP
    replace HB := HB.trans (hwP.mono HB.size)
    try simp only [Act.put, List.setIfInBounds_toArray, List.set_cons_zero, List.set_cons_succ]
    refine wpAnyH_take (i := 3) (oi := ⟨some 62, _, _, _, _, _⟩) (v := .bool true) rfl (by kernel_rfl) (by kernel_rfl) (by kernel_rfl) (fun _ _ _ h => h) (Or.inl ⟨by rfl, fun w hSw => by go_simp⟩) hHeld ?_
    refine wpAnyH_take (i := 4) (oi := ⟨some 63, _, _, _, _, _⟩) (v := .bool true) rfl (by kernel_rfl) (by kernel_rfl) (by kernel_rfl) (fun _ _ _ h => h) (Or.inl ⟨by rfl, fun w hSw => by go_simp⟩) hHeld ?_
    simp only [Act.put, List.setIfInBounds_toArray, List.set_cons_zero, List.set_cons_succ]
    refine wpAnyH_take (i := 5) (oi := ⟨some 64, _, _, _, _, _⟩) (v := .bool true) rfl (by kernel_rfl) (by kernel_rfl) (by kernel_rfl) (fun _ _ _ h => h) (Or.inl ⟨by rfl, fun w hSw => by go_simp⟩) hHeld ?_
    refine wpAnyH_take (i := 6) (oi := ⟨some 65, _, _, _, _, _⟩) (v := .bool false) rfl (by kernel_rfl) (by kernel_rfl) (by kernel_rfl) (fun _ _ _ h => h) (Or.inl ⟨by rfl, fun w hSw => by go_simp⟩) hHeld ?_
    refine wpAnyH_take (i := 7) (oi := ⟨some 66, _, _, _, _, _⟩) (v := .bool false) rfl (by kernel_rfl) (by kernel_rfl) (by kernel_rfl) (fun _ _ _ h => h) (Or.inl ⟨by rfl, fun w hSw => by go_simp⟩) hHeld ?_
    simp only [Act.put, List.setIfInBounds_toArray, List.set_cons_zero, List.set_cons_succ]
    refine wpAnyH_take (i := 8) (oi := ⟨some 67, _, _, _, _, _⟩) (v := .agg (txc cl nn (.slice a L.length cap))) rfl (by kernel_rfl) (by kernel_rfl) (by kernel_rfl) (fun _ _ _ h => h) (Or.inl ⟨by rfl, fun w hSw => run_loadRow _ _ rfl _ rfl _ _ hSw.1 _ Tryd.underlying25 rfl (by rw [txc_size]; exact zTx.2)⟩) hHeld ?_
    refine wpAnyH_take (i := 10) (oi := ⟨some 69, _, _, _, _, _⟩) (v := .agg (txc cl' nn' (.slice b M.length cap2))) rfl (by kernel_rfl) (by kernel_rfl) (by kernel_rfl) (fun _ _ _ h => h) (Or.inl ⟨by rfl, fun w hSw => run_loadRow _ _ rfl _ rfl _ _ hSw.2.1 _ Tryd.underlying25 rfl (by rw [txc_size]; exact zTx.2)⟩) hHeld ?_
    simp only [Act.put, List.setIfInBounds_toArray, List.set_cons_zero, List.set_cons_succ]
    refine wpAnyH_ready (rs := [9]) (by kernel_rfl) (by simp) ?_
    refine AllReadyH.cons (o := ⟨some 68, .call ⟨.value (.func 19), #[.tmp 67], #[25]⟩, _, _, _, _⟩) rfl (fun K hK => ?_) AllReadyH.nil
    rw [if_pos (by rfl)]
    go_simp
    refine (HI1 _ HB).mono ?_
    rintro e wQ ⟨rfl, hwQ⟩
    have hHx := And.intro (hHeld.1.belowSize hwQ) (And.intro (hHeld.2.1.belowSize hwQ) (hHeld.2.2.belowSize hwQ))
    refine hK.out _ _ hHx (fun _ => ?_)
    clear hK K hHeld
    have hHeld := hHx
    clear hHx
    replace HB := HB.trans (hwQ.mono HB.size)
    refine wpAnyH_ready (rs := [11]) (by kernel_rfl) (by simp) ?_
    refine AllReadyH.cons (o := ⟨some 70, .call ⟨.value (.func 19), #[.tmp 69], #[25]⟩, _, _, _, _⟩) rfl (fun K hK => ?_) AllReadyH.nil
    rw [if_pos (by rfl)]
    go_simp
    refine (HI2 _ HB).mono ?_
    rintro e wR ⟨rfl, hwR⟩
    have hHx := And.intro (hHeld.1.belowSize hwR) (And.intro (hHeld.2.1.belowSize hwR) (hHeld.2.2.belowSize hwR))
    refine hK.out _ _ hHx (fun _ => ?_)
    clear hK K hHeld
    have hHeld := hHx
    clear hHx
    replace HB := HB.trans (hwR.mono HB.size)
    try simp only [Act.put, List.setIfInBounds_toArray, List.set_cons_zero, List.set_cons_succ]
    refine wpAnyH_take (i := 12) (oi := ⟨some 71, _, _, _, _, _⟩) (v := .bool true) rfl (by kernel_rfl) (by kernel_rfl) (by kernel_rfl) (fun _ _ _ h => h) (Or.inl ⟨by rfl, fun w hSw => by go_simp⟩) hHeld ?_
    refine wpAnyH_take (i := 13) (oi := ⟨some 72, _, _, _, _, _⟩) (v := .bool true) rfl (by kernel_rfl) (by kernel_rfl) (by kernel_rfl) (fun _ _ _ h => h) (Or.inl ⟨by rfl, fun w hSw => by go_simp⟩) hHeld ?_
    refine wpAnyH_take (i := 14) (oi := ⟨some 73, _, _, _, _, _⟩) (v := .bool true) rfl (by kernel_rfl) (by kernel_rfl) (by kernel_rfl) (fun _ _ _ h => h) (Or.inl ⟨by rfl, fun w hSw => by go_simp⟩) hHeld ?_
    refine wpAnyH_take (i := 15) (oi := ⟨some 4, _, _, _, _, _⟩) (v := .bool true) rfl (by kernel_rfl) (by kernel_rfl) (by kernel_rfl) (fun _ _ _ h => h) (Or.inl ⟨by rfl, fun w hSw => by go_simp⟩) hHeld ?_
    refine wpAnyH_done (by kernel_rfl) ?_ _
    simp only [Act.put]
    go_simp
    go_wp2_with fail
    go_ret
    exact ⟨rfl, HB⟩
end Go.Proofs.YtncoifkchoiiaaaDoor
