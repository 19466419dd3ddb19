/- What TxBytes does. -/
import Derived.Test.YtncoifkchoiiaaaDoorAwk
import Derived.Test.YtncoifkchoiiaaaDoorRef
import Derived.Test.YtncoifkchoiiaaaDoorRck
import Derived.Test.YtncoifkchoiiaaaDoorSme
import Derived.Test.YtncoifkchoiiaaaDoorIdt
namespace Go.Proofs.YtncoifkchoiiaaaDoor
open Go Go.RowKit
theorem OL.toSL {w : World} {t : TypeId} {lo : Nat} {a : Option Addr} {n cap : Nat} {l : List O} (h : OL w t lo (.slice a n cap) l) : SL w a l := by
  obtain ⟨a', cap', he, hs⟩ := h.sl
  simp only [Value.slice.injEq] at he
  rw [he.1]
  exact hs
/-- A transaction of which more than nine operations are left out may not be, if it has more than eight. -/
theorem chk_take (t : TX) : chk ⟨t.client, t.nonce, t.ops.take 9⟩ = chk t := by
  by_cases h9 : t.ops.length ≤ 9
  · rw [List.take_of_length_le h9]
  · rw [chk_not (fun h => by have := (okTx_of h).len1; simp only [List.length_take] at this; omega), chk_not (fun h => by have := (okTx_of h).len1; omega)]
set_option maxRecDepth 100000 in
set_option maxHeartbeats 1000000 in
theorem bytes_bad (t : TX) (hbad : ¬ okTx t = true) (a : Option Addr) (cap : Nat) (w : World) (h : SL w a t.ops) :
    Calls Tryd.prog 3 #[.agg (txc t.client t.nonce (.slice a t.ops.length cap))] w fun e w' => e = .returned (.bool true) ∧ Below w.heap.size w w' := by
  have HE := fun w' (hB : Below w.heap.size w w') => encode_any t a cap w' (h.below hB)
  have HC := fun w' (hB : Below w.heap.size w w') => check_any t a cap w' (h.below hB)
  have HF := fun w' (hB : Below w.heap.size w w') => ref_any t.client t.nonce t.ops a cap w' (h.below hB)
  have HK := fun a cap w (h : SL w a (t.ops.take 9)) => rcheck_any ⟨t.client, t.nonce, t.ops.take 9⟩ a cap w h
  have HA := fun w => awake_any w
  rw [show encB t = [] from if_neg hbad, chk_not hbad] at HE
  rw [chk_not hbad] at HC
  rw [chk_take, chk_not hbad] at HK
  dsimp only at HK
  generalize (Value.slice a t.ops.length cap) = sl at *
  change ∀ w', Below w.heap.size w w' → Calls Tryd.prog 9 #[.agg #[.int .u64 (t.client : Nat), .int .u64 (t.nonce : Nat), sl]] w' _ at HC
  generalize t.ops.take 9 = l9 at *
  generalize t.client = cl at *
  generalize t.nonce = nn at *
  go_enter Tryd.func3, Tryd.ntmps3
  go_wp2_with (first
    | (go_at_call 5; refine (HE _ HB).mono ?_; rintro e w2 ⟨rfl, hw2⟩; clear HE; replace h1 := h1.belowSize hw2; replace HB := HB.trans (hw2.mono HB.size); clear hw2)
    | (go_at_call 7; refine (HF _ HB).mono ?_; rintro e w3 ⟨sl3, rfl, hw3, hO3⟩; obtain ⟨a3, cap3, rfl, hSL3⟩ := hO3.sl; clear HF hO3; replace h1 := h1.belowSize hw3; replace HB := HB.trans (hw3.mono HB.size); clear hw3)
    | (go_at_call 6; refine (HK _ _ _ hSL3).mono ?_; rintro e w4 ⟨rfl, hw4⟩; clear HK hSL3; replace h1 := h1.belowSize hw4; replace HB := HB.trans (hw4.mono HB.size); clear hw4)
    | (go_at_call 8; refine (HA _).mono ?_; rintro e w5 ⟨rfl, hw5⟩; clear HA; replace h1 := h1.belowSize hw5; replace HB := HB.trans (hw5.mono HB.size); clear hw5; have c0 := (h1.cell 0).trans (txc_g0 _ _ _); have c1 := (h1.cell 1).trans (txc_g1 _ _ _); have c2 := (h1.cell 2).trans (txc_g2 _ _ _))
    | (go_at_call 9; refine (HC _ HB).mono ?_; rintro e w6 ⟨rfl, hw6⟩; clear HC c0 c1 c2; replace h1 := h1.belowSize hw6; replace HB := HB.trans (hw6.mono HB.size); clear hw6)
    | (with_reducible refine at_list ?_; first
      | (refine wpList_boxRow (op := ⟨some 1, _, _, _, _, _⟩) rfl _ _ rfl _ rfl ?_; intro w1 hw1 hs1 h1; replace hs1 := hs1.symm; have HB := hw1; clear hw1)
      | (refine wpList_loadRow (op := ⟨some 12, _, _, _, _, _⟩) rfl _ _ rfl w.heap.size rfl _ _ h1 _ Tryd.underlying25 rfl (by rw [txc_size]; exact zTx.2) ?_)
      | (refine wpList_loadRow (op := ⟨some 16, _, _, _, _, _⟩) rfl _ _ rfl w.heap.size rfl _ _ h1 _ Tryd.underlying25 rfl (by rw [txc_size]; exact zTx.2) ?_)))
  go_ret
  exact ⟨rfl, HB⟩
theorem OS.blk {w : World} {t : TypeId} {g cap : Nat} {l : List O} (h : OS w t g cap l) : ∃ cur, Blk w g cur t ∧ l.length ≤ cap ∧ cap * 3 ≤ cur.size ∧ ∀ (j : Nat) (v : Value), (opsC l)[j]? = some v → cur[j]? = some v := by
  obtain ⟨cur, h1, h2⟩ := h.out
  exact ⟨cur, ⟨h1⟩, h2⟩
theorem OL.puts {w w' : World} {b lo : Nat} {x y : List UInt8} {t : TypeId} {sl : Value} {l : List O} (h : OL w t lo sl l) (hP : Puts w w' b x y) (h1 : t ≠ 59) (h2 : t ≠ 5) : OL w' t lo sl l := by
  rcases h with h | ⟨g, cap, hg, hs, hO⟩
  · exact .inl h
  · obtain ⟨cur, hb, hr⟩ := hO.blk
    exact .inr ⟨g, cap, hg, hs, ⟨cur, (hP.keeps.out g cur t hb h1 h2).out, hr⟩⟩
theorem BS.ne {w : World} {g cap i : Nat} {l : List UInt8} {c : Array Value} {ty : TypeId} (h : BS w g cap l) (hb : Blk w i c ty) (ht : ty ≠ 5) : i ≠ g := by
  intro e
  subst e
  obtain ⟨cur, fr, h1, _⟩ := h.out
  have h2 := hb.out
  rw [h1] at h2
  simp only [Option.some.injEq, Obj.cells.injEq] at h2
  exact ht h2.2.1.symm
theorem Blk.ne {w : World} {i j : Nat} {c d : Array Value} {t u : TypeId} (h : Blk w i c t) (k : Blk w j d u) (ht : t ≠ u) : i ≠ j := by
  intro e
  subst e
  have h2 := h.out
  rw [k.out] at h2
  simp only [Option.some.injEq, Obj.cells.injEq] at h2
  exact ht h2.2.1.symm
/-- What is written into a block that is neither a writer nor bytes leaves a writer. -/
theorem WR.grownT {w w' : World} {b i : Nat} {l : List UInt8} {c : Array Value} {ty : TypeId} (h : WR w b l) (hg : w.grownBy w' (some i)) (hi : Blk w i c ty) (h1 : ty ≠ 59) (h2 : ty ≠ 5) : WR w' b l := by
  obtain ⟨sl, hb, hl⟩ := h.out
  refine ⟨sl, hb.grown hg (fun e => hi.ne hb h1 (Option.some.inj e).symm), ?_⟩
  rcases hl with hl | ⟨g, cap, k1, k2, k3⟩
  · exact .inl hl
  · exact .inr ⟨g, cap, k1, k2, k3.grown hg (fun e => k3.ne hi h2 (Option.some.inj e).symm)⟩
theorem WR.to {w w' : World} {b i : Nat} {l : List UInt8} {r r' : R} (h : WR w b l) (hR : RD w i r) (hT : To w w' i r') : WR w' b l := h.grownT hT.grown hR.blk (by decide) (by decide)
theorem run_loadRow {P : Program} {op : Oper} {a : Act} {w : World} (ty : TypeId) (x : Operand) (ho : op.op = .load ty x) (b : Nat) (hx : a.eval x = .pointer (some ⟨b, 0, none⟩))
    (c : Array Value) (t : TypeId) (hb : Blk w b c t) (d : TypeDesc) (hu : P.underlying ty = some d) (hd : d.isRow = true) (hi : (P.info? ty).map (·.size) = some c.size) :
    (execOp a.eval op).run P w = .ok (.value (.agg c)) w := by
  unfold execOp
  simp only [ho, hx]
  simp [Instr.loadAt, Instr.sureAddr, hb.loadVar d hu hd hi]
theorem left_one (b : Nat) (tb : List UInt8) (w : World) (h : RD w b ⟨tb ++ [120], tb.length, 0⟩) (hl : tb.length ≤ 1000) : Calls Tryd.prog 18 #[.pointer (some ⟨b, 0, none⟩)] w fun e w' => e = .returned (.int .i64 1) ∧ Draws w w' := by
  have hlx : (tb ++ [120]).length = tb.length + 1 := by simp
  refine (left_any b ⟨tb ++ [120], tb.length, 0⟩ w h (by show tb.length ≤ (tb ++ [120]).length; omega) (by show (tb ++ [120]).length ≤ _; omega)).mono ?_
  rintro e w' ⟨rfl, hD⟩
  refine ⟨?_, hD⟩
  have e1 : (((tb ++ [120]).length : Nat) : Int) - (tb.length : Nat) = 1 := by rw [hlx]; omega
  show Ending.returned (.int .i64 ((((tb ++ [120]).length : Nat) : Int) - (tb.length : Nat))) = _
  rw [e1]
attribute [local go_sem] mkApp2
set_option maxRecDepth 100000 in
set_option maxHeartbeats 4000000 in
theorem bytes_good (t : TX) (hok0 : okTx t = true) (hc : t.client < 18446744073709551616) (hn : t.nonce < 18446744073709551616) (a : Option Addr) (cap : Nat) (w : World) (h : SL w a t.ops) (hG : Sh.Glob w) :
    Calls Tryd.prog 3 #[.agg (txc t.client t.nonce (.slice a t.ops.length cap))] w fun e w' => e = .returned (.bool true) ∧ Below w.heap.size w w' := by
  have hok := okTx_of hok0
  have hle := txB_le hok
  have hl8 := hok.len1
  have hTk : t.ops.take 9 = t.ops := List.take_of_length_le (by omega)
  have HE := fun w' (hB : Below w.heap.size w w') => encode_any t a cap w' (h.below hB)
  have HC := fun w' (hB : Below w.heap.size w w') => check_any t a cap w' (h.below hB)
  have HF := fun w' (hB : Below w.heap.size w w') => ref_any t.client t.nonce t.ops a cap w' (h.below hB)
  have HK := fun a cap w (h : SL w a t.ops) => rcheck_any t a cap w h
  have HA := fun w => awake_any w
  have HD := fun w => decode_any (txB t) w (by omega)
  have HN := fun w => neww_any w
  have HP := fun b w' (hB : Below w.heap.size w w') (hb : w.heap.size ≤ b) (hW : WR w' b []) => put_any t hok a cap b [] w' w hB hb h hW (by simp)
  have HNR := fun w => newr_any (txB t ++ [120]) w
  have hk0 : (⟨txB t ++ [120], 0, 0⟩ : R).ok := Nat.zero_le _
  have hlx : (txB t ++ [120]).length = (txB t).length + 1 := by simp
  have HT := fun b w (h : RD w b ⟨txB t ++ [120], 0, 0⟩) => take_any b ⟨txB t ++ [120], 0, 0⟩ w h hk0 (by show (txB t ++ [120]).length ≤ _; omega)
  have HRB := fun a cap w (h : SL w a t.ops) => rtxb_any t hok hc hn a cap w h
  have HAll := fun b w (h : WR w b (txB t)) => wall_any b (txB t) w h
  have HSm := fun a2 cap2 w' (hB : Below w.heap.size w w') (h2 : SL w' a2 t.ops) => same_any t t a a2 cap cap2 w' (h.below hB) h2 (by omega)
  have HLf := fun b w (h : RD w b ⟨txB t ++ [120], (txB t).length, 0⟩) => left_one b (txB t) w h (by omega)
  have HID := fun w' (hB : Below w.heap.size w w') => id_any t hok a cap w' (h.below hB) (hG.belowSize hB)
  have HRI := fun a cap w (h : SL w a t.ops) => rid_any t hok hc hn a cap w h
  rw [show encB t = txB t from if_pos hok0, chk_zero hok0] at HE
  rw [chk_zero hok0] at HC HK
  rw [hTk] at HF
  obtain ⟨hd1, hd2⟩ := dec_t t hok0 hc hn
  rw [hd1, hd2] at HD
  obtain ⟨he1, he2⟩ := rd_at t hok0 hc hn [120]
  rw [he1, he2] at HT
  have HV : Hid (∀ sl, takeV ⟨txB t, (txB t).length, 0⟩ t sl = txc t.client t.nonce sl) := fun sl => if_pos rfl
  have HV2 : Hid (∀ sl, takeV ⟨txB t ++ [120], (txB t).length, 0⟩ t sl = txc t.client t.nonce sl) := fun sl => if_pos rfl
  clear hd1 hd2 he1 he2 hk0 hlx hTk
  change ∀ w', Below w.heap.size w w' → Calls Tryd.prog 9 #[.agg #[.int .u64 (t.client : Nat), .int .u64 (t.nonce : Nat), .slice a t.ops.length cap]] w' _ at HC
  generalize txB t = tb at *
  generalize idB t = ib at *
  go_enter Tryd.func3, Tryd.ntmps3
  go_wp2_with (first
    | (go_at_call 5; refine (HE _ HB).mono ?_; rintro e w2 ⟨rfl, hw2⟩; clear HE; replace h1 := h1.belowSize hw2; replace HB := HB.trans (hw2.mono HB.size); clear hw2)
    | (go_at_call 7; refine (HF _ HB).mono ?_; rintro e w3 ⟨sl3, rfl, hw3, hO3⟩; obtain ⟨a3, cap3, rfl, hSL3⟩ := hO3.sl; clear hO3; replace h1 := h1.belowSize hw3; replace HB := HB.trans (hw3.mono HB.size); clear hw3)
    | (go_at_call 6; refine (HK _ _ _ hSL3).mono ?_; rintro e w4 ⟨rfl, hw4⟩; clear HK hSL3; replace h1 := h1.belowSize hw4; replace HB := HB.trans (hw4.mono HB.size); clear hw4)
    | (go_at_call 8; refine (HA _).mono ?_; rintro e w5 ⟨rfl, hw5⟩; clear HA; replace h1 := h1.belowSize hw5; replace HB := HB.trans (hw5.mono HB.size); clear hw5; have c0 := (h1.cell 0).trans (txc_g0 _ _ _); have c1 := (h1.cell 1).trans (txc_g1 _ _ _); have c2 := (h1.cell 2).trans (txc_g2 _ _ _))
    | (go_at_call 9; refine (HC _ HB).mono ?_; rintro e w6 ⟨rfl, hw6⟩; clear HC c0 c1 c2; replace h1 := h1.belowSize hw6; replace HB := HB.trans (hw6.mono HB.size); clear hw6)
    | (go_at_call 10; refine (HD _).mono ?_; rintro e w7 ⟨sl7, rfl, hw7, hO6⟩; rw [HV.out sl7]; obtain ⟨a6, cap6, rfl, hSL7⟩ := hO6.sl; clear HD hSL7; replace h1 := h1.belowSize hw7; replace HB := HB.trans (hw7.mono HB.size); clear hw7)
    | (go_at_call 11; refine (HN _).mono ?_; rintro e w10 ⟨rfl, hw10, hW⟩; clear HN; replace hO6 := hO6.below hw10; have hl10 := h6.lt; have hB9 := HB.size; have hWl := hW.lt; replace h1 := h1.belowSize hw10; replace h6 := h6.belowSize hw10; replace HB := HB.trans (hw10.mono HB.size); clear hw10)
    | (go_at_call 12; refine (HP _ _ HB hB9 hW).mono ?_; rintro e w11 ⟨rfl, hPt⟩; clear HP; replace hW := hPt.wr; replace hO6 := hO6.puts hPt (by decide) (by decide); replace h1 := h1.puts hPt (by decide) (by decide); replace h6 := h6.puts hPt (by decide) (by decide); replace HB := HB.trans (hPt.below.mono hB9); have hWl11 := hW.lt; clear hPt)
    | (go_at_call 13; refine (HNR _).mono ?_; rintro e w12 ⟨rfl, hw12, hR⟩; clear HNR; replace hO6 := hO6.below hw12; replace hW := hW.below hw12; have hB11 := HB.size; have hRl := hR.lt; have hl6 := h6.lt; replace h1 := h1.belowSize hw12; replace h6 := h6.belowSize hw12; replace HB := HB.trans (hw12.mono HB.size); clear hw12)
    | (go_at_call 14; refine (HT _ _ hR).mono ?_; rintro e w13 ⟨sl13, rfl, hT13, hO10⟩; rw [HV2.out sl13]; obtain ⟨a10, cap10, rfl, hSL13⟩ := hO10.sl; clear HT hSL13; replace hO6 := hO6.grown hT13.grown hR.blk (by decide); replace hW := hW.to hR hT13; replace h1 := h1.to hT13 (by omega); replace h6 := h6.to hT13 (by omega); replace HB := HB.trans (below_of_grown hT13.grown hB11 HB.size); replace hR := hT13.rd; clear hT13)
    | (with_reducible refine at_list ?_; first
      | (refine wpList_boxRow (op := ⟨some 1, _, _, _, _, _⟩) rfl _ _ rfl _ rfl ?_; intro w1 hw1 hs1 h1; replace hs1 := hs1.symm; have HB := hw1; clear hw1)
      | (refine wpList_loadRow (op := ⟨some 12, _, _, _, _, _⟩) rfl _ _ rfl w.heap.size rfl _ _ h1 _ Tryd.underlying25 rfl (by rw [txc_size]; exact zTx.2) ?_)
      | (refine wpList_loadRow (op := ⟨some 16, _, _, _, _, _⟩) rfl _ _ rfl w.heap.size rfl _ _ h1 _ Tryd.underlying25 rfl (by rw [txc_size]; exact zTx.2) ?_)
      | (refine wpList_loadRow (op := ⟨some 43, _, _, _, _, _⟩) rfl _ _ rfl w.heap.size rfl _ _ h1 _ Tryd.underlying25 rfl (by rw [txc_size]; exact zTx.2) ?_)
      | (refine wpList_allocRow (op := ⟨some 6, _, _, _, _, _⟩) rfl _ rfl _ zTx.1 ?_; intro w8 hw8 hs8 h6; replace hs8 := hs8.symm; have hl1 := h1.lt; have hB7 := HB.size; replace hO6 := hO6.below hw8; replace h1 := h1.belowSize hw8; replace HB := HB.trans (hw8.mono HB.size); clear hw8)
      | (refine wpList_storeRow (op := ⟨none, .store 25 (.tmp 6) (.tmp 39), _, _, _, _⟩) rfl _ _ _ rfl w7.heap.size (txc t.client t.nonce (.slice a6 t.ops.length cap6)) rfl rfl _ _ h6 (by simp only [txc_size]) (by rw [txc_size]; exact zTx.2) (txc_one _ _ _ _ _) ?_; intro w9 hg9 hs9 hb9; clear hs9; replace hO6 := hO6.grown hg9 h6 (by decide); replace h1 := h1.grown hg9 (by simp; omega); replace HB := HB.trans (below_of_grown hg9 hB7 HB.size); replace h6 := hb9; clear hg9 hb9)
      | (refine wpList_allocRow (op := ⟨some 10, _, _, _, _, _⟩) rfl _ rfl _ zTx.1 ?_; intro w14 hw14 hs14 h10; replace hs14 := hs14.symm; have hl13 := h1.lt; have hl136 := h6.lt; have hlR := hR.lt; have hlW := hW.lt; have hB13 := HB.size; replace hO6 := hO6.below hw14; replace hO10 := hO10.below hw14; replace hW := hW.below hw14; replace hR := hR.below hw14; replace h1 := h1.belowSize hw14; replace h6 := h6.belowSize hw14; replace HB := HB.trans (hw14.mono HB.size); clear hw14)
      | (refine wpList_storeRow (op := ⟨none, .store 25 (.tmp 10) (.tmp 49), _, _, _, _⟩) rfl _ _ _ rfl w13.heap.size (txc t.client t.nonce (.slice a10 t.ops.length cap10)) rfl rfl _ _ h10 (by simp only [txc_size]) (by rw [txc_size]; exact zTx.2) (txc_one _ _ _ _ _) ?_; intro w15 hg15 hs15 hb15; clear hs15; replace hO6 := hO6.grown hg15 h10 (by decide); replace hO10 := hO10.grown hg15 h10 (by decide); replace hW := hW.grownT hg15 h10 (by decide) (by decide); replace hR := hR.grown hg15 (by omega); replace h1 := h1.grown hg15 (by simp; omega); replace h6 := h6.grown hg15 (by simp; omega); replace HB := HB.trans (below_of_grown hg15 hB13 HB.size); replace h10 := hb15; clear hg15 hb15)))
  obtain ⟨B6, hB60⟩ : ∃ B, B = w7.heap.size := ⟨_, rfl⟩
  obtain ⟨b8, hb80⟩ : ∃ B, B = w9.heap.size := ⟨_, rfl⟩
  obtain ⟨b9, hb90⟩ : ∃ B, B = w11.heap.size := ⟨_, rfl⟩
  obtain ⟨B10, hB100⟩ : ∃ B, B = w13.heap.size := ⟨_, rfl⟩
  rw [← hB60] at h6 ⊢
  rw [← hb80] at hW ⊢
  rw [← hb90] at hR ⊢
  rw [← hB100] at h10 ⊢
  clear hB60 hb80 hb90 hB100
  replace HB := HB.drew
  replace hO6 := hO6.drew
  replace hO10 := hO10.drew
  replace hW := hW.below ((Below.refl _ _).drew)
  replace hR := hR.below ((Below.refl _ _).drew)
  refine wp_region_held_drew (S := fun w' => Blk w' w.heap.size (txc t.client t.nonce (.slice a t.ops.length cap)) 25 ∧ Blk w' B6 (txc t.client t.nonce (.slice a6 t.ops.length cap6)) 25 ∧ Blk w' B10 (txc t.client t.nonce (.slice a10 t.ops.length cap10)) 25) (by kernel_rfl) ⟨h1.drew, h6.drew, h10.drew⟩ (fun hHeld => ?_)
  clear h1 h6 h10
  refine wpAnyH_take (i := 0) (oi := ⟨some 50, _, _, _, _, _⟩) (v := .string ⟨tb.toArray⟩) rfl (by kernel_rfl) (by kernel_rfl) (by kernel_rfl) (fun _ _ _ h => h) (Or.inl ⟨by rfl, fun w hSw => by go_simp⟩) hHeld ?_
  refine wpAnyH_take (i := 1) (oi := ⟨some 51, _, _, _, _, _⟩) (v := .agg (txc t.client t.nonce (.slice a t.ops.length cap))) rfl (by kernel_rfl) (by kernel_rfl) (by kernel_rfl) (fun _ _ _ h => h) (Or.inl ⟨by rfl, fun w hSw => run_loadRow _ _ rfl _ rfl _ _ hSw.1 _ Tryd.underlying25 rfl (by rw [txc_size]; exact zTx.2)⟩) hHeld ?_
  simp only [Act.put, List.setIfInBounds_toArray, List.set_cons_zero, List.set_cons_succ]
  refine wpAnyH_ready (rs := [2]) (by kernel_rfl) (by simp) ?_
  refine AllReadyH.cons (o := ⟨some 52, .call ⟨.value (.func 7), #[.tmp 51], #[25]⟩, _, _, _, _⟩) rfl (fun K hK => ?_) AllReadyH.nil
  rw [if_pos (by rfl)]
  go_simp
  refine (HF _ HB).mono ?_
  rintro e wA ⟨slA, rfl, hwA, hOA⟩
  have hHx := And.intro (hHeld.1.belowSize hwA) (And.intro (hHeld.2.1.belowSize hwA) (hHeld.2.2.belowSize hwA))
  refine hK.out _ _ hHx (fun _ => ?_)
  clear hK K hHeld
  have hHeld := hHx
  clear hHx
  replace hO6 := hO6.below hwA
  replace hO10 := hO10.below hwA
  replace hW := hW.below hwA
  replace hR := hR.below hwA
  replace HB := HB.trans (hwA.mono HB.size)
  obtain ⟨aA, capA, rfl, hSLA⟩ := hOA.sl
  refine wpAnyH_ready (rs := [3]) (by kernel_rfl) (by simp) ?_
  refine AllReadyH.cons (o := ⟨some 53, .call ⟨.value (.func 15), #[.tmp 52], #[32]⟩, _, _, _, _⟩) rfl (fun K hK => ?_) AllReadyH.nil
  rw [if_pos (by rfl)]
  go_simp
  refine (HRB _ _ _ hSLA).mono ?_
  rintro e wB ⟨rfl, hwB⟩
  have hHx := And.intro (hHeld.1.belowSize hwB) (And.intro (hHeld.2.1.belowSize hwB) (hHeld.2.2.belowSize hwB))
  refine hK.out _ _ hHx (fun _ => ?_)
  clear hK K hHeld
  have hHeld := hHx
  clear hHx
  replace hO6 := hO6.below hwB
  replace hO10 := hO10.below hwB
  replace hW := hW.below hwB
  replace hR := hR.below hwB
  replace HB := HB.trans (hwB.mono HB.size)
  clear hSLA hOA
  try simp only [Act.put, List.setIfInBounds_toArray, List.set_cons_zero, List.set_cons_succ]
  refine wpAnyH_take (i := 4) (oi := ⟨some 54, _, _, _, _, _⟩) (v := .bool true) rfl (by kernel_rfl) (by kernel_rfl) (by kernel_rfl) (fun _ _ _ h => h) (Or.inl ⟨by rfl, fun w hSw => by go_simp⟩) hHeld ?_
  refine wpAnyH_take (i := 5) (oi := ⟨some 55, _, _, _, _, _⟩) (v := .bool true) rfl (by kernel_rfl) (by kernel_rfl) (by kernel_rfl) (fun _ _ _ h => h) (Or.inl ⟨by rfl, fun w hSw => by go_simp⟩) hHeld ?_
  simp only [Act.put, List.setIfInBounds_toArray, List.set_cons_zero, List.set_cons_succ]
  refine wpAnyH_take (i := 6) (oi := ⟨some 56, _, _, _, _, _⟩) (v := .pointer (some ⟨b8, 0, none⟩)) rfl (by kernel_rfl) (by kernel_rfl) (by kernel_rfl) (fun _ _ _ h => h) (Or.inl ⟨by rfl, fun w hSw => by go_simp⟩) hHeld ?_
  refine wpAnyH_take (i := 8) (oi := ⟨some 58, _, _, _, _, _⟩) (v := .string ⟨tb.toArray⟩) rfl (by kernel_rfl) (by kernel_rfl) (by kernel_rfl) (fun _ _ _ h => h) (Or.inl ⟨by rfl, fun w hSw => by go_simp⟩) hHeld ?_
  simp only [Act.put, List.setIfInBounds_toArray, List.set_cons_zero, List.set_cons_succ]
  refine wpAnyH_ready (rs := [7]) (by kernel_rfl) (by simp) ?_
  refine AllReadyH.cons (o := ⟨some 57, .call ⟨.value (.func 16), #[.tmp 56], #[38]⟩, _, _, _, _⟩) rfl (fun K hK => ?_) AllReadyH.nil
  rw [if_pos (by rfl)]
  go_simp
  refine (HAll _ _ hW).mono ?_
  rintro e wC ⟨rfl, hwC⟩
  have hw2' := hwC.symm
  subst hw2'
  clear hwC
  refine hK.out _ _ hHeld (fun _ => ?_)
  clear hK K
  try simp only [Act.put, List.setIfInBounds_toArray, List.set_cons_zero, List.set_cons_succ]
  refine wpAnyH_take (i := 9) (oi := ⟨some 59, _, _, _, _, _⟩) (v := .bool true) rfl (by kernel_rfl) (by kernel_rfl) (by kernel_rfl) (fun _ _ _ h => h) (Or.inl ⟨by rfl, fun w hSw => by go_simp⟩) hHeld ?_
  refine wpAnyH_take (i := 10) (oi := ⟨some 60, _, _, _, _, _⟩) (v := .bool true) rfl (by kernel_rfl) (by kernel_rfl) (by kernel_rfl) (fun _ _ _ h => h) (Or.inl ⟨by rfl, fun w hSw => by go_simp⟩) hHeld ?_
  simp only [Act.put, List.setIfInBounds_toArray, List.set_cons_zero, List.set_cons_succ]
  refine wpAnyH_take (i := 11) (oi := ⟨some 61, _, _, _, _, _⟩) (v := .bool true) rfl (by kernel_rfl) (by kernel_rfl) (by kernel_rfl) (fun _ _ _ h => h) (Or.inl ⟨by rfl, fun w hSw => by go_simp⟩) hHeld ?_
  refine wpAnyH_take (i := 12) (oi := ⟨some 62, _, _, _, _, _⟩) (v := .int .i64 0) rfl (by kernel_rfl) (by kernel_rfl) (by kernel_rfl) (fun _ _ _ h => h) (Or.inl ⟨by rfl, fun w hSw => by go_simp⟩) hHeld ?_
  simp only [Act.put, List.setIfInBounds_toArray, List.set_cons_zero, List.set_cons_succ]
  refine wpAnyH_take (i := 13) (oi := ⟨some 63, _, _, _, _, _⟩) (v := .bool true) rfl (by kernel_rfl) (by kernel_rfl) (by kernel_rfl) (fun _ _ _ h => h) (Or.inl ⟨by rfl, fun w hSw => by go_simp⟩) hHeld ?_
  refine wpAnyH_take (i := 14) (oi := ⟨some 64, _, _, _, _, _⟩) (v := .bool true) rfl (by kernel_rfl) (by kernel_rfl) (by kernel_rfl) (fun _ _ _ h => h) (Or.inl ⟨by rfl, fun w hSw => by go_simp⟩) hHeld ?_
  refine wpAnyH_take (i := 15) (oi := ⟨some 65, _, _, _, _, _⟩) (v := .bool true) rfl (by kernel_rfl) (by kernel_rfl) (by kernel_rfl) (fun _ _ _ h => h) (Or.inl ⟨by rfl, fun w hSw => by go_simp⟩) hHeld ?_
  simp only [Act.put, List.setIfInBounds_toArray, List.set_cons_zero, List.set_cons_succ]
  refine wpAnyH_take (i := 16) (oi := ⟨some 66, _, _, _, _, _⟩) (v := .agg (txc t.client t.nonce (.slice a t.ops.length cap))) rfl (by kernel_rfl) (by kernel_rfl) (by kernel_rfl) (fun _ _ _ h => h) (Or.inl ⟨by rfl, fun w hSw => run_loadRow _ _ rfl _ rfl _ _ hSw.1 _ Tryd.underlying25 rfl (by rw [txc_size]; exact zTx.2)⟩) hHeld ?_
  refine wpAnyH_take (i := 17) (oi := ⟨some 67, _, _, _, _, _⟩) (v := .agg (txc t.client t.nonce (.slice a6 t.ops.length cap6))) rfl (by kernel_rfl) (by kernel_rfl) (by kernel_rfl) (fun _ _ _ h => h) (Or.inl ⟨by rfl, fun w hSw => run_loadRow _ _ rfl _ rfl _ _ hSw.2.1 _ Tryd.underlying25 rfl (by rw [txc_size]; exact zTx.2)⟩) hHeld ?_
  simp only [Act.put, List.setIfInBounds_toArray, List.set_cons_zero, List.set_cons_succ]
  refine wpAnyH_ready (rs := [18]) (by kernel_rfl) (by simp) ?_
  refine AllReadyH.cons (o := ⟨some 68, .call ⟨.value (.func 17), #[.tmp 66, .tmp 67], #[25, 25]⟩, _, _, _, _⟩) rfl (fun K hK => ?_) AllReadyH.nil
  rw [if_pos (by rfl)]
  go_simp
  refine (HSm _ _ _ HB hO6.toSL).mono ?_
  rintro e wD ⟨yD, rfl, hyD, hwD⟩
  obtain rfl : yD = true := by simpa using hyD
  have hHx := And.intro (hHeld.1.belowSize hwD) (And.intro (hHeld.2.1.belowSize hwD) (hHeld.2.2.belowSize hwD))
  refine hK.out _ _ hHx (fun _ => ?_)
  clear hK K hHeld
  have hHeld := hHx
  clear hHx
  replace hO6 := hO6.below hwD
  replace hO10 := hO10.below hwD
  replace hW := hW.below hwD
  replace hR := hR.below hwD
  replace HB := HB.trans (hwD.mono HB.size)
  try simp only [Act.put, List.setIfInBounds_toArray, List.set_cons_zero, List.set_cons_succ]
  refine wpAnyH_take (i := 19) (oi := ⟨some 69, _, _, _, _, _⟩) (v := .bool true) rfl (by kernel_rfl) (by kernel_rfl) (by kernel_rfl) (fun _ _ _ h => h) (Or.inl ⟨by rfl, fun w hSw => by go_simp⟩) hHeld ?_
  refine wpAnyH_take (i := 20) (oi := ⟨some 70, _, _, _, _, _⟩) (v := .bool true) rfl (by kernel_rfl) (by kernel_rfl) (by kernel_rfl) (fun _ _ _ h => h) (Or.inl ⟨by rfl, fun w hSw => by go_simp⟩) hHeld ?_
  simp only [Act.put, List.setIfInBounds_toArray, List.set_cons_zero, List.set_cons_succ]
  refine wpAnyH_take (i := 21) (oi := ⟨some 71, _, _, _, _, _⟩) (v := .agg (txc t.client t.nonce (.slice a t.ops.length cap))) rfl (by kernel_rfl) (by kernel_rfl) (by kernel_rfl) (fun _ _ _ h => h) (Or.inl ⟨by rfl, fun w hSw => run_loadRow _ _ rfl _ rfl _ _ hSw.1 _ Tryd.underlying25 rfl (by rw [txc_size]; exact zTx.2)⟩) hHeld ?_
  refine wpAnyH_take (i := 22) (oi := ⟨some 72, _, _, _, _, _⟩) (v := .agg (txc t.client t.nonce (.slice a10 t.ops.length cap10))) rfl (by kernel_rfl) (by kernel_rfl) (by kernel_rfl) (fun _ _ _ h => h) (Or.inl ⟨by rfl, fun w hSw => run_loadRow _ _ rfl _ rfl _ _ hSw.2.2 _ Tryd.underlying25 rfl (by rw [txc_size]; exact zTx.2)⟩) hHeld ?_
  simp only [Act.put, List.setIfInBounds_toArray, List.set_cons_zero, List.set_cons_succ]
  refine wpAnyH_ready (rs := [23]) (by kernel_rfl) (by simp) ?_
  refine AllReadyH.cons (o := ⟨some 73, .call ⟨.value (.func 17), #[.tmp 71, .tmp 72], #[25, 25]⟩, _, _, _, _⟩) rfl (fun K hK => ?_) AllReadyH.nil
  rw [if_pos (by rfl)]
  go_simp
  refine (HSm _ _ _ HB hO10.toSL).mono ?_
  rintro e wE ⟨yE, rfl, hyE, hwE⟩
  obtain rfl : yE = true := by simpa using hyE
  have hHx := And.intro (hHeld.1.belowSize hwE) (And.intro (hHeld.2.1.belowSize hwE) (hHeld.2.2.belowSize hwE))
  refine hK.out _ _ hHx (fun _ => ?_)
  clear hK K hHeld
  have hHeld := hHx
  clear hHx
  replace hO6 := hO6.below hwE
  replace hO10 := hO10.below hwE
  replace hW := hW.below hwE
  replace hR := hR.below hwE
  replace HB := HB.trans (hwE.mono HB.size)
  try simp only [Act.put, List.setIfInBounds_toArray, List.set_cons_zero, List.set_cons_succ]
  refine wpAnyH_take (i := 24) (oi := ⟨some 74, _, _, _, _, _⟩) (v := .bool true) rfl (by kernel_rfl) (by kernel_rfl) (by kernel_rfl) (fun _ _ _ h => h) (Or.inl ⟨by rfl, fun w hSw => by go_simp⟩) hHeld ?_
  refine wpAnyH_take (i := 25) (oi := ⟨some 75, _, _, _, _, _⟩) (v := .bool true) rfl (by kernel_rfl) (by kernel_rfl) (by kernel_rfl) (fun _ _ _ h => h) (Or.inl ⟨by rfl, fun w hSw => by go_simp⟩) hHeld ?_
  refine wpAnyH_take (i := 26) (oi := ⟨some 76, _, _, _, _, _⟩) (v := .pointer (some ⟨b9, 0, none⟩)) rfl (by kernel_rfl) (by kernel_rfl) (by kernel_rfl) (fun _ _ _ h => h) (Or.inl ⟨by rfl, fun w hSw => by go_simp⟩) hHeld ?_
  simp only [Act.put, List.setIfInBounds_toArray, List.set_cons_zero, List.set_cons_succ]
  refine wpAnyH_ready (rs := [27]) (by kernel_rfl) (by simp) ?_
  refine AllReadyH.cons (o := ⟨some 77, .call ⟨.value (.func 18), #[.tmp 76], #[41]⟩, _, _, _, _⟩) rfl (fun K hK => ?_) AllReadyH.nil
  rw [if_pos (by rfl)]
  go_simp
  refine (HLf _ _ hR).mono ?_
  rintro e wF ⟨rfl, hDwF⟩
  have hwF := hDwF.below (B := wE.heap.size)
  have hHx := And.intro (hHeld.1.belowSize hwF) (And.intro (hHeld.2.1.belowSize hwF) (hHeld.2.2.belowSize hwF))
  refine hK.out _ _ hHx (fun _ => ?_)
  clear hK K hHeld
  have hHeld := hHx
  clear hHx
  replace hO6 := hO6.below hwF
  replace hO10 := hO10.below hwF
  replace hW := hW.below hwF
  replace hR := hR.below hwF
  replace HB := HB.trans (hwF.mono HB.size)
  try simp only [Act.put, List.setIfInBounds_toArray, List.set_cons_zero, List.set_cons_succ]
  refine wpAnyH_take (i := 28) (oi := ⟨some 78, _, _, _, _, _⟩) (v := .bool true) rfl (by kernel_rfl) (by kernel_rfl) (by kernel_rfl) (fun _ _ _ h => h) (Or.inl ⟨by rfl, fun w hSw => by go_simp⟩) hHeld ?_
  refine wpAnyH_take (i := 29) (oi := ⟨some 79, _, _, _, _, _⟩) (v := .bool true) rfl (by kernel_rfl) (by kernel_rfl) (by kernel_rfl) (fun _ _ _ h => h) (Or.inl ⟨by rfl, fun w hSw => by go_simp⟩) hHeld ?_
  refine wpAnyH_take (i := 30) (oi := ⟨some 80, _, _, _, _, _⟩) (v := .bool true) rfl (by kernel_rfl) (by kernel_rfl) (by kernel_rfl) (fun _ _ _ h => h) (Or.inl ⟨by rfl, fun w hSw => by go_simp⟩) hHeld ?_
  simp only [Act.put, List.setIfInBounds_toArray, List.set_cons_zero, List.set_cons_succ]
  refine wpAnyH_take (i := 31) (oi := ⟨some 81, _, _, _, _, _⟩) (v := .agg (txc t.client t.nonce (.slice a t.ops.length cap))) rfl (by kernel_rfl) (by kernel_rfl) (by kernel_rfl) (fun _ _ _ h => h) (Or.inl ⟨by rfl, fun w hSw => run_loadRow _ _ rfl _ rfl _ _ hSw.1 _ Tryd.underlying25 rfl (by rw [txc_size]; exact zTx.2)⟩) hHeld ?_
  refine wpAnyH_take (i := 33) (oi := ⟨some 83, _, _, _, _, _⟩) (v := .agg (txc t.client t.nonce (.slice a t.ops.length cap))) rfl (by kernel_rfl) (by kernel_rfl) (by kernel_rfl) (fun _ _ _ h => h) (Or.inl ⟨by rfl, fun w hSw => run_loadRow _ _ rfl _ rfl _ _ hSw.1 _ Tryd.underlying25 rfl (by rw [txc_size]; exact zTx.2)⟩) hHeld ?_
  simp only [Act.put, List.setIfInBounds_toArray, List.set_cons_zero, List.set_cons_succ]
  refine wpAnyH_ready (rs := [32]) (by kernel_rfl) (by simp) ?_
  refine AllReadyH.cons (o := ⟨some 82, .call ⟨.value (.func 19), #[.tmp 81], #[25]⟩, _, _, _, _⟩) rfl (fun K hK => ?_) AllReadyH.nil
  rw [if_pos (by rfl)]
  go_simp
  refine (HID _ HB).mono ?_
  rintro e wG ⟨rfl, hwG⟩
  have hHx := And.intro (hHeld.1.belowSize hwG) (And.intro (hHeld.2.1.belowSize hwG) (hHeld.2.2.belowSize hwG))
  refine hK.out _ _ hHx (fun _ => ?_)
  clear hK K hHeld
  have hHeld := hHx
  clear hHx
  replace hO6 := hO6.below hwG
  replace hO10 := hO10.below hwG
  replace hW := hW.below hwG
  replace hR := hR.below hwG
  replace HB := HB.trans (hwG.mono HB.size)
  refine wpAnyH_ready (rs := [34]) (by kernel_rfl) (by simp) ?_
  refine AllReadyH.cons (o := ⟨some 84, .call ⟨.value (.func 7), #[.tmp 83], #[25]⟩, _, _, _, _⟩) rfl (fun K hK => ?_) AllReadyH.nil
  rw [if_pos (by rfl)]
  go_simp
  refine (HF _ HB).mono ?_
  rintro e wH ⟨slH, rfl, hwH, hOH⟩
  have hHx := And.intro (hHeld.1.belowSize hwH) (And.intro (hHeld.2.1.belowSize hwH) (hHeld.2.2.belowSize hwH))
  refine hK.out _ _ hHx (fun _ => ?_)
  clear hK K hHeld
  have hHeld := hHx
  clear hHx
  replace hO6 := hO6.below hwH
  replace hO10 := hO10.below hwH
  replace hW := hW.below hwH
  replace hR := hR.below hwH
  replace HB := HB.trans (hwH.mono HB.size)
  obtain ⟨aH, capH, rfl, hSLH⟩ := hOH.sl
  refine wpAnyH_ready (rs := [35]) (by kernel_rfl) (by simp) ?_
  refine AllReadyH.cons (o := ⟨some 85, .call ⟨.value (.func 20), #[.tmp 84], #[32]⟩, _, _, _, _⟩) rfl (fun K hK => ?_) AllReadyH.nil
  rw [if_pos (by rfl)]
  go_simp
  refine (HRI _ _ _ hSLH).mono ?_
  rintro e wI ⟨rfl, hwI⟩
  have hHx := And.intro (hHeld.1.belowSize hwI) (And.intro (hHeld.2.1.belowSize hwI) (hHeld.2.2.belowSize hwI))
  refine hK.out _ _ hHx (fun _ => ?_)
  clear hK K hHeld
  have hHeld := hHx
  clear hHx
  replace hO6 := hO6.below hwI
  replace hO10 := hO10.below hwI
  replace hW := hW.below hwI
  replace hR := hR.below hwI
  replace HB := HB.trans (hwI.mono HB.size)
  try simp only [Act.put, List.setIfInBounds_toArray, List.set_cons_zero, List.set_cons_succ]
  refine wpAnyH_take (i := 36) (oi := ⟨some 86, _, _, _, _, _⟩) (v := .bool true) rfl (by kernel_rfl) (by kernel_rfl) (by kernel_rfl) (fun _ _ _ h => h) (Or.inl ⟨by rfl, fun w hSw => by go_simp⟩) hHeld ?_
  refine wpAnyH_take (i := 37) (oi := ⟨some 87, _, _, _, _, _⟩) (v := .bool true) rfl (by kernel_rfl) (by kernel_rfl) (by kernel_rfl) (fun _ _ _ h => h) (Or.inl ⟨by rfl, fun w hSw => by go_simp⟩) hHeld ?_
  refine wpAnyH_take (i := 38) (oi := ⟨some 2, _, _, _, _, _⟩) (v := .bool true) rfl (by kernel_rfl) (by kernel_rfl) (by kernel_rfl) (fun _ _ _ h => h) (Or.inl ⟨by rfl, fun w hSw => by go_simp⟩) hHeld ?_
  refine wpAnyH_done (by kernel_rfl) ?_ _
  simp only [Act.put]
  go_simp
  go_wp2_with fail
  go_ret
  exact ⟨rfl, HB⟩
end Go.Proofs.YtncoifkchoiiaaaDoor
