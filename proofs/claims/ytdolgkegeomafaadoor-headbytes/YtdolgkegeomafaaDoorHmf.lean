/- What Decode does at the bytes of a header that may be; what Equal and Same do. -/
import Derived.Test.YtdolgkegeomafaaDoorHme
namespace Go.Proofs.YtdolgkegeomafaaDoor
open Go Go.RowKit
theorem res_cv {fn : Func} {p u : Tmp} {t : TypeId} (h : fn.results = #[.cell p t, .tmp u]) (tmps : Array Value) (w : World) (b : Nat) (c : Array Value) (v : Value) (ty : TypeId) (d : TypeDesc)
    (hp : tmps.getD p undef = .pointer (some ⟨b, 0, none⟩)) (hv : tmps.getD u undef = v) (hb : Blk w b c ty) (hu : Tryd.prog.underlying t = some d) (hd : d.isRow = true) (hi : (Tryd.prog.info? t).map (·.size) = some c.size) :
    (results fn tmps).run Tryd.prog w = .ok (.tuple #[.agg c, v]) w := by
  rw [results_cell_tmp h, hp, hv]
  simp [asAddr, hb.loadVar d hu hd hi]
/-- What Decode leaves. -/
def DecHP (w : World) (h : HH) (e : Ending) (w' : World) : Prop :=
  ∃ a cap, e = .returned (.tuple #[.agg (hA h.height h.prev h.txr h.str (.slice a h.mem.length cap)), .int .i64 0]) ∧ Below w.heap.size w w' ∧ VL w' 3 w.heap.size (.slice a h.mem.length cap) (h.mem.map fun x => .int .i64 x)
set_option maxRecDepth 100000 in
set_option maxHeartbeats 1000000 in
theorem decodeH_at (h : HH) (hk : OkH h) (hh : h.height < 18446744073709551616) (w : World) : Calls Tryd.prog 11 #[.string ⟨(hB h).toArray⟩] w (DecHP w h) := by
  have hL := hB_len hk
  have h16 := hk.m.len
  have HN := fun w => newr_any (hB h) w
  have HT := fun b w (hR : RD w b ⟨hB h, ([] : List UInt8).length, 0⟩) => takeH_at b h hk hh [] [] (hB h) (by simp) w hR (by omega)
  have hfin : (⟨hB h, 0 + (hB h).length, 0⟩ : R).fin = ⟨hB h, 0 + (hB h).length, 0⟩ := by
    unfold R.fin
    rw [if_neg (by dsimp only; omega)]
  have HE := fun b w (hR : RD w b ⟨hB h, 0 + (hB h).length, 0⟩) => end_any b ⟨hB h, 0 + (hB h).length, 0⟩ w hR (show 0 + (hB h).length ≤ (hB h).length by omega) (by dsimp only; omega)
  rw [hfin] at HE
  dsimp only at HE
  change ∀ b w, RD w b ⟨hB h, 0, 0⟩ → Calls Tryd.prog 15 #[.pointer (some ⟨b, 0, none⟩)] w (TakeHP b w ⟨hB h, 0 + (hB h).length, 0⟩ h) at HT
  clear hfin hL h16 hk hh
  generalize 0 + (hB h).length = pE at *
  generalize hB h = S at *
  obtain ⟨ht, p, t, s, m⟩ := h
  unfold TakeHP at HT
  unfold DecHP
  dsimp only at HT ⊢
  go_enter Tryd.func11, Tryd.ntmps11
  go_wp2_with (first
    | (go_at_call 14; refine (HN _).mono ?_; rintro e w2 ⟨rfl, hw2, hR2⟩; replace hz1 := hz1.belowSize hw2; have hl2 := hR2.lt; replace HB := HB.trans (hw2.mono HB.size))
    | (go_at_call 15; refine (HT _ _ hR2).mono ?_; rintro e w3 ⟨a, cap, rfl, hV3, hT3⟩; replace hz1 := hz1.to hT3 (by omega); replace HB := HB.trans (below_of_grown hT3.grown hw1.size HB.size))
    | (go_at_call 25; refine (HE _ _ (hR5)).mono ?_; rintro e w6 ⟨rfl, hT6⟩; have hz6 := hz5.to hT6 (by omega); replace hz1 := hz1.to hT6 (by omega); have hV6 := hV5.grownT hT6.grown hR5.blk (by decide); replace HB := HB.trans (below_of_grown hT6.grown hw1.size HB.size))
    | (with_reducible refine at_list ?_; first
      | (refine wpList_allocRow (op := ⟨some 2, _, _, _, _, _⟩) rfl _ rfl _ zH0.1 ?_; intro w1 hw1 hs1 hz1; replace hs1 := hs1.symm; have HB := hw1)
      | (refine wpList_allocRow (op := ⟨some 5, _, _, _, _, _⟩) rfl _ rfl _ zH0.1 ?_; intro w4 hw4 hs4 hz4; replace hs4 := hs4.symm; replace hz1 := hz1.belowSize hw4; have hV4 := hV3.below hw4; have hl3 := hT3.grown.size; have hHB := HB.size; replace HB := HB.trans (hw4.mono HB.size))
      | (refine wpList_storeRow (op := ⟨none, .store 25 (.tmp 5) (.tmp 10), _, _, _, _⟩) rfl _ _ _ rfl w3.heap.size (hA ht p t s (.slice a m.length cap)) rfl rfl _ _ hz4 (by simp only [hA_size]) (by rw [hA_size]; exact zH.2) (hA_one _ _ _ _ _ _ _) ?_; intro w5 hg5 hs5 hz5; replace hz1 := hz1.grown hg5 (by simp; omega); have hR5 := (hT3.rd.below hw4).grown hg5 (by omega); have hV5 := hV4.grownT hg5 hz4 (by decide); replace HB := HB.trans (below_of_grown hg5 hHB HB.size))
      | (refine wpList_loadRow (op := ⟨some 17, _, _, _, _, _⟩) rfl _ _ rfl w3.heap.size rfl _ _ hz6 _ Tryd.underlying25 rfl (by rw [hA_size]; exact zH.2) ?_)
      | (refine wpList_storeRow (op := ⟨none, .store 25 (.tmp 2) (.tmp 17), _, _, _, _⟩) rfl _ _ _ rfl w.heap.size (hA ht p t s (.slice a m.length cap)) rfl rfl _ _ hz1 (by simp only [hA_size]) (by rw [hA_size]; exact zH.2) (hA_one _ _ _ _ _ _ _) ?_; intro w7 hg7 hs7 hz7; replace HB := HB.trans (below_of_grown hg7 (Nat.le_refl _) HB.size); have hV7 := hV6.grownT hg7 hz1 (by decide))))
  refine bodyPost_ret (v := .tuple #[.agg (hA ht p t s (.slice a m.length cap)), .int .i64 0]) ?_ rfl ⟨a, cap, rfl, HB, hV7.mono (Nat.le_trans hw1.size hw2.size)⟩
  exact res_cv rfl _ _ w.heap.size _ _ _ _ rfl rfl hz7 Tryd.underlying25 rfl (by rw [hA_size]; exact zH.2)
/-- What a question whether two are one leaves. -/
def EqP (w : World) (p : Prop) (e : Ending) (w' : World) : Prop := ∃ y : Bool, e = .returned (.bool y) ∧ (y = true ↔ p) ∧ Below w.heap.size w w'
set_option maxRecDepth 100000 in
set_option maxHeartbeats 1000000 in
theorem equalI_any (a a2 : Option Addr) (l m : List Int) (cap cap2 : Nat) (w : World) (h : IA w a l) (h2 : IA w a2 m) (hl : l.length ≤ 1000000) :
    Calls Tryd.prog 37 #[.slice a l.length cap, .slice a2 m.length cap2] w (EqP w (l = m)) := by
  by_cases hlm : l.length = m.length
  · have hne : ((l.length : Int) != (m.length : Int)) = false := by simp; omega
    have hm1 : l.length ≤ m.length := by omega
    have hm2 : m.length ≤ l.length := by omega
    clear hlm
    go_enter Tryd.func37, Tryd.ntmps37
    go_wp2_with fail
    go_loopw [13] (fun v13 wl => ∃ i : Nat, i ≤ l.length ∧ v13 = .int .i64 i ∧ Below w.heap.size w wl ∧ Hid (l.take i = m.take i)) (fun v13 _ => l.length - (intOf v13).toNat)
    case atStart => exact ⟨0, by omega, rfl, Below.refl _ _, by rw [List.take_zero, List.take_zero]; exact rfl⟩
    case round =>
      obtain ⟨i, hi, rfl, hB, hA⟩ := hrel
      by_cases hlt : i < l.length
      · have hlt2 : i < m.length := by omega
        obtain ⟨g, o, rfl⟩ := h.ex (by omega)
        obtain ⟨g2, o2, rfl⟩ := h2.ex (by omega)
        have c0 := (h.below hB).cell hlt
        have c1 := (h2.below hB).cell hlt2
        have hT : Hid (l.take (i + 1) = l.take i ++ [l.getD i 0]) := by
          rw [List.take_succ_eq_append_getElem hlt, List.getD_eq_getElem?_getD, List.getElem?_eq_getElem hlt]; exact rfl
        have hT2 : Hid (m.take (i + 1) = m.take i ++ [m.getD i 0]) := by
          rw [List.take_succ_eq_append_getElem hlt2, List.getD_eq_getElem?_getD, List.getElem?_eq_getElem hlt2]; exact rfl
        have hn : Hid (¬ l.getD i 0 = m.getD i 0 → l ≠ m) := fun hx e => hx (by rw [e])
        have hz1 : (0 : Int) ≤ (i : Int) := by omega
        have hz2 : (i : Int) < (l.length : Int) := by omega
        have hz3 : (i : Int) < (m.length : Int) := by omega
        generalize l.getD i 0 = x at *
        generalize m.getD i 0 = y at *
        by_cases hxy : x = y
        · subst hxy
          have hA2 : Hid (l.take (i + 1) = m.take (i + 1)) := by rw [hT.out, hT2.out, hA.out]; exact rfl
          clear hT hT2 hA hn hne
          go_wp2_with fail
          go_quiet (fail)
          go_wp2_with fail
          go_roundw
          case rel => exact ⟨i + 1, by omega, by go_num, below_draws hB _, hA2⟩
          case measure => simp [intOf]; omega
        · have hd : (x != y) = true := by simpa using hxy
          have hn := hn.out hxy
          have hn' : Hid (l ≠ m) := hn
          clear hT hT2 hA hn hne
          go_wp2_with fail
          go_quiet (fail)
          go_wp2_with fail
          go_ret
          exact ⟨false, rfl, by simp [hn'.out], below_draws hB _⟩
      · have hA2 := hA.out
        rw [List.take_of_length_le (show l.length ≤ i by omega), List.take_of_length_le (show m.length ≤ i by omega)] at hA2
        have hA3 : Hid (l = m) := hA2
        have hz2 : ¬ (i : Int) < (l.length : Int) := by omega
        clear hA2 hA
        go_wp2_with fail
        go_ret
        exact ⟨true, rfl, by simp [hA3.out], hB⟩
  · have hne : ((l.length : Int) != (m.length : Int)) = true := by simp; omega
    have hn : Hid (l ≠ m) := fun e => hlm (by rw [e])
    clear hlm
    go_enter Tryd.func37, Tryd.ntmps37
    go_wp2_with fail
    go_ret
    exact ⟨false, rfl, by simp [hn.out], Below.refl _ _⟩
end Go.Proofs.YtdolgkegeomafaaDoor
