/- What readSegments of a log does where a segment is torn, and readBase of a base without frames. -/
import Derived.Test.YtaiiojbakmminaaGreatDoorWrg
namespace Go.Proofs.YtaiiojbakmminaaGreatDoor
open Go Go.RowKit
/-- The log behind a segment that is torn. -/
def tornL (L : LG) (txs : List B) (j : Nat) (t : B) : LG := { segL L txs j with recs := (segL L txs j).recs ++ (unfT t).1, segs := j + 1, last := (unfT t).2 }
/-- A log that takes texts in, and its numbers. -/
theorem seg_wk {w3 w4 w7 : World} {q p : Nat} {b rbi rb4 : Option Nat} {L L' : LG} {m : DN} {v4 : Value} (hK : WK w3 q p b rbi L m) (hg4 : w3.grownBy w4 rbi) (hn4 : ∀ k, rb4 = some k → rbi = some k ∨ w3.heap.size ≤ k) (hT4 : TS w4 v4 rb4 L'.recs) (hgg : w4.grownBy w7 (some q)) (hL7 : Blk w7 q (lC p L' v4) 64) (h2g : 2 ≤ w3.heap.size) : WK w7 q p b rb4 L' m ∧ Wch w3 w7 q p b rbi b rb4 := by
  obtain ⟨rv, hL, hTR, hD⟩ := hK.out
  obtain ⟨⟨c1, f1, k1⟩, _, _, k4⟩ := hK.kinds
  have hqr : some q ≠ rbi := fun e => by
    obtain ⟨c2, f2, k5⟩ := k4 q e.symm
    exact kind_ne k1 k5 (by decide) rfl
  have hL4 := hL.grown hg4 hqr
  refine ⟨WK.of hL7 (hT4.grown hgg (fun k e e2 => ?_)) ((hD.row hg4 k4).grown hgg hL4 (by decide) (by decide) (by decide)) hK.q2 hK.p2 hK.b2 (fun k e => ?_), (Wch.row hg4 hn4).trans (Wch.own hgg)⟩
  · have := Option.some.inj e2
    subst this
    rcases hn4 k e with h5 | h5
    · exact hqr h5.symm
    · have := hL.lt; omega
  · rcases hn4 k e with h5 | h5
    · exact hK.r2 k h5
    · omega
set_option maxRecDepth 100000 in
set_option maxHeartbeats 8000000 in
theorem readSegs_torn (q p : Nat) (b rb : Option Nat) (L : LG) (m : DN) (txs : List B) (j : Nat) (tj : B) (r : DN × Nat) (w : World) (hK : WK w q p b rb L m) (hG : Gw w) (hg : L.g < 100) (hm : Okn m) (hd : m.dead = false) (hs : L.segs = 0) (hr0 : L.recs.length ≤ 500000) (hS : Segs L.g m txs)
    (htj : txs[j]? = some tj) (hu : ∀ (i : Nat) (t : B), i < j → txs[i]? = some t → (unfT t).2 = t.length) (hbad : (unfT tj).2 < tj.length)
    (HM : ∀ w1 b1 rb1, WK w1 q p b1 rb1 (tornL L txs j tj) m → Gw w1 → Calls Tryz.prog 95 #[.pointer (some ⟨q, 0, none⟩)] w1 (StP w1 q p b1 rb1 (tornL L txs j tj) r)) :
    Calls Tryz.prog 66 #[.pointer (some ⟨q, 0, none⟩)] w (RsP w q p b rb (tornL L txs j tj, r)) := by
  have e0 : segL L txs 0 = L := by
    obtain ⟨a1, a2, a3, a4, a5, a6⟩ := L
    simp only at hs
    subst hs
    simp [segL]
  have hq2 := hK.qlt
  have hjl := (List.getElem?_eq_some_iff.1 htj).1
  go_enter Tryz.func66, Tryz.ntmps66
  go_wp2_with fail
  go_loopw [3, 4, 5, 6] (fun _ _ _ _ wl => ∃ (i : Nat) (rbi : Option Nat), i ≤ j ∧ Wch w wl q p b rb b rbi ∧ WK wl q p b rbi (segL L txs i) m) (fun _ _ _ _ wl => segM txs.length q wl)
  case atStart => exact ⟨0, rb, by omega, Wch.refl _ _ _ _ _, by rw [e0]; exact hK⟩
  case round =>
    obtain ⟨i, rbi, hil, hWi, hKi⟩ := hrel
    have hGi := hWi.gw hK hG
    obtain ⟨rv, hL, hTR, hD⟩ := hKi.out
    have hn98 := hS.n
    have hgi : (segL L txs i).g = L.g := rfl
    have hsi : (segL L txs i).segs = i := rfl
    have hdr := Below.drewS wr
    have HN := segName_any q p (segL L txs i) rv (i + 1) hg (by omega) wr.drew hL.drew
    have HR := readN p b m (segN L.g (i + 1)) wr.drew (hD.below hdr) hm (WN.seg _ _ hg (by omega)).ok (by have := (WN.seg L.g (i + 1) hg (by omega)).len; omega) hd
    rw [hgi] at HN
    have hw1 : IntKind.i64.wrap ((i : Int) + 1) = (i : Int) + 1 := by rw [IntKind.wrap_i64]; omega
    replace HN : Calls Tryz.prog 48 #[.pointer (some ⟨q, 0, none⟩), .int .i64 ((i : Int) + 1)] wr.drew _ := HN
    obtain ⟨t, ht⟩ : ∃ t, txs[i]? = some t := ⟨_, List.getElem?_eq_getElem (by omega)⟩
    obtain ⟨hat, htl⟩ := hS.at_ i t ht
    have hfew : (segL L txs i).recs.length + (unfT t).1.length ≤ 1000000 := by
      have h1 := hS.few
      have h2 : ((txs.take (i + 1)).map fun t => (unfT t).1).flatten.length ≤ ((txs.map fun t => (unfT t).1).flatten).length := by
        conv => rhs; rw [← List.take_append_drop (i + 1) txs, List.map_append, List.flatten_append, List.length_append]
        omega
      have h3 : (segL L txs (i + 1)).recs.length = (segL L txs i).recs.length + (unfT t).1.length := by rw [seg_succ ht]; simp
      have h4 : (segL L txs (i + 1)).recs.length = L.recs.length + ((txs.take (i + 1)).map fun t => (unfT t).1).flatten.length := by unfold segL; simp
      omega
    rw [hat] at HR
    change Calls Tryz.prog 93 #[.pointer (some ⟨p, 0, none⟩), .string ⟨(segN L.g (i + 1)).toArray⟩] wr.drew (fun e w' => e = .returned (.tuple #[.string ⟨t.toArray⟩, .int .i64 0]) ∧ Below wr.drew.heap.size wr.drew w') at HR
    have HU := fun w1 (hB : Below wr.heap.size wr w1) => wunframe_any t w1 (hGi.below hB).g htl
    have hmeas : Hid (segM txs.length q wr = txs.length + 1 - i) := segM_eq hL
    by_cases hlt : i < j
    · have hut := hu i t hlt ht
      have hsucc : Hid _ := seg_succ (L := L) ht
      rw [hut] at HU
      have hbl : ¬ (t.length : Int) < (t.length : Int) := by omega
      clear hat hut HM htj hbad
      replace ht : True := trivial
      generalize (unfT t).1 = us at *
      generalize segN L.g (i + 1) = sN at *
      generalize hLi : segL L txs i = Li at *
      clear hgi ht
      go_wp2_with fail
      refine wp_region_held_drew (S := fun w' : World => Blk w' q (lC p Li rv) 64) (by kernel_rfl) (hL.drew) (fun hH => ?_)
      try go_frame
      refine wpAnyH_take (i := 0) (oi := ⟨some 8, _, _, _, _, _⟩) (v := .pointer (some ⟨q, 0, none⟩)) rfl (by kernel_rfl) (by kernel_rfl) (by kernel_rfl) (fun _ _ _ h => h) (Or.inl ⟨by rfl, fun w hSw => by go_simp⟩) hH ?_
      try simp only [Act.put, List.setIfInBounds_toArray, List.set_cons_zero, List.set_cons_succ]
      refine wpAnyH_take (i := 1) (oi := ⟨some 9, _, _, _, _, _⟩) (v := .pointer (some ⟨q, 0, none⟩)) rfl (by kernel_rfl) (by kernel_rfl) (by kernel_rfl) (fun _ _ _ h => h) (Or.inl ⟨by rfl, fun w hSw => by go_simp⟩) hH ?_
      try simp only [Act.put, List.setIfInBounds_toArray, List.set_cons_zero, List.set_cons_succ]
      refine wpAnyH_take (i := 2) (oi := ⟨some 10, _, _, _, _, _⟩) (v := .pointer (some ⟨q, 0, none⟩)) rfl (by kernel_rfl) (by kernel_rfl) (by kernel_rfl) (fun _ _ _ h => h) (Or.inl ⟨by rfl, fun w hSw => by go_simp⟩) hH ?_
      try simp only [Act.put, List.setIfInBounds_toArray, List.set_cons_zero, List.set_cons_succ]
      refine wpAnyH_take (i := 3) (oi := ⟨some 11, _, _, _, _, _⟩) (v := .pointer (some ⟨p, 0, none⟩)) rfl (by kernel_rfl) (by kernel_rfl) (by kernel_rfl) (fun _ _ _ h => h) (Or.inl ⟨by rfl, fun w hSw => run_loadCellB _ _ rfl _ 0 rfl _ _ hSw _ Tryz.underlying23 rfl _ (lC_g0 _ _ _)⟩) hH ?_
      try simp only [Act.put, List.setIfInBounds_toArray, List.set_cons_zero, List.set_cons_succ]
      refine wpAnyH_take (i := 4) (oi := ⟨some 12, _, _, _, _, _⟩) (v := .pointer (some ⟨q, 0, none⟩)) rfl (by kernel_rfl) (by kernel_rfl) (by kernel_rfl) (fun _ _ _ h => h) (Or.inl ⟨by rfl, fun w hSw => by go_simp⟩) hH ?_
      try simp only [Act.put, List.setIfInBounds_toArray, List.set_cons_zero, List.set_cons_succ]
      refine wpAnyH_take (i := 5) (oi := ⟨some 13, _, _, _, _, _⟩) (v := .pointer (some ⟨q, 0, none⟩)) rfl (by kernel_rfl) (by kernel_rfl) (by kernel_rfl) (fun _ _ _ h => h) (Or.inl ⟨by rfl, fun w hSw => by go_simp⟩) hH ?_
      try simp only [Act.put, List.setIfInBounds_toArray, List.set_cons_zero, List.set_cons_succ]
      refine wpAnyH_take (i := 6) (oi := ⟨some 14, _, _, _, _, _⟩) (v := .pointer (some ⟨q, 0, none⟩)) rfl (by kernel_rfl) (by kernel_rfl) (by kernel_rfl) (fun _ _ _ h => h) (Or.inl ⟨by rfl, fun w hSw => by go_simp⟩) hH ?_
      try simp only [Act.put, List.setIfInBounds_toArray, List.set_cons_zero, List.set_cons_succ]
      refine wpAnyH_take (i := 7) (oi := ⟨some 15, _, _, _, _, _⟩) (v := .pointer (some ⟨q, 5, none⟩)) rfl (by kernel_rfl) (by kernel_rfl) (by kernel_rfl) (fun _ _ _ h => h) (Or.inl ⟨by rfl, fun w hSw => by go_simp⟩) hH ?_
      try simp only [Act.put, List.setIfInBounds_toArray, List.set_cons_zero, List.set_cons_succ]
      refine wpAnyH_take (i := 8) (oi := ⟨some 16, _, _, _, _, _⟩) (v := .int .i64 (i : Int)) rfl (by kernel_rfl) (by kernel_rfl) (by kernel_rfl) (fun _ _ _ h => h) (Or.inl ⟨by rfl, fun w hSw => run_loadCellB _ _ rfl _ 5 rfl _ _ hSw _ Tryz.underlying3 rfl _ ((lC_g5 _ _ _).trans (congrArg (fun n : Nat => some (Value.int .i64 (n : Int))) hsi))⟩) hH ?_
      try simp only [Act.put, List.setIfInBounds_toArray, List.set_cons_zero, List.set_cons_succ]
      refine wpAnyH_take (i := 9) (oi := ⟨some 17, _, _, _, _, _⟩) (v := .int .i64 ((i : Int) + 1)) rfl (by kernel_rfl) (by kernel_rfl) (by kernel_rfl) (fun _ _ _ h => h) (Or.inl ⟨by rfl, fun w hSw => by go_simp⟩) hH ?_
      try simp only [Act.put, List.setIfInBounds_toArray, List.set_cons_zero, List.set_cons_succ]
      refine wpAnyH_solo (i := 10) (o := ⟨some 18, _, _, _, _, _⟩) rfl (by kernel_rfl) (fun K hK => ?_)
      refine wpList_callR Tryz.func48 (by kernel_rfl) (by kernel_rfl) rfl _ _ rfl #[.pointer (some ⟨q, 0, none⟩), .int .i64 ((i : Int) + 1)] (args2 rfl rfl) _ (HN) ?_
      rintro e w' ⟨rfl, hw'⟩
      have hw2' := hw'.symm
      subst hw2'
      clear hw'
      refine ⟨_, rfl, ?_⟩
      refine hK _ _ hH ?_
      clear hK K
      try simp only [Act.put, List.setIfInBounds_toArray, List.set_cons_zero, List.set_cons_succ]
      refine wpAnyH_solo (i := 11) (o := ⟨some 19, _, _, _, _, _⟩) rfl (by kernel_rfl) (fun K hK => ?_)
      refine wpList_callR Tryz.func93 (by kernel_rfl) (by kernel_rfl) rfl _ _ rfl #[.pointer (some ⟨p, 0, none⟩), .string ⟨sN.toArray⟩] (args2 rfl rfl) _ (HR) ?_
      rintro e w2 ⟨rfl, hw2⟩
      have hH2 := hH.belowSize hw2
      refine ⟨_, rfl, ?_⟩
      refine hK _ _ hH2 ?_
      clear hK K
      try simp only [Act.put, List.setIfInBounds_toArray, List.set_cons_zero, List.set_cons_succ]
      refine wpAnyH_solo (i := 12) (o := ⟨some 7, _, _, _, _, _⟩) rfl (by kernel_rfl) (fun K hK => ?_)
      refine wpList_pure rfl (.tuple #[.string ⟨(t).toArray⟩, .int .i64 0]) (by go_simp) ?_
      refine hK _ _ hH2 ?_
      clear hK K
      try simp only [Act.put, List.setIfInBounds_toArray, List.set_cons_zero, List.set_cons_succ]
      refine wpAnyH_take (i := 13) (oi := ⟨some 20, _, _, _, _, _⟩) (v := .string ⟨(t).toArray⟩) rfl (by kernel_rfl) (by kernel_rfl) (by kernel_rfl) (fun _ _ _ h => h) (Or.inl ⟨by rfl, fun w hSw => run_extract _ _ rfl _ rfl _ rfl⟩) hH2 ?_
      try simp only [Act.put, List.setIfInBounds_toArray, List.set_cons_zero, List.set_cons_succ]
      refine wpAnyH_take (i := 14) (oi := ⟨some 21, _, _, _, _, _⟩) (v := .int .i64 0) rfl (by kernel_rfl) (by kernel_rfl) (by kernel_rfl) (fun _ _ _ h => h) (Or.inl ⟨by rfl, fun w hSw => run_extract _ _ rfl _ rfl _ rfl⟩) hH2 ?_
      try simp only [Act.put, List.setIfInBounds_toArray, List.set_cons_zero, List.set_cons_succ]
      refine wpAnyH_take (i := 15) (oi := ⟨some 3, _, _, _, _, _⟩) (v := .string ⟨(t).toArray⟩) rfl (by kernel_rfl) (by kernel_rfl) (by kernel_rfl) (fun _ _ _ h => h) (Or.inl ⟨by rfl, fun w hSw => by go_simp⟩) hH2 ?_
      try simp only [Act.put, List.setIfInBounds_toArray, List.set_cons_zero, List.set_cons_succ]
      refine wpAnyH_take (i := 16) (oi := ⟨some 4, _, _, _, _, _⟩) (v := .int .i64 0) rfl (by kernel_rfl) (by kernel_rfl) (by kernel_rfl) (fun _ _ _ h => h) (Or.inl ⟨by rfl, fun w hSw => by go_simp⟩) hH2 ?_
      try simp only [Act.put, List.setIfInBounds_toArray, List.set_cons_zero, List.set_cons_succ]
      refine wpAnyH_done (by kernel_rfl) ?_ _
      try simp only [Act.put]
      try go_simp
      have hB2 := hdr.trans (hw2.mono hdr.size)
      have hTR2 := hTR.below hB2
      have hKi2 := hKi.below hB2
      have hDi2 := hD.below hB2
      have hqr : some q ≠ rbi := fun e => by
        obtain ⟨⟨c1, f1, k1⟩, _, _, k4⟩ := hKi.kinds
        obtain ⟨c2, f2, k5⟩ := k4 q e.symm
        exact kind_ne k1 k5 (by decide) rfl
      go_wp2_with (first
        | (go_at_call 94; refine (HU _ hB2).mono ?_; rintro e w3 ⟨sl3, rfl, hw3, hX3⟩; obtain ⟨a3, c3, rfl, _, _⟩ := hX3.ts.1.sl; have hL3 := hH2.belowSize hw3; have hTR3 := hTR2.below hw3; have hX3a := hX3.ta)
        | (with_reducible refine at_list ?_; first
          | (refine wpList_loadCell (op := ⟨some 33, _, _, _, _, _⟩) rfl _ _ rfl q 4 rfl _ _ hL3 _ Tryz.underlying30 rfl _ (lC_g4 _ _ _) ?_)
          | (refine wpList_appTS (op := ⟨some 35, _, _, _, _, _⟩) rfl _ _ rfl rv rbi Li.recs hTR3 rfl a3 c3 us hX3a rfl hfew ?_; intro w4 v4 rb4 hg4 hn4 hT4; have hL4 := hL3.grown hg4 hqr; have hv4 := hT4.sl.choose_spec.choose_spec.2.2)
          | (refine wpList_storeCell (op := ⟨none, .store 30 (.tmp 37) (.tmp 35), _, _, _, _⟩) rfl _ _ _ rfl q 4 rfl v4 rfl _ _ hL4 iSlS hv4.1 hv4.2 (by rw [lC_size]; decide) ?_; intro w5 hg5 hs5 hL5; clear hs5; rw [lC_s4 _ _ _ _ (Li.recs ++ us)] at hL5)
          | (refine wpList_loadCell (op := ⟨some 43, _, _, _, _, _⟩) rfl _ _ rfl q 5 rfl _ _ hL5 _ Tryz.underlying3 rfl (.int .i64 (i : Int)) ((lC_g5 _ _ _).trans (congrArg (fun n : Nat => some (Value.int .i64 (n : Int))) hsi)) ?_)
          | (refine wpList_storeCell (op := ⟨none, .store 3 (.tmp 47) (.tmp 44), _, _, _, _⟩) rfl _ _ _ rfl q 5 rfl (.int .i64 ((i + 1 : Nat) : Int)) (by with_unfolding_all exact rfl) _ _ hL5 iIntS rfl rfl (by rw [lC_size]; decide) ?_; intro w6 hg6 hs6 hL6; clear hs6; rw [lC_s5] at hL6)
          | (refine wpList_storeCell (op := ⟨none, .store 3 (.tmp 49) (.tmp 45), _, _, _, _⟩) rfl _ _ _ rfl q 6 rfl (.int .i64 (t.length : Nat)) rfl _ _ hL6 iIntS rfl rfl (by rw [lC_size]; decide) ?_; intro w7 hg7 hs7 hL7; clear hs7; rw [lC_s6] at hL7)))
      have hB3 := hB2.trans (hw3.mono hB2.size)
      have h2g := hGi.two
      obtain ⟨hK7, hW7⟩ := seg_wk (hKi.below hB3) hg4 hn4 hT4 (grown_trans hg5 (grown_trans hg6 hg7)) hL7 (Nat.le_trans h2g hB3.size)
      refine ⟨⟨i + 1, rb4, by omega, hWi.trans ((Wch.below hB3).trans hW7), ?_⟩, ?_⟩
      · rw [hsucc.out]
        exact hK7
      · rw [hmeas.out, segM_eq hL7]
        show txs.length + 1 - (i + 1) < _
        omega
    · have hij : i = j := by omega
      subst hij
      have htt : t = tj := by rw [ht] at htj; exact Option.some.inj htj
      subst htt
      have hbl : ((unfT t).2 : Int) < (t.length : Int) := by omega
      have h2g := hGi.two
      have hTL : Hid (tornL L txs i t = { segL L txs i with recs := (segL L txs i).recs ++ (unfT t).1, segs := i + 1, last := (unfT t).2 }) := rfl
      generalize tornL L txs i t = TL at *
      clear hat hu hlt ht htj hbad hmeas
      generalize (unfT t).1 = us at *
      generalize (unfT t).2 = rt at *
      generalize segN L.g (i + 1) = sN at *
      generalize hLi : segL L txs i = Li at *
      clear hgi
      go_wp2_with fail
      refine wp_region_held_drew (S := fun w' : World => Blk w' q (lC p Li rv) 64) (by kernel_rfl) (hL.drew) (fun hH => ?_)
      try go_frame
      refine wpAnyH_take (i := 0) (oi := ⟨some 8, _, _, _, _, _⟩) (v := .pointer (some ⟨q, 0, none⟩)) rfl (by kernel_rfl) (by kernel_rfl) (by kernel_rfl) (fun _ _ _ h => h) (Or.inl ⟨by rfl, fun w hSw => by go_simp⟩) hH ?_
      try simp only [Act.put, List.setIfInBounds_toArray, List.set_cons_zero, List.set_cons_succ]
      refine wpAnyH_take (i := 1) (oi := ⟨some 9, _, _, _, _, _⟩) (v := .pointer (some ⟨q, 0, none⟩)) rfl (by kernel_rfl) (by kernel_rfl) (by kernel_rfl) (fun _ _ _ h => h) (Or.inl ⟨by rfl, fun w hSw => by go_simp⟩) hH ?_
      try simp only [Act.put, List.setIfInBounds_toArray, List.set_cons_zero, List.set_cons_succ]
      refine wpAnyH_take (i := 2) (oi := ⟨some 10, _, _, _, _, _⟩) (v := .pointer (some ⟨q, 0, none⟩)) rfl (by kernel_rfl) (by kernel_rfl) (by kernel_rfl) (fun _ _ _ h => h) (Or.inl ⟨by rfl, fun w hSw => by go_simp⟩) hH ?_
      try simp only [Act.put, List.setIfInBounds_toArray, List.set_cons_zero, List.set_cons_succ]
      refine wpAnyH_take (i := 3) (oi := ⟨some 11, _, _, _, _, _⟩) (v := .pointer (some ⟨p, 0, none⟩)) rfl (by kernel_rfl) (by kernel_rfl) (by kernel_rfl) (fun _ _ _ h => h) (Or.inl ⟨by rfl, fun w hSw => run_loadCellB _ _ rfl _ 0 rfl _ _ hSw _ Tryz.underlying23 rfl _ (lC_g0 _ _ _)⟩) hH ?_
      try simp only [Act.put, List.setIfInBounds_toArray, List.set_cons_zero, List.set_cons_succ]
      refine wpAnyH_take (i := 4) (oi := ⟨some 12, _, _, _, _, _⟩) (v := .pointer (some ⟨q, 0, none⟩)) rfl (by kernel_rfl) (by kernel_rfl) (by kernel_rfl) (fun _ _ _ h => h) (Or.inl ⟨by rfl, fun w hSw => by go_simp⟩) hH ?_
      try simp only [Act.put, List.setIfInBounds_toArray, List.set_cons_zero, List.set_cons_succ]
      refine wpAnyH_take (i := 5) (oi := ⟨some 13, _, _, _, _, _⟩) (v := .pointer (some ⟨q, 0, none⟩)) rfl (by kernel_rfl) (by kernel_rfl) (by kernel_rfl) (fun _ _ _ h => h) (Or.inl ⟨by rfl, fun w hSw => by go_simp⟩) hH ?_
      try simp only [Act.put, List.setIfInBounds_toArray, List.set_cons_zero, List.set_cons_succ]
      refine wpAnyH_take (i := 6) (oi := ⟨some 14, _, _, _, _, _⟩) (v := .pointer (some ⟨q, 0, none⟩)) rfl (by kernel_rfl) (by kernel_rfl) (by kernel_rfl) (fun _ _ _ h => h) (Or.inl ⟨by rfl, fun w hSw => by go_simp⟩) hH ?_
      try simp only [Act.put, List.setIfInBounds_toArray, List.set_cons_zero, List.set_cons_succ]
      refine wpAnyH_take (i := 7) (oi := ⟨some 15, _, _, _, _, _⟩) (v := .pointer (some ⟨q, 5, none⟩)) rfl (by kernel_rfl) (by kernel_rfl) (by kernel_rfl) (fun _ _ _ h => h) (Or.inl ⟨by rfl, fun w hSw => by go_simp⟩) hH ?_
      try simp only [Act.put, List.setIfInBounds_toArray, List.set_cons_zero, List.set_cons_succ]
      refine wpAnyH_take (i := 8) (oi := ⟨some 16, _, _, _, _, _⟩) (v := .int .i64 (i : Int)) rfl (by kernel_rfl) (by kernel_rfl) (by kernel_rfl) (fun _ _ _ h => h) (Or.inl ⟨by rfl, fun w hSw => run_loadCellB _ _ rfl _ 5 rfl _ _ hSw _ Tryz.underlying3 rfl _ ((lC_g5 _ _ _).trans (congrArg (fun n : Nat => some (Value.int .i64 (n : Int))) hsi))⟩) hH ?_
      try simp only [Act.put, List.setIfInBounds_toArray, List.set_cons_zero, List.set_cons_succ]
      refine wpAnyH_take (i := 9) (oi := ⟨some 17, _, _, _, _, _⟩) (v := .int .i64 ((i : Int) + 1)) rfl (by kernel_rfl) (by kernel_rfl) (by kernel_rfl) (fun _ _ _ h => h) (Or.inl ⟨by rfl, fun w hSw => by go_simp⟩) hH ?_
      try simp only [Act.put, List.setIfInBounds_toArray, List.set_cons_zero, List.set_cons_succ]
      refine wpAnyH_solo (i := 10) (o := ⟨some 18, _, _, _, _, _⟩) rfl (by kernel_rfl) (fun K hK => ?_)
      refine wpList_callR Tryz.func48 (by kernel_rfl) (by kernel_rfl) rfl _ _ rfl #[.pointer (some ⟨q, 0, none⟩), .int .i64 ((i : Int) + 1)] (args2 rfl rfl) _ (HN) ?_
      rintro e w' ⟨rfl, hw'⟩
      have hw2' := hw'.symm
      subst hw2'
      clear hw'
      refine ⟨_, rfl, ?_⟩
      refine hK _ _ hH ?_
      clear hK K
      try simp only [Act.put, List.setIfInBounds_toArray, List.set_cons_zero, List.set_cons_succ]
      refine wpAnyH_solo (i := 11) (o := ⟨some 19, _, _, _, _, _⟩) rfl (by kernel_rfl) (fun K hK => ?_)
      refine wpList_callR Tryz.func93 (by kernel_rfl) (by kernel_rfl) rfl _ _ rfl #[.pointer (some ⟨p, 0, none⟩), .string ⟨sN.toArray⟩] (args2 rfl rfl) _ (HR) ?_
      rintro e w2 ⟨rfl, hw2⟩
      have hH2 := hH.belowSize hw2
      refine ⟨_, rfl, ?_⟩
      refine hK _ _ hH2 ?_
      clear hK K
      try simp only [Act.put, List.setIfInBounds_toArray, List.set_cons_zero, List.set_cons_succ]
      refine wpAnyH_solo (i := 12) (o := ⟨some 7, _, _, _, _, _⟩) rfl (by kernel_rfl) (fun K hK => ?_)
      refine wpList_pure rfl (.tuple #[.string ⟨(t).toArray⟩, .int .i64 0]) (by go_simp) ?_
      refine hK _ _ hH2 ?_
      clear hK K
      try simp only [Act.put, List.setIfInBounds_toArray, List.set_cons_zero, List.set_cons_succ]
      refine wpAnyH_take (i := 13) (oi := ⟨some 20, _, _, _, _, _⟩) (v := .string ⟨(t).toArray⟩) rfl (by kernel_rfl) (by kernel_rfl) (by kernel_rfl) (fun _ _ _ h => h) (Or.inl ⟨by rfl, fun w hSw => run_extract _ _ rfl _ rfl _ rfl⟩) hH2 ?_
      try simp only [Act.put, List.setIfInBounds_toArray, List.set_cons_zero, List.set_cons_succ]
      refine wpAnyH_take (i := 14) (oi := ⟨some 21, _, _, _, _, _⟩) (v := .int .i64 0) rfl (by kernel_rfl) (by kernel_rfl) (by kernel_rfl) (fun _ _ _ h => h) (Or.inl ⟨by rfl, fun w hSw => run_extract _ _ rfl _ rfl _ rfl⟩) hH2 ?_
      try simp only [Act.put, List.setIfInBounds_toArray, List.set_cons_zero, List.set_cons_succ]
      refine wpAnyH_take (i := 15) (oi := ⟨some 3, _, _, _, _, _⟩) (v := .string ⟨(t).toArray⟩) rfl (by kernel_rfl) (by kernel_rfl) (by kernel_rfl) (fun _ _ _ h => h) (Or.inl ⟨by rfl, fun w hSw => by go_simp⟩) hH2 ?_
      try simp only [Act.put, List.setIfInBounds_toArray, List.set_cons_zero, List.set_cons_succ]
      refine wpAnyH_take (i := 16) (oi := ⟨some 4, _, _, _, _, _⟩) (v := .int .i64 0) rfl (by kernel_rfl) (by kernel_rfl) (by kernel_rfl) (fun _ _ _ h => h) (Or.inl ⟨by rfl, fun w hSw => by go_simp⟩) hH2 ?_
      try simp only [Act.put, List.setIfInBounds_toArray, List.set_cons_zero, List.set_cons_succ]
      refine wpAnyH_done (by kernel_rfl) ?_ _
      try simp only [Act.put]
      try go_simp
      have hB2 := hdr.trans (hw2.mono hdr.size)
      have hTR2 := hTR.below hB2
      have hKi2 := hKi.below hB2
      have hDi2 := hD.below hB2
      have hqr : some q ≠ rbi := fun e => by
        obtain ⟨⟨c1, f1, k1⟩, _, _, k4⟩ := hKi.kinds
        obtain ⟨c2, f2, k5⟩ := k4 q e.symm
        exact kind_ne k1 k5 (by decide) rfl
      go_wp2_with (first
        | (go_at_call 94; refine (HU _ hB2).mono ?_; rintro e w3 ⟨sl3, rfl, hw3, hX3⟩; obtain ⟨a3, c3, rfl, _, _⟩ := hX3.ts.1.sl; have hL3 := hH2.belowSize hw3; have hTR3 := hTR2.below hw3; have hX3a := hX3.ta)
        | (go_at_call 95; have hB3 := hB2.trans (hw3.mono hB2.size); have hKW := seg_wk (hKi.below hB3) hg4 hn4 hT4 (grown_trans hg5 (grown_trans hg6 hg7)) hL7 (Nat.le_trans h2g hB3.size); rw [← hTL.out] at hKW; have hW7 := hWi.trans ((Wch.below hB3).trans hKW.2); refine (HM _ _ _ hKW.1 (hW7.gw hK hG)).mono ?_; rintro e w8 ⟨rfl, b8, hW8, hK8⟩)
        | (with_reducible refine at_list ?_; first
          | (refine wpList_loadCell (op := ⟨some 33, _, _, _, _, _⟩) rfl _ _ rfl q 4 rfl _ _ hL3 _ Tryz.underlying30 rfl _ (lC_g4 _ _ _) ?_)
          | (refine wpList_appTS (op := ⟨some 35, _, _, _, _, _⟩) rfl _ _ rfl rv rbi Li.recs hTR3 rfl a3 c3 us hX3a rfl hfew ?_; intro w4 v4 rb4 hg4 hn4 hT4; have hL4 := hL3.grown hg4 hqr; have hv4 := hT4.sl.choose_spec.choose_spec.2.2)
          | (refine wpList_storeCell (op := ⟨none, .store 30 (.tmp 37) (.tmp 35), _, _, _, _⟩) rfl _ _ _ rfl q 4 rfl v4 rfl _ _ hL4 iSlS hv4.1 hv4.2 (by rw [lC_size]; decide) ?_; intro w5 hg5 hs5 hL5; clear hs5; rw [lC_s4 _ _ _ _ (Li.recs ++ us)] at hL5)
          | (refine wpList_loadCell (op := ⟨some 43, _, _, _, _, _⟩) rfl _ _ rfl q 5 rfl _ _ hL5 _ Tryz.underlying3 rfl (.int .i64 (i : Int)) ((lC_g5 _ _ _).trans (congrArg (fun n : Nat => some (Value.int .i64 (n : Int))) hsi)) ?_)
          | (refine wpList_storeCell (op := ⟨none, .store 3 (.tmp 47) (.tmp 44), _, _, _, _⟩) rfl _ _ _ rfl q 5 rfl (.int .i64 ((i + 1 : Nat) : Int)) (by with_unfolding_all exact rfl) _ _ hL5 iIntS rfl rfl (by rw [lC_size]; decide) ?_; intro w6 hg6 hs6 hL6; clear hs6; rw [lC_s5] at hL6)
          | (refine wpList_storeCell (op := ⟨none, .store 3 (.tmp 49) (.tmp 45), _, _, _, _⟩) rfl _ _ _ rfl q 6 rfl (.int .i64 (rt : Nat)) rfl _ _ hL6 iIntS rfl rfl (by rw [lC_size]; decide) ?_; intro w7 hg7 hs7 hL7; clear hs7; rw [lC_s6] at hL7)))
      go_ret
      exact ⟨rfl, b8, rb4, hW7.trans hW8, hK8⟩
end Go.Proofs.YtaiiojbakmminaaGreatDoor
