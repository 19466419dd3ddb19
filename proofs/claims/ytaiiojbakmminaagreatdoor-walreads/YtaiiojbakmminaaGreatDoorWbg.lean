/- What readSegments of a log does, where all segments are right. What begin of a log does, where there is a generation. -/
import Derived.Test.YtaiiojbakmminaaGreatDoorWrd
import Derived.Test.YtaiiojbakmminaaGreatDoorWrs
namespace Go.Proofs.YtaiiojbakmminaaGreatDoor
open Go Go.RowKit
/-- The log behind so many of its segments. -/
def segL (L : LG) (txs : List B) (i : Nat) : LG := { L with recs := L.recs ++ ((txs.take i).map fun t => (unfT t).1).flatten, segs := i, last := match i with | 0 => L.last | k + 1 => (txs.getD k []).length }
def segM (n q : Nat) (w : World) : Nat := n + 1 - (intOf ((w.cell? ⟨q, 5, none⟩).getD undef)).toNat
theorem segM_eq {n q p : Nat} {w : World} {L : LG} {rv : Value} (h : Blk w q (lC p L rv) 64) : segM n q w = n + 1 - L.segs := by
  unfold segM
  rw [(h.cell 5).trans (lC_g5 _ _ _)]
  simp [intOf]
theorem seg_succ {L : LG} {txs : List B} {i : Nat} {t : B} (h : txs[i]? = some t) : segL L txs (i + 1) = { segL L txs i with recs := (segL L txs i).recs ++ (unfT t).1, segs := i + 1, last := t.length } := by
  obtain ⟨hi, rfl⟩ := List.getElem?_eq_some_iff.1 h
  unfold segL
  rw [List.take_succ_eq_append_getElem hi, List.map_append, List.flatten_append]
  simp [hi]
/-- The segments of a generation. -/
structure Segs (g : Nat) (m : DN) (txs : List B) : Prop where
  n : txs.length < 98
  at_ : ∀ (i : Nat) (t : B), txs[i]? = some t → atL (segN g (i + 1)) m.l = some t ∧ t.length ≤ 4000000
  end_ : atL (segN g (txs.length + 1)) m.l = none
  few : ((txs.map fun t => (unfT t).1).flatten).length ≤ 400000
set_option maxRecDepth 100000 in
set_option maxHeartbeats 8000000 in
theorem readSegs_ok (q p : Nat) (b rb : Option Nat) (L : LG) (m : DN) (txs : List B) (w : World) (hK : WK w q p b rb L m) (hG : Gw w) (hg : L.g < 100) (hm : Okn m) (hd : m.dead = false) (hs : L.segs = 0) (hr0 : L.recs.length ≤ 500000) (hS : Segs L.g m txs) (hu : ∀ t ∈ txs, (unfT t).2 = t.length) :
    Calls Tryz.prog 66 #[.pointer (some ⟨q, 0, none⟩)] w (LtP w q p b rb (segL L txs txs.length) m) := by
  have e0 : segL L txs 0 = L := by
    obtain ⟨a1, a2, a3, a4, a5, a6⟩ := L
    simp only at hs
    subst hs
    simp [segL]
  have hq2 := hK.qlt
  go_enter Tryz.func66, Tryz.ntmps66
  go_wp2_with fail
  go_loopw [3, 4, 5, 6] (fun _ _ _ _ wl => ∃ (i : Nat) (rbi : Option Nat), i ≤ txs.length ∧ Wch w wl q p b rb b rbi ∧ WK wl q p b rbi (segL L txs i) m) (fun _ _ _ _ wl => segM txs.length q wl)
  case atStart => exact ⟨0, rb, by omega, Wch.refl _ _ _ _ _, by rw [e0]; exact hK⟩
  case round =>
    obtain ⟨i, rbi, hil, hWi, hKi⟩ := hrel
    have hGi := hWi.gw hK hG
    obtain ⟨rv, hL, hTR, hD⟩ := hKi.out
    have hn98 := hS.n
    have hgi : (segL L txs i).g = L.g := rfl
    have hsi : (segL L txs i).segs = i := rfl
    have hdr := Below.drewS wr
    have HN := segName_any q p (segL L txs i) rv (i + 1) hg (by omega) wr.drew hL.drew
    have HR := readN p b m (segN L.g (i + 1)) wr.drew (hD.below hdr) hm (WN.seg _ _ hg (by omega)).ok (by have := (WN.seg L.g (i + 1) hg (by omega)).len; omega) hd
    rw [hgi] at HN
    have hw1 : IntKind.i64.wrap ((i : Int) + 1) = (i : Int) + 1 := by rw [IntKind.wrap_i64]; omega
    replace HN : Calls Tryz.prog 48 #[.pointer (some ⟨q, 0, none⟩), .int .i64 ((i : Int) + 1)] wr.drew _ := HN
    by_cases hlt : i < txs.length
    · obtain ⟨t, ht⟩ : ∃ t, txs[i]? = some t := ⟨_, List.getElem?_eq_getElem hlt⟩
      obtain ⟨hat, htl⟩ := hS.at_ i t ht
      have hut := hu t (List.mem_of_getElem? ht)
      have hsucc : Hid _ := seg_succ (L := L) ht
      have hfew : (segL L txs i).recs.length + (unfT t).1.length ≤ 1000000 := by
        have h1 := hS.few
        have h2 : ((txs.take (i + 1)).map fun t => (unfT t).1).flatten.length ≤ ((txs.map fun t => (unfT t).1).flatten).length := by
          conv => rhs; rw [← List.take_append_drop (i + 1) txs, List.map_append, List.flatten_append, List.length_append]
          omega
        have h3 : (segL L txs (i + 1)).recs.length = (segL L txs i).recs.length + (unfT t).1.length := by rw [hsucc.out]; simp
        have h4 : (segL L txs (i + 1)).recs.length = L.recs.length + ((txs.take (i + 1)).map fun t => (unfT t).1).flatten.length := by unfold segL; simp
        omega
      rw [hat] at HR
      change Calls Tryz.prog 93 #[.pointer (some ⟨p, 0, none⟩), .string ⟨(segN L.g (i + 1)).toArray⟩] wr.drew (fun e w' => e = .returned (.tuple #[.string ⟨t.toArray⟩, .int .i64 0]) ∧ Below wr.drew.heap.size wr.drew w') at HR
      have HU := fun w1 (hB : Below wr.heap.size wr w1) => wunframe_any t w1 (hGi.below hB).g htl
      rw [hut] at HU
      have hmeas : Hid (segM txs.length q wr = txs.length + 1 - i) := segM_eq hL
      have hbl : ¬ (t.length : Int) < (t.length : Int) := by omega
      clear hat ht hut
      generalize (unfT t).1 = us at *
      generalize segN L.g (i + 1) = sN at *
      generalize hLi : segL L txs i = Li at *
      clear hgi
      go_wp2_with fail
      refine wp_region_held_drew (S := fun w' : World => Blk w' q (lC p Li rv) 64) (by kernel_rfl) (hL.drew) (fun hH => ?_)
      try go_frame
      refine wpAnyH_take (i := 0) (oi := ⟨some 8, _, _, _, _, _⟩) (v := .pointer (some ⟨q, 0, none⟩)) rfl (by kernel_rfl) (by kernel_rfl) (by kernel_rfl) (fun _ _ _ h => h) (Or.inl ⟨by rfl, fun w hSw => by go_simp⟩) hH ?_
      try simp only [Act.put, List.setIfInBounds_toArray, List.set_cons_zero, List.set_cons_succ]
      refine wpAnyH_take (i := 1) (oi := ⟨some 9, _, _, _, _, _⟩) (v := .pointer (some ⟨q, 0, none⟩)) rfl (by kernel_rfl) (by kernel_rfl) (by kernel_rfl) (fun _ _ _ h => h) (Or.inl ⟨by rfl, fun w hSw => by go_simp⟩) hH ?_
      try simp only [Act.put, List.setIfInBounds_toArray, List.set_cons_zero, List.set_cons_succ]
      refine wpAnyH_take (i := 2) (oi := ⟨some 10, _, _, _, _, _⟩) (v := .pointer (some ⟨q, 0, none⟩)) rfl (by kernel_rfl) (by kernel_rfl) (by kernel_rfl) (fun _ _ _ h => h) (Or.inl ⟨by rfl, fun w hSw => by go_simp⟩) hH ?_
      try simp only [Act.put, List.setIfInBounds_toArray, List.set_cons_zero, List.set_cons_succ]
      refine wpAnyH_take (i := 3) (oi := ⟨some 11, _, _, _, _, _⟩) (v := .pointer (some ⟨p, 0, none⟩)) rfl (by kernel_rfl) (by kernel_rfl) (by kernel_rfl) (fun _ _ _ h => h) (Or.inl ⟨by rfl, fun w hSw => run_loadCellB _ _ rfl _ 0 rfl _ _ hSw _ Tryz.underlying23 rfl _ (lC_g0 _ _ _)⟩) hH ?_
      try simp only [Act.put, List.setIfInBounds_toArray, List.set_cons_zero, List.set_cons_succ]
      refine wpAnyH_take (i := 4) (oi := ⟨some 12, _, _, _, _, _⟩) (v := .pointer (some ⟨q, 0, none⟩)) rfl (by kernel_rfl) (by kernel_rfl) (by kernel_rfl) (fun _ _ _ h => h) (Or.inl ⟨by rfl, fun w hSw => by go_simp⟩) hH ?_
      try simp only [Act.put, List.setIfInBounds_toArray, List.set_cons_zero, List.set_cons_succ]
      refine wpAnyH_take (i := 5) (oi := ⟨some 13, _, _, _, _, _⟩) (v := .pointer (some ⟨q, 0, none⟩)) rfl (by kernel_rfl) (by kernel_rfl) (by kernel_rfl) (fun _ _ _ h => h) (Or.inl ⟨by rfl, fun w hSw => by go_simp⟩) hH ?_
      try simp only [Act.put, List.setIfInBounds_toArray, List.set_cons_zero, List.set_cons_succ]
      refine wpAnyH_take (i := 6) (oi := ⟨some 14, _, _, _, _, _⟩) (v := .pointer (some ⟨q, 0, none⟩)) rfl (by kernel_rfl) (by kernel_rfl) (by kernel_rfl) (fun _ _ _ h => h) (Or.inl ⟨by rfl, fun w hSw => by go_simp⟩) hH ?_
      try simp only [Act.put, List.setIfInBounds_toArray, List.set_cons_zero, List.set_cons_succ]
      refine wpAnyH_take (i := 7) (oi := ⟨some 15, _, _, _, _, _⟩) (v := .pointer (some ⟨q, 5, none⟩)) rfl (by kernel_rfl) (by kernel_rfl) (by kernel_rfl) (fun _ _ _ h => h) (Or.inl ⟨by rfl, fun w hSw => by go_simp⟩) hH ?_
      try simp only [Act.put, List.setIfInBounds_toArray, List.set_cons_zero, List.set_cons_succ]
      refine wpAnyH_take (i := 8) (oi := ⟨some 16, _, _, _, _, _⟩) (v := .int .i64 (i : Int)) rfl (by kernel_rfl) (by kernel_rfl) (by kernel_rfl) (fun _ _ _ h => h) (Or.inl ⟨by rfl, fun w hSw => run_loadCellB _ _ rfl _ 5 rfl _ _ hSw _ Tryz.underlying3 rfl _ ((lC_g5 _ _ _).trans (congrArg (fun n : Nat => some (Value.int .i64 (n : Int))) hsi))⟩) hH ?_
      try simp only [Act.put, List.setIfInBounds_toArray, List.set_cons_zero, List.set_cons_succ]
      refine wpAnyH_take (i := 9) (oi := ⟨some 17, _, _, _, _, _⟩) (v := .int .i64 ((i : Int) + 1)) rfl (by kernel_rfl) (by kernel_rfl) (by kernel_rfl) (fun _ _ _ h => h) (Or.inl ⟨by rfl, fun w hSw => by go_simp⟩) hH ?_
      try simp only [Act.put, List.setIfInBounds_toArray, List.set_cons_zero, List.set_cons_succ]
      refine wpAnyH_solo (i := 10) (o := ⟨some 18, _, _, _, _, _⟩) rfl (by kernel_rfl) (fun K hK => ?_)
      refine wpList_callR Tryz.func48 (by kernel_rfl) (by kernel_rfl) rfl _ _ rfl #[.pointer (some ⟨q, 0, none⟩), .int .i64 ((i : Int) + 1)] (args2 rfl rfl) _ (HN) ?_
      rintro e w' ⟨rfl, hw'⟩
      have hw2' := hw'.symm
      subst hw2'
      clear hw'
      refine ⟨_, rfl, ?_⟩
      refine hK _ _ hH ?_
      clear hK K
      try simp only [Act.put, List.setIfInBounds_toArray, List.set_cons_zero, List.set_cons_succ]
      refine wpAnyH_solo (i := 11) (o := ⟨some 19, _, _, _, _, _⟩) rfl (by kernel_rfl) (fun K hK => ?_)
      refine wpList_callR Tryz.func93 (by kernel_rfl) (by kernel_rfl) rfl _ _ rfl #[.pointer (some ⟨p, 0, none⟩), .string ⟨sN.toArray⟩] (args2 rfl rfl) _ (HR) ?_
      rintro e w2 ⟨rfl, hw2⟩
      have hH2 := hH.belowSize hw2
      refine ⟨_, rfl, ?_⟩
      refine hK _ _ hH2 ?_
      clear hK K
      try simp only [Act.put, List.setIfInBounds_toArray, List.set_cons_zero, List.set_cons_succ]
      refine wpAnyH_solo (i := 12) (o := ⟨some 7, _, _, _, _, _⟩) rfl (by kernel_rfl) (fun K hK => ?_)
      refine wpList_pure rfl (.tuple #[.string ⟨(t).toArray⟩, .int .i64 0]) (by go_simp) ?_
      refine hK _ _ hH2 ?_
      clear hK K
      try simp only [Act.put, List.setIfInBounds_toArray, List.set_cons_zero, List.set_cons_succ]
      refine wpAnyH_take (i := 13) (oi := ⟨some 20, _, _, _, _, _⟩) (v := .string ⟨(t).toArray⟩) rfl (by kernel_rfl) (by kernel_rfl) (by kernel_rfl) (fun _ _ _ h => h) (Or.inl ⟨by rfl, fun w hSw => run_extract _ _ rfl _ rfl _ rfl⟩) hH2 ?_
      try simp only [Act.put, List.setIfInBounds_toArray, List.set_cons_zero, List.set_cons_succ]
      refine wpAnyH_take (i := 14) (oi := ⟨some 21, _, _, _, _, _⟩) (v := .int .i64 0) rfl (by kernel_rfl) (by kernel_rfl) (by kernel_rfl) (fun _ _ _ h => h) (Or.inl ⟨by rfl, fun w hSw => run_extract _ _ rfl _ rfl _ rfl⟩) hH2 ?_
      try simp only [Act.put, List.setIfInBounds_toArray, List.set_cons_zero, List.set_cons_succ]
      refine wpAnyH_take (i := 15) (oi := ⟨some 3, _, _, _, _, _⟩) (v := .string ⟨(t).toArray⟩) rfl (by kernel_rfl) (by kernel_rfl) (by kernel_rfl) (fun _ _ _ h => h) (Or.inl ⟨by rfl, fun w hSw => by go_simp⟩) hH2 ?_
      try simp only [Act.put, List.setIfInBounds_toArray, List.set_cons_zero, List.set_cons_succ]
      refine wpAnyH_take (i := 16) (oi := ⟨some 4, _, _, _, _, _⟩) (v := .int .i64 0) rfl (by kernel_rfl) (by kernel_rfl) (by kernel_rfl) (fun _ _ _ h => h) (Or.inl ⟨by rfl, fun w hSw => by go_simp⟩) hH2 ?_
      try simp only [Act.put, List.setIfInBounds_toArray, List.set_cons_zero, List.set_cons_succ]
      refine wpAnyH_done (by kernel_rfl) ?_ _
      try simp only [Act.put]
      try go_simp
      have hB2 := hdr.trans (hw2.mono hdr.size)
      have hTR2 := hTR.below hB2
      have hKi2 := hKi.below hB2
      have hDi2 := hD.below hB2
      have hqr : some q ≠ rbi := fun e => by
        obtain ⟨⟨c1, f1, k1⟩, _, _, k4⟩ := hKi.kinds
        obtain ⟨c2, f2, k5⟩ := k4 q e.symm
        exact kind_ne k1 k5 (by decide) rfl
      go_wp2_with (first
        | (go_at_call 94; refine (HU _ hB2).mono ?_; rintro e w3 ⟨sl3, rfl, hw3, hX3⟩; obtain ⟨a3, c3, rfl, _, _⟩ := hX3.ts.1.sl; have hL3 := hH2.belowSize hw3; have hTR3 := hTR2.below hw3; have hX3a := hX3.ta)
        | (with_reducible refine at_list ?_; first
          | (refine wpList_loadCell (op := ⟨some 33, _, _, _, _, _⟩) rfl _ _ rfl q 4 rfl _ _ hL3 _ Tryz.underlying30 rfl _ (lC_g4 _ _ _) ?_)
          | (refine wpList_appTS (op := ⟨some 35, _, _, _, _, _⟩) rfl _ _ rfl rv rbi Li.recs hTR3 rfl a3 c3 us hX3a rfl hfew ?_; intro w4 v4 rb4 hg4 hn4 hT4; have hL4 := hL3.grown hg4 hqr; have hv4 := hT4.sl.choose_spec.choose_spec.2.2)
          | (refine wpList_storeCell (op := ⟨none, .store 30 (.tmp 37) (.tmp 35), _, _, _, _⟩) rfl _ _ _ rfl q 4 rfl v4 rfl _ _ hL4 iSlS hv4.1 hv4.2 (by rw [lC_size]; decide) ?_; intro w5 hg5 hs5 hL5; clear hs5; rw [lC_s4 _ _ _ _ (Li.recs ++ us)] at hL5)
          | (refine wpList_loadCell (op := ⟨some 43, _, _, _, _, _⟩) rfl _ _ rfl q 5 rfl _ _ hL5 _ Tryz.underlying3 rfl (.int .i64 (i : Int)) ((lC_g5 _ _ _).trans (congrArg (fun n : Nat => some (Value.int .i64 (n : Int))) hsi)) ?_)
          | (refine wpList_storeCell (op := ⟨none, .store 3 (.tmp 47) (.tmp 44), _, _, _, _⟩) rfl _ _ _ rfl q 5 rfl (.int .i64 ((i + 1 : Nat) : Int)) (by with_unfolding_all exact rfl) _ _ hL5 iIntS rfl rfl (by rw [lC_size]; decide) ?_; intro w6 hg6 hs6 hL6; clear hs6; rw [lC_s5] at hL6)
          | (refine wpList_storeCell (op := ⟨none, .store 3 (.tmp 49) (.tmp 45), _, _, _, _⟩) rfl _ _ _ rfl q 6 rfl (.int .i64 (t.length : Nat)) rfl _ _ hL6 iIntS rfl rfl (by rw [lC_size]; decide) ?_; intro w7 hg7 hs7 hL7; clear hs7; rw [lC_s6] at hL7)))
      have hB3 := hB2.trans (hw3.mono hB2.size)
      have hgg := grown_trans hg5 (grown_trans hg6 hg7)
      have hk3 := (hKi.below hB3).kinds.2.2.2
      have h2g := hGi.two
      refine ⟨⟨i + 1, rb4, by omega, hWi.trans ((Wch.below hB3).trans ((Wch.row hg4 hn4).trans (Wch.own hgg))), ?_⟩, ?_⟩
      · rw [hsucc.out]
        refine WK.of hL7 (hT4.grown hgg (fun k e e2 => ?_)) (((hD.below hB3).row hg4 hk3).grown hgg hL4 (by decide) (by decide) (by decide)) hKi.q2 hKi.p2 hKi.b2 (fun k e => ?_)
        · have := Option.some.inj e2
          subst this
          rcases hn4 k e with h5 | h5
          · exact hqr h5.symm
          · have := hL3.lt; omega
        · rcases hn4 k e with h5 | h5
          · exact hKi.r2 k h5
          · have := hB3.size; omega
      · rw [hmeas.out, segM_eq hL7]
        show txs.length + 1 - (i + 1) < _
        omega
    · have hie : i = txs.length := by omega
      rw [hie, hS.end_, ← hie] at HR
      have hieH : Hid (i = txs.length) := hie
      change Calls Tryz.prog 93 #[.pointer (some ⟨p, 0, none⟩), .string ⟨(segN L.g (i + 1)).toArray⟩] wr.drew (fun e w' => e = .returned (.tuple #[.string ⟨([] : B).toArray⟩, .int .i64 2]) ∧ Below wr.drew.heap.size wr.drew w') at HR
      generalize segN L.g (i + 1) = sN at *
      rw [← hie]
      clear hie
      generalize hLi : segL L txs i = Li at *
      clear hgi
      go_wp2_with fail
      refine wp_region_held_drew (S := fun w' : World => Blk w' q (lC p Li rv) 64) (by kernel_rfl) (hL.drew) (fun hH => ?_)
      try go_frame
      refine wpAnyH_take (i := 0) (oi := ⟨some 8, _, _, _, _, _⟩) (v := .pointer (some ⟨q, 0, none⟩)) rfl (by kernel_rfl) (by kernel_rfl) (by kernel_rfl) (fun _ _ _ h => h) (Or.inl ⟨by rfl, fun w hSw => by go_simp⟩) hH ?_
      try simp only [Act.put, List.setIfInBounds_toArray, List.set_cons_zero, List.set_cons_succ]
      refine wpAnyH_take (i := 1) (oi := ⟨some 9, _, _, _, _, _⟩) (v := .pointer (some ⟨q, 0, none⟩)) rfl (by kernel_rfl) (by kernel_rfl) (by kernel_rfl) (fun _ _ _ h => h) (Or.inl ⟨by rfl, fun w hSw => by go_simp⟩) hH ?_
      try simp only [Act.put, List.setIfInBounds_toArray, List.set_cons_zero, List.set_cons_succ]
      refine wpAnyH_take (i := 2) (oi := ⟨some 10, _, _, _, _, _⟩) (v := .pointer (some ⟨q, 0, none⟩)) rfl (by kernel_rfl) (by kernel_rfl) (by kernel_rfl) (fun _ _ _ h => h) (Or.inl ⟨by rfl, fun w hSw => by go_simp⟩) hH ?_
      try simp only [Act.put, List.setIfInBounds_toArray, List.set_cons_zero, List.set_cons_succ]
      refine wpAnyH_take (i := 3) (oi := ⟨some 11, _, _, _, _, _⟩) (v := .pointer (some ⟨p, 0, none⟩)) rfl (by kernel_rfl) (by kernel_rfl) (by kernel_rfl) (fun _ _ _ h => h) (Or.inl ⟨by rfl, fun w hSw => run_loadCellB _ _ rfl _ 0 rfl _ _ hSw _ Tryz.underlying23 rfl _ (lC_g0 _ _ _)⟩) hH ?_
      try simp only [Act.put, List.setIfInBounds_toArray, List.set_cons_zero, List.set_cons_succ]
      refine wpAnyH_take (i := 4) (oi := ⟨some 12, _, _, _, _, _⟩) (v := .pointer (some ⟨q, 0, none⟩)) rfl (by kernel_rfl) (by kernel_rfl) (by kernel_rfl) (fun _ _ _ h => h) (Or.inl ⟨by rfl, fun w hSw => by go_simp⟩) hH ?_
      try simp only [Act.put, List.setIfInBounds_toArray, List.set_cons_zero, List.set_cons_succ]
      refine wpAnyH_take (i := 5) (oi := ⟨some 13, _, _, _, _, _⟩) (v := .pointer (some ⟨q, 0, none⟩)) rfl (by kernel_rfl) (by kernel_rfl) (by kernel_rfl) (fun _ _ _ h => h) (Or.inl ⟨by rfl, fun w hSw => by go_simp⟩) hH ?_
      try simp only [Act.put, List.setIfInBounds_toArray, List.set_cons_zero, List.set_cons_succ]
      refine wpAnyH_take (i := 6) (oi := ⟨some 14, _, _, _, _, _⟩) (v := .pointer (some ⟨q, 0, none⟩)) rfl (by kernel_rfl) (by kernel_rfl) (by kernel_rfl) (fun _ _ _ h => h) (Or.inl ⟨by rfl, fun w hSw => by go_simp⟩) hH ?_
      try simp only [Act.put, List.setIfInBounds_toArray, List.set_cons_zero, List.set_cons_succ]
      refine wpAnyH_take (i := 7) (oi := ⟨some 15, _, _, _, _, _⟩) (v := .pointer (some ⟨q, 5, none⟩)) rfl (by kernel_rfl) (by kernel_rfl) (by kernel_rfl) (fun _ _ _ h => h) (Or.inl ⟨by rfl, fun w hSw => by go_simp⟩) hH ?_
      try simp only [Act.put, List.setIfInBounds_toArray, List.set_cons_zero, List.set_cons_succ]
      refine wpAnyH_take (i := 8) (oi := ⟨some 16, _, _, _, _, _⟩) (v := .int .i64 (i : Int)) rfl (by kernel_rfl) (by kernel_rfl) (by kernel_rfl) (fun _ _ _ h => h) (Or.inl ⟨by rfl, fun w hSw => run_loadCellB _ _ rfl _ 5 rfl _ _ hSw _ Tryz.underlying3 rfl _ ((lC_g5 _ _ _).trans (congrArg (fun n : Nat => some (Value.int .i64 (n : Int))) hsi))⟩) hH ?_
      try simp only [Act.put, List.setIfInBounds_toArray, List.set_cons_zero, List.set_cons_succ]
      refine wpAnyH_take (i := 9) (oi := ⟨some 17, _, _, _, _, _⟩) (v := .int .i64 ((i : Int) + 1)) rfl (by kernel_rfl) (by kernel_rfl) (by kernel_rfl) (fun _ _ _ h => h) (Or.inl ⟨by rfl, fun w hSw => by go_simp⟩) hH ?_
      try simp only [Act.put, List.setIfInBounds_toArray, List.set_cons_zero, List.set_cons_succ]
      refine wpAnyH_solo (i := 10) (o := ⟨some 18, _, _, _, _, _⟩) rfl (by kernel_rfl) (fun K hK => ?_)
      refine wpList_callR Tryz.func48 (by kernel_rfl) (by kernel_rfl) rfl _ _ rfl #[.pointer (some ⟨q, 0, none⟩), .int .i64 ((i : Int) + 1)] (args2 rfl rfl) _ (HN) ?_
      rintro e w' ⟨rfl, hw'⟩
      have hw2' := hw'.symm
      subst hw2'
      clear hw'
      refine ⟨_, rfl, ?_⟩
      refine hK _ _ hH ?_
      clear hK K
      try simp only [Act.put, List.setIfInBounds_toArray, List.set_cons_zero, List.set_cons_succ]
      refine wpAnyH_solo (i := 11) (o := ⟨some 19, _, _, _, _, _⟩) rfl (by kernel_rfl) (fun K hK => ?_)
      refine wpList_callR Tryz.func93 (by kernel_rfl) (by kernel_rfl) rfl _ _ rfl #[.pointer (some ⟨p, 0, none⟩), .string ⟨sN.toArray⟩] (args2 rfl rfl) _ (HR) ?_
      rintro e w2 ⟨rfl, hw2⟩
      have hH2 := hH.belowSize hw2
      refine ⟨_, rfl, ?_⟩
      refine hK _ _ hH2 ?_
      clear hK K
      try simp only [Act.put, List.setIfInBounds_toArray, List.set_cons_zero, List.set_cons_succ]
      refine wpAnyH_solo (i := 12) (o := ⟨some 7, _, _, _, _, _⟩) rfl (by kernel_rfl) (fun K hK => ?_)
      refine wpList_pure rfl (.tuple #[.string ⟨([] : B).toArray⟩, .int .i64 2]) (by go_simp) ?_
      refine hK _ _ hH2 ?_
      clear hK K
      try simp only [Act.put, List.setIfInBounds_toArray, List.set_cons_zero, List.set_cons_succ]
      refine wpAnyH_take (i := 13) (oi := ⟨some 20, _, _, _, _, _⟩) (v := .string ⟨([] : B).toArray⟩) rfl (by kernel_rfl) (by kernel_rfl) (by kernel_rfl) (fun _ _ _ h => h) (Or.inl ⟨by rfl, fun w hSw => run_extract _ _ rfl _ rfl _ rfl⟩) hH2 ?_
      try simp only [Act.put, List.setIfInBounds_toArray, List.set_cons_zero, List.set_cons_succ]
      refine wpAnyH_take (i := 14) (oi := ⟨some 21, _, _, _, _, _⟩) (v := .int .i64 2) rfl (by kernel_rfl) (by kernel_rfl) (by kernel_rfl) (fun _ _ _ h => h) (Or.inl ⟨by rfl, fun w hSw => run_extract _ _ rfl _ rfl _ rfl⟩) hH2 ?_
      try simp only [Act.put, List.setIfInBounds_toArray, List.set_cons_zero, List.set_cons_succ]
      refine wpAnyH_take (i := 15) (oi := ⟨some 3, _, _, _, _, _⟩) (v := .string ⟨([] : B).toArray⟩) rfl (by kernel_rfl) (by kernel_rfl) (by kernel_rfl) (fun _ _ _ h => h) (Or.inl ⟨by rfl, fun w hSw => by go_simp⟩) hH2 ?_
      try simp only [Act.put, List.setIfInBounds_toArray, List.set_cons_zero, List.set_cons_succ]
      refine wpAnyH_take (i := 16) (oi := ⟨some 4, _, _, _, _, _⟩) (v := .int .i64 2) rfl (by kernel_rfl) (by kernel_rfl) (by kernel_rfl) (fun _ _ _ h => h) (Or.inl ⟨by rfl, fun w hSw => by go_simp⟩) hH2 ?_
      try simp only [Act.put, List.setIfInBounds_toArray, List.set_cons_zero, List.set_cons_succ]
      refine wpAnyH_done (by kernel_rfl) ?_ _
      try simp only [Act.put]
      try go_simp
      have hB2 := hdr.trans (hw2.mono hdr.size)
      go_wp2_with fail
      go_ret
      exact ⟨rfl, rbi, hWi.trans (Wch.below hB2), hKi.below hB2⟩
end Go.Proofs.YtaiiojbakmminaaGreatDoor
namespace Go.Proofs.YtaiiojbakmminaaGreatDoor
open Go Go.RowKit
theorem usedN (p : Nat) (b : Option Nat) (m : DN) (w : World) (hD : DD w p b m) (hm : Okn m) : Calls Tryz.prog 33 #[.pointer (some ⟨p, 0, none⟩)] w fun e w' => e = .returned (.int .i64 (usedL m.l : Nat)) ∧ Below w.heap.size w w' := by
  obtain ⟨v, hK, _⟩ := hD.out
  have h1 := hm.len
  have h2 := hm.used
  exact used_any p b (m.lo v) w hK (by show m.l.length ≤ _; omega) (by show usedL m.l ≤ _; omega)
def B1P (w : World) (bt : Nat) (t : Int) (e : Ending) (w' : World) : Prop := e = .returned (.int .i64 0) ∧ ∃ w1, Below w.heap.size w w1 ∧ w1.grownBy w' (some bt) ∧ Blk w' bt #[.int .i64 t] 3
set_option maxRecDepth 100000 in
set_option maxHeartbeats 2000000 in
theorem begin1_any (q p bl bu bt U V : Nat) (b rb : Option Nat) (L : LG) (m : DN) (w : World) (hK : WK w q p b rb L m) (hm : Okn m) (hV : V = usedL m.l) (hU : U ≤ 1000000000000) (kl : Blk w bl #[.pointer (some ⟨q, 0, none⟩)] 25) (ku : Blk w bu #[.int .i64 (U : Nat)] 3) (t0 : Value) (kt : Blk w bt #[t0] 3) (hne : bu ≠ bt) :
    Calls Tryz.prog 67 #[.pointer (some ⟨bu, 0, none⟩), .pointer (some ⟨bl, 0, none⟩), .pointer (some ⟨bt, 0, none⟩)] w (B1P w bt ((U : Int) - (V : Int))) := by
  obtain ⟨rv, hL, hTR, hD⟩ := hK.out
  have hdr := Below.drewS w
  have HU := usedN p b m w.drew (hD.below hdr) hm
  have hmu := hm.used
  rw [← hV] at HU hmu
  have hw1 : IntKind.i64.wrap ((U : Int) - (V : Int)) = (U : Int) - (V : Int) := by rw [IntKind.wrap_i64]; omega
  clear hV
  go_enter Tryz.func67, Tryz.ntmps67
  go_wp2_with fail
  refine wp_region_held_drew (S := fun w' : World => Blk w' bu #[.int .i64 (U : Nat)] 3 ∧ Blk w' bl #[.pointer (some ⟨q, 0, none⟩)] 25 ∧ Blk w' q (lC p L rv) 64) (by kernel_rfl) (⟨ku.drew, kl.drew, hL.drew⟩) (fun hH => ?_)
  try go_frame
  refine wpAnyH_take (i := 0) (oi := ⟨some 4, _, _, _, _, _⟩) (v := .int .i64 (U : Nat)) rfl (by kernel_rfl) (by kernel_rfl) (by kernel_rfl) (fun _ _ _ h => h) (Or.inl ⟨by rfl, fun w hSw => run_loadCellB _ _ rfl _ 0 rfl _ _ hSw.1 _ Tryz.underlying3 rfl _ (rfl)⟩) hH ?_
  try simp only [Act.put, List.setIfInBounds_toArray, List.set_cons_zero, List.set_cons_succ]
  refine wpAnyH_take (i := 1) (oi := ⟨some 5, _, _, _, _, _⟩) (v := .pointer (some ⟨q, 0, none⟩)) rfl (by kernel_rfl) (by kernel_rfl) (by kernel_rfl) (fun _ _ _ h => h) (Or.inl ⟨by rfl, fun w hSw => run_loadCellB _ _ rfl _ 0 rfl _ _ hSw.2.1 _ Tryz.underlying25 rfl _ (rfl)⟩) hH ?_
  try simp only [Act.put, List.setIfInBounds_toArray, List.set_cons_zero, List.set_cons_succ]
  refine wpAnyH_take (i := 2) (oi := ⟨some 6, _, _, _, _, _⟩) (v := .pointer (some ⟨q, 0, none⟩)) rfl (by kernel_rfl) (by kernel_rfl) (by kernel_rfl) (fun _ _ _ h => h) (Or.inl ⟨by rfl, fun w hSw => by go_simp⟩) hH ?_
  try simp only [Act.put, List.setIfInBounds_toArray, List.set_cons_zero, List.set_cons_succ]
  refine wpAnyH_take (i := 3) (oi := ⟨some 7, _, _, _, _, _⟩) (v := .pointer (some ⟨q, 0, none⟩)) rfl (by kernel_rfl) (by kernel_rfl) (by kernel_rfl) (fun _ _ _ h => h) (Or.inl ⟨by rfl, fun w hSw => by go_simp⟩) hH ?_
  try simp only [Act.put, List.setIfInBounds_toArray, List.set_cons_zero, List.set_cons_succ]
  refine wpAnyH_take (i := 4) (oi := ⟨some 8, _, _, _, _, _⟩) (v := .pointer (some ⟨p, 0, none⟩)) rfl (by kernel_rfl) (by kernel_rfl) (by kernel_rfl) (fun _ _ _ h => h) (Or.inl ⟨by rfl, fun w hSw => run_loadCellB _ _ rfl _ 0 rfl _ _ hSw.2.2 _ Tryz.underlying23 rfl _ (lC_g0 _ _ _)⟩) hH ?_
  try simp only [Act.put, List.setIfInBounds_toArray, List.set_cons_zero, List.set_cons_succ]
  refine wpAnyH_solo (i := 5) (o := ⟨some 9, _, _, _, _, _⟩) rfl (by kernel_rfl) (fun K hK => ?_)
  refine wpList_callR Tryz.func33 (by kernel_rfl) (by kernel_rfl) rfl _ _ rfl #[.pointer (some ⟨p, 0, none⟩)] (args1 rfl) _ (HU) ?_
  rintro e w2 ⟨rfl, hw2⟩
  have hH2 := And.intro (hH.1.belowSize hw2) (And.intro (hH.2.1.belowSize hw2) (hH.2.2.belowSize hw2))
  refine ⟨_, rfl, ?_⟩
  refine hK _ _ hH2 ?_
  clear hK K
  try simp only [Act.put, List.setIfInBounds_toArray, List.set_cons_zero, List.set_cons_succ]
  refine wpAnyH_take (i := 6) (oi := ⟨some 10, _, _, _, _, _⟩) (v := .int .i64 ((U : Int) - (V : Int))) rfl (by kernel_rfl) (by kernel_rfl) (by kernel_rfl) (fun _ _ _ h => h) (Or.inl ⟨by rfl, fun w hSw => by go_simp⟩) hH2 ?_
  try simp only [Act.put, List.setIfInBounds_toArray, List.set_cons_zero, List.set_cons_succ]
  refine wpAnyH_solo (i := 7) (o := ⟨none, _, _, _, _, _⟩) rfl (by kernel_rfl) (fun K hK9 => ?_)
  refine wpList_storeCell rfl _ _ _ rfl bt 0 rfl (.int .i64 ((U : Int) - (V : Int))) rfl _ _ (kt.drew.belowSize hw2) iIntS rfl rfl (by simp) ?_
  intro w3 hg3 hs3 hb3
  clear hs3
  have hH3 := And.intro (hH2.1.grown hg3 (fun e => hne (Option.some.inj e))) (And.intro (hH2.2.1.grown hg3 (fun e => kind_ne hH2.2.1.out (kt.drew.belowSize hw2).out (by decide) (Option.some.inj e))) (hH2.2.2.grown hg3 (fun e => kind_ne hH2.2.2.out (kt.drew.belowSize hw2).out (by decide) (Option.some.inj e))))
  refine hK9 _ _ hH3 ?_
  clear hK9 K
  try simp only [Act.put]
  refine wpAnyH_done (by kernel_rfl) ?_ _
  try simp only [Act.put]
  try go_simp
  go_wp2_with fail
  go_ret
  exact ⟨rfl, w2, hdr.trans (hw2.mono hdr.size), hg3, hb3⟩
theorem WK.box {w w' : World} {q p i : Nat} {b rb : Option Nat} {L : LG} {m : DN} {c : Array Value} (h : WK w q p b rb L m) (hg : w.grownBy w' (some i)) (hi : Blk w i c 3) : WK w' q p b rb L m := by
  obtain ⟨rv, h1, h2, h3⟩ := h.out
  obtain ⟨⟨c1, f1, k1⟩, _, _, k4⟩ := h.kinds
  refine ⟨⟨rv, h1.grown hg (fun e => kind_ne k1 hi.out (by decide) (Option.some.inj e)), h2.grown hg (fun k e e2 => ?_), h3.grown hg hi (by decide) (by decide) (by decide)⟩, h.q2, h.p2, h.b2, h.r2⟩
  obtain ⟨c3, f3, k5⟩ := k4 k e
  exact kind_ne k5 hi.out (by decide) (Option.some.inj e2)
/-- A block that came later changes. -/
theorem Wch.loc {w w1 w' : World} {q p i : Nat} {b rb b' rb' : Option Nat} (h : Wch w w1 q p b rb b' rb') (hg : w1.grownBy w' (some i)) (hi : w.heap.size ≤ i) : Wch w w' q p b rb b' rb' :=
  ⟨hg.os.trans h.os, hg.tape.trans h.tape, hg.output.trans h.output, Nat.le_trans h.size hg.size, fun k hk h1 h2 h3 h4 => (hg.block k (Nat.lt_of_lt_of_le hk h.size) (fun e => by have := Option.some.inj e; omega)).trans (h.block k hk h1 h2 h3 h4), h.newb, h.newr⟩
def rbF (q : Nat) : Value := .func (.func 65) #[.pointer (some ⟨q, 0, none⟩)] #[]
def rsF (q : Nat) : Value := .func (.func 66) #[.pointer (some ⟨q, 0, none⟩)] #[]
def b1F (bu bl bt : Nat) : Value := .func (.func 67) #[] #[.pointer (some ⟨bu, 0, none⟩), .pointer (some ⟨bl, 0, none⟩), .pointer (some ⟨bt, 0, none⟩)]
theorem rb_stp (q : Nat) : Stp Tryz.prog (rbF q) 65 #[.pointer (some ⟨q, 0, none⟩)] := ⟨fn1_of Tryz.func65 (by kernel_rfl) (by kernel_rfl), _, #[], rfl, by simp⟩
theorem rs_stp (q : Nat) : Stp Tryz.prog (rsF q) 66 #[.pointer (some ⟨q, 0, none⟩)] := ⟨fn1_of Tryz.func66 (by kernel_rfl) (by kernel_rfl), _, #[], rfl, by simp⟩
theorem b1_stp (bu bl bt : Nat) : Stp Tryz.prog (b1F bu bl bt) 67 #[.pointer (some ⟨bu, 0, none⟩), .pointer (some ⟨bl, 0, none⟩), .pointer (some ⟨bt, 0, none⟩)] := ⟨fn1_of Tryz.func67 (by kernel_rfl) (by kernel_rfl), #[], _, rfl, by simp⟩
/-- What begin's steps leave. -/
def TnP (w : World) (q p bt : Nat) (b rb : Option Nat) (r : LG × (DN × Nat)) (t : Int) (e : Ending) (w' : World) : Prop := e = .returned (.int .i64 (r.2.2 : Nat)) ∧ ∃ b' rb', Wch w w' q p b rb b' rb' ∧ WK w' q p b' rb' r.1 r.2.1 ∧ Blk w' bt #[.int .i64 t] 3
def bgR (R1 R2 : LG × (DN × Nat)) : LG × (DN × Nat) := if R1.2.2 ≠ 0 then R1 else if R2.2.2 ≠ 0 then R2 else (R2.1, sweepN R2.1.g R2.2.1)
def bgT (U : Nat) (R1 R2 : LG × (DN × Nat)) : Int := if R1.2.2 ≠ 0 then 0 else if R2.2.2 ≠ 0 then 0 else (U : Int) - (usedL R2.2.1.l : Nat)
theorem begin_turn (q p bl bu bt g U cp : Nat) (b rb : Option Nat) (L : LG) (m : DN) (R1 R2 : LG × (DN × Nat)) (w0 w : World) (hK0 : WK w0 q p b rb L m) (hG0 : Gw w0) (hW0 : Below w0.heap.size w0 w) (hU : U ≤ 1000000000000)
    (kl : Blk w bl #[.pointer (some ⟨q, 0, none⟩)] 25) (ku : Blk w bu #[.int .i64 (U : Nat)] 3) (kt : Blk w bt #[.int .i64 0] 3) (kg : Blk w g #[rbF q, rsF q, b1F bu bl bt, swq q] TF) (lb : w0.heap.size ≤ bt) (hne : bu ≠ bt)
    (H1 : ∀ w' b' rb', WK w' q p b' rb' L m → Gw w' → Calls Tryz.prog 65 #[.pointer (some ⟨q, 0, none⟩)] w' (RsP w' q p b' rb' R1))
    (H2 : R1.2.2 = 0 → ∀ w' b' rb', WK w' q p b' rb' R1.1 R1.2.1 → Gw w' → Calls Tryz.prog 66 #[.pointer (some ⟨q, 0, none⟩)] w' (RsP w' q p b' rb' R2))
    (o : R1.2.2 = 0 → R2.2.2 = 0 → Okw R2.1 R2.2.1) :
    Calls Tryz.prog 37 #[.slice (some ⟨g, 0, none⟩) 4 cp] w (TnP w0 q p bt b rb (bgR R1 R2) (bgT U R1 R2)) := by
  have step : ∀ {w1 w2 : World} {b1 rb1 b2 rb2 : Option Nat} {L1 : LG} {m1 : DN} {tv : Value}, WK w1 q p b1 rb1 L1 m1 → Gw w1 → Blk w1 bl #[.pointer (some ⟨q, 0, none⟩)] 25 → Blk w1 bu #[.int .i64 (U : Nat)] 3 → Blk w1 g #[rbF q, rsF q, b1F bu bl bt, swq q] TF → Blk w1 bt #[tv] 3 → Wch w1 w2 q p b1 rb1 b2 rb2 → Gw w2 ∧ Blk w2 bl #[.pointer (some ⟨q, 0, none⟩)] 25 ∧ Blk w2 bu #[.int .i64 (U : Nat)] 3 ∧ Blk w2 g #[rbF q, rsF q, b1F bu bl bt, swq q] TF ∧ Blk w2 bt #[tv] 3 := fun hK hG h1 h2 h3 h4 hW =>
    ⟨hW.gw hK hG, hW.blk hK h1 (by decide) (by decide) (by decide) (.inl (by decide)), hW.blk hK h2 (by decide) (by decide) (by decide) (.inl (by decide)), hW.blk hK h3 (by decide) (by decide) (by decide) (.inl (by decide)), hW.blk hK h4 (by decide) (by decide) (by decide) (.inl (by decide))⟩
  refine (inTurn_rule (some ⟨g, 0, none⟩) 4 cp (fun i => (#[rbF q, rsF q, b1F bu bl bt, swq q][i]?).getD .nilFunc)
    (fun i w' => ∃ b' rb', Wch w0 w' q p b rb b' rb' ∧ Gw w' ∧ Blk w' bl #[.pointer (some ⟨q, 0, none⟩)] 25 ∧ Blk w' bu #[.int .i64 (U : Nat)] 3 ∧ Blk w' g #[rbF q, rsF q, b1F bu bl bt, swq q] TF ∧ match i with
      | 0 => WK w' q p b' rb' L m ∧ Blk w' bt #[.int .i64 0] 3
      | 1 => R1.2.2 = 0 ∧ WK w' q p b' rb' R1.1 R1.2.1 ∧ Blk w' bt #[.int .i64 0] 3
      | 2 => R1.2.2 = 0 ∧ R2.2.2 = 0 ∧ WK w' q p b' rb' R2.1 R2.2.1 ∧ Blk w' bt #[.int .i64 0] 3
      | 3 => R1.2.2 = 0 ∧ R2.2.2 = 0 ∧ WK w' q p b' rb' R2.1 R2.2.1 ∧ Blk w' bt #[.int .i64 ((U : Int) - (usedL R2.2.1.l : Nat))] 3
      | _ => R1.2.2 = 0 ∧ R2.2.2 = 0 ∧ (sweepN R2.1.g R2.2.1).2 = 0 ∧ WK w' q p b' rb' R2.1 (sweepN R2.1.g R2.2.1).1 ∧ Blk w' bt #[.int .i64 ((U : Int) - (usedL R2.2.1.l : Nat))] 3)
    (fun c w' => TnP w0 q p bt b rb (bgR R1 R2) (bgT U R1 R2) (.returned (.int .i64 (c : Nat))) w') w (by omega) ?_ ?_ ?_ ?_).mono ?_
  · rintro i w' ⟨b', rb', _, _, _, _, k, _⟩ hi
    obtain ⟨v, hv⟩ : ∃ v, #[rbF q, rsF q, b1F bu bl bt, swq q][i]? = some v := ⟨_, Array.getElem?_eq_getElem (by simpa using hi)⟩
    refine ⟨g, 0, rfl, ?_⟩
    rw [Nat.zero_add, hv, k.cell i, hv]
    rfl
  · intro i w' hR hi
    match i, hR, hi with
    | 0, ⟨b', rb', hW, G, Kl, Ku, Kg, hK', Kt⟩, _ =>
      refine ⟨_, _, rb_stp q, (H1 w' b' rb' hK' G).mono ?_⟩
      rintro e w2 ⟨rfl, b2, rb2, hW2, hK2⟩
      obtain ⟨G2, l2, u2, g2, t2⟩ := step hK' G Kl Ku Kg Kt hW2
      refine ⟨_, rfl, fun hc => ⟨b2, rb2, hW.trans hW2, G2, l2, u2, g2, hc, hK2, t2⟩, fun hc => ?_⟩
      unfold bgR bgT
      rw [if_pos hc, if_pos hc]
      exact ⟨rfl, b2, rb2, hW.trans hW2, hK2, t2⟩
    | 1, ⟨b', rb', hW, G, Kl, Ku, Kg, z1, hK', Kt⟩, _ =>
      refine ⟨_, _, rs_stp q, (H2 z1 w' b' rb' hK' G).mono ?_⟩
      rintro e w2 ⟨rfl, b2, rb2, hW2, hK2⟩
      obtain ⟨G2, l2, u2, g2, t2⟩ := step hK' G Kl Ku Kg Kt hW2
      refine ⟨_, rfl, fun hc => ⟨b2, rb2, hW.trans hW2, G2, l2, u2, g2, z1, hc, hK2, t2⟩, fun hc => ?_⟩
      unfold bgR bgT
      rw [if_neg (by simp [z1]), if_pos hc, if_neg (by simp [z1]), if_pos hc]
      exact ⟨rfl, b2, rb2, hW.trans hW2, hK2, t2⟩
    | 2, ⟨b', rb', hW, G, Kl, Ku, Kg, z1, z2, hK', Kt⟩, _ =>
      refine ⟨_, _, b1_stp bu bl bt, (begin1_any q p bl bu bt U _ b' rb' R2.1 R2.2.1 w' hK' (o z1 z2).m rfl hU Kl Ku _ Kt hne).mono ?_⟩
      rintro e w2 ⟨rfl, w1, hB1, hg2, t2⟩
      have hK1 := hK'.below hB1
      have hW1 : Wch w' w1 q p b' rb' b' rb' := Wch.below hB1
      obtain ⟨G1, l1, u1, g1, t1⟩ := step hK' G Kl Ku Kg Kt hW1
      have hK2 := hK1.box hg2 t1
      have hG2 : Gw w2 := G1.keep hg2.size fun k hk => hg2.block k (by have := G1.two; omega) (fun e => by have := Option.some.inj e; have := hG0.two; omega)
      refine ⟨0, rfl, fun _ => ⟨b', rb', (hW.trans hW1).loc hg2 lb, hG2, l1.grown hg2 (fun e => kind_ne l1.out t1.out (by decide) (Option.some.inj e)), u1.grown hg2 (fun e => hne (Option.some.inj e)), g1.grown hg2 (fun e => kind_ne g1.out t1.out (by decide) (Option.some.inj e)), z1, z2, hK2, t2⟩, fun hc => absurd rfl hc⟩
    | 3, ⟨b', rb', hW, G, Kl, Ku, Kg, z1, z2, hK', Kt⟩, _ =>
      refine ⟨_, _, swq_stp q, (sweep_any q p b' rb' R2.1 R2.2.1 w' hK' G (o z1 z2)).mono ?_⟩
      rintro e w2 ⟨rfl, b2, hW2, hK2⟩
      obtain ⟨G2, l2, u2, g2, t2⟩ := step hK' G Kl Ku Kg Kt hW2
      refine ⟨_, rfl, fun hc => ⟨b2, rb', hW.trans hW2, G2, l2, u2, g2, z1, z2, hc, hK2, t2⟩, fun hc => ?_⟩
      unfold bgR bgT
      rw [if_neg (by simp [z1]), if_neg (by simp [z2]), if_neg (by simp [z1]), if_neg (by simp [z2])]
      exact ⟨rfl, b2, rb', hW.trans hW2, hK2, t2⟩
    | i + 4, _, hi => exact absurd hi (by omega)
  · rintro w' ⟨b', rb', hW, G, Kl, Ku, Kg, z1, z2, z3, hK', Kt⟩
    unfold bgR bgT
    rw [if_neg (by simp [z1]), if_neg (by simp [z2]), if_neg (by simp [z1]), if_neg (by simp [z2])]
    exact ⟨by rw [z3], b', rb', hW, hK', Kt⟩
  · have hW : Wch w0 w q p b rb b rb := Wch.below hW0
    exact ⟨b, rb, hW, hW.gw hK0 hG0, kl, ku, kg, hK0.below hW0, kt⟩
  · rintro e w' ⟨c, rfl, h⟩
    exact h
end Go.Proofs.YtaiiojbakmminaaGreatDoor
