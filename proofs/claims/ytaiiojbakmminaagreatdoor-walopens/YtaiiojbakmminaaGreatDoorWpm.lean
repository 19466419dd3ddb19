/- What the closures of Reset do. What may be of a disk stays through its changes; sweeping plainly. -/
import Derived.Test.YtaiiojbakmminaaGreatDoorWpk
import Derived.Test.YtaiiojbakmminaaGreatDoorWfm
namespace Go.Proofs.YtaiiojbakmminaaGreatDoor
open Go Go.RowKit
set_option maxRecDepth 100000 in
set_option maxHeartbeats 2000000 in
theorem reset1_any (q p bl bf bs br : Nat) (b rb : Option Nat) (L : LG) (m : DN) (x s : B) (l : List B) (ad : Option Addr) (cap : Nat) (w : World) (hK : WK w q p b rb L m) (hG : Gw w) (hm : Okn m) (hx : okN x = true) (hxl : x.length ≤ 9223372036854775807)
    (hT : TA w ad l) (hll : l.length ≤ 1000000) (hlen : (frs [s]).length + (frs l).length ≤ 10000000000)
    (hl : Blk w bl #[.pointer (some ⟨q, 0, none⟩)] 25) (hf : Blk w bf #[.string ⟨x.toArray⟩] 9) (hs : Blk w bs #[.string ⟨s.toArray⟩] 9) (hr : Blk w br #[.slice ad l.length cap] 30) (hfr : some bf ≠ rb) (hsr : some bs ≠ rb) :
    Calls Tryz.prog 38 #[.pointer (some ⟨bl, 0, none⟩), .pointer (some ⟨bf, 0, none⟩), .pointer (some ⟨bs, 0, none⟩), .pointer (some ⟨br, 0, none⟩)] w (StP w q p b rb L (wriN m x (frs [s] ++ frs l))) := by
  obtain ⟨rv, hL, hTR, hD⟩ := hK.out
  have hdr := Below.drewS w
  have HF1 := fun w2 (hB : Below w.drew.heap.size w.drew w2) (hb : Blk w2 w.drew.heap.size #[.string ⟨s.toArray⟩] 9) => frames_any [s] (some ⟨w.drew.heap.size, 0, none⟩) 1 w2 ⟨.inr ⟨_, 0, _, _, rfl, hb.out, fun j y hy => by
    cases j with
    | zero => simp at hy; subst hy; rfl
    | succ j => simp at hy⟩⟩ (((hG.below hdr).below hB).g) (by simp) (by omega)
  have HF2 := fun w3 (hB : Below w.drew.heap.size w.drew w3) => frames_any l ad cap w3 ((hT.below hdr).below hB) (((hG.below hdr).below hB).g) hll (by omega)
  have HW := fun w4 (hB : Below w.drew.heap.size w.drew w4) => writeN p b m x (frs [s] ++ frs l) w4 ((hD.below hdr).below hB) hm hx hxl (by rw [List.length_append]; omega)
  have hKd := hK.below hdr
  have hG2 : 2 ≤ w.drew.heap.size := hG.two
  have hbig : ¬ 9223372036854775807 < (frs [s]).length + (frs l).length := by omega
  have keep5 : ∀ {w1 w2 : World}, Below w1.heap.size w1 w2 → (Blk w1 bl #[.pointer (some ⟨q, 0, none⟩)] 25 ∧ Blk w1 q (lC p L rv) 64 ∧ Blk w1 bf #[.string ⟨x.toArray⟩] 9 ∧ Blk w1 bs #[.string ⟨s.toArray⟩] 9 ∧ Blk w1 br #[.slice ad l.length cap] 30) → (Blk w2 bl #[.pointer (some ⟨q, 0, none⟩)] 25 ∧ Blk w2 q (lC p L rv) 64 ∧ Blk w2 bf #[.string ⟨x.toArray⟩] 9 ∧ Blk w2 bs #[.string ⟨s.toArray⟩] 9 ∧ Blk w2 br #[.slice ad l.length cap] 30) := fun hB h => ⟨h.1.belowSize hB, h.2.1.belowSize hB, h.2.2.1.belowSize hB, h.2.2.2.1.belowSize hB, h.2.2.2.2.belowSize hB⟩
  generalize wriN m x (frs [s] ++ frs l) = r at *
  generalize frs [s] = fs at *
  generalize frs l = fl at *
  go_enter Tryz.func38, Tryz.ntmps38
  go_wp2_with fail
  refine wp_region_held_drew (S := fun w' : World => Blk w' bl #[.pointer (some ⟨q, 0, none⟩)] 25 ∧ Blk w' q (lC p L rv) 64 ∧ Blk w' bf #[.string ⟨x.toArray⟩] 9 ∧ Blk w' bs #[.string ⟨s.toArray⟩] 9 ∧ Blk w' br #[.slice ad l.length cap] 30) (by kernel_rfl) (⟨hl.drew, hL.drew, hf.drew, hs.drew, hr.drew⟩) (fun hH => ?_)
  try go_frame
  refine wpAnyH_take (i := 0) (oi := ⟨some 5, _, _, _, _, _⟩) (v := .pointer (some ⟨q, 0, none⟩)) rfl (by kernel_rfl) (by kernel_rfl) (by kernel_rfl) (fun _ _ _ h => h) (Or.inl ⟨by rfl, fun w hSw => run_loadCellB _ _ rfl _ 0 rfl _ _ hSw.1 _ Tryz.underlying25 rfl _ (rfl)⟩) hH ?_
  try simp only [Act.put, List.setIfInBounds_toArray, List.set_cons_zero, List.set_cons_succ]
  refine wpAnyH_take (i := 1) (oi := ⟨some 6, _, _, _, _, _⟩) (v := .pointer (some ⟨q, 0, none⟩)) rfl (by kernel_rfl) (by kernel_rfl) (by kernel_rfl) (fun _ _ _ h => h) (Or.inl ⟨by rfl, fun w hSw => by go_simp⟩) hH ?_
  try simp only [Act.put, List.setIfInBounds_toArray, List.set_cons_zero, List.set_cons_succ]
  refine wpAnyH_take (i := 2) (oi := ⟨some 7, _, _, _, _, _⟩) (v := .pointer (some ⟨q, 0, none⟩)) rfl (by kernel_rfl) (by kernel_rfl) (by kernel_rfl) (fun _ _ _ h => h) (Or.inl ⟨by rfl, fun w hSw => by go_simp⟩) hH ?_
  try simp only [Act.put, List.setIfInBounds_toArray, List.set_cons_zero, List.set_cons_succ]
  refine wpAnyH_take (i := 3) (oi := ⟨some 8, _, _, _, _, _⟩) (v := .pointer (some ⟨p, 0, none⟩)) rfl (by kernel_rfl) (by kernel_rfl) (by kernel_rfl) (fun _ _ _ h => h) (Or.inl ⟨by rfl, fun w hSw => run_loadCellB _ _ rfl _ 0 rfl _ _ hSw.2.1 _ Tryz.underlying23 rfl _ (lC_g0 _ _ _)⟩) hH ?_
  try simp only [Act.put, List.setIfInBounds_toArray, List.set_cons_zero, List.set_cons_succ]
  refine wpAnyH_take (i := 4) (oi := ⟨some 9, _, _, _, _, _⟩) (v := .string ⟨x.toArray⟩) rfl (by kernel_rfl) (by kernel_rfl) (by kernel_rfl) (fun _ _ _ h => h) (Or.inl ⟨by rfl, fun w hSw => run_loadCellB _ _ rfl _ 0 rfl _ _ hSw.2.2.1 _ Tryz.underlying9 rfl _ (rfl)⟩) hH ?_
  try simp only [Act.put, List.setIfInBounds_toArray, List.set_cons_zero, List.set_cons_succ]
  refine wpAnyH_take (i := 5) (oi := ⟨some 10, _, _, _, _, _⟩) (v := .string ⟨s.toArray⟩) rfl (by kernel_rfl) (by kernel_rfl) (by kernel_rfl) (fun _ _ _ h => h) (Or.inl ⟨by rfl, fun w hSw => run_loadCellB _ _ rfl _ 0 rfl _ _ hSw.2.2.2.1 _ Tryz.underlying9 rfl _ (rfl)⟩) hH ?_
  try simp only [Act.put, List.setIfInBounds_toArray, List.set_cons_zero, List.set_cons_succ]
  refine wpAnyH_take (i := 8) (oi := ⟨some 13, _, _, _, _, _⟩) (v := .slice ad l.length cap) rfl (by kernel_rfl) (by kernel_rfl) (by kernel_rfl) (fun _ _ _ h => h) (Or.inl ⟨by rfl, fun w hSw => run_loadCellB _ _ rfl _ 0 rfl _ _ hSw.2.2.2.2 _ Tryz.underlying30 rfl _ (rfl)⟩) hH ?_
  try simp only [Act.put, List.setIfInBounds_toArray, List.set_cons_zero, List.set_cons_succ]
  refine wpAnyH_solo (i := 6) (o := ⟨some 11, _, _, _, _, _⟩) rfl (by kernel_rfl) (fun K hK => ?_)
  refine wpList_tsl1 rfl _ rfl s rfl ?_
  intro w2 hw2 hb2
  have hS2 := keep5 hw2 hH
  refine hK _ _ hS2 ?_
  clear hK K
  try simp only [Act.put, List.setIfInBounds_toArray, List.set_cons_zero, List.set_cons_succ]
  refine wpAnyH_solo (i := 7) (o := ⟨some 12, _, _, _, _, _⟩) rfl (by kernel_rfl) (fun K hK => ?_)
  refine wpList_callR Tryz.func39 (by kernel_rfl) (by kernel_rfl) rfl _ _ rfl #[.slice (some ⟨w.drew.heap.size, 0, none⟩) 1 1] (args1 rfl) _ (HF1 w2 hw2 hb2) ?_
  rintro e w3 ⟨rfl, hw3⟩
  have hS3 := keep5 hw3 hS2
  have hB3 := hw2.trans (hw3.mono hw2.size)
  refine ⟨_, rfl, ?_⟩
  refine hK _ _ hS3 ?_
  clear hK K
  try simp only [Act.put, List.setIfInBounds_toArray, List.set_cons_zero, List.set_cons_succ]
  refine wpAnyH_solo (i := 9) (o := ⟨some 14, _, _, _, _, _⟩) rfl (by kernel_rfl) (fun K hK => ?_)
  refine wpList_callR Tryz.func39 (by kernel_rfl) (by kernel_rfl) rfl _ _ rfl #[.slice ad l.length cap] (args1 rfl) _ (HF2 w3 hB3) ?_
  rintro e w4 ⟨rfl, hw4⟩
  have hS4 := keep5 hw4 hS3
  have hB4 := hB3.trans (hw4.mono hB3.size)
  refine ⟨_, rfl, ?_⟩
  refine hK _ _ hS4 ?_
  clear hK K
  try simp only [Act.put, List.setIfInBounds_toArray, List.set_cons_zero, List.set_cons_succ]
  refine wpAnyH_solo (i := 10) (o := ⟨some 15, _, _, _, _, _⟩) rfl (by kernel_rfl) (fun K hK => ?_)
  refine wpList_pure rfl (.string ⟨(fs ++ fl).toArray⟩) (run_addS rfl rfl rfl hbig) ?_
  refine hK _ _ hS4 ?_
  clear hK K
  try simp only [Act.put, List.setIfInBounds_toArray, List.set_cons_zero, List.set_cons_succ]
  refine wpAnyH_solo (i := 11) (o := ⟨some 16, _, _, _, _, _⟩) rfl (by kernel_rfl) (fun K hK => ?_)
  refine wpList_callR Tryz.func25 (by kernel_rfl) (by kernel_rfl) rfl _ _ rfl #[.pointer (some ⟨p, 0, none⟩), .string ⟨x.toArray⟩, .string ⟨(fs ++ fl).toArray⟩] (args3 rfl rfl rfl) _ (HW w4 hB4) ?_
  rintro e w5 ⟨rfl, b5, hC5, hD5⟩
  have hK4 := hKd.below hB4
  have hK5 := hK4.disk (Nat.le_trans hG2 hB4.size) hC5 hD5
  have hw5 : Wch w4 w5 q p b rb b5 rb := Wch.chg hC5
  have hS5 := And.intro (hw5.blk hK4 hS4.1 (by decide) (by decide) (by decide) (.inl (by decide))) (And.intro (hK4.logBlk hS4.2.1 hC5) (And.intro (hw5.blk hK4 hS4.2.2.1 (by decide) (by decide) (by decide) (.inr hfr)) (And.intro (hw5.blk hK4 hS4.2.2.2.1 (by decide) (by decide) (by decide) (.inr hsr)) (hw5.blk hK4 hS4.2.2.2.2 (by decide) (by decide) (by decide) (.inl (by decide))))))
  refine ⟨_, rfl, ?_⟩
  refine hK _ _ hS5 ?_
  clear hK K
  try simp only [Act.put, List.setIfInBounds_toArray, List.set_cons_zero, List.set_cons_succ]
  refine wpAnyH_solo (i := 12) (o := ⟨some 4, _, _, _, _, _⟩) rfl (by kernel_rfl) (fun K hK => ?_)
  refine wpList_pure rfl (.int .i64 (r.2 : Nat)) (by go_simp) ?_
  refine hK _ _ hS5 ?_
  clear hK K
  try simp only [Act.put, List.setIfInBounds_toArray, List.set_cons_zero, List.set_cons_succ]
  refine wpAnyH_done (by kernel_rfl) ?_ _
  try simp only [Act.put]
  try go_simp
  go_wp2_with fail
  go_ret
  exact ⟨rfl, b5, (Wch.below (hdr.trans (hB4.mono hdr.size))).trans hw5, hK5⟩
set_option maxRecDepth 100000 in
set_option maxHeartbeats 2000000 in
theorem reset2_any (q p bl bf bs : Nat) (b rb : Option Nat) (L : LG) (m : DN) (x s : B) (w : World) (hK : WK w q p b rb L m) (hG : Gw w) (hm : Okn m) (hx : okN x = true) (hs2 : okN s = true) (hxs : x ≠ s) (hxl : x.length ≤ 9223372036854775807) (hsl : s.length ≤ 9223372036854775807) (ha : (atL x m.l).isSome = true)
    (hl : Blk w bl #[.pointer (some ⟨q, 0, none⟩)] 25) (hf : Blk w bf #[.string ⟨x.toArray⟩] 9) (hs : Blk w bs #[.string ⟨s.toArray⟩] 9) (hfr : some bf ≠ rb) (hsr : some bs ≠ rb) :
    Calls Tryz.prog 40 #[.pointer (some ⟨bl, 0, none⟩), .pointer (some ⟨bf, 0, none⟩), .pointer (some ⟨bs, 0, none⟩)] w (StP w q p b rb L (movN m x s)) := by
  obtain ⟨rv, hL, hTR, hD⟩ := hK.out
  have hdr := Below.drewS w
  have HM := moveN p b m x s w.drew (hD.below hdr) hm hx hs2 hxs hxl hsl ha
  have hKd := hK.below hdr
  have hG2 : 2 ≤ w.drew.heap.size := hG.two
  generalize movN m x s = r at *
  clear ha hxs
  go_enter Tryz.func40, Tryz.ntmps40
  go_wp2_with fail
  refine wp_region_held_drew (S := fun w' : World => Blk w' bl #[.pointer (some ⟨q, 0, none⟩)] 25 ∧ Blk w' q (lC p L rv) 64 ∧ Blk w' bf #[.string ⟨x.toArray⟩] 9 ∧ Blk w' bs #[.string ⟨s.toArray⟩] 9) (by kernel_rfl) (⟨hl.drew, hL.drew, hf.drew, hs.drew⟩) (fun hH => ?_)
  try go_frame
  refine wpAnyH_take (i := 0) (oi := ⟨some 4, _, _, _, _, _⟩) (v := .pointer (some ⟨q, 0, none⟩)) rfl (by kernel_rfl) (by kernel_rfl) (by kernel_rfl) (fun _ _ _ h => h) (Or.inl ⟨by rfl, fun w hSw => run_loadCellB _ _ rfl _ 0 rfl _ _ hSw.1 _ Tryz.underlying25 rfl _ (rfl)⟩) hH ?_
  try simp only [Act.put, List.setIfInBounds_toArray, List.set_cons_zero, List.set_cons_succ]
  refine wpAnyH_take (i := 1) (oi := ⟨some 5, _, _, _, _, _⟩) (v := .pointer (some ⟨q, 0, none⟩)) rfl (by kernel_rfl) (by kernel_rfl) (by kernel_rfl) (fun _ _ _ h => h) (Or.inl ⟨by rfl, fun w hSw => by go_simp⟩) hH ?_
  try simp only [Act.put, List.setIfInBounds_toArray, List.set_cons_zero, List.set_cons_succ]
  refine wpAnyH_take (i := 2) (oi := ⟨some 6, _, _, _, _, _⟩) (v := .pointer (some ⟨q, 0, none⟩)) rfl (by kernel_rfl) (by kernel_rfl) (by kernel_rfl) (fun _ _ _ h => h) (Or.inl ⟨by rfl, fun w hSw => by go_simp⟩) hH ?_
  try simp only [Act.put, List.setIfInBounds_toArray, List.set_cons_zero, List.set_cons_succ]
  refine wpAnyH_take (i := 3) (oi := ⟨some 7, _, _, _, _, _⟩) (v := .pointer (some ⟨p, 0, none⟩)) rfl (by kernel_rfl) (by kernel_rfl) (by kernel_rfl) (fun _ _ _ h => h) (Or.inl ⟨by rfl, fun w hSw => run_loadCellB _ _ rfl _ 0 rfl _ _ hSw.2.1 _ Tryz.underlying23 rfl _ (lC_g0 _ _ _)⟩) hH ?_
  try simp only [Act.put, List.setIfInBounds_toArray, List.set_cons_zero, List.set_cons_succ]
  refine wpAnyH_take (i := 4) (oi := ⟨some 8, _, _, _, _, _⟩) (v := .string ⟨x.toArray⟩) rfl (by kernel_rfl) (by kernel_rfl) (by kernel_rfl) (fun _ _ _ h => h) (Or.inl ⟨by rfl, fun w hSw => run_loadCellB _ _ rfl _ 0 rfl _ _ hSw.2.2.1 _ Tryz.underlying9 rfl _ (rfl)⟩) hH ?_
  try simp only [Act.put, List.setIfInBounds_toArray, List.set_cons_zero, List.set_cons_succ]
  refine wpAnyH_take (i := 5) (oi := ⟨some 9, _, _, _, _, _⟩) (v := .string ⟨s.toArray⟩) rfl (by kernel_rfl) (by kernel_rfl) (by kernel_rfl) (fun _ _ _ h => h) (Or.inl ⟨by rfl, fun w hSw => run_loadCellB _ _ rfl _ 0 rfl _ _ hSw.2.2.2 _ Tryz.underlying9 rfl _ (rfl)⟩) hH ?_
  try simp only [Act.put, List.setIfInBounds_toArray, List.set_cons_zero, List.set_cons_succ]
  refine wpAnyH_solo (i := 6) (o := ⟨some 10, _, _, _, _, _⟩) rfl (by kernel_rfl) (fun K hK => ?_)
  refine wpList_callR Tryz.func41 (by kernel_rfl) (by kernel_rfl) rfl _ _ rfl #[.pointer (some ⟨p, 0, none⟩), .string ⟨x.toArray⟩, .string ⟨s.toArray⟩] (args3 rfl rfl rfl) _ (HM) ?_
  rintro e w5 ⟨rfl, b5, hC5, hD5⟩
  have hK5 := hKd.disk hG2 hC5 hD5
  have hw5 : Wch w.drew w5 q p b rb b5 rb := Wch.chg hC5
  have hS5 := And.intro (hw5.blk hKd hH.1 (by decide) (by decide) (by decide) (.inl (by decide))) (And.intro (hKd.logBlk hH.2.1 hC5) (And.intro (hw5.blk hKd hH.2.2.1 (by decide) (by decide) (by decide) (.inr hfr)) (hw5.blk hKd hH.2.2.2 (by decide) (by decide) (by decide) (.inr hsr))))
  refine ⟨_, rfl, ?_⟩
  refine hK _ _ hS5 ?_
  clear hK K
  try simp only [Act.put, List.setIfInBounds_toArray, List.set_cons_zero, List.set_cons_succ]
  refine wpAnyH_solo (i := 7) (o := ⟨some 3, _, _, _, _, _⟩) rfl (by kernel_rfl) (fun K hK => ?_)
  refine wpList_pure rfl (.int .i64 (r.2 : Nat)) (by go_simp) ?_
  refine hK _ _ hS5 ?_
  clear hK K
  try simp only [Act.put, List.setIfInBounds_toArray, List.set_cons_zero, List.set_cons_succ]
  refine wpAnyH_done (by kernel_rfl) ?_ _
  try simp only [Act.put]
  try go_simp
  go_wp2_with fail
  go_ret
  exact ⟨rfl, b5, (Wch.below hdr).trans hw5, hK5⟩
set_option maxRecDepth 100000 in
set_option maxHeartbeats 2000000 in
theorem reset3_any (q p bl bs br : Nat) (b rb : Option Nat) (L : LG) (m : DN) (s : B) (l : List B) (ad : Option Addr) (cap : Nat) (w : World) (hK : WK w q p b rb L m) (hG : Gw w) (hg : L.g < 1000)
    (hT : TA w ad l) (hll : l.length ≤ 1000000)
    (hl : Blk w bl #[.pointer (some ⟨q, 0, none⟩)] 25) (hs : Blk w bs #[.string ⟨s.toArray⟩] 9) (hr : Blk w br #[.slice ad l.length cap] 30) (hsr : some bs ≠ rb) :
    Calls Tryz.prog 42 #[.pointer (some ⟨bl, 0, none⟩), .pointer (some ⟨bs, 0, none⟩), .pointer (some ⟨br, 0, none⟩)] w (LtP w q p b rb (becL L (L.g + 1) s l) m) := by
  obtain ⟨rv, hL, hTR, hD⟩ := hK.out
  have hdr := Below.drewS w
  have HB := become_any q p b rb L m (L.g + 1) s l ad cap w.drew (hK.below hdr) (hG.below hdr) (hT.below hdr) hll
  have hKd := hK.below hdr
  have hw1 : IntKind.i64.wrap ((L.g : Int) + 1) = ((L.g + 1 : Nat) : Int) := by rw [IntKind.wrap_i64]; omega
  generalize becL L (L.g + 1) s l = L2 at *
  go_enter Tryz.func42, Tryz.ntmps42
  go_wp2_with fail
  refine wp_region_held_drew (S := fun w' : World => Blk w' bl #[.pointer (some ⟨q, 0, none⟩)] 25 ∧ Blk w' bs #[.string ⟨s.toArray⟩] 9 ∧ Blk w' br #[.slice ad l.length cap] 30) (by kernel_rfl) (⟨hl.drew, hs.drew, hr.drew⟩) (fun hH => ?_)
  try go_frame
  refine wpAnyH_take (i := 0) (oi := ⟨some 4, _, _, _, _, _⟩) (v := .pointer (some ⟨q, 0, none⟩)) rfl (by kernel_rfl) (by kernel_rfl) (by kernel_rfl) (fun _ _ _ h => h) (Or.inl ⟨by rfl, fun w hSw => run_loadCellB _ _ rfl _ 0 rfl _ _ hSw.1 _ Tryz.underlying25 rfl _ (rfl)⟩) hH ?_
  try simp only [Act.put, List.setIfInBounds_toArray, List.set_cons_zero, List.set_cons_succ]
  refine wpAnyH_take (i := 1) (oi := ⟨some 5, _, _, _, _, _⟩) (v := .pointer (some ⟨q, 0, none⟩)) rfl (by kernel_rfl) (by kernel_rfl) (by kernel_rfl) (fun _ _ _ h => h) (Or.inl ⟨by rfl, fun w hSw => run_loadCellB _ _ rfl _ 0 rfl _ _ hSw.1 _ Tryz.underlying25 rfl _ (rfl)⟩) hH ?_
  try simp only [Act.put, List.setIfInBounds_toArray, List.set_cons_zero, List.set_cons_succ]
  refine wpAnyH_take (i := 2) (oi := ⟨some 6, _, _, _, _, _⟩) (v := .pointer (some ⟨q, 0, none⟩)) rfl (by kernel_rfl) (by kernel_rfl) (by kernel_rfl) (fun _ _ _ h => h) (Or.inl ⟨by rfl, fun w hSw => by go_simp⟩) hH ?_
  try simp only [Act.put, List.setIfInBounds_toArray, List.set_cons_zero, List.set_cons_succ]
  refine wpAnyH_take (i := 3) (oi := ⟨some 7, _, _, _, _, _⟩) (v := .pointer (some ⟨q, 2, none⟩)) rfl (by kernel_rfl) (by kernel_rfl) (by kernel_rfl) (fun _ _ _ h => h) (Or.inl ⟨by rfl, fun w hSw => by go_simp⟩) hH ?_
  try simp only [Act.put, List.setIfInBounds_toArray, List.set_cons_zero, List.set_cons_succ]
  refine wpAnyH_take (i := 6) (oi := ⟨some 10, _, _, _, _, _⟩) (v := .string ⟨s.toArray⟩) rfl (by kernel_rfl) (by kernel_rfl) (by kernel_rfl) (fun _ _ _ h => h) (Or.inl ⟨by rfl, fun w hSw => run_loadCellB _ _ rfl _ 0 rfl _ _ hSw.2.1 _ Tryz.underlying9 rfl _ (rfl)⟩) hH ?_
  try simp only [Act.put, List.setIfInBounds_toArray, List.set_cons_zero, List.set_cons_succ]
  refine wpAnyH_take (i := 7) (oi := ⟨some 11, _, _, _, _, _⟩) (v := .slice ad l.length cap) rfl (by kernel_rfl) (by kernel_rfl) (by kernel_rfl) (fun _ _ _ h => h) (Or.inl ⟨by rfl, fun w hSw => run_loadCellB _ _ rfl _ 0 rfl _ _ hSw.2.2 _ Tryz.underlying30 rfl _ (rfl)⟩) hH ?_
  try simp only [Act.put, List.setIfInBounds_toArray, List.set_cons_zero, List.set_cons_succ]
  refine wpAnyH_solo (i := 4) (o := ⟨some 8, _, _, _, _, _⟩) rfl (by kernel_rfl) (fun K hK => ?_)
  refine wpList_loadCell rfl _ _ rfl q 2 rfl _ _ hL.drew _ Tryz.underlying3 rfl _ (lC_g2 _ _ _) ?_
  refine hK _ _ hH ?_
  clear hK K
  try simp only [Act.put, List.setIfInBounds_toArray, List.set_cons_zero, List.set_cons_succ]
  refine wpAnyH_solo (i := 5) (o := ⟨some 9, _, _, _, _, _⟩) rfl (by kernel_rfl) (fun K hK => ?_)
  refine wpList_pure rfl (.int .i64 ((L.g + 1 : Nat) : Int)) (by go_simp) ?_
  refine hK _ _ hH ?_
  clear hK K
  try simp only [Act.put, List.setIfInBounds_toArray, List.set_cons_zero, List.set_cons_succ]
  refine wpAnyH_solo (i := 8) (o := ⟨some 12, _, _, _, _, _⟩) rfl (by kernel_rfl) (fun K hK => ?_)
  refine wpList_callR Tryz.func43 (by kernel_rfl) (by kernel_rfl) rfl _ _ rfl #[.pointer (some ⟨q, 0, none⟩), .int .i64 ((L.g + 1 : Nat) : Int), .string ⟨s.toArray⟩, .slice ad l.length cap] (args4 rfl rfl rfl rfl) _ (HB) ?_
  rintro e w2 ⟨rfl, rb2, hW2, hK2⟩
  have hS2 := And.intro (hW2.blk hKd hH.1 (by decide) (by decide) (by decide) (.inl (by decide))) (And.intro (hW2.blk hKd hH.2.1 (by decide) (by decide) (by decide) (.inr hsr)) (hW2.blk hKd hH.2.2 (by decide) (by decide) (by decide) (.inl (by decide))))
  refine ⟨_, rfl, ?_⟩
  refine hK _ _ hS2 ?_
  clear hK K
  try simp only [Act.put, List.setIfInBounds_toArray, List.set_cons_zero, List.set_cons_succ]
  refine wpAnyH_solo (i := 9) (o := ⟨some 3, _, _, _, _, _⟩) rfl (by kernel_rfl) (fun K hK => ?_)
  refine wpList_pure rfl (.int .i64 0) (by go_simp) ?_
  refine hK _ _ hS2 ?_
  clear hK K
  try simp only [Act.put, List.setIfInBounds_toArray, List.set_cons_zero, List.set_cons_succ]
  refine wpAnyH_done (by kernel_rfl) ?_ _
  try simp only [Act.put]
  try go_simp
  go_wp2_with fail
  go_ret
  exact ⟨rfl, rb2, (Wch.below (Below.drewS w)).trans hW2, hK2⟩
end Go.Proofs.YtaiiojbakmminaaGreatDoor
namespace Go.Proofs.YtaiiojbakmminaaGreatDoor
open Go Go.RowKit
theorem lay_mem {n : B} {c : Option B} {h : Nat} {l : List F} (hr : Ris l) {f : F} (hf : f ∈ lay n c h l) : f ∈ l ∨ (f.is = c ∧ f.name = n ∧ (f.sure = none ∨ ∃ f0 ∈ l, f.sure = f0.sure)) := by
  obtain ⟨A, T, rfl, hp, hA, ⟨hfn, f0, R, rfl, hn2, hR⟩ | ⟨hfn, hT⟩⟩ := split_at n l hr
  · rw [lay_found hfn hp] at hf
    split at hf
    · exact .inl (mem_skip hf)
    · rcases List.mem_append.1 hf with h1 | h1
      · exact .inl (List.mem_append_left _ h1)
      · rcases List.mem_cons.1 h1 with rfl | h1
        · exact .inr ⟨rfl, hn2, .inr ⟨f0, by simp, rfl⟩⟩
        · exact .inl (by simp [h1])
  · rw [lay_new hfn hp] at hf
    split at hf
    · exact .inl hf
    · rcases List.mem_append.1 hf with h1 | h1
      · exact .inl (List.mem_append_left _ h1)
      · rcases List.mem_cons.1 h1 with rfl | h1
        · exact .inr ⟨rfl, rfl, .inl rfl⟩
        · exact .inl (List.mem_append_right _ h1)
theorem lay_used (n : B) (c : Option B) (h : Nat) (l : List F) (hr : Ris l) : usedL (lay n c h l) + (kbyt (atL n l)).length = usedL l + (kbyt c).length := by
  rw [used_now, lay_now n c h l hr, used_now, at_now n l hr]
  exact usedP_put (now_ris hr)
theorem at_lay {n x : B} {c : Option B} {h : Nat} {l : List F} {ok : B → Bool} (hl : Okl ok l) (hn : ok n = true) : atL x (lay n c h l) = if x = n then c else atL x l := by
  rw [at_now x _ (lay_ok (c := c) (h := h) hl hn).ris, lay_now n c h l hl.ris, getP_put, at_now x l hl.ris]
theorem okn_chg {m : DN} {n : B} {c : Option B} {h : Nat} (hm : Okn m) (hh : hitN m = none) (hn : okN n = true) (hlen : m.l.length + 1 ≤ 999000) (hch : m.ch + 1 ≤ 999000) (hu : usedL m.l + (kbyt c).length ≤ 100000000000) : Okn { m with ch := m.ch + 1, l := lay n c h m.l } := by
  have h1 := lay_used n c h m.l hm.l.ris
  have h2 := lay_len n c h m.l hm.l.ris
  refine ⟨lay_ok hm.l hn, ?_, ?_, hch, hm.room, fun f hf => ?_, fun f hf => ?_⟩
  · show (lay n c h m.l).length ≤ _
    omega
  · show usedL (lay n c h m.l) ≤ _
    omega
  · rcases lay_mem hm.l.ris hf with h3 | ⟨h3, _, h4⟩
    · exact hm.by_ f h3
    · refine ⟨by rw [h3]; omega, ?_⟩
      rcases h4 with h4 | ⟨f0, h5, h6⟩
      · rw [h4]; simp [kbyt]
      · rw [h6]; exact (hm.by_ f0 h5).2
  · have h3 := hm.pl f hf
    refine ⟨?_, h3.2⟩
    have h4 := h3.1
    unfold hitN at hh
    rw [show m.pl = some f from hf] at hh
    dsimp only at hh
    split at hh
    · cases hh
    · show ((m.ch + 1 : Nat) : Int) ≤ _
      omega
theorem okn_syn {m : DN} (hm : Okn m) : Okn (synN m).1 := by
  unfold synN
  split
  · exact hm
  · have h1 := settle_len m.l
    have h2 := hm.len
    refine ⟨settle_ok hm.l, ?_, ?_, hm.ch, hm.room, fun f hf => ?_, hm.pl⟩
    · show (settleL m.l).length ≤ _
      omega
    · show usedL (settleL m.l) ≤ _
      rw [settle_mk, used_mk, ← used_now]
      exact hm.used
    · change f ∈ settleL m.l at hf
      unfold settleL liveL at hf
      obtain ⟨f0, h3, rfl⟩ := List.mem_map.1 (List.mem_filter.1 hf).1
      exact ⟨(hm.by_ f0 h3).1, (hm.by_ f0 h3).1⟩
/-- A change that is told as done: no fall struck, there was power. -/
theorem chg_ok {m : DN} {l' : List F} (h : (chgN m l').2 = 0) : hitN m = none ∧ chgN m l' = ({ m with ch := m.ch + 1, l := l' }, 0) := by
  unfold chgN at *
  cases hh : hitN m with
  | none => exact ⟨rfl, rfl⟩
  | some f => rw [hh] at h; cases h
theorem rem_ok {m : DN} {x : B} (h : (remN m x).2 = 0) : m.dead = false ∧ hitN m = none ∧ remN m x = ({ m with ch := m.ch + 1, l := lay x none 4 m.l }, 0) := by
  unfold remN at *
  by_cases hd : m.dead = true
  · rw [if_pos hd] at h; cases h
  · rw [if_neg hd] at h ⊢
    exact ⟨by simpa using hd, chg_ok h⟩
/-- Files taken away, up to the first one that fails. -/
def swpN : DN → List B → DN × Nat
  | m, [] => (m, 0)
  | m, x :: r => if (remN m x).2 = 0 then swpN (remN m x).1 r else remN m x
def othL (g : Nat) (m : DN) : List B := (namesL m.l).filter (othK g)
/-- What sweep leaves. -/
def sweepN (g : Nat) (m : DN) : DN × Nat := if othL g m = [] then (m, 0) else if (swpN m (othL g m)).2 = 0 then synN (swpN m (othL g m)).1 else swpN m (othL g m)
theorem names_at {l : List F} (hr : Ris l) {x : B} : x ∈ namesL l ↔ (atL x l).isSome = true := by
  rw [at_now x l hr]
  exact getP_name.symm
theorem names_ris {l : List F} (hr : Ris l) : (namesL l).Pairwise (· < ·) := by
  have := now_ris hr
  unfold namesL
  rw [List.pairwise_map]
  exact this
theorem swp_app : ∀ (m : DN) (l r : List B), swpN m (l ++ r) = if (swpN m l).2 = 0 then swpN (swpN m l).1 r else swpN m l
  | m, [], r => by simp [swpN]
  | m, x :: l, r => by
    rw [List.cons_append, swpN, swpN]
    by_cases h : (remN m x).2 = 0
    · rw [if_pos h, if_pos h, swp_app]
    · rw [if_neg h, if_neg h, if_neg h]
theorem swp_one (m : DN) (x : B) : swpN m [x] = remN m x := by
  rw [swpN]
  by_cases h : (remN m x).2 = 0
  · rw [if_pos h, swpN, ← h]
  · rw [if_neg h]
/-- Behind each step of the sweep that was told as done. -/
theorem swp_take {m : DN} {xs : List B} (hm : Okn m) (hx : ∀ x ∈ xs, okN x = true) (hch : m.ch + xs.length ≤ 990000) (hln : m.l.length + xs.length ≤ 990000) : ∀ i, i ≤ xs.length → (swpN m (xs.take i)).2 = 0 → Okn (swpN m (xs.take i)).1 ∧ (swpN m (xs.take i)).1.ch ≤ m.ch + i ∧ (swpN m (xs.take i)).1.l.length ≤ m.l.length + i ∧ ∀ x, atL x (swpN m (xs.take i)).1.l = if x ∈ xs.take i then none else atL x m.l
  | 0, _, _ => ⟨hm, by simp [swpN], by simp [swpN], fun x => by simp [swpN]⟩
  | i + 1, hi, h0 => by
    have hlt : i < xs.length := hi
    have e1 : xs.take (i + 1) = xs.take i ++ [xs[i]] := List.take_succ_eq_append_getElem hlt
    rw [e1, swp_app] at h0 ⊢
    by_cases hp : (swpN m (xs.take i)).2 = 0
    · rw [if_pos hp, swp_one] at h0 ⊢
      obtain ⟨k1, k2, k3, k4⟩ := swp_take hm hx hch hln i (Nat.le_of_lt hlt) hp
      generalize (swpN m (xs.take i)).1 = mi at *
      obtain ⟨r1, r2, r3⟩ := rem_ok h0
      have hxo := hx xs[i] (List.getElem_mem hlt)
      have hu := k1.used
      rw [r3]
      refine ⟨okn_chg k1 r2 hxo (by omega) (by omega) (by simp [kbyt]; omega), by show mi.ch + 1 ≤ _; omega, ?_, fun x => ?_⟩
      · have := lay_len xs[i] none 4 mi.l k1.l.ris
        show (lay xs[i] none 4 mi.l).length ≤ _
        omega
      · show atL x (lay xs[i] none 4 mi.l) = _
        rw [at_lay k1.l hxo, k4 x]
        by_cases hxi : x = xs[i]
        · rw [if_pos hxi, if_pos (List.mem_append_right _ (List.mem_singleton.2 hxi))]
        · rw [if_neg hxi]
          by_cases hm2 : x ∈ xs.take i
          · rw [if_pos hm2, if_pos (List.mem_append_left _ hm2)]
          · rw [if_neg hm2, if_neg (fun e => (List.mem_append.1 e).elim hm2 (fun e => hxi (List.mem_singleton.1 e)))]
    · rw [if_neg hp] at h0
      exact absurd h0 hp
end Go.Proofs.YtaiiojbakmminaaGreatDoor
