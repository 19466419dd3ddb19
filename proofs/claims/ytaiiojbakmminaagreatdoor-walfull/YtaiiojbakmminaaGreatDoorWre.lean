/- What the closures of Reset do. -/
import Derived.Test.YtaiiojbakmminaaGreatDoorWst
namespace Go.Proofs.YtaiiojbakmminaaGreatDoor
open Go Go.RowKit
set_option maxRecDepth 100000 in
set_option maxHeartbeats 2000000 in
theorem reset1_any (q p bl bf bs br : Nat) (b rb : Option Nat) (L : LG) (m : DN) (x s : B) (l : List B) (ad : Option Addr) (cap : Nat) (w : World) (hK : WK w q p b rb L m) (hG : Gw w) (hm : Okn m) (hx : okN x = true) (hxl : x.length ≤ 9223372036854775807)
    (hT : TA w ad l) (hll : l.length ≤ 1000000) (hlen : (frs [s]).length + (frs l).length ≤ 10000000000)
    (hl : Blk w bl #[.pointer (some ⟨q, 0, none⟩)] 25) (hf : Blk w bf #[.string ⟨x.toArray⟩] 9) (hs : Blk w bs #[.string ⟨s.toArray⟩] 9) (hr : Blk w br #[.slice ad l.length cap] 30) (hfr : some bf ≠ rb) (hsr : some bs ≠ rb) :
    Calls Tryz.prog 38 #[.pointer (some ⟨bl, 0, none⟩), .pointer (some ⟨bf, 0, none⟩), .pointer (some ⟨bs, 0, none⟩), .pointer (some ⟨br, 0, none⟩)] w (StP w q p b rb L (wriN m x (frs [s] ++ frs l))) := by
  obtain ⟨rv, hL, hTR, hD⟩ := hK.out
  have hdr := Below.drewS w
  have HF1 := fun w2 (hB : Below w.drew.heap.size w.drew w2) (hb : Blk w2 w.drew.heap.size #[.string ⟨s.toArray⟩] 9) => frames_any [s] (some ⟨w.drew.heap.size, 0, none⟩) 1 w2 ⟨.inr ⟨_, 0, _, _, rfl, hb.out, fun j y hy => by
    cases j with
    | zero => simp at hy; subst hy; rfl
    | succ j => simp at hy⟩⟩ (((hG.below hdr).below hB).g) (by simp) (by omega)
  have HF2 := fun w3 (hB : Below w.drew.heap.size w.drew w3) => frames_any l ad cap w3 ((hT.below hdr).below hB) (((hG.below hdr).below hB).g) hll (by omega)
  have HW := fun w4 (hB : Below w.drew.heap.size w.drew w4) => writeN p b m x (frs [s] ++ frs l) w4 ((hD.below hdr).below hB) hm hx hxl (by rw [List.length_append]; omega)
  have hKd := hK.below hdr
  have hG2 : 2 ≤ w.drew.heap.size := hG.two
  have hbig : ¬ 9223372036854775807 < (frs [s]).length + (frs l).length := by omega
  have keep5 : ∀ {w1 w2 : World}, Below w1.heap.size w1 w2 → (Blk w1 bl #[.pointer (some ⟨q, 0, none⟩)] 25 ∧ Blk w1 q (lC p L rv) 64 ∧ Blk w1 bf #[.string ⟨x.toArray⟩] 9 ∧ Blk w1 bs #[.string ⟨s.toArray⟩] 9 ∧ Blk w1 br #[.slice ad l.length cap] 30) → (Blk w2 bl #[.pointer (some ⟨q, 0, none⟩)] 25 ∧ Blk w2 q (lC p L rv) 64 ∧ Blk w2 bf #[.string ⟨x.toArray⟩] 9 ∧ Blk w2 bs #[.string ⟨s.toArray⟩] 9 ∧ Blk w2 br #[.slice ad l.length cap] 30) := fun hB h => ⟨h.1.belowSize hB, h.2.1.belowSize hB, h.2.2.1.belowSize hB, h.2.2.2.1.belowSize hB, h.2.2.2.2.belowSize hB⟩
  generalize wriN m x (frs [s] ++ frs l) = r at *
  generalize frs [s] = fs at *
  generalize frs l = fl at *
  go_enter Tryz.func38, Tryz.ntmps38
  go_wp2_with fail
  refine wp_region_held_drew (S := fun w' : World => Blk w' bl #[.pointer (some ⟨q, 0, none⟩)] 25 ∧ Blk w' q (lC p L rv) 64 ∧ Blk w' bf #[.string ⟨x.toArray⟩] 9 ∧ Blk w' bs #[.string ⟨s.toArray⟩] 9 ∧ Blk w' br #[.slice ad l.length cap] 30) (by kernel_rfl) (⟨hl.drew, hL.drew, hf.drew, hs.drew, hr.drew⟩) (fun hH => ?_)
  try go_frame
  refine wpAnyH_take (i := 0) (oi := ⟨some 5, _, _, _, _, _⟩) (v := .pointer (some ⟨q, 0, none⟩)) rfl (by kernel_rfl) (by kernel_rfl) (by kernel_rfl) (fun _ _ _ h => h) (Or.inl ⟨by rfl, fun w hSw => run_loadCellB _ _ rfl _ 0 rfl _ _ hSw.1 _ Tryz.underlying25 rfl _ (rfl)⟩) hH ?_
  try simp only [Act.put, List.setIfInBounds_toArray, List.set_cons_zero, List.set_cons_succ]
  refine wpAnyH_take (i := 1) (oi := ⟨some 6, _, _, _, _, _⟩) (v := .pointer (some ⟨q, 0, none⟩)) rfl (by kernel_rfl) (by kernel_rfl) (by kernel_rfl) (fun _ _ _ h => h) (Or.inl ⟨by rfl, fun w hSw => by go_simp⟩) hH ?_
  try simp only [Act.put, List.setIfInBounds_toArray, List.set_cons_zero, List.set_cons_succ]
  refine wpAnyH_take (i := 2) (oi := ⟨some 7, _, _, _, _, _⟩) (v := .pointer (some ⟨q, 0, none⟩)) rfl (by kernel_rfl) (by kernel_rfl) (by kernel_rfl) (fun _ _ _ h => h) (Or.inl ⟨by rfl, fun w hSw => by go_simp⟩) hH ?_
  try simp only [Act.put, List.setIfInBounds_toArray, List.set_cons_zero, List.set_cons_succ]
  refine wpAnyH_take (i := 3) (oi := ⟨some 8, _, _, _, _, _⟩) (v := .pointer (some ⟨p, 0, none⟩)) rfl (by kernel_rfl) (by kernel_rfl) (by kernel_rfl) (fun _ _ _ h => h) (Or.inl ⟨by rfl, fun w hSw => run_loadCellB _ _ rfl _ 0 rfl _ _ hSw.2.1 _ Tryz.underlying23 rfl _ (lC_g0 _ _ _)⟩) hH ?_
  try simp only [Act.put, List.setIfInBounds_toArray, List.set_cons_zero, List.set_cons_succ]
  refine wpAnyH_take (i := 4) (oi := ⟨some 9, _, _, _, _, _⟩) (v := .string ⟨x.toArray⟩) rfl (by kernel_rfl) (by kernel_rfl) (by kernel_rfl) (fun _ _ _ h => h) (Or.inl ⟨by rfl, fun w hSw => run_loadCellB _ _ rfl _ 0 rfl _ _ hSw.2.2.1 _ Tryz.underlying9 rfl _ (rfl)⟩) hH ?_
  try simp only [Act.put, List.setIfInBounds_toArray, List.set_cons_zero, List.set_cons_succ]
  refine wpAnyH_take (i := 5) (oi := ⟨some 10, _, _, _, _, _⟩) (v := .string ⟨s.toArray⟩) rfl (by kernel_rfl) (by kernel_rfl) (by kernel_rfl) (fun _ _ _ h => h) (Or.inl ⟨by rfl, fun w hSw => run_loadCellB _ _ rfl _ 0 rfl _ _ hSw.2.2.2.1 _ Tryz.underlying9 rfl _ (rfl)⟩) hH ?_
  try simp only [Act.put, List.setIfInBounds_toArray, List.set_cons_zero, List.set_cons_succ]
  refine wpAnyH_take (i := 8) (oi := ⟨some 13, _, _, _, _, _⟩) (v := .slice ad l.length cap) rfl (by kernel_rfl) (by kernel_rfl) (by kernel_rfl) (fun _ _ _ h => h) (Or.inl ⟨by rfl, fun w hSw => run_loadCellB _ _ rfl _ 0 rfl _ _ hSw.2.2.2.2 _ Tryz.underlying30 rfl _ (rfl)⟩) hH ?_
  try simp only [Act.put, List.setIfInBounds_toArray, List.set_cons_zero, List.set_cons_succ]
  refine wpAnyH_solo (i := 6) (o := ⟨some 11, _, _, _, _, _⟩) rfl (by kernel_rfl) (fun K hK => ?_)
  refine wpList_tsl1 rfl _ rfl s rfl ?_
  intro w2 hw2 hb2
  have hS2 := keep5 hw2 hH
  refine hK _ _ hS2 ?_
  clear hK K
  try simp only [Act.put, List.setIfInBounds_toArray, List.set_cons_zero, List.set_cons_succ]
  refine wpAnyH_solo (i := 7) (o := ⟨some 12, _, _, _, _, _⟩) rfl (by kernel_rfl) (fun K hK => ?_)
  refine wpList_callR Tryz.func39 (by kernel_rfl) (by kernel_rfl) rfl _ _ rfl #[.slice (some ⟨w.drew.heap.size, 0, none⟩) 1 1] (args1 rfl) _ (HF1 w2 hw2 hb2) ?_
  rintro e w3 ⟨rfl, hw3⟩
  have hS3 := keep5 hw3 hS2
  have hB3 := hw2.trans (hw3.mono hw2.size)
  refine ⟨_, rfl, ?_⟩
  refine hK _ _ hS3 ?_
  clear hK K
  try simp only [Act.put, List.setIfInBounds_toArray, List.set_cons_zero, List.set_cons_succ]
  refine wpAnyH_solo (i := 9) (o := ⟨some 14, _, _, _, _, _⟩) rfl (by kernel_rfl) (fun K hK => ?_)
  refine wpList_callR Tryz.func39 (by kernel_rfl) (by kernel_rfl) rfl _ _ rfl #[.slice ad l.length cap] (args1 rfl) _ (HF2 w3 hB3) ?_
  rintro e w4 ⟨rfl, hw4⟩
  have hS4 := keep5 hw4 hS3
  have hB4 := hB3.trans (hw4.mono hB3.size)
  refine ⟨_, rfl, ?_⟩
  refine hK _ _ hS4 ?_
  clear hK K
  try simp only [Act.put, List.setIfInBounds_toArray, List.set_cons_zero, List.set_cons_succ]
  refine wpAnyH_solo (i := 10) (o := ⟨some 15, _, _, _, _, _⟩) rfl (by kernel_rfl) (fun K hK => ?_)
  refine wpList_pure rfl (.string ⟨(fs ++ fl).toArray⟩) (run_addS rfl rfl rfl hbig) ?_
  refine hK _ _ hS4 ?_
  clear hK K
  try simp only [Act.put, List.setIfInBounds_toArray, List.set_cons_zero, List.set_cons_succ]
  refine wpAnyH_solo (i := 11) (o := ⟨some 16, _, _, _, _, _⟩) rfl (by kernel_rfl) (fun K hK => ?_)
  refine wpList_callR Tryz.func25 (by kernel_rfl) (by kernel_rfl) rfl _ _ rfl #[.pointer (some ⟨p, 0, none⟩), .string ⟨x.toArray⟩, .string ⟨(fs ++ fl).toArray⟩] (args3 rfl rfl rfl) _ (HW w4 hB4) ?_
  rintro e w5 ⟨rfl, b5, hC5, hD5⟩
  have hK4 := hKd.below hB4
  have hK5 := hK4.disk (Nat.le_trans hG2 hB4.size) hC5 hD5
  have hw5 : Wch w4 w5 q p b rb b5 rb := Wch.chg hC5
  have hS5 := And.intro (hw5.blk hK4 hS4.1 (by decide) (by decide) (by decide) (.inl (by decide))) (And.intro (hK4.logBlk hS4.2.1 hC5) (And.intro (hw5.blk hK4 hS4.2.2.1 (by decide) (by decide) (by decide) (.inr hfr)) (And.intro (hw5.blk hK4 hS4.2.2.2.1 (by decide) (by decide) (by decide) (.inr hsr)) (hw5.blk hK4 hS4.2.2.2.2 (by decide) (by decide) (by decide) (.inl (by decide))))))
  refine ⟨_, rfl, ?_⟩
  refine hK _ _ hS5 ?_
  clear hK K
  try simp only [Act.put, List.setIfInBounds_toArray, List.set_cons_zero, List.set_cons_succ]
  refine wpAnyH_solo (i := 12) (o := ⟨some 4, _, _, _, _, _⟩) rfl (by kernel_rfl) (fun K hK => ?_)
  refine wpList_pure rfl (.int .i64 (r.2 : Nat)) (by go_simp) ?_
  refine hK _ _ hS5 ?_
  clear hK K
  try simp only [Act.put, List.setIfInBounds_toArray, List.set_cons_zero, List.set_cons_succ]
  refine wpAnyH_done (by kernel_rfl) ?_ _
  try simp only [Act.put]
  try go_simp
  go_wp2_with fail
  go_ret
  exact ⟨rfl, b5, (Wch.below (hdr.trans (hB4.mono hdr.size))).trans hw5, hK5⟩
set_option maxRecDepth 100000 in
set_option maxHeartbeats 2000000 in
theorem reset2_any (q p bl bf bs : Nat) (b rb : Option Nat) (L : LG) (m : DN) (x s : B) (w : World) (hK : WK w q p b rb L m) (hG : Gw w) (hm : Okn m) (hx : okN x = true) (hs2 : okN s = true) (hxs : x ≠ s) (hxl : x.length ≤ 9223372036854775807) (hsl : s.length ≤ 9223372036854775807) (ha : (atL x m.l).isSome = true)
    (hl : Blk w bl #[.pointer (some ⟨q, 0, none⟩)] 25) (hf : Blk w bf #[.string ⟨x.toArray⟩] 9) (hs : Blk w bs #[.string ⟨s.toArray⟩] 9) (hfr : some bf ≠ rb) (hsr : some bs ≠ rb) :
    Calls Tryz.prog 40 #[.pointer (some ⟨bl, 0, none⟩), .pointer (some ⟨bf, 0, none⟩), .pointer (some ⟨bs, 0, none⟩)] w (StP w q p b rb L (movN m x s)) := by
  obtain ⟨rv, hL, hTR, hD⟩ := hK.out
  have hdr := Below.drewS w
  have HM := moveN p b m x s w.drew (hD.below hdr) hm hx hs2 hxs hxl hsl ha
  have hKd := hK.below hdr
  have hG2 : 2 ≤ w.drew.heap.size := hG.two
  generalize movN m x s = r at *
  clear ha hxs
  go_enter Tryz.func40, Tryz.ntmps40
  go_wp2_with fail
  refine wp_region_held_drew (S := fun w' : World => Blk w' bl #[.pointer (some ⟨q, 0, none⟩)] 25 ∧ Blk w' q (lC p L rv) 64 ∧ Blk w' bf #[.string ⟨x.toArray⟩] 9 ∧ Blk w' bs #[.string ⟨s.toArray⟩] 9) (by kernel_rfl) (⟨hl.drew, hL.drew, hf.drew, hs.drew⟩) (fun hH => ?_)
  try go_frame
  refine wpAnyH_take (i := 0) (oi := ⟨some 4, _, _, _, _, _⟩) (v := .pointer (some ⟨q, 0, none⟩)) rfl (by kernel_rfl) (by kernel_rfl) (by kernel_rfl) (fun _ _ _ h => h) (Or.inl ⟨by rfl, fun w hSw => run_loadCellB _ _ rfl _ 0 rfl _ _ hSw.1 _ Tryz.underlying25 rfl _ (rfl)⟩) hH ?_
  try simp only [Act.put, List.setIfInBounds_toArray, List.set_cons_zero, List.set_cons_succ]
  refine wpAnyH_take (i := 1) (oi := ⟨some 5, _, _, _, _, _⟩) (v := .pointer (some ⟨q, 0, none⟩)) rfl (by kernel_rfl) (by kernel_rfl) (by kernel_rfl) (fun _ _ _ h => h) (Or.inl ⟨by rfl, fun w hSw => by go_simp⟩) hH ?_
  try simp only [Act.put, List.setIfInBounds_toArray, List.set_cons_zero, List.set_cons_succ]
  refine wpAnyH_take (i := 2) (oi := ⟨some 6, _, _, _, _, _⟩) (v := .pointer (some ⟨q, 0, none⟩)) rfl (by kernel_rfl) (by kernel_rfl) (by kernel_rfl) (fun _ _ _ h => h) (Or.inl ⟨by rfl, fun w hSw => by go_simp⟩) hH ?_
  try simp only [Act.put, List.setIfInBounds_toArray, List.set_cons_zero, List.set_cons_succ]
  refine wpAnyH_take (i := 3) (oi := ⟨some 7, _, _, _, _, _⟩) (v := .pointer (some ⟨p, 0, none⟩)) rfl (by kernel_rfl) (by kernel_rfl) (by kernel_rfl) (fun _ _ _ h => h) (Or.inl ⟨by rfl, fun w hSw => run_loadCellB _ _ rfl _ 0 rfl _ _ hSw.2.1 _ Tryz.underlying23 rfl _ (lC_g0 _ _ _)⟩) hH ?_
  try simp only [Act.put, List.setIfInBounds_toArray, List.set_cons_zero, List.set_cons_succ]
  refine wpAnyH_take (i := 4) (oi := ⟨some 8, _, _, _, _, _⟩) (v := .string ⟨x.toArray⟩) rfl (by kernel_rfl) (by kernel_rfl) (by kernel_rfl) (fun _ _ _ h => h) (Or.inl ⟨by rfl, fun w hSw => run_loadCellB _ _ rfl _ 0 rfl _ _ hSw.2.2.1 _ Tryz.underlying9 rfl _ (rfl)⟩) hH ?_
  try simp only [Act.put, List.setIfInBounds_toArray, List.set_cons_zero, List.set_cons_succ]
  refine wpAnyH_take (i := 5) (oi := ⟨some 9, _, _, _, _, _⟩) (v := .string ⟨s.toArray⟩) rfl (by kernel_rfl) (by kernel_rfl) (by kernel_rfl) (fun _ _ _ h => h) (Or.inl ⟨by rfl, fun w hSw => run_loadCellB _ _ rfl _ 0 rfl _ _ hSw.2.2.2 _ Tryz.underlying9 rfl _ (rfl)⟩) hH ?_
  try simp only [Act.put, List.setIfInBounds_toArray, List.set_cons_zero, List.set_cons_succ]
  refine wpAnyH_solo (i := 6) (o := ⟨some 10, _, _, _, _, _⟩) rfl (by kernel_rfl) (fun K hK => ?_)
  refine wpList_callR Tryz.func41 (by kernel_rfl) (by kernel_rfl) rfl _ _ rfl #[.pointer (some ⟨p, 0, none⟩), .string ⟨x.toArray⟩, .string ⟨s.toArray⟩] (args3 rfl rfl rfl) _ (HM) ?_
  rintro e w5 ⟨rfl, b5, hC5, hD5⟩
  have hK5 := hKd.disk hG2 hC5 hD5
  have hw5 : Wch w.drew w5 q p b rb b5 rb := Wch.chg hC5
  have hS5 := And.intro (hw5.blk hKd hH.1 (by decide) (by decide) (by decide) (.inl (by decide))) (And.intro (hKd.logBlk hH.2.1 hC5) (And.intro (hw5.blk hKd hH.2.2.1 (by decide) (by decide) (by decide) (.inr hfr)) (hw5.blk hKd hH.2.2.2 (by decide) (by decide) (by decide) (.inr hsr))))
  refine ⟨_, rfl, ?_⟩
  refine hK _ _ hS5 ?_
  clear hK K
  try simp only [Act.put, List.setIfInBounds_toArray, List.set_cons_zero, List.set_cons_succ]
  refine wpAnyH_solo (i := 7) (o := ⟨some 3, _, _, _, _, _⟩) rfl (by kernel_rfl) (fun K hK => ?_)
  refine wpList_pure rfl (.int .i64 (r.2 : Nat)) (by go_simp) ?_
  refine hK _ _ hS5 ?_
  clear hK K
  try simp only [Act.put, List.setIfInBounds_toArray, List.set_cons_zero, List.set_cons_succ]
  refine wpAnyH_done (by kernel_rfl) ?_ _
  try simp only [Act.put]
  try go_simp
  go_wp2_with fail
  go_ret
  exact ⟨rfl, b5, (Wch.below hdr).trans hw5, hK5⟩
set_option maxRecDepth 100000 in
set_option maxHeartbeats 2000000 in
theorem reset3_any (q p bl bs br : Nat) (b rb : Option Nat) (L : LG) (m : DN) (s : B) (l : List B) (ad : Option Addr) (cap : Nat) (w : World) (hK : WK w q p b rb L m) (hG : Gw w) (hg : L.g < 1000)
    (hT : TA w ad l) (hll : l.length ≤ 1000000)
    (hl : Blk w bl #[.pointer (some ⟨q, 0, none⟩)] 25) (hs : Blk w bs #[.string ⟨s.toArray⟩] 9) (hr : Blk w br #[.slice ad l.length cap] 30) (hsr : some bs ≠ rb) :
    Calls Tryz.prog 42 #[.pointer (some ⟨bl, 0, none⟩), .pointer (some ⟨bs, 0, none⟩), .pointer (some ⟨br, 0, none⟩)] w (LtP w q p b rb (becL L (L.g + 1) s l) m) := by
  obtain ⟨rv, hL, hTR, hD⟩ := hK.out
  have hdr := Below.drewS w
  have HB := become_any q p b rb L m (L.g + 1) s l ad cap w.drew (hK.below hdr) (hG.below hdr) (hT.below hdr) hll
  have hKd := hK.below hdr
  have hw1 : IntKind.i64.wrap ((L.g : Int) + 1) = ((L.g + 1 : Nat) : Int) := by rw [IntKind.wrap_i64]; omega
  generalize becL L (L.g + 1) s l = L2 at *
  go_enter Tryz.func42, Tryz.ntmps42
  go_wp2_with fail
  refine wp_region_held_drew (S := fun w' : World => Blk w' bl #[.pointer (some ⟨q, 0, none⟩)] 25 ∧ Blk w' bs #[.string ⟨s.toArray⟩] 9 ∧ Blk w' br #[.slice ad l.length cap] 30) (by kernel_rfl) (⟨hl.drew, hs.drew, hr.drew⟩) (fun hH => ?_)
  try go_frame
  refine wpAnyH_take (i := 0) (oi := ⟨some 4, _, _, _, _, _⟩) (v := .pointer (some ⟨q, 0, none⟩)) rfl (by kernel_rfl) (by kernel_rfl) (by kernel_rfl) (fun _ _ _ h => h) (Or.inl ⟨by rfl, fun w hSw => run_loadCellB _ _ rfl _ 0 rfl _ _ hSw.1 _ Tryz.underlying25 rfl _ (rfl)⟩) hH ?_
  try simp only [Act.put, List.setIfInBounds_toArray, List.set_cons_zero, List.set_cons_succ]
  refine wpAnyH_take (i := 1) (oi := ⟨some 5, _, _, _, _, _⟩) (v := .pointer (some ⟨q, 0, none⟩)) rfl (by kernel_rfl) (by kernel_rfl) (by kernel_rfl) (fun _ _ _ h => h) (Or.inl ⟨by rfl, fun w hSw => run_loadCellB _ _ rfl _ 0 rfl _ _ hSw.1 _ Tryz.underlying25 rfl _ (rfl)⟩) hH ?_
  try simp only [Act.put, List.setIfInBounds_toArray, List.set_cons_zero, List.set_cons_succ]
  refine wpAnyH_take (i := 2) (oi := ⟨some 6, _, _, _, _, _⟩) (v := .pointer (some ⟨q, 0, none⟩)) rfl (by kernel_rfl) (by kernel_rfl) (by kernel_rfl) (fun _ _ _ h => h) (Or.inl ⟨by rfl, fun w hSw => by go_simp⟩) hH ?_
  try simp only [Act.put, List.setIfInBounds_toArray, List.set_cons_zero, List.set_cons_succ]
  refine wpAnyH_take (i := 3) (oi := ⟨some 7, _, _, _, _, _⟩) (v := .pointer (some ⟨q, 2, none⟩)) rfl (by kernel_rfl) (by kernel_rfl) (by kernel_rfl) (fun _ _ _ h => h) (Or.inl ⟨by rfl, fun w hSw => by go_simp⟩) hH ?_
  try simp only [Act.put, List.setIfInBounds_toArray, List.set_cons_zero, List.set_cons_succ]
  refine wpAnyH_take (i := 6) (oi := ⟨some 10, _, _, _, _, _⟩) (v := .string ⟨s.toArray⟩) rfl (by kernel_rfl) (by kernel_rfl) (by kernel_rfl) (fun _ _ _ h => h) (Or.inl ⟨by rfl, fun w hSw => run_loadCellB _ _ rfl _ 0 rfl _ _ hSw.2.1 _ Tryz.underlying9 rfl _ (rfl)⟩) hH ?_
  try simp only [Act.put, List.setIfInBounds_toArray, List.set_cons_zero, List.set_cons_succ]
  refine wpAnyH_take (i := 7) (oi := ⟨some 11, _, _, _, _, _⟩) (v := .slice ad l.length cap) rfl (by kernel_rfl) (by kernel_rfl) (by kernel_rfl) (fun _ _ _ h => h) (Or.inl ⟨by rfl, fun w hSw => run_loadCellB _ _ rfl _ 0 rfl _ _ hSw.2.2 _ Tryz.underlying30 rfl _ (rfl)⟩) hH ?_
  try simp only [Act.put, List.setIfInBounds_toArray, List.set_cons_zero, List.set_cons_succ]
  refine wpAnyH_solo (i := 4) (o := ⟨some 8, _, _, _, _, _⟩) rfl (by kernel_rfl) (fun K hK => ?_)
  refine wpList_loadCell rfl _ _ rfl q 2 rfl _ _ hL.drew _ Tryz.underlying3 rfl _ (lC_g2 _ _ _) ?_
  refine hK _ _ hH ?_
  clear hK K
  try simp only [Act.put, List.setIfInBounds_toArray, List.set_cons_zero, List.set_cons_succ]
  refine wpAnyH_solo (i := 5) (o := ⟨some 9, _, _, _, _, _⟩) rfl (by kernel_rfl) (fun K hK => ?_)
  refine wpList_pure rfl (.int .i64 ((L.g + 1 : Nat) : Int)) (by go_simp) ?_
  refine hK _ _ hH ?_
  clear hK K
  try simp only [Act.put, List.setIfInBounds_toArray, List.set_cons_zero, List.set_cons_succ]
  refine wpAnyH_solo (i := 8) (o := ⟨some 12, _, _, _, _, _⟩) rfl (by kernel_rfl) (fun K hK => ?_)
  refine wpList_callR Tryz.func43 (by kernel_rfl) (by kernel_rfl) rfl _ _ rfl #[.pointer (some ⟨q, 0, none⟩), .int .i64 ((L.g + 1 : Nat) : Int), .string ⟨s.toArray⟩, .slice ad l.length cap] (args4 rfl rfl rfl rfl) _ (HB) ?_
  rintro e w2 ⟨rfl, rb2, hW2, hK2⟩
  have hS2 := And.intro (hW2.blk hKd hH.1 (by decide) (by decide) (by decide) (.inl (by decide))) (And.intro (hW2.blk hKd hH.2.1 (by decide) (by decide) (by decide) (.inr hsr)) (hW2.blk hKd hH.2.2 (by decide) (by decide) (by decide) (.inl (by decide))))
  refine ⟨_, rfl, ?_⟩
  refine hK _ _ hS2 ?_
  clear hK K
  try simp only [Act.put, List.setIfInBounds_toArray, List.set_cons_zero, List.set_cons_succ]
  refine wpAnyH_solo (i := 9) (o := ⟨some 3, _, _, _, _, _⟩) rfl (by kernel_rfl) (fun K hK => ?_)
  refine wpList_pure rfl (.int .i64 0) (by go_simp) ?_
  refine hK _ _ hS2 ?_
  clear hK K
  try simp only [Act.put, List.setIfInBounds_toArray, List.set_cons_zero, List.set_cons_succ]
  refine wpAnyH_done (by kernel_rfl) ?_ _
  try simp only [Act.put]
  try go_simp
  go_wp2_with fail
  go_ret
  exact ⟨rfl, rb2, (Wch.below (Below.drewS w)).trans hW2, hK2⟩
end Go.Proofs.YtaiiojbakmminaaGreatDoor
