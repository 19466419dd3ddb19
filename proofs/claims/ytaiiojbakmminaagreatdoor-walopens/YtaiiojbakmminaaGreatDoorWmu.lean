/- What the closures of mend do. A list of steps on a disk, done in turn; those of mend. The steps of mend, in turn. -/
import Derived.Test.YtaiiojbakmminaaGreatDoorWdx
namespace Go.Proofs.YtaiiojbakmminaaGreatDoor
open Go Go.RowKit
theorem lC_g6x (p : Nat) (L : LG) (rv : Value) : (lC p L rv)[6]? = some (.int .i64 (L.last : Nat)) := rfl
set_option maxRecDepth 100000 in
set_option maxHeartbeats 1000000 in
theorem mend1_any (q p bl bn n : Nat) (b rb : Option Nat) (L : LG) (m : DN) (w : World) (hK : WK w q p b rb L m) (hG : Gw w) (hm : Okn m) (hg : L.g < 100) (hk : n < 100) (ha : (atL (segN L.g n) m.l).isSome = true)
    (hl : Blk w bl #[.pointer (some ⟨q, 0, none⟩)] 25) (hn : Blk w bn #[.int .i64 (n : Nat)] 3) :
    Calls Tryz.prog 115 #[.pointer (some ⟨bl, 0, none⟩), .pointer (some ⟨bn, 0, none⟩)] w (StP w q p b rb L (remN m (segN L.g n))) := by
  obtain ⟨rv, hL, hT, hD⟩ := hK.out
  have hxo := (WN.seg L.g n hg hk).ok
  have hxl := (WN.seg L.g n hg hk).len
  have HR := fun w1 (hB : Below w.heap.size w w1) => removeN p b m (segN L.g n) w1 (hD.below hB) hm hxo (by omega) ha
  have HN := segName_any q p L rv n hg hk w.drew hL.drew
  have hKd := hK.below (Below.drewS w)
  have hG2 : 2 ≤ w.drew.heap.size := hG.two
  have hq2 := fun w2 b2 (hC : Chg w.drew w2 p b b2) => hKd.logBlk hL.drew hC
  generalize remN m (segN L.g n) = r at *
  generalize segN L.g n = x at *
  go_enter Tryz.func115, Tryz.ntmps115
  go_wp2_with fail
  refine wp_region_held_drew (S := fun w' : World => Blk w' bl #[.pointer (some ⟨q, 0, none⟩)] 25 ∧ Blk w' q (lC p L rv) 64 ∧ Blk w' bn #[.int .i64 (n : Nat)] 3) (by kernel_rfl) (⟨hl.drew, hL.drew, hn.drew⟩) (fun hH => ?_)
  try go_frame
  refine wpAnyH_take (i := 0) (oi := ⟨some 3, _, _, _, _, _⟩) (v := .pointer (some ⟨q, 0, none⟩)) rfl (by kernel_rfl) (by kernel_rfl) (by kernel_rfl) (fun _ _ _ h => h) (Or.inl ⟨by rfl, fun w hSw => run_loadCellB _ _ rfl _ 0 rfl _ _ hSw.1 _ Tryz.underlying25 rfl _ (rfl)⟩) hH ?_
  try simp only [Act.put, List.setIfInBounds_toArray, List.set_cons_zero, List.set_cons_succ]
  refine wpAnyH_take (i := 1) (oi := ⟨some 4, _, _, _, _, _⟩) (v := .pointer (some ⟨q, 0, none⟩)) rfl (by kernel_rfl) (by kernel_rfl) (by kernel_rfl) (fun _ _ _ h => h) (Or.inl ⟨by rfl, fun w hSw => by go_simp⟩) hH ?_
  try simp only [Act.put, List.setIfInBounds_toArray, List.set_cons_zero, List.set_cons_succ]
  refine wpAnyH_take (i := 2) (oi := ⟨some 5, _, _, _, _, _⟩) (v := .pointer (some ⟨q, 0, none⟩)) rfl (by kernel_rfl) (by kernel_rfl) (by kernel_rfl) (fun _ _ _ h => h) (Or.inl ⟨by rfl, fun w hSw => by go_simp⟩) hH ?_
  try simp only [Act.put, List.setIfInBounds_toArray, List.set_cons_zero, List.set_cons_succ]
  refine wpAnyH_take (i := 3) (oi := ⟨some 6, _, _, _, _, _⟩) (v := .pointer (some ⟨p, 0, none⟩)) rfl (by kernel_rfl) (by kernel_rfl) (by kernel_rfl) (fun _ _ _ h => h) (Or.inl ⟨by rfl, fun w hSw => run_loadCellB _ _ rfl _ 0 rfl _ _ hSw.2.1 _ Tryz.underlying23 rfl _ (lC_g0 _ _ _)⟩) hH ?_
  try simp only [Act.put, List.setIfInBounds_toArray, List.set_cons_zero, List.set_cons_succ]
  refine wpAnyH_take (i := 4) (oi := ⟨some 7, _, _, _, _, _⟩) (v := .pointer (some ⟨q, 0, none⟩)) rfl (by kernel_rfl) (by kernel_rfl) (by kernel_rfl) (fun _ _ _ h => h) (Or.inl ⟨by rfl, fun w hSw => run_loadCellB _ _ rfl _ 0 rfl _ _ hSw.1 _ Tryz.underlying25 rfl _ (rfl)⟩) hH ?_
  try simp only [Act.put, List.setIfInBounds_toArray, List.set_cons_zero, List.set_cons_succ]
  refine wpAnyH_take (i := 5) (oi := ⟨some 8, _, _, _, _, _⟩) (v := .int .i64 (n : Nat)) rfl (by kernel_rfl) (by kernel_rfl) (by kernel_rfl) (fun _ _ _ h => h) (Or.inl ⟨by rfl, fun w hSw => run_loadCellB _ _ rfl _ 0 rfl _ _ hSw.2.2 _ Tryz.underlying3 rfl _ (rfl)⟩) hH ?_
  try simp only [Act.put, List.setIfInBounds_toArray, List.set_cons_zero, List.set_cons_succ]
  refine wpAnyH_solo (i := 6) (o := ⟨some 9, _, _, _, _, _⟩) rfl (by kernel_rfl) (fun K hK => ?_)
  refine wpList_callR Tryz.func48 (by kernel_rfl) (by kernel_rfl) rfl _ _ rfl #[.pointer (some ⟨q, 0, none⟩), .int .i64 (n : Nat)] (args2 rfl rfl) _ (HN) ?_
  rintro e w' ⟨rfl, hw'⟩
  have hw2' := hw'.symm
  subst hw2'
  clear hw'
  refine ⟨_, rfl, ?_⟩
  refine hK _ _ hH ?_
  clear hK K
  try simp only [Act.put, List.setIfInBounds_toArray, List.set_cons_zero, List.set_cons_succ]
  refine wpAnyH_solo (i := 7) (o := ⟨some 10, _, _, _, _, _⟩) rfl (by kernel_rfl) (fun K hK => ?_)
  refine wpList_callR Tryz.func78 (by kernel_rfl) (by kernel_rfl) rfl _ _ rfl #[.pointer (some ⟨p, 0, none⟩), .string ⟨x.toArray⟩] (args2 rfl rfl) _ (HR w.drew (Below.refl _ _).drew) ?_
  rintro e w2 ⟨rfl, b2, hC2, hD2⟩
  have hK2 := hKd.disk hG2 hC2 hD2
  have hw2 : Wch w.drew w2 q p b rb b2 rb := Wch.chg hC2
  have hH2 := And.intro (hw2.blk hKd hH.1 (by decide) (by decide) (by decide) (.inl (by decide))) (And.intro (hq2 w2 b2 hC2) (hw2.blk hKd hH.2.2 (by decide) (by decide) (by decide) (.inl (by decide))))
  refine ⟨_, rfl, ?_⟩
  refine hK _ _ hH2 ?_
  clear hK K
  try simp only [Act.put, List.setIfInBounds_toArray, List.set_cons_zero, List.set_cons_succ]
  refine wpAnyH_solo (i := 8) (o := ⟨some 2, _, _, _, _, _⟩) rfl (by kernel_rfl) (fun K hK => ?_)
  refine wpList_pure rfl (.int .i64 (r.2 : Nat)) (by go_simp) ?_
  refine hK _ _ hH2 ?_
  clear hK K
  try simp only [Act.put, List.setIfInBounds_toArray, List.set_cons_zero, List.set_cons_succ]
  refine wpAnyH_done (by kernel_rfl) ?_ _
  try simp only [Act.put]
  try go_simp
  go_wp2_with fail
  go_ret
  exact ⟨rfl, b2, (Wch.below (Below.drewS w)).trans hw2, hK2⟩
set_option maxRecDepth 100000 in
set_option maxHeartbeats 2000000 in
theorem mend2_any (q p bl : Nat) (b rb : Option Nat) (L : LG) (m : DN) (w : World) (hK : WK w q p b rb L m) (hG : Gw w) (hm : Okn m) (hg : L.g < 100) (hk : L.segs < 100) (ha : (atL (segN L.g L.segs) m.l).isSome = true) (hc : L.last ≤ (kbyt (atL (segN L.g L.segs) m.l)).length)
    (hl : Blk w bl #[.pointer (some ⟨q, 0, none⟩)] 25) :
    Calls Tryz.prog 116 #[.pointer (some ⟨bl, 0, none⟩)] w (StP w q p b rb L (truN m (segN L.g L.segs) L.last)) := by
  obtain ⟨rv, hL, hT, hD⟩ := hK.out
  have hxo := (WN.seg L.g L.segs hg hk).ok
  have hxl := (WN.seg L.g L.segs hg hk).len
  have HR := fun w1 (hB : Below w.heap.size w w1) => truncN p b m (segN L.g L.segs) L.last w1 (hD.below hB) hm hxo (by omega) ha hc
  have HN := segName_any q p L rv L.segs hg hk w.drew hL.drew
  have hKd := hK.below (Below.drewS w)
  have hG2 : 2 ≤ w.drew.heap.size := hG.two
  have hq2 := fun w2 b2 (hC : Chg w.drew w2 p b b2) => hKd.logBlk hL.drew hC
  generalize truN m (segN L.g L.segs) L.last = r at *
  generalize segN L.g L.segs = x at *
  go_enter Tryz.func116, Tryz.ntmps116
  go_wp2_with fail
  refine wp_region_held_drew (S := fun w' : World => Blk w' bl #[.pointer (some ⟨q, 0, none⟩)] 25 ∧ Blk w' q (lC p L rv) 64) (by kernel_rfl) (⟨hl.drew, hL.drew⟩) (fun hH => ?_)
  try go_frame
  refine wpAnyH_take (i := 0) (oi := ⟨some 2, _, _, _, _, _⟩) (v := .pointer (some ⟨q, 0, none⟩)) rfl (by kernel_rfl) (by kernel_rfl) (by kernel_rfl) (fun _ _ _ h => h) (Or.inl ⟨by rfl, fun w hSw => run_loadCellB _ _ rfl _ 0 rfl _ _ hSw.1 _ Tryz.underlying25 rfl _ (rfl)⟩) hH ?_
  try simp only [Act.put, List.setIfInBounds_toArray, List.set_cons_zero, List.set_cons_succ]
  refine wpAnyH_take (i := 1) (oi := ⟨some 3, _, _, _, _, _⟩) (v := .pointer (some ⟨q, 0, none⟩)) rfl (by kernel_rfl) (by kernel_rfl) (by kernel_rfl) (fun _ _ _ h => h) (Or.inl ⟨by rfl, fun w hSw => by go_simp⟩) hH ?_
  try simp only [Act.put, List.setIfInBounds_toArray, List.set_cons_zero, List.set_cons_succ]
  refine wpAnyH_take (i := 2) (oi := ⟨some 4, _, _, _, _, _⟩) (v := .pointer (some ⟨q, 0, none⟩)) rfl (by kernel_rfl) (by kernel_rfl) (by kernel_rfl) (fun _ _ _ h => h) (Or.inl ⟨by rfl, fun w hSw => by go_simp⟩) hH ?_
  try simp only [Act.put, List.setIfInBounds_toArray, List.set_cons_zero, List.set_cons_succ]
  refine wpAnyH_take (i := 3) (oi := ⟨some 5, _, _, _, _, _⟩) (v := .pointer (some ⟨p, 0, none⟩)) rfl (by kernel_rfl) (by kernel_rfl) (by kernel_rfl) (fun _ _ _ h => h) (Or.inl ⟨by rfl, fun w hSw => run_loadCellB _ _ rfl _ 0 rfl _ _ hSw.2 _ Tryz.underlying23 rfl _ (lC_g0 _ _ _)⟩) hH ?_
  try simp only [Act.put, List.setIfInBounds_toArray, List.set_cons_zero, List.set_cons_succ]
  refine wpAnyH_take (i := 4) (oi := ⟨some 6, _, _, _, _, _⟩) (v := .pointer (some ⟨q, 0, none⟩)) rfl (by kernel_rfl) (by kernel_rfl) (by kernel_rfl) (fun _ _ _ h => h) (Or.inl ⟨by rfl, fun w hSw => run_loadCellB _ _ rfl _ 0 rfl _ _ hSw.1 _ Tryz.underlying25 rfl _ (rfl)⟩) hH ?_
  try simp only [Act.put, List.setIfInBounds_toArray, List.set_cons_zero, List.set_cons_succ]
  refine wpAnyH_take (i := 5) (oi := ⟨some 7, _, _, _, _, _⟩) (v := .pointer (some ⟨q, 0, none⟩)) rfl (by kernel_rfl) (by kernel_rfl) (by kernel_rfl) (fun _ _ _ h => h) (Or.inl ⟨by rfl, fun w hSw => run_loadCellB _ _ rfl _ 0 rfl _ _ hSw.1 _ Tryz.underlying25 rfl _ (rfl)⟩) hH ?_
  try simp only [Act.put, List.setIfInBounds_toArray, List.set_cons_zero, List.set_cons_succ]
  refine wpAnyH_take (i := 6) (oi := ⟨some 8, _, _, _, _, _⟩) (v := .pointer (some ⟨q, 0, none⟩)) rfl (by kernel_rfl) (by kernel_rfl) (by kernel_rfl) (fun _ _ _ h => h) (Or.inl ⟨by rfl, fun w hSw => by go_simp⟩) hH ?_
  try simp only [Act.put, List.setIfInBounds_toArray, List.set_cons_zero, List.set_cons_succ]
  refine wpAnyH_take (i := 7) (oi := ⟨some 9, _, _, _, _, _⟩) (v := .pointer (some ⟨q, 5, none⟩)) rfl (by kernel_rfl) (by kernel_rfl) (by kernel_rfl) (fun _ _ _ h => h) (Or.inl ⟨by rfl, fun w hSw => by go_simp⟩) hH ?_
  try simp only [Act.put, List.setIfInBounds_toArray, List.set_cons_zero, List.set_cons_succ]
  refine wpAnyH_take (i := 8) (oi := ⟨some 10, _, _, _, _, _⟩) (v := .int .i64 (L.segs : Nat)) rfl (by kernel_rfl) (by kernel_rfl) (by kernel_rfl) (fun _ _ _ h => h) (Or.inl ⟨by rfl, fun w hSw => run_loadCellB _ _ rfl _ 5 rfl _ _ hSw.2 _ Tryz.underlying3 rfl _ (lC_g5 _ _ _)⟩) hH ?_
  try simp only [Act.put, List.setIfInBounds_toArray, List.set_cons_zero, List.set_cons_succ]
  refine wpAnyH_take (i := 10) (oi := ⟨some 12, _, _, _, _, _⟩) (v := .pointer (some ⟨q, 0, none⟩)) rfl (by kernel_rfl) (by kernel_rfl) (by kernel_rfl) (fun _ _ _ h => h) (Or.inl ⟨by rfl, fun w hSw => run_loadCellB _ _ rfl _ 0 rfl _ _ hSw.1 _ Tryz.underlying25 rfl _ (rfl)⟩) hH ?_
  try simp only [Act.put, List.setIfInBounds_toArray, List.set_cons_zero, List.set_cons_succ]
  refine wpAnyH_take (i := 11) (oi := ⟨some 13, _, _, _, _, _⟩) (v := .pointer (some ⟨q, 0, none⟩)) rfl (by kernel_rfl) (by kernel_rfl) (by kernel_rfl) (fun _ _ _ h => h) (Or.inl ⟨by rfl, fun w hSw => by go_simp⟩) hH ?_
  try simp only [Act.put, List.setIfInBounds_toArray, List.set_cons_zero, List.set_cons_succ]
  refine wpAnyH_take (i := 12) (oi := ⟨some 14, _, _, _, _, _⟩) (v := .pointer (some ⟨q, 6, none⟩)) rfl (by kernel_rfl) (by kernel_rfl) (by kernel_rfl) (fun _ _ _ h => h) (Or.inl ⟨by rfl, fun w hSw => by go_simp⟩) hH ?_
  try simp only [Act.put, List.setIfInBounds_toArray, List.set_cons_zero, List.set_cons_succ]
  refine wpAnyH_take (i := 13) (oi := ⟨some 15, _, _, _, _, _⟩) (v := .int .i64 (L.last : Nat)) rfl (by kernel_rfl) (by kernel_rfl) (by kernel_rfl) (fun _ _ _ h => h) (Or.inl ⟨by rfl, fun w hSw => run_loadCellB _ _ rfl _ 6 rfl _ _ hSw.2 _ Tryz.underlying3 rfl _ (lC_g6x _ _ _)⟩) hH ?_
  try simp only [Act.put, List.setIfInBounds_toArray, List.set_cons_zero, List.set_cons_succ]
  refine wpAnyH_solo (i := 9) (o := ⟨some 11, _, _, _, _, _⟩) rfl (by kernel_rfl) (fun K hK => ?_)
  refine wpList_callR Tryz.func48 (by kernel_rfl) (by kernel_rfl) rfl _ _ rfl #[.pointer (some ⟨q, 0, none⟩), .int .i64 (L.segs : Nat)] (args2 rfl rfl) _ (HN) ?_
  rintro e w' ⟨rfl, hw'⟩
  have hw2' := hw'.symm
  subst hw2'
  clear hw'
  refine ⟨_, rfl, ?_⟩
  refine hK _ _ hH ?_
  clear hK K
  try simp only [Act.put, List.setIfInBounds_toArray, List.set_cons_zero, List.set_cons_succ]
  refine wpAnyH_solo (i := 14) (o := ⟨some 16, _, _, _, _, _⟩) rfl (by kernel_rfl) (fun K hK => ?_)
  refine wpList_callR Tryz.func117 (by kernel_rfl) (by kernel_rfl) rfl _ _ rfl #[.pointer (some ⟨p, 0, none⟩), .string ⟨x.toArray⟩, .int .i64 (L.last : Nat)] (args3 rfl rfl rfl) _ (HR w.drew (Below.refl _ _).drew) ?_
  rintro e w2 ⟨rfl, b2, hC2, hD2⟩
  have hK2 := hKd.disk hG2 hC2 hD2
  have hw2 : Wch w.drew w2 q p b rb b2 rb := Wch.chg hC2
  have hH2 := And.intro (hw2.blk hKd hH.1 (by decide) (by decide) (by decide) (.inl (by decide))) (hq2 w2 b2 hC2)
  refine ⟨_, rfl, ?_⟩
  refine hK _ _ hH2 ?_
  clear hK K
  try simp only [Act.put, List.setIfInBounds_toArray, List.set_cons_zero, List.set_cons_succ]
  refine wpAnyH_solo (i := 15) (o := ⟨some 1, _, _, _, _, _⟩) rfl (by kernel_rfl) (fun K hK => ?_)
  refine wpList_pure rfl (.int .i64 (r.2 : Nat)) (by go_simp) ?_
  refine hK _ _ hH2 ?_
  clear hK K
  try simp only [Act.put, List.setIfInBounds_toArray, List.set_cons_zero, List.set_cons_succ]
  refine wpAnyH_done (by kernel_rfl) ?_ _
  try simp only [Act.put]
  try go_simp
  go_wp2_with fail
  go_ret
  exact ⟨rfl, b2, (Wch.below (Below.drewS w)).trans hw2, hK2⟩
end Go.Proofs.YtaiiojbakmminaaGreatDoor
namespace Go.Proofs.YtaiiojbakmminaaGreatDoor
open Go Go.RowKit
/-- Steps on a disk, up to the first one that fails. -/
def runL : DN → List (DN → DN × Nat) → DN × Nat
  | m, [] => (m, 0)
  | m, f :: r => if (f m).2 = 0 then runL (f m).1 r else f m
theorem runL_app : ∀ (m : DN) (l r : List (DN → DN × Nat)), runL m (l ++ r) = if (runL m l).2 = 0 then runL (runL m l).1 r else runL m l
  | m, [], r => by simp [runL]
  | m, f :: l, r => by
    rw [List.cons_append, runL, runL]
    by_cases h : (f m).2 = 0
    · rw [if_pos h, if_pos h, runL_app]
    · rw [if_neg h, if_neg h, if_neg h]
theorem runL_one (m : DN) (f : DN → DN × Nat) : runL m [f] = f m := by
  rw [runL]
  by_cases h : (f m).2 = 0
  · rw [if_pos h, runL, ← h]
  · rw [if_neg h]
theorem turn_any (q p lo n cap : Nat) (b rb : Option Nat) (L : LG) (m : DN) (fs : List (DN → DN × Nat)) (vs : List Value) (a : Option Addr) (I : Nat → DN → Prop) (w : World) (hK : WK w q p b rb L m) (hG : Gw w) (hF : FNL w lo (.slice a n cap) vs) (hn : n = fs.length) (hv : vs.length = fs.length) (hn2 : n ≤ 1000000)
    (h0 : I 0 m) (hI : ∀ i m' f, fs[i]? = some f → I i m' → (f m').2 = 0 → I (i + 1) (f m').1)
    (hS : ∀ i f v, fs[i]? = some f → vs[i]? = some v → ∀ m' w' b', I i m' → Wch w w' q p b rb b' rb → WK w' q p b' rb L m' → Gw w' → ∃ g args, Stp Tryz.prog v g args ∧ Calls Tryz.prog g args w' (StP w' q p b' rb L (f m'))) :
    Calls Tryz.prog 37 #[.slice a n cap] w (StP w q p b rb L (runL m fs)) := by
  refine (inTurn_rule a n cap (fun i => (vs[i]?).getD .nilFunc)
    (fun i w' => ∃ b' m', Wch w w' q p b rb b' rb ∧ runL m (fs.take i) = (m', 0) ∧ I i m' ∧ WK w' q p b' rb L m')
    (fun c w' => c = (runL m fs).2 ∧ ∃ b', Wch w w' q p b rb b' rb ∧ WK w' q p b' rb L (runL m fs).1) w hn2 ?_ ?_ ?_ ?_).mono ?_
  · rintro i w' ⟨b', m', hW, _⟩ hi
    obtain ⟨v, hvi⟩ : ∃ v, vs[i]? = some v := ⟨_, List.getElem?_eq_getElem (by omega)⟩
    obtain ⟨g, h1, _, _, h2⟩ := hF.at i v hvi
    obtain ⟨cur, fr, h3⟩ : ∃ cur fr, w.heap[g]? = some (.cells cur TF fr) := by
      rcases hF.2 with ⟨h5, _⟩ | ⟨g', cap', h5, h6, h7⟩
      · have : vs = [] := by simpa using h5
        rw [this] at hvi; cases hvi
      · rw [h1] at h6
        simp only [Value.slice.injEq, Option.some.injEq, Addr.mk.injEq] at h6
        obtain ⟨⟨rfl, _⟩, _⟩ := h6
        obtain ⟨cur, h8, _⟩ := h7.out
        exact ⟨cur, _, h8⟩
    refine ⟨g, 0, h1, ?_⟩
    have h4 := hW.raw hK h3 (by decide) (by decide) (by decide) (.inl (by decide))
    rw [hvi, Nat.zero_add]
    simpa [World.cell?, h4, h3] using h2
  · rintro i w' ⟨b', m', hW, hr, hi', hK'⟩ hi
    obtain ⟨v, hvi⟩ : ∃ v, vs[i]? = some v := ⟨_, List.getElem?_eq_getElem (by omega)⟩
    obtain ⟨f, hfi⟩ : ∃ f, fs[i]? = some f := ⟨_, List.getElem?_eq_getElem (by omega)⟩
    obtain ⟨g, args, hs, hc⟩ := hS i f v hfi hvi m' w' b' hi' hW hK' (hW.gw hK hG)
    have e1 : fs.take (i + 1) = fs.take i ++ [f] := by
      obtain ⟨hi2, rfl⟩ := List.getElem?_eq_some_iff.1 hfi
      exact List.take_succ_eq_append_getElem hi2
    have e2 : runL m (fs.take (i + 1)) = f m' := by rw [e1, runL_app, hr, if_pos rfl, runL_one]
    refine ⟨g, args, by rw [hvi]; exact hs, hc.mono ?_⟩
    rintro e w2 ⟨rfl, b2, hW2, hK2⟩
    refine ⟨_, rfl, fun hc => ⟨b2, (f m').1, hW.trans hW2, by rw [e2, ← hc], hI i m' f hfi hi' hc, hK2⟩, fun hc => ?_⟩
    have e3 : runL m fs = f m' := by
      rw [← List.take_append_drop (i + 1) fs, runL_app, e2, if_neg hc]
    rw [e3]
    exact ⟨rfl, b2, hW.trans hW2, hK2⟩
  · rintro w' ⟨b', m', hW, hr, _, hK'⟩
    rw [hn, List.take_length] at hr
    rw [hr]
    exact ⟨rfl, b', hW, hK'⟩
  · exact ⟨b, m, Wch.refl _ _ _ _ _, rfl, h0, hK⟩
  · rintro e w' ⟨c, rfl, rfl, h⟩
    exact ⟨rfl, h⟩
/-- What mend does of the segments that go, the last one first: each goes, and a Sync. -/
def mdF (g : Nat) : List Nat → List (DN → DN × Nat)
  | [] => []
  | n :: r => (fun m => remN m (segN g n)) :: synN :: mdF g r
theorem mdF_app (g : Nat) : ∀ (l r : List Nat), mdF g (l ++ r) = mdF g l ++ mdF g r
  | [], r => rfl
  | n :: l, r => by rw [List.cons_append, mdF, mdF, mdF_app]; rfl
/-- All steps of mend. -/
def menF (L : LG) (ks : List Nat) : List (DN → DN × Nat) := mdF L.g ks ++ [fun m => truN m (segN L.g L.segs) L.last, synN]
def menN (L : LG) (m : DN) (ks : List Nat) : DN × Nat := runL m (menF L ks)
def md1 (bl bn : Nat) : Value := .func (.func 115) #[] #[.pointer (some ⟨bl, 0, none⟩), .pointer (some ⟨bn, 0, none⟩)]
def md2 (bl : Nat) : Value := .func (.func 116) #[] #[.pointer (some ⟨bl, 0, none⟩)]
theorem md1_stp (bl bn : Nat) : Stp Tryz.prog (md1 bl bn) 115 #[.pointer (some ⟨bl, 0, none⟩), .pointer (some ⟨bn, 0, none⟩)] := ⟨fn1_of Tryz.func115 (by kernel_rfl) (by kernel_rfl), #[], _, rfl, by simp⟩
theorem md2_stp (bl : Nat) : Stp Tryz.prog (md2 bl) 116 #[.pointer (some ⟨bl, 0, none⟩)] := ⟨fn1_of Tryz.func116 (by kernel_rfl) (by kernel_rfl), #[], _, rfl, by simp⟩
def mdV (bl p : Nat) : List Nat → List Value
  | [] => []
  | bn :: r => md1 bl bn :: syF p :: mdV bl p r
theorem mdV_app (bl p : Nat) : ∀ (l r : List Nat), mdV bl p (l ++ r) = mdV bl p l ++ mdV bl p r
  | [], r => rfl
  | n :: l, r => by rw [List.cons_append, mdV, mdV, mdV_app]; rfl
theorem mdV_len (bl p : Nat) : ∀ l : List Nat, (mdV bl p l).length = 2 * l.length
  | [] => rfl
  | n :: l => by rw [mdV, List.length_cons, List.length_cons, mdV_len, List.length_cons]; omega
theorem mdF_len (g : Nat) : ∀ l : List Nat, (mdF g l).length = 2 * l.length
  | [] => rfl
  | n :: l => by rw [mdF, List.length_cons, List.length_cons, mdF_len, List.length_cons]; omega
/-- Which step stands where. -/
theorem mdF_at (g bl p : Nat) : ∀ (ks bns : List Nat) (i : Nat) (f : DN → DN × Nat) (v : Value), bns.length = ks.length → (mdF g ks)[i]? = some f → (mdV bl p bns)[i]? = some v →
    (∃ j n bn, i = 2 * j ∧ ks[j]? = some n ∧ bns[j]? = some bn ∧ f = (fun m => remN m (segN g n)) ∧ v = md1 bl bn) ∨ (∃ j n, i = 2 * j + 1 ∧ ks[j]? = some n ∧ f = synN ∧ v = syF p)
  | [], _, i, f, v, _, h, _ => by simp [mdF] at h
  | n :: ks, [], i, f, v, hl, _, _ => by simp at hl
  | n :: ks, bn :: bns, 0, f, v, _, h, h2 => by
    simp [mdF] at h
    simp [mdV] at h2
    exact .inl ⟨0, n, bn, rfl, rfl, rfl, h.symm, h2.symm⟩
  | n :: ks, bn :: bns, 1, f, v, _, h, h2 => by
    simp [mdF] at h
    simp [mdV] at h2
    exact .inr ⟨0, n, rfl, rfl, h.symm, h2.symm⟩
  | n :: ks, bn :: bns, i + 2, f, v, hl, h, h2 => by
    simp only [mdF, List.getElem?_cons_succ] at h
    simp only [mdV, List.getElem?_cons_succ] at h2
    rcases mdF_at g bl p ks bns i f v (by simpa using hl) h h2 with ⟨j, n', bn', h3, h4, h5, h6, h7⟩ | ⟨j, n', h3, h4, h5, h6⟩
    · exact .inl ⟨j + 1, n', bn', by omega, by simpa using h4, by simpa using h5, h6, h7⟩
    · exact .inr ⟨j + 1, n', by omega, by simpa using h4, h5, h6⟩
end Go.Proofs.YtaiiojbakmminaaGreatDoor
namespace Go.Proofs.YtaiiojbakmminaaGreatDoor
open Go Go.RowKit
theorem syn_at {m : DN} (hm : Okn m) (h : (synN m).2 = 0) : (synN m).1.ch = m.ch ∧ (synN m).1.l.length ≤ m.l.length ∧ usedL (synN m).1.l = usedL m.l ∧ ∀ x, atL x (synN m).1.l = atL x m.l := by
  unfold synN at *
  by_cases hd : m.dead = true
  · rw [if_pos hd] at h; cases h
  · rw [if_neg hd]
    refine ⟨rfl, settle_len m.l, ?_, fun x => ?_⟩
    · show usedL (settleL m.l) = _
      rw [used_now, settle_now, ← used_now]
    show atL x (settleL m.l) = _
    rw [at_now x _ (settle_ok hm.l).ris, settle_now, at_now x _ hm.l.ris]
theorem tru_ok {m : DN} {x : B} {k : Nat} (h : (truN m x k).2 = 0) : hitN m = none ∧ truN m x k = ({ m with ch := m.ch + 1, l := lay x (some ((kbyt (atL x m.l)).take k)) 5 m.l }, 0) := by
  unfold truN at *
  by_cases hd : m.dead = true
  · rw [if_pos hd] at h; cases h
  · rw [if_neg hd] at h ⊢
    exact chg_ok h
/-- What is known ahead of the step i of mend. -/
structure MdI (L : LG) (m : DN) (ks : List Nat) (t : B) (i : Nat) (m' : DN) : Prop where
  ok : Okn m'
  ch : m'.ch ≤ m.ch + i
  len : m'.l.length ≤ m.l.length + i
  at_ : ∀ k n, ks[k]? = some n → i ≤ 2 * k → atL (segN L.g n) m'.l = atL (segN L.g n) m.l
  seg : i ≤ 2 * ks.length → atL (segN L.g L.segs) m'.l = some t
  used : i ≤ 2 * ks.length → usedL m'.l ≤ usedL m.l
theorem mend_turn (q p bl lo n cap : Nat) (b rb : Option Nat) (L : LG) (m : DN) (ks bns : List Nat) (t : B) (a : Option Addr) (w : World) (hK : WK w q p b rb L m) (hG : Gw w) (hm : Okn m) (hg : L.g < 100) (hk0 : L.segs < 100) (hnd : ks.Pairwise (· ≠ ·))
    (hks : ∀ n ∈ ks, n ≠ L.segs ∧ n < 100 ∧ (atL (segN L.g n) m.l).isSome = true) (ht : atL (segN L.g L.segs) m.l = some t) (hlast : L.last ≤ t.length) (hus : usedL m.l ≤ 10000000000) (hch : m.ch + 2 * ks.length + 2 ≤ 990000) (hln : m.l.length + 2 * ks.length + 2 ≤ 990000)
    (hbl : Blk w bl #[.pointer (some ⟨q, 0, none⟩)] 25) (hBl : bns.length = ks.length) (hB : ∀ (j n bn : Nat), ks[j]? = some n → bns[j]? = some bn → Blk w bn #[.int .i64 (n : Nat)] 3)
    (hF : FNL w lo (.slice a n cap) (mdV bl p bns ++ [md2 bl, syF p])) (hn : n = 2 * ks.length + 2) :
    Calls Tryz.prog 37 #[.slice a n cap] w (StP w q p b rb L (menN L m ks)) := by
  have hfl : (menF L ks).length = 2 * ks.length + 2 := by unfold menF; rw [List.length_append, mdF_len]; rfl
  have hvl : (mdV bl p bns ++ [md2 bl, syF p]).length = 2 * ks.length + 2 := by rw [List.length_append, mdV_len, hBl]; rfl
  have hcase : ∀ i f, (menF L ks)[i]? = some f → (i < 2 * ks.length ∧ (mdF L.g ks)[i]? = some f) ∨ (i = 2 * ks.length ∧ f = fun m => truN m (segN L.g L.segs) L.last) ∨ (i = 2 * ks.length + 1 ∧ f = synN) := fun i f h => by
    unfold menF at h
    by_cases h1 : i < 2 * ks.length
    · rw [List.getElem?_append_left (by rw [mdF_len]; exact h1)] at h
      exact .inl ⟨h1, h⟩
    · rw [List.getElem?_append_right (by rw [mdF_len]; omega), mdF_len] at h
      have h2 := (List.getElem?_eq_some_iff.1 h).1
      simp at h2
      obtain h3 | h3 : i - 2 * ks.length = 0 ∨ i - 2 * ks.length = 1 := by omega
      · rw [h3] at h
        simp at h
        exact .inr (.inl ⟨by omega, h.symm⟩)
      · rw [h3] at h
        simp at h
        exact .inr (.inr ⟨by omega, h.symm⟩)
  have hcv : ∀ i v, (mdV bl p bns ++ [md2 bl, syF p])[i]? = some v → (i < 2 * ks.length → (mdV bl p bns)[i]? = some v) ∧ (i = 2 * ks.length → v = md2 bl) ∧ (i = 2 * ks.length + 1 → v = syF p) := fun i v h => by
    refine ⟨fun h1 => ?_, fun h1 => ?_, fun h1 => ?_⟩
    · rw [List.getElem?_append_left (by rw [mdV_len, hBl]; exact h1)] at h
      exact h
    · rw [List.getElem?_append_right (by rw [mdV_len, hBl]; omega), mdV_len, hBl, h1, Nat.sub_self] at h
      simpa using h.symm
    · rw [List.getElem?_append_right (by rw [mdV_len, hBl]; omega), mdV_len, hBl, h1, show 2 * ks.length + 1 - 2 * ks.length = 1 by omega] at h
      simpa using h.symm
  have hnb : ∀ j k n n', ks[j]? = some n → ks[k]? = some n' → j < k → n ≠ n' := fun j k n n' h1 h2 h3 => by
    obtain ⟨h4, rfl⟩ := List.getElem?_eq_some_iff.1 h1
    obtain ⟨h5, rfl⟩ := List.getElem?_eq_some_iff.1 h2
    exact List.pairwise_iff_getElem.1 hnd j k h4 h5 h3
  refine turn_any q p lo n cap b rb L m (menF L ks) _ a (MdI L m ks t) w hK hG hF (by rw [hfl]; exact hn) (by rw [hvl, hfl]) (by omega) ⟨hm, by omega, by omega, fun _ _ _ _ => rfl, fun _ => ht, fun _ => Nat.le_refl _⟩ ?_ ?_
  · intro i m' f hf hI h0
    rcases hcase i f hf with ⟨h1, h2⟩ | ⟨h1, rfl⟩ | ⟨h1, rfl⟩
    · obtain ⟨v, hv⟩ : ∃ v, (mdV bl p bns)[i]? = some v := ⟨_, List.getElem?_eq_getElem (by rw [mdV_len, hBl]; exact h1)⟩
      rcases mdF_at L.g bl p ks bns i f v hBl h2 hv with ⟨j, k, bn, rfl, h4, _, rfl, _⟩ | ⟨j, k, rfl, h4, rfl, _⟩
      · obtain ⟨k1, k2, k3⟩ := hks k (List.mem_of_getElem? h4)
        obtain ⟨r1, r2, r3⟩ := rem_ok h0
        have hso := (WN.seg L.g k hg k2).ok
        have hu := hI.ok.used
        have hc := hI.ch
        have hl := hI.len
        have hjl := (List.getElem?_eq_some_iff.1 h4).1
        simp only [r3]
        refine ⟨okn_chg hI.ok r2 hso (by omega) (by omega) (by simp [kbyt]; omega), by show m'.ch + 1 ≤ _; omega, ?_, fun k' n' h5 h6 => ?_, fun h6 => ?_, fun h6 => ?_⟩
        · have := lay_len (segN L.g k) none 4 m'.l hI.ok.l.ris
          show (lay (segN L.g k) none 4 m'.l).length ≤ _
          omega
        · show atL _ (lay (segN L.g k) none 4 m'.l) = _
          have hk'2 := (hks n' (List.mem_of_getElem? h5)).2.1
          rw [at_lay hI.ok.l hso, if_neg (fun e => hnb j k' k n' h4 h5 (by omega) (seg_inj hg hg hk'2 k2 e).2.symm)]
          exact hI.at_ k' n' h5 (by omega)
        · show atL _ (lay (segN L.g k) none 4 m'.l) = _
          rw [at_lay hI.ok.l hso, if_neg (fun e => k1 (seg_inj hg hg hk0 k2 e).2.symm)]
          exact hI.seg (by omega)
        · show usedL (lay (segN L.g k) none 4 m'.l) ≤ _
          have h7 := lay_used (segN L.g k) none 4 m'.l hI.ok.l.ris
          have h8 := hI.used (by omega)
          have h9 : (kbyt none).length = 0 := rfl
          omega
      · obtain ⟨s1, s2, s4, s3⟩ := syn_at hI.ok h0
        have hjl := (List.getElem?_eq_some_iff.1 h4).1
        refine ⟨okn_syn hI.ok, by have := hI.ch; omega, by have := hI.len; omega, fun k' n' h5 h6 => ?_, fun h6 => ?_, fun h6 => ?_⟩
        · rw [s3]; exact hI.at_ k' n' h5 (by omega)
        · rw [s3]; exact hI.seg (by omega)
        · rw [s4]; exact hI.used (by omega)
    · obtain ⟨r2, r3⟩ := tru_ok h0
      have hso := (WN.seg L.g L.segs hg hk0).ok
      have hu := hI.ok.used
      have hc := hI.ch
      have hl := hI.len
      have hat := hI.seg (by omega)
      have hgu : (kbyt (atL (segN L.g L.segs) m'.l)).length ≤ usedL m'.l := by rw [at_now _ m'.l hI.ok.l.ris, used_now]; exact used_get
      have hmu := hm.used
      simp only [r3]
      refine ⟨okn_chg hI.ok r2 hso (by omega) (by omega) ?_, by show m'.ch + 1 ≤ _; omega, ?_, fun k' n' h5 h6 => ?_, (fun h6 => by omega), (fun h6 => by omega)⟩
      · have h8 := hI.used (by omega)
        have h9 : (kbyt (some ((kbyt (atL (segN L.g L.segs) m'.l)).take L.last))).length ≤ (kbyt (atL (segN L.g L.segs) m'.l)).length := by
          show ((kbyt (atL (segN L.g L.segs) m'.l)).take L.last).length ≤ _
          rw [List.length_take]
          omega
        omega
      · have := lay_len (segN L.g L.segs) (some ((kbyt (atL (segN L.g L.segs) m'.l)).take L.last)) 5 m'.l hI.ok.l.ris
        show (lay _ _ 5 m'.l).length ≤ _
        omega
      · have := (List.getElem?_eq_some_iff.1 h5).1
        omega
    · obtain ⟨s1, s2, _, _⟩ := syn_at hI.ok h0
      refine ⟨okn_syn hI.ok, by have := hI.ch; omega, by have := hI.len; omega, fun k' n' h5 h6 => ?_, (fun h6 => by omega), (fun h6 => by omega)⟩
      have := (List.getElem?_eq_some_iff.1 h5).1
      omega
  · intro i f v hf hv m' w' b' hI hW hK' hG'
    have hbl' := hW.blk hK hbl (by decide) (by decide) (by decide) (.inl (by decide))
    rcases hcase i f hf with ⟨h1, h2⟩ | ⟨h1, rfl⟩ | ⟨h1, rfl⟩
    · rcases mdF_at L.g bl p ks bns i f v hBl h2 ((hcv i v hv).1 h1) with ⟨j, k, bn, rfl, h4, h5, rfl, rfl⟩ | ⟨j, k, rfl, h4, rfl, rfl⟩
      · obtain ⟨k1, k2, k3⟩ := hks k (List.mem_of_getElem? h4)
        have hbn := hW.blk hK (hB j k bn h4 h5) (by decide) (by decide) (by decide) (.inl (by decide))
        exact ⟨_, _, md1_stp bl bn, mend1_any q p bl bn k b' rb L m' w' hK' hG' hI.ok hg k2 (by rw [hI.at_ j k h4 (by omega)]; exact k3) hbl' hbn⟩
      · exact ⟨_, _, sy_stp p, syncS q p b' rb L m' w' hK' hG' hI.ok⟩
    · obtain rfl := (hcv i v hv).2.1 h1
      have hat := hI.seg (by omega)
      exact ⟨_, _, md2_stp bl, mend2_any q p bl b' rb L m' w' hK' hG' hI.ok hg hk0 (by rw [hat]; rfl) (by rw [hat]; exact hlast) hbl'⟩
    · obtain rfl := (hcv i v hv).2.2 h1
      exact ⟨_, _, sy_stp p, syncS q p b' rb L m' w' hK' hG' hI.ok⟩
end Go.Proofs.YtaiiojbakmminaaGreatDoor
