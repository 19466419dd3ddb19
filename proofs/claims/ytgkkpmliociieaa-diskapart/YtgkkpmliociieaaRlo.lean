/- What the plain Loose does. -/
import Derived.Test.YtgkkpmliociieaaRcg
namespace Go.Proofs.Ytgkkpmliociieaa
open Go Go.RowKit
def allS (now acc : List RF) (f : RF) : List RF := if (findR now f.name).isSome = true then acc else wiR f acc
def allR (now sure : List RF) : List RF := sure.foldl (allS now) now
def lsB (now sure : List RF) (n : B) : Bool := ((findR now n).isSome != (findR sure n).isSome) || (((findR now n).getD rf0).s != ((findR sure n).getD rf0).s)
def lsR (now sure l : List RF) : List B := (l.filter fun f => lsB now sure f.name).map (·.name)
theorem insR_len (f : RF) : ∀ l : List RF, (insR f l).length = l.length + 1
  | [] => rfl
  | y :: r => by
    rw [insR]
    split
    · simp
    · simp [insR_len f r]
theorem wiR_len (f : RF) (l : List RF) : (wiR f l).length ≤ l.length + 1 := by
  unfold wiR
  rw [insR_len]
  have := wo_len f.name l
  omega
theorem allS_len (now : List RF) : ∀ (s acc : List RF), (s.foldl (allS now) acc).length ≤ acc.length + s.length
  | [], acc => by simp
  | f :: s, acc => by
    have h1 := allS_len now s (allS now acc f)
    have h2 : (allS now acc f).length ≤ acc.length + 1 := by unfold allS; split; omega; exact wiR_len f acc
    rw [List.foldl_cons, List.length_cons]
    omega
theorem allS_take (now s acc : List RF) (i : Nat) (f : RF) (h : s[i]? = some f) : (s.take (i + 1)).foldl (allS now) acc = allS now ((s.take i).foldl (allS now) acc) f := by
  obtain ⟨hi, rfl⟩ := List.getElem?_eq_some_iff.1 h
  rw [List.take_succ_eq_append_getElem hi, List.foldl_append]
  rfl
theorem lsR_take (now sure l : List RF) (i : Nat) (f : RF) (h : l[i]? = some f) : lsR now sure (l.take (i + 1)) = lsR now sure (l.take i) ++ (if lsB now sure f.name = true then [f.name] else []) := by
  obtain ⟨hi, rfl⟩ := List.getElem?_eq_some_iff.1 h
  unfold lsR
  rw [List.take_succ_eq_append_getElem hi, List.filter_append, List.map_append]
  congr 1
  cases hq : lsB now sure (l[i]).name <;> simp [hq]
theorem lsR_len (now sure l : List RF) : (lsR now sure l).length ≤ l.length := by
  unfold lsR
  rw [List.length_map]
  exact List.length_filter_le ..
theorem bne_of {a b : B} {q : Bool} (h : (a == b) = q) : (a != b) = !q := by rw [bne, h]
theorem RL.belowLo {w w' : World} {lo : Nat} {sl : Value} {l : List RF} (h : RL w 0 sl l) (hb : Below lo w w') (hlt : ∀ r, slBlk sl = some r → r < lo) : RL w' 0 sl l := by
  refine ⟨h.1, ?_⟩
  rcases h.2 with k | ⟨g, cap, k4, rfl, k5⟩
  · exact .inl k
  · obtain ⟨cur, k6, k7⟩ := k5.out
    exact .inr ⟨g, cap, k4, rfl, ⟨cur, (hb.block g (hlt g rfl)).trans k6, k7⟩⟩
theorem XL.lo {w : World} {lo lo' : Nat} {sl : Value} {l : List B} (h : XL w lo sl l) (hl : lo' ≤ lo) : XL w lo' sl l := ⟨h.1, by
  rcases h.2 with h | ⟨g, cap, h1, h2⟩
  · exact .inl h
  · exact .inr ⟨g, cap, Nat.le_trans hl h1, h2⟩⟩
theorem wpAnyH_duo {P : Program} {ops : Array Oper} {Q : Exit → Act → World → Prop} {md : Region.Mode} {S : World → Prop} {i k : Nat} {o p : Oper} {fuel : Nat} {listed : Array Bool} {a : Act} {w : World} (ho : ops[i]? = some o) (hp : ops[k]? = some p) (hr : Region.ready md ops listed = [i, k])
    (h : ∀ K : Act → World → Prop, (∀ a w, S w → wpAnyH P md ops Q S fuel (listed.setIfInBounds i true) a w → K a w) → wpList P ops (QK Q K) [o] a w)
    (h2 : ∀ K : Act → World → Prop, (∀ a w, S w → wpAnyH P md ops Q S fuel (listed.setIfInBounds k true) a w → K a w) → wpList P ops (QK Q K) [p] a w) : wpAnyH P md ops Q S (fuel + 1) listed a w :=
  ⟨(fun h0 => absurd (hr ▸ h0) (List.cons_ne_nil _ _)), fun j hj => by
    rw [hr] at hj
    rcases List.mem_cons.1 hj with rfl | hj
    · exact wpOp_list ho (h _ (fun a w hS hW => ⟨hS, hW⟩))
    · obtain rfl := List.mem_singleton.1 hj
      exact wpOp_list hp (h2 _ (fun a w hS hW => ⟨hS, hW⟩))⟩
set_option maxRecDepth 100000 in
set_option maxHeartbeats 8000000 in
theorem rloose_any (m : RD) (x y v : Value) (w : World) (h : RK w v m x y) (hl : m.now.length + m.sure.length ≤ 99999) :
    Calls Try.prog 13 #[v] w fun e w' => ∃ sl, e = .returned sl ∧ Below w.heap.size w w' ∧ XL w' w.heap.size sl (lsR m.now m.sure (allR m.now m.sure)) := by
  obtain ⟨rfl, hn, hs⟩ := h
  obtain ⟨aX, cX, rfl⟩ := hn.sl
  obtain ⟨aY, cY, rfl⟩ := hs.sl
  obtain ⟨U, hU⟩ : ∃ U, Hid (U = lsR m.now m.sure (allR m.now m.sure)) := ⟨_, rfl⟩
  rw [← hU.out]
  obtain ⟨AL, hAL⟩ : ∃ AL, Hid (AL = allR m.now m.sure) := ⟨_, rfl⟩
  go_enter Try.func13, Try.ntmps13
  go_wp2_with (with_reducible refine at_list ?_; first
    | (refine wpList_boxRow (op := ⟨some 1, _, _, _, _, _⟩) rfl _ _ rfl _ rfl ?_; intro w1 hw1 hs1 h3; clear hs1)
    | (refine wpList_loadCell (op := ⟨some 14, _, _, _, _, _⟩) rfl _ _ rfl w.heap.size 0 rfl _ _ h3 _ Try.underlying24 rfl _ (rdC_g0 _ _ _) ?_))
  have hn1 := hn.below hw1
  have hs1 := hs.below hw1
  obtain ⟨N, hN⟩ : ∃ N, Hid (N = w.heap.size) := ⟨_, rfl⟩
  rw [← hN.out] at h3 ⊢
  have hN1 : N < w1.heap.size := h3.lt
  go_loopw [3, 4, 5, 6] (fun v3 v4 _ _ wl => ∃ i : Nat, i ≤ m.sure.length ∧ v4 = .int .i64 i ∧ RL wl 0 v3 ((m.sure.take i).foldl (allS m.now) m.now) ∧ Below w1.heap.size w1 wl) (fun _ v4 _ _ _ => m.sure.length - (intOf v4).toNat)
  case atStart => exact ⟨0, by omega, rfl, hn1, Below.refl _ _⟩
  case round =>
    obtain ⟨i, hil, rfl, hX, hB⟩ := hrel
    have hsz := hB.size
    have h3d := h3.below hB hN1
    by_cases hlt : i < m.sure.length
    · have hz2 : (i : Int) < (m.sure.length : Int) := by omega
      obtain ⟨f, hf⟩ : ∃ f, m.sure[i]? = some f := ⟨_, List.getElem?_eq_getElem hlt⟩
      have hss := hs1.below hB
      have hnn := hn1.below hB
      obtain ⟨g, rfl, hg2, glt, _⟩ := hss.at i f hf
      have e3 : Hid (List.foldl (allS m.now) m.now (m.sure.take (i + 1)) = if (findR m.now f.name).isSome = true then List.foldl (allS m.now) m.now (m.sure.take i) else wiR f (List.foldl (allS m.now) m.now (m.sure.take i))) := allS_take m.now m.sure m.now i f hf
      have e4 := allS_len m.now (m.sure.take i) m.now
      rw [List.length_take] at e4
      have HF0 := fun w2 (hB2 : Below wr.heap.size wr w2) => find_any m.now f.name _ 0 w2 (hnn.below hB2) (by omega)
      have HWi := fun w2 (sl2 : Value) (lo2 : Nat) (hX2 : RL w2 lo2 sl2 ((m.sure.take i).foldl (allS m.now) m.now)) => with_any _ f sl2 lo2 w2 hX2 (by omega)
      generalize (findR m.now f.name).isSome = bA at *
      generalize (findR m.now f.name).getD rf0 = FA at *
      have HF := HF0
      have HBwr : ∀ {w2 : World}, Below wr.heap.size wr w2 → Below wr.heap.size wr w2 := fun h => h
      have Nltr : N < wr.heap.size := Nat.lt_of_lt_of_le hN1 hsz
      have Nlt0 : N < w1.heap.size := hN1
      have hls2 : w1.heap.size ≤ wr.heap.size := hsz
      have hls3 : w1.heap.size ≤ w1.heap.size := Nat.le_refl _
      have c30 := (h3d.cell 1).trans (rdC_g1 m _ _)
      have hib : m.sure.length ≤ 99999 := by omega
      clear hf HF0 e4 hl
      generalize List.foldl (allS m.now) m.now (m.sure.take i) = u at *
      go_wp2_with fail
      clear c30
      refine wp_region_held_drew (S := fun w' : World => Blk w' N (rdC m (.slice aX m.now.length cX) (.slice (some ⟨g, 0, none⟩) m.sure.length cY)) 27 ∧ w'.rangeAt g (i * 3) (rC f).toList) (by kernel_rfl) ⟨h3d.drew, rangeAt_drew hg2⟩ (fun hH => ?_)
      try go_frame
      refine wpAnyH_take (i := 0) (oi := ⟨some 23, _, _, _, _, _⟩) (v := .pointer (some ⟨N, 0, none⟩)) rfl (by kernel_rfl) (by kernel_rfl) (by kernel_rfl) (fun _ _ _ h => h) (Or.inl ⟨by rfl, fun w hSw => by go_simp⟩) hH ?_
      try simp only [Act.put, List.setIfInBounds_toArray, List.set_cons_zero, List.set_cons_succ]
      refine wpAnyH_take (i := 1) (oi := ⟨some 24, _, _, _, _, _⟩) (v := (.slice aX m.now.length cX)) rfl (by kernel_rfl) (by kernel_rfl) (by kernel_rfl) (fun _ _ _ h => h) (Or.inl ⟨by rfl, fun w hSw => run_loadCellB _ _ rfl _ 0 rfl _ _ hSw.1 _ Try.underlying24 rfl _ (rdC_g0 _ _ _)⟩) hH ?_
      try simp only [Act.put, List.setIfInBounds_toArray, List.set_cons_zero, List.set_cons_succ]
      refine wpAnyH_take (i := 2) (oi := ⟨some 25, _, _, _, _, _⟩) (v := .pointer (some ⟨N, 1, none⟩)) rfl (by kernel_rfl) (by kernel_rfl) (by kernel_rfl) (fun _ _ _ h => h) (Or.inl ⟨by rfl, fun w hSw => by go_simp⟩) hH ?_
      try simp only [Act.put, List.setIfInBounds_toArray, List.set_cons_zero, List.set_cons_succ]
      refine wpAnyH_take (i := 3) (oi := ⟨some 26, _, _, _, _, _⟩) (v := (.slice (some ⟨g, 0, none⟩) m.sure.length cY)) rfl (by kernel_rfl) (by kernel_rfl) (by kernel_rfl) (fun _ _ _ h => h) (Or.inl ⟨by rfl, fun w hSw => run_loadCellB _ _ rfl _ 1 rfl _ _ hSw.1 _ Try.underlying24 rfl _ (rdC_g1 _ _ _)⟩) hH ?_
      try simp only [Act.put, List.setIfInBounds_toArray, List.set_cons_zero, List.set_cons_succ]
      refine wpAnyH_take (i := 4) (oi := ⟨some 27, _, _, _, _, _⟩) (v := .int .i64 i) rfl (by kernel_rfl) (by kernel_rfl) (by kernel_rfl) (fun _ _ _ h => h) (Or.inl ⟨by rfl, fun w hSw => by go_simp⟩) hH ?_
      try simp only [Act.put, List.setIfInBounds_toArray, List.set_cons_zero, List.set_cons_succ]
      refine wpAnyH_take (i := 5) (oi := ⟨some 28, _, _, _, _, _⟩) (v := .pointer (some ⟨g, i * 3, none⟩)) rfl (by kernel_rfl) (by kernel_rfl) (by kernel_rfl) (fun _ _ _ h => h) (Or.inl ⟨by rfl, fun w hSw => by go_simp⟩) hH ?_
      try simp only [Act.put, List.setIfInBounds_toArray, List.set_cons_zero, List.set_cons_succ]
      refine wpAnyH_take (i := 6) (oi := ⟨some 29, _, _, _, _, _⟩) (v := .pointer (some ⟨g, i * 3, none⟩)) rfl (by kernel_rfl) (by kernel_rfl) (by kernel_rfl) (fun _ _ _ h => h) (Or.inl ⟨by rfl, fun w hSw => by go_simp⟩) hH ?_
      try simp only [Act.put, List.setIfInBounds_toArray, List.set_cons_zero, List.set_cons_succ]
      refine wpAnyH_take (i := 7) (oi := ⟨some 30, _, _, _, _, _⟩) (v := .string ⟨f.name.toArray⟩) rfl (by kernel_rfl) (by kernel_rfl) (by kernel_rfl) (fun _ _ _ h => h) (Or.inl ⟨by rfl, fun w hSw => run_loadC _ _ rfl _ _ rfl _ Try.underlying9 rfl _ (rL_nm hSw.2)⟩) hH ?_
      try simp only [Act.put, List.setIfInBounds_toArray, List.set_cons_zero, List.set_cons_succ]
      refine wpAnyH_duo (i := 8) (k := 12) (o := ⟨some 31, _, _, _, _, _⟩) (p := ⟨some 5, _, _, _, _, _⟩) rfl rfl (by kernel_rfl) (fun K hK => ?_) (fun K hK => ?_)
      · refine wpList_callR Try.func17 (by kernel_rfl) (by kernel_rfl) rfl _ _ rfl #[(.slice aX m.now.length cX), .string ⟨f.name.toArray⟩] (args2 rfl rfl) _ (HF _ (HBwr (Below.refl _ wr).drew)) ?_
        rintro e wra ⟨rfl, hwra⟩
        refine ⟨_, rfl, ?_⟩
        have hBra : Below wr.heap.size wr wra := (Below.refl _ wr).drew.trans hwra
        have hH1 := SyS hH (glt) hwra
        refine hK _ _ hH1 ?_
        clear hK K
        try simp only [Act.put, List.setIfInBounds_toArray, List.set_cons_zero, List.set_cons_succ]
        refine wpAnyH_take (i := 9) (oi := ⟨some 22, _, _, _, _, _⟩) (v := .tuple #[.agg (rC FA), .bool bA]) rfl (by kernel_rfl) (by kernel_rfl) (by kernel_rfl) (fun _ _ _ h => h) (Or.inl ⟨by rfl, fun w hSw => by go_simp⟩) hH1 ?_
        try simp only [Act.put, List.setIfInBounds_toArray, List.set_cons_zero, List.set_cons_succ]
        refine wpAnyH_take (i := 10) (oi := ⟨some 32, _, _, _, _, _⟩) (v := .agg (rC FA)) rfl (by kernel_rfl) (by kernel_rfl) (by kernel_rfl) (fun _ _ _ h => h) (Or.inl ⟨by rfl, fun w hSw => run_extract _ _ rfl _ rfl _ rfl⟩) hH1 ?_
        try simp only [Act.put, List.setIfInBounds_toArray, List.set_cons_zero, List.set_cons_succ]
        refine wpAnyH_take (i := 11) (oi := ⟨some 33, _, _, _, _, _⟩) (v := .bool bA) rfl (by kernel_rfl) (by kernel_rfl) (by kernel_rfl) (fun _ _ _ h => h) (Or.inl ⟨by rfl, fun w hSw => run_extract _ _ rfl _ rfl _ rfl⟩) hH1 ?_
        try simp only [Act.put, List.setIfInBounds_toArray, List.set_cons_zero, List.set_cons_succ]
        refine wpAnyH_solo (i := 12) (o := ⟨some 5, _, _, _, _, _⟩) rfl (by kernel_rfl) (fun K hK => ?_)
        refine wpList_allocRow rfl _ rfl _ zRf.1 ?_
        intro wrb hwrb hsrb hr
        clear hsrb
        have hBrb := hBra.trans (hwrb.mono hBra.size)
        have hH2 := SyS hH1 (Nat.lt_of_lt_of_le glt hBra.size) hwrb
        refine hK _ _ hH2 ?_
        clear hK K
        try simp only [Act.put, List.setIfInBounds_toArray, List.set_cons_zero, List.set_cons_succ]
        refine wpAnyH_solo (i := 13) (o := ⟨none, _, _, _, _, _⟩) rfl (by kernel_rfl) (fun K hK => ?_)
        refine wpList_storeRow rfl _ _ _ rfl wra.heap.size (rC FA) rfl rfl _ _ hr rfl (iRf _) (rC_one _) ?_
        intro wrc hgr hsrc hrs
        clear hsrc
        have hBr := hBrb.trans (below_of_grown hgr hBra.size hBrb.size)
        have hH3 := SyG hH2 (below_of_grown hgr hBra.size hBrb.size) Nltr glt
        refine hK _ _ hH3 ?_
        clear hK K
        try simp only [Act.put]
        refine wpAnyH_solo (i := 14) (o := ⟨some 6, _, _, _, _, _⟩) rfl (by kernel_rfl) (fun K hK => ?_)
        refine wpList_pure rfl (.bool bA) (run_assignV _ rfl _ rfl) ?_
        refine hK _ _ hH3 ?_
        clear hK K
        try simp only [Act.put, List.setIfInBounds_toArray, List.set_cons_zero, List.set_cons_succ]
        refine wpAnyH_done (by kernel_rfl) ?_ _
        go_simp
        obtain ⟨Gr, hGr⟩ : ∃ G, Hid (G = wra.heap.size) := ⟨_, rfl⟩
        rw [← hGr.out] at hrs ⊢
        clear hH hH1 hH2 hH3 hGr hgr hr hwra hwrb hBra hBrb
        have hB6 := hB.trans (hBr.mono hls2)
        replace hX := hX.below hBr
        cases bA with
        | true =>
          rw [if_pos rfl] at e3
          clear HWi
          go_wp2_with fail
          go_roundw
          case rel => exact ⟨i + 1, by omega, by go_num, by rw [e3.out]; exact hX, hB6⟩
          case measure => simp [intOf]; omega
        | false =>
          rw [if_neg (by simp)] at e3
          have h36 := h3.below hB6 Nlt0
          have c30 := (h36.cell 1).trans (rdC_g1 m _ _)
          have hg6 := rangeAt_below hg2 hBr glt
          go_wp2_with (first | (go_at_call 37; refine (HWi _ u3 _ hX).mono ?_; rintro e w7 ⟨sl7, rfl, hw7, hX7⟩; have hB7 := hB6.trans (hw7.mono (Nat.le_trans hls3 hB6.size))) | (with_reducible refine at_list ?_; refine wpList_loadAt (op := ⟨some 41, _, _, _, _, _⟩) rfl _ _ rfl g (i * 3) rfl (rC f) hg6 _ Try.underlying49 rfl (iRf f) ?_))
          go_roundw
          case rel => exact ⟨i + 1, by omega, by go_num, by rw [e3.out]; exact hX7.lo (Nat.zero_le _), hB7⟩
          case measure => simp [intOf]; omega
      · refine wpList_allocRow rfl _ rfl _ zRf.1 ?_
        intro wra hwra hsra hr
        clear hsra
        have hBra : Below wr.heap.size wr wra := (Below.refl _ wr).drew.trans hwra
        have hH1 := SyS hH (glt) hwra
        refine hK _ _ hH1 ?_
        clear hK K
        try simp only [Act.put, List.setIfInBounds_toArray, List.set_cons_zero, List.set_cons_succ]
        refine wpAnyH_solo (i := 8) (o := ⟨some 31, _, _, _, _, _⟩) rfl (by kernel_rfl) (fun K hK => ?_)
        refine wpList_callR Try.func17 (by kernel_rfl) (by kernel_rfl) rfl _ _ rfl #[(.slice aX m.now.length cX), .string ⟨f.name.toArray⟩] (args2 rfl rfl) _ (HF _ (HBwr hBra)) ?_
        rintro e wrb ⟨rfl, hwrb⟩
        refine ⟨_, rfl, ?_⟩
        have hBrb := hBra.trans (hwrb.mono hBra.size)
        have hH2 := SyS hH1 (Nat.lt_of_lt_of_le glt hBra.size) hwrb
        replace hr := hr.belowSize hwrb
        refine hK _ _ hH2 ?_
        clear hK K
        try simp only [Act.put, List.setIfInBounds_toArray, List.set_cons_zero, List.set_cons_succ]
        refine wpAnyH_take (i := 9) (oi := ⟨some 22, _, _, _, _, _⟩) (v := .tuple #[.agg (rC FA), .bool bA]) rfl (by kernel_rfl) (by kernel_rfl) (by kernel_rfl) (fun _ _ _ h => h) (Or.inl ⟨by rfl, fun w hSw => by go_simp⟩) hH2 ?_
        try simp only [Act.put, List.setIfInBounds_toArray, List.set_cons_zero, List.set_cons_succ]
        refine wpAnyH_take (i := 10) (oi := ⟨some 32, _, _, _, _, _⟩) (v := .agg (rC FA)) rfl (by kernel_rfl) (by kernel_rfl) (by kernel_rfl) (fun _ _ _ h => h) (Or.inl ⟨by rfl, fun w hSw => run_extract _ _ rfl _ rfl _ rfl⟩) hH2 ?_
        try simp only [Act.put, List.setIfInBounds_toArray, List.set_cons_zero, List.set_cons_succ]
        refine wpAnyH_take (i := 11) (oi := ⟨some 33, _, _, _, _, _⟩) (v := .bool bA) rfl (by kernel_rfl) (by kernel_rfl) (by kernel_rfl) (fun _ _ _ h => h) (Or.inl ⟨by rfl, fun w hSw => run_extract _ _ rfl _ rfl _ rfl⟩) hH2 ?_
        try simp only [Act.put, List.setIfInBounds_toArray, List.set_cons_zero, List.set_cons_succ]
        refine wpAnyH_solo (i := 13) (o := ⟨none, _, _, _, _, _⟩) rfl (by kernel_rfl) (fun K hK => ?_)
        refine wpList_storeRow rfl _ _ _ rfl wr.heap.size (rC FA) rfl rfl _ _ hr rfl (iRf _) (rC_one _) ?_
        intro wrc hgr hsrc hrs
        clear hsrc
        have hBr := hBrb.trans (below_of_grown hgr (Nat.le_refl _) hBrb.size)
        have hH3 := SyG hH2 (below_of_grown hgr (Nat.le_refl _) hBrb.size) Nltr glt
        refine hK _ _ hH3 ?_
        clear hK K
        try simp only [Act.put]
        refine wpAnyH_solo (i := 14) (o := ⟨some 6, _, _, _, _, _⟩) rfl (by kernel_rfl) (fun K hK => ?_)
        refine wpList_pure rfl (.bool bA) (run_assignV _ rfl _ rfl) ?_
        refine hK _ _ hH3 ?_
        clear hK K
        try simp only [Act.put, List.setIfInBounds_toArray, List.set_cons_zero, List.set_cons_succ]
        refine wpAnyH_done (by kernel_rfl) ?_ _
        go_simp
        obtain ⟨Gr, hGr⟩ : ∃ G, Hid (G = wr.heap.size) := ⟨_, rfl⟩
        try rw [← hGr.out] at hrs ⊢
        clear hH hH1 hH2 hH3 hGr hgr hr hwra hwrb hBra hBrb
        have hB6 := hB.trans (hBr.mono hls2)
        replace hX := hX.below hBr
        cases bA with
        | true =>
          rw [if_pos rfl] at e3
          clear HWi
          go_wp2_with fail
          go_roundw
          case rel => exact ⟨i + 1, by omega, by go_num, by rw [e3.out]; exact hX, hB6⟩
          case measure => simp [intOf]; omega
        | false =>
          rw [if_neg (by simp)] at e3
          have h36 := h3.below hB6 Nlt0
          have c30 := (h36.cell 1).trans (rdC_g1 m _ _)
          have hg6 := rangeAt_below hg2 hBr glt
          go_wp2_with (first | (go_at_call 37; refine (HWi _ u3 _ hX).mono ?_; rintro e w7 ⟨sl7, rfl, hw7, hX7⟩; have hB7 := hB6.trans (hw7.mono (Nat.le_trans hls3 hB6.size))) | (with_reducible refine at_list ?_; refine wpList_loadAt (op := ⟨some 41, _, _, _, _, _⟩) rfl _ _ rfl g (i * 3) rfl (rC f) hg6 _ Try.underlying49 rfl (iRf f) ?_))
          go_roundw
          case rel => exact ⟨i + 1, by omega, by go_num, by rw [e3.out]; exact hX7.lo (Nat.zero_le _), hB7⟩
          case measure => simp [intOf]; omega
    · have hz2 : ¬ (i : Int) < (m.sure.length : Int) := by omega
      have e1 : List.foldl (allS m.now) m.now (m.sure.take i) = AL := by rw [List.take_of_length_le (by omega), hAL.out]; rfl
      have e2 := allS_len m.now (m.sure.take i) m.now
      rw [List.length_take] at e2
      rw [e1] at hX e2
      have hAlen : AL.length ≤ 99999 := by omega
      have hUA : Hid (U = lsR m.now m.sure AL) := by rw [hAL.out]; exact hU
      have hss := hs1.below hB
      have hnn := hn1.below hB
      have c30 := (h3d.cell 1).trans (rdC_g1 m _ _)
      have hn9 : m.now.length ≤ 99999 := by omega
      have hs9 : m.sure.length ≤ 99999 := by omega
      obtain ⟨a3, cap3, rfl⟩ := hX.sl
      clear e1 e2 hl hil hAL hU
      go_wp2_with (with_reducible refine at_list ?_; refine wpList_tsl0 (op := ⟨some 43, _, _, _, _, _⟩) rfl rfl ?_; intro w5 hw5 hT5)
      have hNw : N < wr.heap.size := Nat.lt_of_lt_of_le hN1 hsz
      have hxlo := fun r e => (GL.lt hnn r e).2
      have hylo := fun r e => (GL.lt hss r e).2
      have halo := fun r e => (GL.lt hX r e).2
      have h35 := h3d.belowSize hw5
      have hn5 := hnn.below hw5
      have hs5 := hss.below hw5
      have hX5 := hX.below hw5
      have hB5 := (hw1.trans (hB.mono hw1.size)).trans (hw5.mono (Nat.le_trans hw1.size hsz))
      have hNle : N ≤ wr.heap.size := Nat.le_of_lt hNw
      have hw5s := hw5.size
      obtain ⟨lo, hlo⟩ : ∃ lo, Hid (lo = wr.heap.size) := ⟨_, rfl⟩
      rw [← hlo.out] at hT5 hxlo hylo halo hNw hNle hw5s ⊢
      have hfin : Hid (∀ w' sl', Below lo w5 w' → XL w' lo sl' U → ∃ sl, Ending.returned sl' = .returned sl ∧ Below w.heap.size w w' ∧ XL w' w.heap.size sl U) := fun w' sl' k1 k2 => ⟨sl', rfl, hB5.trans (k1.mono (by rw [← hN.out]; exact hNle)), XL.lo k2 (by rw [← hN.out]; exact hNle)⟩
      clear hw5 hnn hss hX h3d h3 hn1 hs1 hn hs hw1 hB hsz hN1 hB5 hlo hlt hz2 c30
      go_loopw [7, 8, 9, 10, 11, 12] (fun v7 v8 _ _ _ _ wl => ∃ i : Nat, i ≤ AL.length ∧ v8 = .int .i64 i ∧ XL wl lo v7 (lsR m.now m.sure (AL.take i)) ∧ Below lo w5 wl) (fun _ v8 _ _ _ _ _ => AL.length - (intOf v8).toNat)
      case atStart => exact ⟨0, by omega, rfl, hT5, Below.refl _ _⟩
      case round =>
        obtain ⟨i, hil, rfl, hT, hB⟩ := hrel
        have hsz := hB.size
        have h3d := h35.below hB hNw
        by_cases hlt : i < AL.length
        · have hz2 : (i : Int) < (AL.length : Int) := by omega
          obtain ⟨f, hf⟩ : ∃ f, AL[i]? = some f := ⟨_, List.getElem?_eq_getElem hlt⟩
          obtain ⟨g, rfl, hg, hgl, _⟩ := hX5.at i f hf
          have hglo : g < lo := halo g rfl
          have hg2 := rangeAt_below hg hB hglo
          have hnn := hn5.belowLo hB hxlo
          have hss := hs5.belowLo hB hylo
          have e3 : Hid (lsR m.now m.sure (AL.take (i + 1)) = lsR m.now m.sure (AL.take i) ++ (if (((findR m.now f.name).isSome != (findR m.sure f.name).isSome) || (((findR m.now f.name).getD rf0).s != ((findR m.sure f.name).getD rf0).s)) = true then [f.name] else [])) := lsR_take m.now m.sure AL i f hf
          have e4 : (lsR m.now m.sure (AL.take i)).length ≤ 1000000 := Nat.le_trans (lsR_len _ _ _) (by rw [List.length_take]; omega)
          have HF := fun w2 (hB2 : Below wr.heap.size wr w2) => find_any m.now f.name _ 0 w2 (hnn.below hB2) (by omega)
          have HG := fun w2 (hB2 : Below wr.heap.size wr w2) => find_any m.sure f.name _ 0 w2 (hss.below hB2) (by omega)
          have glt : g < wr.heap.size := Nat.lt_of_lt_of_le hglo (Nat.le_trans hw5s hsz)
          have Nltr : N < wr.heap.size := Nat.lt_of_lt_of_le hNw (Nat.le_trans hw5s hsz)
          have hlor : lo ≤ wr.heap.size := Nat.le_trans hw5s hsz
          have HBwr : ∀ {w2 : World}, Below wr.heap.size wr w2 → Below wr.heap.size wr w2 := fun h => h
          clear hf hg hgl hnn hss
          generalize (findR m.now f.name).isSome = bA at *
          generalize (findR m.now f.name).getD rf0 = FA at *
          generalize (findR m.sure f.name).isSome = bB at *
          generalize (findR m.sure f.name).getD rf0 = FB at *
          generalize lsR m.now m.sure (AL.take i) = u at *
          go_wp2_with fail
          refine wp_region_held_drew (S := fun w' : World => Blk w' N (rdC m (.slice aX m.now.length cX) (.slice aY m.sure.length cY)) 27 ∧ w'.rangeAt g (i * 3) (rC f).toList) (by kernel_rfl) ⟨h3d.drew, rangeAt_drew hg2⟩ (fun hH => ?_)
          try go_frame
          refine wpAnyH_take (i := 0) (oi := ⟨some 51, _, _, _, _, _⟩) (v := .pointer (some ⟨N, 0, none⟩)) rfl (by kernel_rfl) (by kernel_rfl) (by kernel_rfl) (fun _ _ _ h => h) (Or.inl ⟨by rfl, fun w hSw => by go_simp⟩) hH ?_
          try simp only [Act.put, List.setIfInBounds_toArray, List.set_cons_zero, List.set_cons_succ]
          refine wpAnyH_take (i := 1) (oi := ⟨some 52, _, _, _, _, _⟩) (v := (.slice aX m.now.length cX)) rfl (by kernel_rfl) (by kernel_rfl) (by kernel_rfl) (fun _ _ _ h => h) (Or.inl ⟨by rfl, fun w hSw => run_loadCellB _ _ rfl _ 0 rfl _ _ hSw.1 _ Try.underlying24 rfl _ (rdC_g0 _ _ _)⟩) hH ?_
          try simp only [Act.put, List.setIfInBounds_toArray, List.set_cons_zero, List.set_cons_succ]
          refine wpAnyH_take (i := 2) (oi := ⟨some 53, _, _, _, _, _⟩) (v := (.slice (some ⟨g, 0, none⟩) AL.length cap3)) rfl (by kernel_rfl) (by kernel_rfl) (by kernel_rfl) (fun _ _ _ h => h) (Or.inl ⟨by rfl, fun w hSw => by go_simp⟩) hH ?_
          try simp only [Act.put, List.setIfInBounds_toArray, List.set_cons_zero, List.set_cons_succ]
          refine wpAnyH_take (i := 3) (oi := ⟨some 54, _, _, _, _, _⟩) (v := .int .i64 i) rfl (by kernel_rfl) (by kernel_rfl) (by kernel_rfl) (fun _ _ _ h => h) (Or.inl ⟨by rfl, fun w hSw => by go_simp⟩) hH ?_
          try simp only [Act.put, List.setIfInBounds_toArray, List.set_cons_zero, List.set_cons_succ]
          refine wpAnyH_take (i := 4) (oi := ⟨some 55, _, _, _, _, _⟩) (v := .pointer (some ⟨g, i * 3, none⟩)) rfl (by kernel_rfl) (by kernel_rfl) (by kernel_rfl) (fun _ _ _ h => h) (Or.inl ⟨by rfl, fun w hSw => by go_simp⟩) hH ?_
          try simp only [Act.put, List.setIfInBounds_toArray, List.set_cons_zero, List.set_cons_succ]
          refine wpAnyH_take (i := 5) (oi := ⟨some 56, _, _, _, _, _⟩) (v := .pointer (some ⟨g, i * 3, none⟩)) rfl (by kernel_rfl) (by kernel_rfl) (by kernel_rfl) (fun _ _ _ h => h) (Or.inl ⟨by rfl, fun w hSw => by go_simp⟩) hH ?_
          try simp only [Act.put, List.setIfInBounds_toArray, List.set_cons_zero, List.set_cons_succ]
          refine wpAnyH_take (i := 6) (oi := ⟨some 57, _, _, _, _, _⟩) (v := .string ⟨f.name.toArray⟩) rfl (by kernel_rfl) (by kernel_rfl) (by kernel_rfl) (fun _ _ _ h => h) (Or.inl ⟨by rfl, fun w hSw => run_loadC _ _ rfl _ _ rfl _ Try.underlying9 rfl _ (rL_nm hSw.2)⟩) hH ?_
          try simp only [Act.put, List.setIfInBounds_toArray, List.set_cons_zero, List.set_cons_succ]
          refine wpAnyH_duo (i := 7) (k := 11) (o := ⟨some 58, _, _, _, _, _⟩) (p := ⟨some 9, _, _, _, _, _⟩) rfl rfl (by kernel_rfl) (fun K hK => ?_) (fun K hK => ?_)
          · refine wpList_callR Try.func17 (by kernel_rfl) (by kernel_rfl) rfl _ _ rfl #[(.slice aX m.now.length cX), .string ⟨f.name.toArray⟩] (args2 rfl rfl) _ (HF _ (HBwr (Below.refl _ wr).drew)) ?_
            rintro e wra ⟨rfl, hwra⟩
            refine ⟨_, rfl, ?_⟩
            have hBra : Below wr.heap.size wr wra := (Below.refl _ wr).drew.trans hwra
            have hH1 := SyS hH (glt) hwra
            refine hK _ _ hH1 ?_
            clear hK K
            try simp only [Act.put, List.setIfInBounds_toArray, List.set_cons_zero, List.set_cons_succ]
            refine wpAnyH_take (i := 8) (oi := ⟨some 50, _, _, _, _, _⟩) (v := .tuple #[.agg (rC FA), .bool bA]) rfl (by kernel_rfl) (by kernel_rfl) (by kernel_rfl) (fun _ _ _ h => h) (Or.inl ⟨by rfl, fun w hSw => by go_simp⟩) hH1 ?_
            try simp only [Act.put, List.setIfInBounds_toArray, List.set_cons_zero, List.set_cons_succ]
            refine wpAnyH_take (i := 9) (oi := ⟨some 59, _, _, _, _, _⟩) (v := .agg (rC FA)) rfl (by kernel_rfl) (by kernel_rfl) (by kernel_rfl) (fun _ _ _ h => h) (Or.inl ⟨by rfl, fun w hSw => run_extract _ _ rfl _ rfl _ rfl⟩) hH1 ?_
            try simp only [Act.put, List.setIfInBounds_toArray, List.set_cons_zero, List.set_cons_succ]
            refine wpAnyH_take (i := 10) (oi := ⟨some 60, _, _, _, _, _⟩) (v := .bool bA) rfl (by kernel_rfl) (by kernel_rfl) (by kernel_rfl) (fun _ _ _ h => h) (Or.inl ⟨by rfl, fun w hSw => run_extract _ _ rfl _ rfl _ rfl⟩) hH1 ?_
            try simp only [Act.put, List.setIfInBounds_toArray, List.set_cons_zero, List.set_cons_succ]
            refine wpAnyH_solo (i := 11) (o := ⟨some 9, _, _, _, _, _⟩) rfl (by kernel_rfl) (fun K hK => ?_)
            refine wpList_allocRow rfl _ rfl _ zRf.1 ?_
            intro wrb hwrb hsrb hr
            clear hsrb
            have hBrb := hBra.trans (hwrb.mono hBra.size)
            have hH2 := SyS hH1 (Nat.lt_of_lt_of_le glt hBra.size) hwrb
            refine hK _ _ hH2 ?_
            clear hK K
            try simp only [Act.put, List.setIfInBounds_toArray, List.set_cons_zero, List.set_cons_succ]
            refine wpAnyH_solo (i := 12) (o := ⟨none, _, _, _, _, _⟩) rfl (by kernel_rfl) (fun K hK => ?_)
            refine wpList_storeRow rfl _ _ _ rfl wra.heap.size (rC FA) rfl rfl _ _ hr rfl (iRf _) (rC_one _) ?_
            intro wrc hgr hsrc hrs
            clear hsrc
            have hBr := hBrb.trans (below_of_grown hgr hBra.size hBrb.size)
            have hH3 := SyG hH2 (below_of_grown hgr hBra.size hBrb.size) Nltr glt
            refine hK _ _ hH3 ?_
            clear hK K
            try simp only [Act.put]
            refine wpAnyH_solo (i := 13) (o := ⟨some 10, _, _, _, _, _⟩) rfl (by kernel_rfl) (fun K hK => ?_)
            refine wpList_pure rfl (.bool bA) (run_assignV _ rfl _ rfl) ?_
            refine hK _ _ hH3 ?_
            clear hK K
            try simp only [Act.put, List.setIfInBounds_toArray, List.set_cons_zero, List.set_cons_succ]
            refine wpAnyH_done (by kernel_rfl) ?_ _
            go_simp
            obtain ⟨Gr, hGr⟩ : ∃ G, Hid (G = wra.heap.size) := ⟨_, rfl⟩
            rw [← hGr.out] at hrs ⊢
            clear hH hH1 hH2 hH3 hGr hgr hr hwra hwrb hBra hBrb
            have h3e := h3d.belowSize hBr
            have hg3 := rangeAt_below hg2 hBr glt
            have HBwrc : ∀ {w2 : World}, Below wrc.heap.size wrc w2 → Below wr.heap.size wr w2 := fun h => hBr.trans (h.mono hBr.size)
            have glt0 := glt
            have gltc : g < wrc.heap.size := Nat.lt_of_lt_of_le glt hBr.size
            have Nlts : N < wrc.heap.size := Nat.lt_of_lt_of_le Nltr hBr.size
            go_wp2_with fail
            refine wp_region_held_drew (S := fun w' : World => Blk w' N (rdC m (.slice aX m.now.length cX) (.slice aY m.sure.length cY)) 27 ∧ w'.rangeAt g (i * 3) (rC f).toList) (by kernel_rfl) ⟨h3e.drew, rangeAt_drew hg3⟩ (fun hH => ?_)
            try go_frame
            refine wpAnyH_take (i := 0) (oi := ⟨some 62, _, _, _, _, _⟩) (v := .pointer (some ⟨N, 1, none⟩)) rfl (by kernel_rfl) (by kernel_rfl) (by kernel_rfl) (fun _ _ _ h => h) (Or.inl ⟨by rfl, fun w hSw => by go_simp⟩) hH ?_
            try simp only [Act.put, List.setIfInBounds_toArray, List.set_cons_zero, List.set_cons_succ]
            refine wpAnyH_take (i := 1) (oi := ⟨some 63, _, _, _, _, _⟩) (v := (.slice aY m.sure.length cY)) rfl (by kernel_rfl) (by kernel_rfl) (by kernel_rfl) (fun _ _ _ h => h) (Or.inl ⟨by rfl, fun w hSw => run_loadCellB _ _ rfl _ 1 rfl _ _ hSw.1 _ Try.underlying24 rfl _ (rdC_g1 _ _ _)⟩) hH ?_
            try simp only [Act.put, List.setIfInBounds_toArray, List.set_cons_zero, List.set_cons_succ]
            refine wpAnyH_take (i := 2) (oi := ⟨some 64, _, _, _, _, _⟩) (v := (.slice (some ⟨g, 0, none⟩) AL.length cap3)) rfl (by kernel_rfl) (by kernel_rfl) (by kernel_rfl) (fun _ _ _ h => h) (Or.inl ⟨by rfl, fun w hSw => by go_simp⟩) hH ?_
            try simp only [Act.put, List.setIfInBounds_toArray, List.set_cons_zero, List.set_cons_succ]
            refine wpAnyH_take (i := 3) (oi := ⟨some 65, _, _, _, _, _⟩) (v := .int .i64 i) rfl (by kernel_rfl) (by kernel_rfl) (by kernel_rfl) (fun _ _ _ h => h) (Or.inl ⟨by rfl, fun w hSw => by go_simp⟩) hH ?_
            try simp only [Act.put, List.setIfInBounds_toArray, List.set_cons_zero, List.set_cons_succ]
            refine wpAnyH_take (i := 4) (oi := ⟨some 66, _, _, _, _, _⟩) (v := .pointer (some ⟨g, i * 3, none⟩)) rfl (by kernel_rfl) (by kernel_rfl) (by kernel_rfl) (fun _ _ _ h => h) (Or.inl ⟨by rfl, fun w hSw => by go_simp⟩) hH ?_
            try simp only [Act.put, List.setIfInBounds_toArray, List.set_cons_zero, List.set_cons_succ]
            refine wpAnyH_take (i := 5) (oi := ⟨some 67, _, _, _, _, _⟩) (v := .pointer (some ⟨g, i * 3, none⟩)) rfl (by kernel_rfl) (by kernel_rfl) (by kernel_rfl) (fun _ _ _ h => h) (Or.inl ⟨by rfl, fun w hSw => by go_simp⟩) hH ?_
            try simp only [Act.put, List.setIfInBounds_toArray, List.set_cons_zero, List.set_cons_succ]
            refine wpAnyH_take (i := 6) (oi := ⟨some 68, _, _, _, _, _⟩) (v := .string ⟨f.name.toArray⟩) rfl (by kernel_rfl) (by kernel_rfl) (by kernel_rfl) (fun _ _ _ h => h) (Or.inl ⟨by rfl, fun w hSw => run_loadC _ _ rfl _ _ rfl _ Try.underlying9 rfl _ (rL_nm hSw.2)⟩) hH ?_
            try simp only [Act.put, List.setIfInBounds_toArray, List.set_cons_zero, List.set_cons_succ]
            refine wpAnyH_duo (i := 7) (k := 11) (o := ⟨some 69, _, _, _, _, _⟩) (p := ⟨some 11, _, _, _, _, _⟩) rfl rfl (by kernel_rfl) (fun K hK => ?_) (fun K hK => ?_)
            · refine wpList_callR Try.func17 (by kernel_rfl) (by kernel_rfl) rfl _ _ rfl #[(.slice aY m.sure.length cY), .string ⟨f.name.toArray⟩] (args2 rfl rfl) _ (HG _ (HBwrc (Below.refl _ wrc).drew)) ?_
              rintro e wsa ⟨rfl, hwsa⟩
              refine ⟨_, rfl, ?_⟩
              have hBsa : Below wrc.heap.size wrc wsa := (Below.refl _ wrc).drew.trans hwsa
              have hH1 := SyS hH (gltc) hwsa
              refine hK _ _ hH1 ?_
              clear hK K
              try simp only [Act.put, List.setIfInBounds_toArray, List.set_cons_zero, List.set_cons_succ]
              refine wpAnyH_take (i := 8) (oi := ⟨some 61, _, _, _, _, _⟩) (v := .tuple #[.agg (rC FB), .bool bB]) rfl (by kernel_rfl) (by kernel_rfl) (by kernel_rfl) (fun _ _ _ h => h) (Or.inl ⟨by rfl, fun w hSw => by go_simp⟩) hH1 ?_
              try simp only [Act.put, List.setIfInBounds_toArray, List.set_cons_zero, List.set_cons_succ]
              refine wpAnyH_take (i := 9) (oi := ⟨some 70, _, _, _, _, _⟩) (v := .agg (rC FB)) rfl (by kernel_rfl) (by kernel_rfl) (by kernel_rfl) (fun _ _ _ h => h) (Or.inl ⟨by rfl, fun w hSw => run_extract _ _ rfl _ rfl _ rfl⟩) hH1 ?_
              try simp only [Act.put, List.setIfInBounds_toArray, List.set_cons_zero, List.set_cons_succ]
              refine wpAnyH_take (i := 10) (oi := ⟨some 71, _, _, _, _, _⟩) (v := .bool bB) rfl (by kernel_rfl) (by kernel_rfl) (by kernel_rfl) (fun _ _ _ h => h) (Or.inl ⟨by rfl, fun w hSw => run_extract _ _ rfl _ rfl _ rfl⟩) hH1 ?_
              try simp only [Act.put, List.setIfInBounds_toArray, List.set_cons_zero, List.set_cons_succ]
              refine wpAnyH_solo (i := 11) (o := ⟨some 11, _, _, _, _, _⟩) rfl (by kernel_rfl) (fun K hK => ?_)
              refine wpList_allocRow rfl _ rfl _ zRf.1 ?_
              intro wsb hwsb hssb hs
              clear hssb
              have hBsb := hBsa.trans (hwsb.mono hBsa.size)
              have hH2 := SyS hH1 (Nat.lt_of_lt_of_le gltc hBsa.size) hwsb
              refine hK _ _ hH2 ?_
              clear hK K
              try simp only [Act.put, List.setIfInBounds_toArray, List.set_cons_zero, List.set_cons_succ]
              refine wpAnyH_solo (i := 12) (o := ⟨none, _, _, _, _, _⟩) rfl (by kernel_rfl) (fun K hK => ?_)
              refine wpList_storeRow rfl _ _ _ rfl wsa.heap.size (rC FB) rfl rfl _ _ hs rfl (iRf _) (rC_one _) ?_
              intro wsc hgs hssc hss
              clear hssc
              have hBs := hBsb.trans (below_of_grown hgs hBsa.size hBsb.size)
              have hH3 := SyG hH2 (below_of_grown hgs hBsa.size hBsb.size) Nlts gltc
              refine hK _ _ hH3 ?_
              clear hK K
              try simp only [Act.put]
              refine wpAnyH_solo (i := 13) (o := ⟨some 12, _, _, _, _, _⟩) rfl (by kernel_rfl) (fun K hK => ?_)
              refine wpList_pure rfl (.bool bB) (run_assignV _ rfl _ rfl) ?_
              refine hK _ _ hH3 ?_
              clear hK K
              try simp only [Act.put, List.setIfInBounds_toArray, List.set_cons_zero, List.set_cons_succ]
              refine wpAnyH_done (by kernel_rfl) ?_ _
              go_simp
              obtain ⟨Gs, hGs⟩ : ∃ G, Hid (G = wsa.heap.size) := ⟨_, rfl⟩
              rw [← hGs.out] at hss ⊢
              clear hH hH1 hH2 hH3 hGs hgs hs hwsa hwsb hBsa hBsb
              have hBs2 := hBr.trans (hBs.mono hBr.size)
              have hTs := hT.below hBs2
              have hB6 := hB.trans (hBs2.mono hlor)
              have hrs2 := hrs.belowSize hBs
              have hgs := rangeAt_below hg2 hBs2 glt
              have c9 := (hrs2.cell 1).trans (rC_g1 FA)
              have c11 := (hss.cell 1).trans (rC_g1 FB)
              have cn := rL_nm hgs
              have hlos := Nat.le_trans hlor hBs2.size
              clear hBr hBs hBs2 HF HG
              cases hq : (FA.s == FB.s) <;> cases bA <;> cases bB <;>
              · have hqn := bne_of hq
                simp only [hqn, Bool.bne_true, Bool.bne_false, Bool.not_true, Bool.not_false, Bool.or_true, Bool.or_false, if_true, List.append_nil, bne_self_eq_false, Bool.false_eq_true, if_false] at e3
                go_wp2_with (with_reducible refine at_list ?_; first | (refine wpList_tsl1 (op := ⟨some 88, _, _, _, _, _⟩) rfl _ rfl f.name rfl ?_; intro w6 hw6 h6; have hT6 := hTs.below hw6; have hB7 := hB6.trans (hw6.mono hlos)) | (refine wpList_appX (op := ⟨some 89, _, _, _, _, _⟩) rfl _ _ rfl lo u7 u (Nat.le_trans hlos hw6.size) (by with_unfolding_all exact rfl) hT6 wsc.heap.size (by with_unfolding_all exact rfl) f.name h6 e4 ?_; intro w7 sl7 hg7 hT7; have hB8 := hB7.trans (hT6.grow hg7 (Nat.le_trans hlos hw6.size))))
                go_roundw
                case rel => first
                  | exact ⟨i + 1, by omega, by go_num, by rw [e3.out]; exact hT7, hB8⟩
                  | exact ⟨i + 1, by omega, by go_num, by rw [e3.out]; exact hTs, hB6⟩
                case measure => simp [intOf]; omega
            · refine wpList_allocRow rfl _ rfl _ zRf.1 ?_
              intro wsa hwsa hssa hs
              clear hssa
              have hBsa : Below wrc.heap.size wrc wsa := (Below.refl _ wrc).drew.trans hwsa
              have hH1 := SyS hH (gltc) hwsa
              refine hK _ _ hH1 ?_
              clear hK K
              try simp only [Act.put, List.setIfInBounds_toArray, List.set_cons_zero, List.set_cons_succ]
              refine wpAnyH_solo (i := 7) (o := ⟨some 69, _, _, _, _, _⟩) rfl (by kernel_rfl) (fun K hK => ?_)
              refine wpList_callR Try.func17 (by kernel_rfl) (by kernel_rfl) rfl _ _ rfl #[(.slice aY m.sure.length cY), .string ⟨f.name.toArray⟩] (args2 rfl rfl) _ (HG _ (HBwrc hBsa)) ?_
              rintro e wsb ⟨rfl, hwsb⟩
              refine ⟨_, rfl, ?_⟩
              have hBsb := hBsa.trans (hwsb.mono hBsa.size)
              have hH2 := SyS hH1 (Nat.lt_of_lt_of_le gltc hBsa.size) hwsb
              replace hs := hs.belowSize hwsb
              refine hK _ _ hH2 ?_
              clear hK K
              try simp only [Act.put, List.setIfInBounds_toArray, List.set_cons_zero, List.set_cons_succ]
              refine wpAnyH_take (i := 8) (oi := ⟨some 61, _, _, _, _, _⟩) (v := .tuple #[.agg (rC FB), .bool bB]) rfl (by kernel_rfl) (by kernel_rfl) (by kernel_rfl) (fun _ _ _ h => h) (Or.inl ⟨by rfl, fun w hSw => by go_simp⟩) hH2 ?_
              try simp only [Act.put, List.setIfInBounds_toArray, List.set_cons_zero, List.set_cons_succ]
              refine wpAnyH_take (i := 9) (oi := ⟨some 70, _, _, _, _, _⟩) (v := .agg (rC FB)) rfl (by kernel_rfl) (by kernel_rfl) (by kernel_rfl) (fun _ _ _ h => h) (Or.inl ⟨by rfl, fun w hSw => run_extract _ _ rfl _ rfl _ rfl⟩) hH2 ?_
              try simp only [Act.put, List.setIfInBounds_toArray, List.set_cons_zero, List.set_cons_succ]
              refine wpAnyH_take (i := 10) (oi := ⟨some 71, _, _, _, _, _⟩) (v := .bool bB) rfl (by kernel_rfl) (by kernel_rfl) (by kernel_rfl) (fun _ _ _ h => h) (Or.inl ⟨by rfl, fun w hSw => run_extract _ _ rfl _ rfl _ rfl⟩) hH2 ?_
              try simp only [Act.put, List.setIfInBounds_toArray, List.set_cons_zero, List.set_cons_succ]
              refine wpAnyH_solo (i := 12) (o := ⟨none, _, _, _, _, _⟩) rfl (by kernel_rfl) (fun K hK => ?_)
              refine wpList_storeRow rfl _ _ _ rfl wrc.heap.size (rC FB) rfl rfl _ _ hs rfl (iRf _) (rC_one _) ?_
              intro wsc hgs hssc hss
              clear hssc
              have hBs := hBsb.trans (below_of_grown hgs (Nat.le_refl _) hBsb.size)
              have hH3 := SyG hH2 (below_of_grown hgs (Nat.le_refl _) hBsb.size) Nlts gltc
              refine hK _ _ hH3 ?_
              clear hK K
              try simp only [Act.put]
              refine wpAnyH_solo (i := 13) (o := ⟨some 12, _, _, _, _, _⟩) rfl (by kernel_rfl) (fun K hK => ?_)
              refine wpList_pure rfl (.bool bB) (run_assignV _ rfl _ rfl) ?_
              refine hK _ _ hH3 ?_
              clear hK K
              try simp only [Act.put, List.setIfInBounds_toArray, List.set_cons_zero, List.set_cons_succ]
              refine wpAnyH_done (by kernel_rfl) ?_ _
              go_simp
              obtain ⟨Gs, hGs⟩ : ∃ G, Hid (G = wrc.heap.size) := ⟨_, rfl⟩
              try rw [← hGs.out] at hss ⊢
              clear hH hH1 hH2 hH3 hGs hgs hs hwsa hwsb hBsa hBsb
              have hBs2 := hBr.trans (hBs.mono hBr.size)
              have hTs := hT.below hBs2
              have hB6 := hB.trans (hBs2.mono hlor)
              have hrs2 := hrs.belowSize hBs
              have hgs := rangeAt_below hg2 hBs2 glt
              have c9 := (hrs2.cell 1).trans (rC_g1 FA)
              have c11 := (hss.cell 1).trans (rC_g1 FB)
              have cn := rL_nm hgs
              have hlos := Nat.le_trans hlor hBs2.size
              clear hBr hBs hBs2 HF HG
              cases hq : (FA.s == FB.s) <;> cases bA <;> cases bB <;>
              · have hqn := bne_of hq
                simp only [hqn, Bool.bne_true, Bool.bne_false, Bool.not_true, Bool.not_false, Bool.or_true, Bool.or_false, if_true, List.append_nil, bne_self_eq_false, Bool.false_eq_true, if_false] at e3
                go_wp2_with (with_reducible refine at_list ?_; first | (refine wpList_tsl1 (op := ⟨some 88, _, _, _, _, _⟩) rfl _ rfl f.name rfl ?_; intro w6 hw6 h6; have hT6 := hTs.below hw6; have hB7 := hB6.trans (hw6.mono hlos)) | (refine wpList_appX (op := ⟨some 89, _, _, _, _, _⟩) rfl _ _ rfl lo u7 u (Nat.le_trans hlos hw6.size) (by with_unfolding_all exact rfl) hT6 wsc.heap.size (by with_unfolding_all exact rfl) f.name h6 e4 ?_; intro w7 sl7 hg7 hT7; have hB8 := hB7.trans (hT6.grow hg7 (Nat.le_trans hlos hw6.size))))
                go_roundw
                case rel => first
                  | exact ⟨i + 1, by omega, by go_num, by rw [e3.out]; exact hT7, hB8⟩
                  | exact ⟨i + 1, by omega, by go_num, by rw [e3.out]; exact hTs, hB6⟩
                case measure => simp [intOf]; omega
          · refine wpList_allocRow rfl _ rfl _ zRf.1 ?_
            intro wra hwra hsra hr
            clear hsra
            have hBra : Below wr.heap.size wr wra := (Below.refl _ wr).drew.trans hwra
            have hH1 := SyS hH (glt) hwra
            refine hK _ _ hH1 ?_
            clear hK K
            try simp only [Act.put, List.setIfInBounds_toArray, List.set_cons_zero, List.set_cons_succ]
            refine wpAnyH_solo (i := 7) (o := ⟨some 58, _, _, _, _, _⟩) rfl (by kernel_rfl) (fun K hK => ?_)
            refine wpList_callR Try.func17 (by kernel_rfl) (by kernel_rfl) rfl _ _ rfl #[(.slice aX m.now.length cX), .string ⟨f.name.toArray⟩] (args2 rfl rfl) _ (HF _ (HBwr hBra)) ?_
            rintro e wrb ⟨rfl, hwrb⟩
            refine ⟨_, rfl, ?_⟩
            have hBrb := hBra.trans (hwrb.mono hBra.size)
            have hH2 := SyS hH1 (Nat.lt_of_lt_of_le glt hBra.size) hwrb
            replace hr := hr.belowSize hwrb
            refine hK _ _ hH2 ?_
            clear hK K
            try simp only [Act.put, List.setIfInBounds_toArray, List.set_cons_zero, List.set_cons_succ]
            refine wpAnyH_take (i := 8) (oi := ⟨some 50, _, _, _, _, _⟩) (v := .tuple #[.agg (rC FA), .bool bA]) rfl (by kernel_rfl) (by kernel_rfl) (by kernel_rfl) (fun _ _ _ h => h) (Or.inl ⟨by rfl, fun w hSw => by go_simp⟩) hH2 ?_
            try simp only [Act.put, List.setIfInBounds_toArray, List.set_cons_zero, List.set_cons_succ]
            refine wpAnyH_take (i := 9) (oi := ⟨some 59, _, _, _, _, _⟩) (v := .agg (rC FA)) rfl (by kernel_rfl) (by kernel_rfl) (by kernel_rfl) (fun _ _ _ h => h) (Or.inl ⟨by rfl, fun w hSw => run_extract _ _ rfl _ rfl _ rfl⟩) hH2 ?_
            try simp only [Act.put, List.setIfInBounds_toArray, List.set_cons_zero, List.set_cons_succ]
            refine wpAnyH_take (i := 10) (oi := ⟨some 60, _, _, _, _, _⟩) (v := .bool bA) rfl (by kernel_rfl) (by kernel_rfl) (by kernel_rfl) (fun _ _ _ h => h) (Or.inl ⟨by rfl, fun w hSw => run_extract _ _ rfl _ rfl _ rfl⟩) hH2 ?_
            try simp only [Act.put, List.setIfInBounds_toArray, List.set_cons_zero, List.set_cons_succ]
            refine wpAnyH_solo (i := 12) (o := ⟨none, _, _, _, _, _⟩) rfl (by kernel_rfl) (fun K hK => ?_)
            refine wpList_storeRow rfl _ _ _ rfl wr.heap.size (rC FA) rfl rfl _ _ hr rfl (iRf _) (rC_one _) ?_
            intro wrc hgr hsrc hrs
            clear hsrc
            have hBr := hBrb.trans (below_of_grown hgr (Nat.le_refl _) hBrb.size)
            have hH3 := SyG hH2 (below_of_grown hgr (Nat.le_refl _) hBrb.size) Nltr glt
            refine hK _ _ hH3 ?_
            clear hK K
            try simp only [Act.put]
            refine wpAnyH_solo (i := 13) (o := ⟨some 10, _, _, _, _, _⟩) rfl (by kernel_rfl) (fun K hK => ?_)
            refine wpList_pure rfl (.bool bA) (run_assignV _ rfl _ rfl) ?_
            refine hK _ _ hH3 ?_
            clear hK K
            try simp only [Act.put, List.setIfInBounds_toArray, List.set_cons_zero, List.set_cons_succ]
            refine wpAnyH_done (by kernel_rfl) ?_ _
            go_simp
            obtain ⟨Gr, hGr⟩ : ∃ G, Hid (G = wr.heap.size) := ⟨_, rfl⟩
            try rw [← hGr.out] at hrs ⊢
            clear hH hH1 hH2 hH3 hGr hgr hr hwra hwrb hBra hBrb
            have h3e := h3d.belowSize hBr
            have hg3 := rangeAt_below hg2 hBr glt
            have HBwrc : ∀ {w2 : World}, Below wrc.heap.size wrc w2 → Below wr.heap.size wr w2 := fun h => hBr.trans (h.mono hBr.size)
            have glt0 := glt
            have gltc : g < wrc.heap.size := Nat.lt_of_lt_of_le glt hBr.size
            have Nlts : N < wrc.heap.size := Nat.lt_of_lt_of_le Nltr hBr.size
            go_wp2_with fail
            refine wp_region_held_drew (S := fun w' : World => Blk w' N (rdC m (.slice aX m.now.length cX) (.slice aY m.sure.length cY)) 27 ∧ w'.rangeAt g (i * 3) (rC f).toList) (by kernel_rfl) ⟨h3e.drew, rangeAt_drew hg3⟩ (fun hH => ?_)
            try go_frame
            refine wpAnyH_take (i := 0) (oi := ⟨some 62, _, _, _, _, _⟩) (v := .pointer (some ⟨N, 1, none⟩)) rfl (by kernel_rfl) (by kernel_rfl) (by kernel_rfl) (fun _ _ _ h => h) (Or.inl ⟨by rfl, fun w hSw => by go_simp⟩) hH ?_
            try simp only [Act.put, List.setIfInBounds_toArray, List.set_cons_zero, List.set_cons_succ]
            refine wpAnyH_take (i := 1) (oi := ⟨some 63, _, _, _, _, _⟩) (v := (.slice aY m.sure.length cY)) rfl (by kernel_rfl) (by kernel_rfl) (by kernel_rfl) (fun _ _ _ h => h) (Or.inl ⟨by rfl, fun w hSw => run_loadCellB _ _ rfl _ 1 rfl _ _ hSw.1 _ Try.underlying24 rfl _ (rdC_g1 _ _ _)⟩) hH ?_
            try simp only [Act.put, List.setIfInBounds_toArray, List.set_cons_zero, List.set_cons_succ]
            refine wpAnyH_take (i := 2) (oi := ⟨some 64, _, _, _, _, _⟩) (v := (.slice (some ⟨g, 0, none⟩) AL.length cap3)) rfl (by kernel_rfl) (by kernel_rfl) (by kernel_rfl) (fun _ _ _ h => h) (Or.inl ⟨by rfl, fun w hSw => by go_simp⟩) hH ?_
            try simp only [Act.put, List.setIfInBounds_toArray, List.set_cons_zero, List.set_cons_succ]
            refine wpAnyH_take (i := 3) (oi := ⟨some 65, _, _, _, _, _⟩) (v := .int .i64 i) rfl (by kernel_rfl) (by kernel_rfl) (by kernel_rfl) (fun _ _ _ h => h) (Or.inl ⟨by rfl, fun w hSw => by go_simp⟩) hH ?_
            try simp only [Act.put, List.setIfInBounds_toArray, List.set_cons_zero, List.set_cons_succ]
            refine wpAnyH_take (i := 4) (oi := ⟨some 66, _, _, _, _, _⟩) (v := .pointer (some ⟨g, i * 3, none⟩)) rfl (by kernel_rfl) (by kernel_rfl) (by kernel_rfl) (fun _ _ _ h => h) (Or.inl ⟨by rfl, fun w hSw => by go_simp⟩) hH ?_
            try simp only [Act.put, List.setIfInBounds_toArray, List.set_cons_zero, List.set_cons_succ]
            refine wpAnyH_take (i := 5) (oi := ⟨some 67, _, _, _, _, _⟩) (v := .pointer (some ⟨g, i * 3, none⟩)) rfl (by kernel_rfl) (by kernel_rfl) (by kernel_rfl) (fun _ _ _ h => h) (Or.inl ⟨by rfl, fun w hSw => by go_simp⟩) hH ?_
            try simp only [Act.put, List.setIfInBounds_toArray, List.set_cons_zero, List.set_cons_succ]
            refine wpAnyH_take (i := 6) (oi := ⟨some 68, _, _, _, _, _⟩) (v := .string ⟨f.name.toArray⟩) rfl (by kernel_rfl) (by kernel_rfl) (by kernel_rfl) (fun _ _ _ h => h) (Or.inl ⟨by rfl, fun w hSw => run_loadC _ _ rfl _ _ rfl _ Try.underlying9 rfl _ (rL_nm hSw.2)⟩) hH ?_
            try simp only [Act.put, List.setIfInBounds_toArray, List.set_cons_zero, List.set_cons_succ]
            refine wpAnyH_duo (i := 7) (k := 11) (o := ⟨some 69, _, _, _, _, _⟩) (p := ⟨some 11, _, _, _, _, _⟩) rfl rfl (by kernel_rfl) (fun K hK => ?_) (fun K hK => ?_)
            · refine wpList_callR Try.func17 (by kernel_rfl) (by kernel_rfl) rfl _ _ rfl #[(.slice aY m.sure.length cY), .string ⟨f.name.toArray⟩] (args2 rfl rfl) _ (HG _ (HBwrc (Below.refl _ wrc).drew)) ?_
              rintro e wsa ⟨rfl, hwsa⟩
              refine ⟨_, rfl, ?_⟩
              have hBsa : Below wrc.heap.size wrc wsa := (Below.refl _ wrc).drew.trans hwsa
              have hH1 := SyS hH (gltc) hwsa
              refine hK _ _ hH1 ?_
              clear hK K
              try simp only [Act.put, List.setIfInBounds_toArray, List.set_cons_zero, List.set_cons_succ]
              refine wpAnyH_take (i := 8) (oi := ⟨some 61, _, _, _, _, _⟩) (v := .tuple #[.agg (rC FB), .bool bB]) rfl (by kernel_rfl) (by kernel_rfl) (by kernel_rfl) (fun _ _ _ h => h) (Or.inl ⟨by rfl, fun w hSw => by go_simp⟩) hH1 ?_
              try simp only [Act.put, List.setIfInBounds_toArray, List.set_cons_zero, List.set_cons_succ]
              refine wpAnyH_take (i := 9) (oi := ⟨some 70, _, _, _, _, _⟩) (v := .agg (rC FB)) rfl (by kernel_rfl) (by kernel_rfl) (by kernel_rfl) (fun _ _ _ h => h) (Or.inl ⟨by rfl, fun w hSw => run_extract _ _ rfl _ rfl _ rfl⟩) hH1 ?_
              try simp only [Act.put, List.setIfInBounds_toArray, List.set_cons_zero, List.set_cons_succ]
              refine wpAnyH_take (i := 10) (oi := ⟨some 71, _, _, _, _, _⟩) (v := .bool bB) rfl (by kernel_rfl) (by kernel_rfl) (by kernel_rfl) (fun _ _ _ h => h) (Or.inl ⟨by rfl, fun w hSw => run_extract _ _ rfl _ rfl _ rfl⟩) hH1 ?_
              try simp only [Act.put, List.setIfInBounds_toArray, List.set_cons_zero, List.set_cons_succ]
              refine wpAnyH_solo (i := 11) (o := ⟨some 11, _, _, _, _, _⟩) rfl (by kernel_rfl) (fun K hK => ?_)
              refine wpList_allocRow rfl _ rfl _ zRf.1 ?_
              intro wsb hwsb hssb hs
              clear hssb
              have hBsb := hBsa.trans (hwsb.mono hBsa.size)
              have hH2 := SyS hH1 (Nat.lt_of_lt_of_le gltc hBsa.size) hwsb
              refine hK _ _ hH2 ?_
              clear hK K
              try simp only [Act.put, List.setIfInBounds_toArray, List.set_cons_zero, List.set_cons_succ]
              refine wpAnyH_solo (i := 12) (o := ⟨none, _, _, _, _, _⟩) rfl (by kernel_rfl) (fun K hK => ?_)
              refine wpList_storeRow rfl _ _ _ rfl wsa.heap.size (rC FB) rfl rfl _ _ hs rfl (iRf _) (rC_one _) ?_
              intro wsc hgs hssc hss
              clear hssc
              have hBs := hBsb.trans (below_of_grown hgs hBsa.size hBsb.size)
              have hH3 := SyG hH2 (below_of_grown hgs hBsa.size hBsb.size) Nlts gltc
              refine hK _ _ hH3 ?_
              clear hK K
              try simp only [Act.put]
              refine wpAnyH_solo (i := 13) (o := ⟨some 12, _, _, _, _, _⟩) rfl (by kernel_rfl) (fun K hK => ?_)
              refine wpList_pure rfl (.bool bB) (run_assignV _ rfl _ rfl) ?_
              refine hK _ _ hH3 ?_
              clear hK K
              try simp only [Act.put, List.setIfInBounds_toArray, List.set_cons_zero, List.set_cons_succ]
              refine wpAnyH_done (by kernel_rfl) ?_ _
              go_simp
              obtain ⟨Gs, hGs⟩ : ∃ G, Hid (G = wsa.heap.size) := ⟨_, rfl⟩
              rw [← hGs.out] at hss ⊢
              clear hH hH1 hH2 hH3 hGs hgs hs hwsa hwsb hBsa hBsb
              have hBs2 := hBr.trans (hBs.mono hBr.size)
              have hTs := hT.below hBs2
              have hB6 := hB.trans (hBs2.mono hlor)
              have hrs2 := hrs.belowSize hBs
              have hgs := rangeAt_below hg2 hBs2 glt
              have c9 := (hrs2.cell 1).trans (rC_g1 FA)
              have c11 := (hss.cell 1).trans (rC_g1 FB)
              have cn := rL_nm hgs
              have hlos := Nat.le_trans hlor hBs2.size
              clear hBr hBs hBs2 HF HG
              cases hq : (FA.s == FB.s) <;> cases bA <;> cases bB <;>
              · have hqn := bne_of hq
                simp only [hqn, Bool.bne_true, Bool.bne_false, Bool.not_true, Bool.not_false, Bool.or_true, Bool.or_false, if_true, List.append_nil, bne_self_eq_false, Bool.false_eq_true, if_false] at e3
                go_wp2_with (with_reducible refine at_list ?_; first | (refine wpList_tsl1 (op := ⟨some 88, _, _, _, _, _⟩) rfl _ rfl f.name rfl ?_; intro w6 hw6 h6; have hT6 := hTs.below hw6; have hB7 := hB6.trans (hw6.mono hlos)) | (refine wpList_appX (op := ⟨some 89, _, _, _, _, _⟩) rfl _ _ rfl lo u7 u (Nat.le_trans hlos hw6.size) (by with_unfolding_all exact rfl) hT6 wsc.heap.size (by with_unfolding_all exact rfl) f.name h6 e4 ?_; intro w7 sl7 hg7 hT7; have hB8 := hB7.trans (hT6.grow hg7 (Nat.le_trans hlos hw6.size))))
                go_roundw
                case rel => first
                  | exact ⟨i + 1, by omega, by go_num, by rw [e3.out]; exact hT7, hB8⟩
                  | exact ⟨i + 1, by omega, by go_num, by rw [e3.out]; exact hTs, hB6⟩
                case measure => simp [intOf]; omega
            · refine wpList_allocRow rfl _ rfl _ zRf.1 ?_
              intro wsa hwsa hssa hs
              clear hssa
              have hBsa : Below wrc.heap.size wrc wsa := (Below.refl _ wrc).drew.trans hwsa
              have hH1 := SyS hH (gltc) hwsa
              refine hK _ _ hH1 ?_
              clear hK K
              try simp only [Act.put, List.setIfInBounds_toArray, List.set_cons_zero, List.set_cons_succ]
              refine wpAnyH_solo (i := 7) (o := ⟨some 69, _, _, _, _, _⟩) rfl (by kernel_rfl) (fun K hK => ?_)
              refine wpList_callR Try.func17 (by kernel_rfl) (by kernel_rfl) rfl _ _ rfl #[(.slice aY m.sure.length cY), .string ⟨f.name.toArray⟩] (args2 rfl rfl) _ (HG _ (HBwrc hBsa)) ?_
              rintro e wsb ⟨rfl, hwsb⟩
              refine ⟨_, rfl, ?_⟩
              have hBsb := hBsa.trans (hwsb.mono hBsa.size)
              have hH2 := SyS hH1 (Nat.lt_of_lt_of_le gltc hBsa.size) hwsb
              replace hs := hs.belowSize hwsb
              refine hK _ _ hH2 ?_
              clear hK K
              try simp only [Act.put, List.setIfInBounds_toArray, List.set_cons_zero, List.set_cons_succ]
              refine wpAnyH_take (i := 8) (oi := ⟨some 61, _, _, _, _, _⟩) (v := .tuple #[.agg (rC FB), .bool bB]) rfl (by kernel_rfl) (by kernel_rfl) (by kernel_rfl) (fun _ _ _ h => h) (Or.inl ⟨by rfl, fun w hSw => by go_simp⟩) hH2 ?_
              try simp only [Act.put, List.setIfInBounds_toArray, List.set_cons_zero, List.set_cons_succ]
              refine wpAnyH_take (i := 9) (oi := ⟨some 70, _, _, _, _, _⟩) (v := .agg (rC FB)) rfl (by kernel_rfl) (by kernel_rfl) (by kernel_rfl) (fun _ _ _ h => h) (Or.inl ⟨by rfl, fun w hSw => run_extract _ _ rfl _ rfl _ rfl⟩) hH2 ?_
              try simp only [Act.put, List.setIfInBounds_toArray, List.set_cons_zero, List.set_cons_succ]
              refine wpAnyH_take (i := 10) (oi := ⟨some 71, _, _, _, _, _⟩) (v := .bool bB) rfl (by kernel_rfl) (by kernel_rfl) (by kernel_rfl) (fun _ _ _ h => h) (Or.inl ⟨by rfl, fun w hSw => run_extract _ _ rfl _ rfl _ rfl⟩) hH2 ?_
              try simp only [Act.put, List.setIfInBounds_toArray, List.set_cons_zero, List.set_cons_succ]
              refine wpAnyH_solo (i := 12) (o := ⟨none, _, _, _, _, _⟩) rfl (by kernel_rfl) (fun K hK => ?_)
              refine wpList_storeRow rfl _ _ _ rfl wrc.heap.size (rC FB) rfl rfl _ _ hs rfl (iRf _) (rC_one _) ?_
              intro wsc hgs hssc hss
              clear hssc
              have hBs := hBsb.trans (below_of_grown hgs (Nat.le_refl _) hBsb.size)
              have hH3 := SyG hH2 (below_of_grown hgs (Nat.le_refl _) hBsb.size) Nlts gltc
              refine hK _ _ hH3 ?_
              clear hK K
              try simp only [Act.put]
              refine wpAnyH_solo (i := 13) (o := ⟨some 12, _, _, _, _, _⟩) rfl (by kernel_rfl) (fun K hK => ?_)
              refine wpList_pure rfl (.bool bB) (run_assignV _ rfl _ rfl) ?_
              refine hK _ _ hH3 ?_
              clear hK K
              try simp only [Act.put, List.setIfInBounds_toArray, List.set_cons_zero, List.set_cons_succ]
              refine wpAnyH_done (by kernel_rfl) ?_ _
              go_simp
              obtain ⟨Gs, hGs⟩ : ∃ G, Hid (G = wrc.heap.size) := ⟨_, rfl⟩
              try rw [← hGs.out] at hss ⊢
              clear hH hH1 hH2 hH3 hGs hgs hs hwsa hwsb hBsa hBsb
              have hBs2 := hBr.trans (hBs.mono hBr.size)
              have hTs := hT.below hBs2
              have hB6 := hB.trans (hBs2.mono hlor)
              have hrs2 := hrs.belowSize hBs
              have hgs := rangeAt_below hg2 hBs2 glt
              have c9 := (hrs2.cell 1).trans (rC_g1 FA)
              have c11 := (hss.cell 1).trans (rC_g1 FB)
              have cn := rL_nm hgs
              have hlos := Nat.le_trans hlor hBs2.size
              clear hBr hBs hBs2 HF HG
              cases hq : (FA.s == FB.s) <;> cases bA <;> cases bB <;>
              · have hqn := bne_of hq
                simp only [hqn, Bool.bne_true, Bool.bne_false, Bool.not_true, Bool.not_false, Bool.or_true, Bool.or_false, if_true, List.append_nil, bne_self_eq_false, Bool.false_eq_true, if_false] at e3
                go_wp2_with (with_reducible refine at_list ?_; first | (refine wpList_tsl1 (op := ⟨some 88, _, _, _, _, _⟩) rfl _ rfl f.name rfl ?_; intro w6 hw6 h6; have hT6 := hTs.below hw6; have hB7 := hB6.trans (hw6.mono hlos)) | (refine wpList_appX (op := ⟨some 89, _, _, _, _, _⟩) rfl _ _ rfl lo u7 u (Nat.le_trans hlos hw6.size) (by with_unfolding_all exact rfl) hT6 wsc.heap.size (by with_unfolding_all exact rfl) f.name h6 e4 ?_; intro w7 sl7 hg7 hT7; have hB8 := hB7.trans (hT6.grow hg7 (Nat.le_trans hlos hw6.size))))
                go_roundw
                case rel => first
                  | exact ⟨i + 1, by omega, by go_num, by rw [e3.out]; exact hT7, hB8⟩
                  | exact ⟨i + 1, by omega, by go_num, by rw [e3.out]; exact hTs, hB6⟩
                case measure => simp [intOf]; omega
        · have hz2 : ¬ (i : Int) < (AL.length : Int) := by omega
          have e1 : lsR m.now m.sure (AL.take i) = U := by rw [List.take_of_length_le (by omega), hUA.out]
          rw [e1] at hT
          go_wp2_with fail
          go_ret
          exact hfin.out _ _ hB hT
end Go.Proofs.Ytgkkpmliociieaa
