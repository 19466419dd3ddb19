/- What fail and Crash of a disk do. A planned fall strikes: what struck, put, Move, Remove and Truncate of a disk do then. -/
import Derived.Test.YtaiiojbakmminaaGreatDoorKFai
import Derived.Test.YtaiiojbakmminaaGreatDoorKMov
namespace Go.Proofs.YtaiiojbakmminaaGreatDoor
open Go Go.RowKit
/-- One file behind a loss of power: those ahead, how many were loose, how many of them were not kept. -/
def fstep (z k : Int) (st : List F × Nat × Nat) (f : F) : List F × Nat × Nat :=
  if isLoose f = true then (if kept z st.2.1 = true then (st.1 ++ [f], st.2.1 + 1, st.2.2) else (st.1 ++ [{ f with is := lostC f k (decide (st.2.2 = 0)) }], st.2.1 + 1, st.2.2 + 1)) else (st.1 ++ [f], st.2)
def fst_ (z k : Int) (l : List F) : List F × Nat × Nat := l.foldl (fstep z k) ([], 0, 0)
def failL (z k : Int) (l : List F) : List F := (fst_ z k l).1
theorem fst_take (z k : Int) (l : List F) (i : Nat) (f : F) (h : l[i]? = some f) : fst_ z k (l.take (i + 1)) = fstep z k (fst_ z k (l.take i)) f := by
  obtain ⟨hi, rfl⟩ := List.getElem?_eq_some_iff.1 h
  unfold fst_
  rw [List.take_succ_eq_append_getElem hi, List.foldl_append]
  rfl
theorem fstep_len (z k : Int) (st : List F × Nat × Nat) (f : F) : (fstep z k st f).1.length = st.1.length + 1 ∧ (fstep z k st f).2.1 ≤ st.2.1 + 1 ∧ (fstep z k st f).2.2 ≤ st.2.2 + 1 := by
  unfold fstep
  split
  · split <;> simp
  · simp
theorem fst_len (z k : Int) : ∀ (r : List F) (st : List F × Nat × Nat), (r.foldl (fstep z k) st).1.length = st.1.length + r.length ∧ (r.foldl (fstep z k) st).2.1 ≤ st.2.1 + r.length ∧ (r.foldl (fstep z k) st).2.2 ≤ st.2.2 + r.length
  | [], st => by simp
  | f :: r, st => by
    have h1 := fst_len z k r (fstep z k st f)
    have h2 := fstep_len z k st f
    rw [List.foldl_cons, List.length_cons]
    omega
theorem fst_take_len (z k : Int) (l : List F) (i : Nat) (hi : i ≤ l.length) : (fst_ z k (l.take i)).1.length = i ∧ (fst_ z k (l.take i)).2.1 ≤ i ∧ (fst_ z k (l.take i)).2.2 ≤ i := by
  have := fst_len z k (l.take i) ([], 0, 0)
  rw [List.length_take, Nat.min_eq_left hi] at this
  unfold fst_
  simpa using this
theorem mid_set {A l : List F} {i : Nat} {f f' : F} (hA : A.length = i) (h : l[i]? = some f) : (A ++ l.drop i)[i]? = some f ∧ (A ++ l.drop i).set i f' = (A ++ [f']) ++ l.drop (i + 1) ∧ A ++ l.drop i = (A ++ [f]) ++ l.drop (i + 1) := by
  obtain ⟨hi, rfl⟩ := List.getElem?_eq_some_iff.1 h
  have hd : l.drop i = l[i] :: l.drop (i + 1) := (List.getElem_cons_drop (h := hi)).symm
  refine ⟨?_, ?_, ?_⟩
  · rw [List.getElem?_append_right (by omega), hA, Nat.sub_self, List.getElem?_drop]
    simp
  · rw [List.set_append_right _ _ (by omega), hA, Nat.sub_self, hd, List.set_cons_zero]
    simp
  · rw [hd]
    simp
theorem run_eq0 {op : Oper} {a : Act} {w : World} {x : Operand} {n : Nat} (ho : op.op = .binOp .eql 3 x (.const (.int .i64 0)) 3) (hx : a.eval x = .int .i64 (n : Nat)) : (execOp a.eval op).run Tryz.prog w = .ok (.value (.bool (decide (n = 0)))) w := by
  have e : (decide (n = 0)) = ((n : Int) == 0) := by rw [Bool.eq_iff_iff]; simp
  have h0 : a.eval (.const (.int .i64 0)) = .int .i64 0 := rfl
  rw [e]
  unfold execOp
  simp only [ho, hx, h0]
  go_simp
set_option maxRecDepth 100000 in
set_option maxHeartbeats 4000000 in
theorem kfail_any (p : Nat) (b : Option Nat) (m : DM) (z k : Int) (w : World) (hK : DK w p b m) (hl : m.l.length ≤ 1000000) (hby : ∀ f ∈ m.l, (kbyt f.is).length ≤ 1000000000000 ∧ (kbyt f.sure).length ≤ 1000000000000) :
    Calls Tryz.prog 45 #[.pointer (some ⟨p, 0, none⟩), .int .i64 z, .int .i64 k] w (LayP w p b { m with dead := true } (settleL (failL z k m.l))) := by
  obtain ⟨sl, hD, hF, hb⟩ := hK.out
  obtain ⟨a, cap, rfl, hcap⟩ := hF.sl
  subst hb
  have HSt : ∀ w1, FL w1 (.slice a m.l.length cap) (failL z k m.l) → Blk w1 p (dC (.slice a m.l.length cap) m) 61 → Calls Tryz.prog 62 #[.pointer (some ⟨p, 0, none⟩)] w1 (LayP w1 p (slBlk (.slice a m.l.length cap)) { m with l := failL z k m.l } (settleL (failL z k m.l))) := fun w1 h1 h2 => settle_any p _ { m with l := failL z k m.l } w1 ⟨_, h2, h1, rfl⟩ (by
    have := fst_len z k m.l ([], 0, 0)
    show (fst_ z k m.l).1.length ≤ _
    unfold fst_
    simp at this
    omega)
  have hpb := hF.ne hD (by decide)
  go_enter Tryz.func45, Tryz.ntmps45
  go_wp2_with (with_reducible refine at_list ?_; refine wpList_loadCell (op := ⟨some 13, _, _, _, _, _⟩) rfl _ _ rfl p 0 rfl _ _ hD _ Tryz.underlying59 rfl _ (dC_g0 _ _) ?_)
  go_loopw [6, 7, 8, 9, 15] (fun v6 v7 _ _ v15 wl => ∃ i : Nat, i ≤ m.l.length ∧ v15 = .int .i64 i ∧ v6 = .int .i64 ((fst_ z k (m.l.take i)).2.1 : Nat) ∧ v7 = .int .i64 ((fst_ z k (m.l.take i)).2.2 : Nat) ∧ FL wl (.slice a m.l.length cap) ((fst_ z k (m.l.take i)).1 ++ m.l.drop i) ∧ Blk wl p (dC (.slice a m.l.length cap) m) 61 ∧ Chg w wl p (slBlk (.slice a m.l.length cap)) (slBlk (.slice a m.l.length cap))) (fun _ _ _ _ v15 _ => m.l.length - (intOf v15).toNat)
  case atStart => exact ⟨0, by omega, rfl, rfl, rfl, by simpa [fst_] using hF, hD, Chg.refl _ _ _⟩
  case round =>
    obtain ⟨i, hil, rfl, rfl, rfl, hF2, hD2, hC2⟩ := hrel
    by_cases hlt : i < m.l.length
    · have hz2 : (i : Int) < (m.l.length : Int) := by omega
      obtain ⟨f, hf⟩ : ∃ f, m.l[i]? = some f := ⟨_, List.getElem?_eq_getElem hlt⟩
      obtain ⟨hby1, hby2⟩ := hby f (List.mem_of_getElem? hf)
      have hT := fst_take z k m.l i f hf
      obtain ⟨hn1, hn2, hn3⟩ := fst_take_len z k m.l i hil
      obtain ⟨hfc, _, hsame⟩ := mid_set (f' := f) hn1 hf
      have hset := fun f' => (mid_set (f' := f') hn1 hf).2.1
      obtain ⟨g, rfl, hS, hg⟩ := hF2.at i f hfc
      have hpg : p ≠ g := fun e => hpb g rfl (by rw [e])
      have hgw := hS.lt
      have hpw := hD2.lt
      have HL := fun w' => loose_any f w'
      obtain ⟨st, hst⟩ : ∃ st, st = fst_ z k (m.l.take i) := ⟨_, rfl⟩
      rw [← hst] at hT hn1 hn2 hn3 hfc hsame hset hS hF2 ⊢
      obtain ⟨A, lo, ot⟩ := st
      dsimp only at hn1 hn2 hn3 hfc hsame hset hS hF2 ⊢
      have hT2 : Hid (fst_ z k (m.l.take (i + 1)) = fstep z k (A, lo, ot) f) := hT
      have hSm : Hid (A ++ m.l.drop i = (A ++ [f]) ++ m.l.drop (i + 1)) := hsame
      have hSe : Hid (∀ f', (A ++ m.l.drop i).set i f' = (A ++ [f']) ++ m.l.drop (i + 1)) := hset
      have hcl : Hid ((A ++ m.l.drop i).length = m.l.length) := by show _ = _; simp; omega
      clear hn1 hT hsame hset hst hF hD HSt hby hf
      generalize A ++ m.l.drop i = cur at *
      have hw1 : IntKind.i64.wrap ((lo : Int) + 1) = ((lo + 1 : Nat) : Int) := by rw [IntKind.wrap_i64]; omega
      have hw2 : IntKind.i64.wrap ((ot : Int) + 1) = ((ot + 1 : Nat) : Int) := by rw [IntKind.wrap_i64]; omega
      cases hq : isLoose f
      · have hstep : Hid (fstep z k (A, lo, ot) f = (A ++ [f], lo, ot)) := by
          show _ = _
          unfold fstep
          rw [if_neg (by simp [hq])]
        rw [hq] at HL
        clear hq
        go_wp2_with (first
          | (go_at_call 79; refine (HL _).mono ?_; rintro e w4 ⟨rfl, hw4⟩; have hS4 := hS3.grown (row := none) (grown_of_below hw4) (fun e => nomatch e); have hD4 := hD3.belowSize hw4; have h4b := h3b.belowSize hw4)
          | (with_reducible refine at_list ?_; first
            | (refine wpList_loadAt (op := ⟨some 19, _, _, _, _, _⟩) rfl _ _ rfl g (i * 6) rfl (fC f) hg _ Tryz.underlying93 rfl (iFile f) ?_) | (refine wpList_allocRow (op := ⟨some 9, _, _, _, _, _⟩) rfl _ rfl _ zFile.1 ?_; intro w2 hw2 hs2 h3; clear hs2; have hS2 := hS.grown (row := none) (grown_of_below hw2) (fun e => nomatch e); have hD2b := hD2.belowSize hw2) | (refine wpList_storeRow (op := ⟨none, .store 93 (.tmp 9) (.tmp 19), _, _, _, _⟩) rfl _ _ _ rfl wr.heap.size (fC f) rfl rfl _ _ h3 rfl (iFile _) (fC_one _) ?_; intro w3 hg3 hs3 h3b; clear hs3; have hS3 := hS2.grown hg3 (by simp; omega); have hD3 := hD2b.grown hg3 (by simp; omega); have hB3 : Below wr.heap.size wr w3 := hw2.trans (below_of_grown hg3 (Nat.le_refl _) hw2.size)) | (refine wpList_loadRow (op := ⟨some 20, _, _, _, _, _⟩) rfl _ _ rfl wr.heap.size rfl _ _ h3b _ Tryz.underlying93 rfl (iFile _) ?_)))
        go_roundw
        case rel =>
          refine ⟨i + 1, by omega, by go_num, by rw [hT2.out, hstep.out], by rw [hT2.out, hstep.out], ?_, hD4, hC2.trans ((Chg.below hB3).trans (Chg.below hw4))⟩
          rw [hT2.out, hstep.out]
          show FL w4 _ ((A ++ [f]) ++ m.l.drop (i + 1))
          rw [← hSm.out]
          exact ⟨fL_all _, .inr ⟨g, cap, Nat.zero_le _, by rw [List.length_map, hcl.out], hS4⟩⟩
        case measure => simp [intOf]; omega
      · rw [hq] at HL
        have HKp := fun w' => isKept_any z lo w'
        cases hkp : kept z lo
        · have hstep : Hid (fstep z k (A, lo, ot) f = (A ++ [{ f with is := lostC f k (decide (ot = 0)) }], lo + 1, ot + 1)) := by
            show _ = _
            unfold fstep
            rw [if_pos hq, if_neg (by simp [hkp])]
          have HLo := fun w' => lost_any f k (decide (ot = 0)) w' hby1 hby2
          rw [hkp] at HKp
          clear hq hkp
          go_wp2_with (first
            | (go_at_call 79; refine (HL _).mono ?_; rintro e w4 ⟨rfl, hw4⟩; have hS4 := hS3.grown (row := none) (grown_of_below hw4) (fun e => nomatch e); have hD4 := hD3.belowSize hw4; have h4b := h3b.belowSize hw4)
            | (go_at_call 80; refine (HKp _).mono ?_; rintro e w5 ⟨rfl, hw5⟩; have hw5 := hw5.symm; subst hw5)
            | (with_reducible refine at_list ?_; first
              | (refine wpList_loadAt (op := ⟨some 19, _, _, _, _, _⟩) rfl _ _ rfl g (i * 6) rfl (fC f) hg _ Tryz.underlying93 rfl (iFile f) ?_) | (refine wpList_allocRow (op := ⟨some 9, _, _, _, _, _⟩) rfl _ rfl _ zFile.1 ?_; intro w2 hw2 hs2 h3; clear hs2; have hS2 := hS.grown (row := none) (grown_of_below hw2) (fun e => nomatch e); have hD2b := hD2.belowSize hw2) | (refine wpList_storeRow (op := ⟨none, .store 93 (.tmp 9) (.tmp 19), _, _, _, _⟩) rfl _ _ _ rfl wr.heap.size (fC f) rfl rfl _ _ h3 rfl (iFile _) (fC_one _) ?_; intro w3 hg3 hs3 h3b; clear hs3; have hS3 := hS2.grown hg3 (by simp; omega); have hD3 := hD2b.grown hg3 (by simp; omega); have hB3 : Below wr.heap.size wr w3 := hw2.trans (below_of_grown hg3 (Nat.le_refl _) hw2.size)) | (refine wpList_loadRow (op := ⟨some 20, _, _, _, _, _⟩) rfl _ _ rfl wr.heap.size rfl _ _ h3b _ Tryz.underlying93 rfl (iFile _) ?_)))
          have hfg : wr.heap.size ≠ g := by omega
          have hC5 := hC2.trans ((Chg.below hB3).trans (Chg.below hw4))
          clear hg h3 hg3 hD2b hS2 hw2 hD3 hS3 h3b hB3 hw4
          have hH0 : Blk w4.drew p (dC (.slice (some ⟨g, 0, none⟩) m.l.length cap) m) 61 ∧ Blk w4.drew wr.heap.size (fC f) 93 := ⟨hD4.drew, h4b.drew⟩
          have hS9 : GS w4.drew 93 6 g cap (cur.map fL) := hS4.grown (row := none) (grown_of_below ((Below.refl w4.heap.size w4).drew)) (fun e => nomatch e)
          refine wp_region_held_drew (S := fun w' : World => Blk w' p (dC (.slice (some ⟨g, 0, none⟩) m.l.length cap) m) 61 ∧ Blk w' wr.heap.size (fC f) 93) (by kernel_rfl) hH0 (fun hH => ?_)
          try go_frame
          refine wpAnyH_take (i := 0) (oi := ⟨some 27, _, _, _, _, _⟩) (v := .pointer (some ⟨p, 0, none⟩)) rfl (by kernel_rfl) (by kernel_rfl) (by kernel_rfl) (fun _ _ _ h => h) (Or.inl ⟨by rfl, fun w hSw => by go_simp⟩) hH ?_
          try simp only [Act.put, List.setIfInBounds_toArray, List.set_cons_zero, List.set_cons_succ]
          refine wpAnyH_take (i := 1) (oi := ⟨some 28, _, _, _, _, _⟩) (v := .pointer (some ⟨p, 0, none⟩)) rfl (by kernel_rfl) (by kernel_rfl) (by kernel_rfl) (fun _ _ _ h => h) (Or.inl ⟨by rfl, fun w hSw => by go_simp⟩) hH ?_
          try simp only [Act.put, List.setIfInBounds_toArray, List.set_cons_zero, List.set_cons_succ]
          refine wpAnyH_take (i := 2) (oi := ⟨some 29, _, _, _, _, _⟩) (v := .pointer (some ⟨p, 0, none⟩)) rfl (by kernel_rfl) (by kernel_rfl) (by kernel_rfl) (fun _ _ _ h => h) (Or.inl ⟨by rfl, fun w hSw => by go_simp⟩) hH ?_
          try simp only [Act.put, List.setIfInBounds_toArray, List.set_cons_zero, List.set_cons_succ]
          refine wpAnyH_take (i := 3) (oi := ⟨some 30, _, _, _, _, _⟩) (v := .slice (some ⟨g, 0, none⟩) m.l.length cap) rfl (by kernel_rfl) (by kernel_rfl) (by kernel_rfl) (fun _ _ _ h => h) (Or.inl ⟨by rfl, fun w hSw => run_loadCellB _ _ rfl _ 0 rfl _ _ hSw.1 _ Tryz.underlying59 rfl _ (dC_g0 _ _)⟩) hH ?_
          try simp only [Act.put, List.setIfInBounds_toArray, List.set_cons_zero, List.set_cons_succ]
          refine wpAnyH_take (i := 4) (oi := ⟨some 31, _, _, _, _, _⟩) (v := .int .i64 (i : Nat)) rfl (by kernel_rfl) (by kernel_rfl) (by kernel_rfl) (fun _ _ _ h => h) (Or.inl ⟨by rfl, fun w hSw => by go_simp⟩) hH ?_
          try simp only [Act.put, List.setIfInBounds_toArray, List.set_cons_zero, List.set_cons_succ]
          refine wpAnyH_take (i := 5) (oi := ⟨some 32, _, _, _, _, _⟩) (v := .agg (fC f)) rfl (by kernel_rfl) (by kernel_rfl) (by kernel_rfl) (fun _ _ _ h => h) (Or.inl ⟨by rfl, fun w hSw => run_loadMid _ _ rfl _ 0 rfl _ hSw.2.rangeAll _ Tryz.underlying93 rfl (iFile _)⟩) hH ?_
          try simp only [Act.put, List.setIfInBounds_toArray, List.set_cons_zero, List.set_cons_succ]
          refine wpAnyH_take (i := 6) (oi := ⟨some 33, _, _, _, _, _⟩) (v := .int .i64 k) rfl (by kernel_rfl) (by kernel_rfl) (by kernel_rfl) (fun _ _ _ h => h) (Or.inl ⟨by rfl, fun w hSw => by go_simp⟩) hH ?_
          try simp only [Act.put, List.setIfInBounds_toArray, List.set_cons_zero, List.set_cons_succ]
          refine wpAnyH_take (i := 7) (oi := ⟨some 34, _, _, _, _, _⟩) (v := .int .i64 (ot : Nat)) rfl (by kernel_rfl) (by kernel_rfl) (by kernel_rfl) (fun _ _ _ h => h) (Or.inl ⟨by rfl, fun w hSw => by go_simp⟩) hH ?_
          try simp only [Act.put, List.setIfInBounds_toArray, List.set_cons_zero, List.set_cons_succ]
          refine wpAnyH_take (i := 8) (oi := ⟨some 35, _, _, _, _, _⟩) (v := .bool (decide (ot = 0))) rfl (by kernel_rfl) (by kernel_rfl) (by kernel_rfl) (fun _ _ _ h => h) (Or.inl ⟨by rfl, fun w hSw => run_eq0 rfl rfl⟩) hH ?_
          try simp only [Act.put, List.setIfInBounds_toArray, List.set_cons_zero, List.set_cons_succ]
          refine wpAnyH_solo (i := 9) (o := ⟨some 36, _, _, _, _, _⟩) rfl (by kernel_rfl) (fun K hK => ?_)
          refine wpList_callR Tryz.func81 (by kernel_rfl) (by kernel_rfl) rfl _ _ rfl #[.agg (fC f), .int .i64 k, .bool (decide (ot = 0))] (args3 rfl rfl rfl) _ (HLo _) ?_
          rintro e w6 ⟨rfl, hw6⟩
          refine ⟨_, rfl, ?_⟩
          have hH6 : Blk w6 p (dC (.slice (some ⟨g, 0, none⟩) m.l.length cap) m) 61 ∧ Blk w6 wr.heap.size (fC f) 93 := ⟨hH.1.belowSize hw6, hH.2.belowSize hw6⟩
          have hS6 := hS9.grown (row := none) (grown_of_below hw6) (fun e => nomatch e)
          refine hK _ _ hH6 ?_
          clear hK K
          try simp only [Act.put, List.setIfInBounds_toArray, List.set_cons_zero, List.set_cons_succ]
          refine wpAnyH_take (i := 10) (oi := ⟨some 37, _, _, _, _, _⟩) (v := .pointer (some ⟨g, i * 6, none⟩)) rfl (by kernel_rfl) (by kernel_rfl) (by kernel_rfl) (fun _ _ _ h => h) (Or.inl ⟨by rfl, fun w hSw => by go_simp⟩) hH6 ?_
          try simp only [Act.put, List.setIfInBounds_toArray, List.set_cons_zero, List.set_cons_succ]
          refine wpAnyH_take (i := 11) (oi := ⟨some 38, _, _, _, _, _⟩) (v := .pointer (some ⟨g, i * 6 + 1, none⟩)) rfl (by kernel_rfl) (by kernel_rfl) (by kernel_rfl) (fun _ _ _ h => h) (Or.inl ⟨by rfl, fun w hSw => by go_simp⟩) hH6 ?_
          try simp only [Act.put, List.setIfInBounds_toArray, List.set_cons_zero, List.set_cons_succ]
          refine wpAnyH_solo (i := 12) (o := ⟨none, _, _, _, _, _⟩) rfl (by kernel_rfl) (fun K hK => ?_)
          refine wpList_stIs rfl _ _ rfl g cap i cur f hfc (lostC f k (decide (ot = 0))) rfl rfl hS6 ?_
          intro w8 hg8 hS8
          have hH8 : Blk w8 p (dC (.slice (some ⟨g, 0, none⟩) m.l.length cap) m) 61 ∧ Blk w8 wr.heap.size (fC f) 93 := ⟨hH6.1.grown hg8 (fun e => hpg (Option.some.inj e)), hH6.2.grown hg8 (fun e => hfg (Option.some.inj e))⟩
          refine hK _ _ hH8 ?_
          clear hK K
          try simp only [Act.put]
          refine wpAnyH_done (by kernel_rfl) ?_ _
          go_simp
          go_wp2_with fail
          go_roundw
          case rel =>
            refine ⟨i + 1, by omega, by go_num, by rw [hT2.out, hstep.out]; simp, by rw [hT2.out, hstep.out]; simp, ?_, hH8.1, (hC5.trans ((Chg.below ((Below.refl _ w4).drew)).trans (Chg.below hw6))).trans (Chg.row hg8 (fun r e => .inl e))⟩
            rw [hT2.out, hstep.out]
            show FL w8 _ ((A ++ [{ f with is := lostC f k (decide (ot = 0)) }]) ++ m.l.drop (i + 1))
            rw [← hSe.out]
            exact ⟨fL_all _, .inr ⟨g, cap, Nat.zero_le _, by rw [List.length_map, List.length_set, hcl.out], hS8⟩⟩
          case measure => simp [intOf]; omega
        · have hstep : Hid (fstep z k (A, lo, ot) f = (A ++ [f], lo + 1, ot)) := by
            show _ = _
            unfold fstep
            rw [if_pos hq, if_pos hkp]
          rw [hkp] at HKp
          clear hq hkp
          go_wp2_with (first
            | (go_at_call 79; refine (HL _).mono ?_; rintro e w4 ⟨rfl, hw4⟩; have hS4 := hS3.grown (row := none) (grown_of_below hw4) (fun e => nomatch e); have hD4 := hD3.belowSize hw4; have h4b := h3b.belowSize hw4)
            | (go_at_call 80; refine (HKp _).mono ?_; rintro e w5 ⟨rfl, hw5⟩; have hw5 := hw5.symm; subst hw5)
            | (with_reducible refine at_list ?_; first
              | (refine wpList_loadAt (op := ⟨some 19, _, _, _, _, _⟩) rfl _ _ rfl g (i * 6) rfl (fC f) hg _ Tryz.underlying93 rfl (iFile f) ?_) | (refine wpList_allocRow (op := ⟨some 9, _, _, _, _, _⟩) rfl _ rfl _ zFile.1 ?_; intro w2 hw2 hs2 h3; clear hs2; have hS2 := hS.grown (row := none) (grown_of_below hw2) (fun e => nomatch e); have hD2b := hD2.belowSize hw2) | (refine wpList_storeRow (op := ⟨none, .store 93 (.tmp 9) (.tmp 19), _, _, _, _⟩) rfl _ _ _ rfl wr.heap.size (fC f) rfl rfl _ _ h3 rfl (iFile _) (fC_one _) ?_; intro w3 hg3 hs3 h3b; clear hs3; have hS3 := hS2.grown hg3 (by simp; omega); have hD3 := hD2b.grown hg3 (by simp; omega); have hB3 : Below wr.heap.size wr w3 := hw2.trans (below_of_grown hg3 (Nat.le_refl _) hw2.size)) | (refine wpList_loadRow (op := ⟨some 20, _, _, _, _, _⟩) rfl _ _ rfl wr.heap.size rfl _ _ h3b _ Tryz.underlying93 rfl (iFile _) ?_)))
          go_roundw
          case rel =>
            refine ⟨i + 1, by omega, by go_num, by rw [hT2.out, hstep.out]; simp, by rw [hT2.out, hstep.out], ?_, hD4, hC2.trans ((Chg.below hB3).trans (Chg.below hw4))⟩
            rw [hT2.out, hstep.out]
            show FL _ _ ((A ++ [f]) ++ m.l.drop (i + 1))
            rw [← hSm.out]
            exact ⟨fL_all _, .inr ⟨g, cap, Nat.zero_le _, by rw [List.length_map, hcl.out], hS4⟩⟩
          case measure => simp [intOf]; omega
    · have hz2 : ¬ (i : Int) < (m.l.length : Int) := by omega
      rw [List.take_of_length_le (by omega), List.drop_eq_nil_of_le (by omega), List.append_nil] at hF2
      have HS1 := HSt wr hF2 hD2
      clear HSt
      generalize fst_ z k (m.l.take i) = st at *
      go_wp2_with (first
        | (go_at_call 62; refine HS1.mono ?_; rintro e w4 ⟨rfl, b4, hC4, hD4⟩; obtain ⟨sl4, hD4a, hF4, hb4⟩ := hD4.out)
        | (with_reducible refine at_list ?_; first
          | (refine wpList_storeCell (op := ⟨none, .store 4 (.tmp 48) (.const (.bool true)), _, _, _, _⟩) rfl _ _ _ rfl p 1 rfl (.bool true) rfl _ _ hD4a iBool rfl rfl (by rw [dC_size]; decide) ?_; intro w5 hg5 hs5 hD5; clear hs5; rw [dC_s1] at hD5)))
      refine bodyPost_end (results_none rfl _ _ _) rfl ⟨rfl, b4, (hC2.trans hC4).trans (Chg.own hg5), ⟨sl4, hD5, hF4.grown hg5 (hF4.ne hD4a (by decide)), hb4⟩⟩
/-- What Crash leaves. -/
def craD (m : DM) (z k : Int) : DM := if m.dead = true then m else { m with dead := true, l := settleL (failL z k m.l) }
set_option maxRecDepth 100000 in
theorem crash_any (p : Nat) (b : Option Nat) (m : DM) (z k : Int) (w : World) (hK : DK w p b m) (hl : m.l.length ≤ 1000000) (hby : ∀ f ∈ m.l, (kbyt f.is).length ≤ 1000000000000 ∧ (kbyt f.sure).length ≤ 1000000000000) :
    Calls Tryz.prog 14 #[.pointer (some ⟨p, 0, none⟩), .int .i64 z, .int .i64 k] w fun e w' => e = .returned (.tuple #[]) ∧ ∃ b', Chg w w' p b b' ∧ DK w' p b' (craD m z k) := by
  have HD : Calls Tryz.prog 23 #[.pointer (some ⟨p, 0, none⟩)] w fun e w' => e = .returned (.bool m.dead) ∧ w' = w := by
    obtain ⟨sl, hD, _, _⟩ := hK.out
    exact dead_any p sl m w hD
  have HF := kfail_any p b m z k w hK hl hby
  unfold craD
  by_cases hq : m.dead = true
  · rw [if_pos hq]
    rw [hq] at HD
    clear HF
    go_enter Tryz.func14, Tryz.ntmps14
    go_wp2_with (go_at_call 23; refine HD.mono ?_; rintro e w' ⟨rfl, hw'⟩; subst hw')
    refine bodyPost_end (results_none rfl _ _ _) rfl ⟨rfl, b, Chg.refl _ _ _, hK⟩
  · rw [if_neg hq]
    rw [Bool.eq_false_iff.2 hq] at HD
    clear hq
    go_enter Tryz.func14, Tryz.ntmps14
    go_wp2_with (first
      | (go_at_call 23; refine HD.mono ?_; rintro e w' ⟨rfl, hw'⟩; subst hw')
      | (go_at_call 45; refine HF.mono ?_; rintro e w2 ⟨rfl, b2, hC2, hD2⟩))
    refine bodyPost_end (results_none rfl _ _ _) rfl ⟨rfl, b2, hC2, hD2⟩
end Go.Proofs.YtaiiojbakmminaaGreatDoor
namespace Go.Proofs.YtaiiojbakmminaaGreatDoor
open Go Go.RowKit
theorem zFall : (∀ w, (zeroValue 32).run Tryz.prog w = .ok (.agg #[.int .i64 0, .int .i64 0, .int .i64 0]) w) ∧ (Tryz.prog.info? 32).map (·.size) = some 3 := zero_of_info (by kernel_rfl)
theorem iFall : (Tryz.prog.info? 32).map (·.size) = some 3 := zFall.2
theorem iSlP : (Tryz.prog.info? 45).map (·.size) = some 1 := by kernel_rfl
def faA (f : FA) : Array Value := #[.int .i64 f.at_, .int .i64 f.keep, .int .i64 f.torn]
theorem iFa (f : FA) : (Tryz.prog.info? 32).map (·.size) = some (faA f).size := iFall
theorem faA_one (f : FA) : (faA f).all (·.oneCell') = true := by simp [faA, Value.oneCell']
theorem faA_g1 (f : FA) : (faA f)[1]? = some (.int .i64 f.keep) := rfl
theorem faA_g2 (f : FA) : (faA f)[2]? = some (.int .i64 f.torn) := rfl
set_option maxRecDepth 100000 in
set_option maxHeartbeats 2000000 in
theorem struck_hit (p : Nat) (b : Option Nat) (m : DM) (w : World) (h : DK w p b m) (f : FA) (hP : PlA w m.pv f) (hat : f.at_ = (m.ch : Int)) (hl : m.l.length ≤ 1000000) (hby : ∀ f ∈ m.l, (kbyt f.is).length ≤ 1000000000000 ∧ (kbyt f.sure).length ≤ 1000000000000) :
    Calls Tryz.prog 74 #[.pointer (some ⟨p, 0, none⟩)] w fun e w' => e = .returned (.bool true) ∧ ∃ b' a c, Chg w w' p b b' ∧ DK w' p b' { m with dead := true, l := settleL (failL f.keep f.torn m.l), pv := .slice a 0 c } := by
  obtain ⟨sl, hD, hF, hb⟩ := h.out
  obtain ⟨g, o, cap, cur, fr, hpv, hcap, hg, hcell⟩ := hP.out
  have c4 : w.cell? ⟨p, 4, none⟩ = some (.slice (some ⟨g, o, none⟩) 1 cap) := (hD.cell 4).trans ((dC_g4 _ _).trans (congrArg some hpv))
  have c5 : w.cell? ⟨p, 5, none⟩ = some (.int .i64 (m.ch : Nat)) := (hD.cell 5).trans (dC_g5 _ _)
  have hcells : w.rangeAt g o (faA f).toList := fun j v hv => by
    simp only [World.cell?, hg]
    exact hcell j v hv
  have cA : w.cell? ⟨g, o, none⟩ = some (.int .i64 (m.ch : Int)) := by rw [← hat]; exact hcells 0 _ rfl
  have d1 : decide ((m.ch : Int) < (m.ch : Int)) = false := decide_eq_false (by omega)
  have hgl : g < w.heap.size := (Array.getElem?_eq_some_iff.1 hg).1
  have HFa : ∀ w1 a c, DK w1 p b { m with pv := .slice a 0 c } → Calls Tryz.prog 45 #[.pointer (some ⟨p, 0, none⟩), .int .i64 f.keep, .int .i64 f.torn] w1 (LayP w1 p b { m with dead := true, pv := .slice a 0 c } (settleL (failL f.keep f.torn m.l))) := fun w1 a c hK => kfail_any p b { m with pv := .slice a 0 c } f.keep f.torn w1 hK hl hby
  clear hcell hg hP hat
  go_enter Tryz.func74, Tryz.ntmps74
  go_wp2_with fail
  go_loopw [4] (fun _ wl => wl = w) (fun _ _ => 0)
  case atStart => rfl
  case round =>
    have hw2 := hrel.symm
    subst hw2
    clear hrel
    go_wp2_with fail
    go_region
    go_wp2_with fail
    go_region
    have hD2 := hD.drew.drew
    have hF2 := hF.drew.drew
    have hB2 : Below w.heap.size w w.drew.drew := (Below.refl _ w).drew.drew
    have hc2 : w.drew.drew.rangeAt g o (faA f).toList := rangeAt_below hcells hB2 hgl
    have c42 : w.drew.drew.cell? ⟨p, 4, none⟩ = some (.slice (some ⟨g, o, none⟩) 1 cap) := c4
    clear c4 c5 cA hcells
    generalize w.drew.drew = w2 at *
    have hsz := hB2.size
    by_cases hc1 : cap = 1
    · subst hc1
      go_wp2_with (first
        | (go_at_call 45; refine (HFa _ _ _ hK5).mono ?_; rintro e w6 ⟨rfl, b6, hC6, hD6⟩)
        | (with_reducible refine at_list ?_; first
          | (refine wpList_loadAt (op := ⟨some 64, _, _, _, _, _⟩) rfl _ _ rfl g o rfl (faA f) hc2 _ Tryz.underlying32 rfl (iFa f) ?_)
          | (refine wpList_allocRow (op := ⟨some 3, _, _, _, _, _⟩) rfl _ rfl _ zFall.1 ?_; intro w3 hw3 hs3 hQ3; clear hs3; have hD3 := hD2.belowSize hw3; have hF3 := hF2.below hw3)
          | (refine wpList_storeRow (op := ⟨none, .store 32 (.tmp 3) (.tmp 64), _, _, _, _⟩) rfl _ _ _ rfl w2.heap.size (faA f) rfl rfl _ _ hQ3 rfl (iFa f) (faA_one f) ?_; intro w4 hg4 hs4 hQ4; clear hs4; have hB4 : Below w2.heap.size w2 w4 := hw3.trans (below_of_grown hg4 (Nat.le_refl _) hw3.size); have hD4 := hD2.belowSize hB4; have hF4 := hF2.below hB4; clear hD3 hF3)
          | (refine wpList_loadCell (op := ⟨some 69, _, _, _, _, _⟩) rfl _ _ rfl p 4 rfl _ _ hD4 _ Tryz.underlying45 rfl (.slice (some ⟨g, o, none⟩) 1 1) ((dC_g4 _ _).trans (congrArg some hpv)) ?_)
          | (refine wpList_storeCell (op := ⟨none, .store 45 (.tmp 72) (.tmp 70), _, _, _, _⟩) rfl _ _ _ rfl p 4 rfl (.slice (some ⟨g, o, none⟩) 0 0) rfl _ _ hD4 iSlP rfl rfl (by rw [dC_size]; decide) ?_; intro w5 hg5 hs5 hD5; clear hs5; rw [dC_s4] at hD5; have hK5 : DK w5 p b { m with pv := .slice (some ⟨g, o, none⟩) 0 0 } := ⟨sl, hD5, hF4.grown hg5 (hF4.ne hD4 (by decide)), hb⟩; have hQ5 := hQ4.grown hg5 (fun e => by have := Option.some.inj e; have := hD2.lt; omega)))
          | (refine wpList_loadCell (op := ⟨some 75, _, _, _, _, _⟩) rfl _ _ rfl w2.heap.size 1 rfl _ _ hQ5 _ Tryz.underlying3 rfl _ (faA_g1 f) ?_)
          | (refine wpList_loadCell (op := ⟨some 77, _, _, _, _, _⟩) rfl _ _ rfl w2.heap.size 2 rfl _ _ hQ5 _ Tryz.underlying3 rfl _ (faA_g2 f) ?_))
      go_ret
      exact ⟨rfl, b6, _, _, ((Chg.below hB2).trans ((Chg.below hB4).trans (Chg.own hg5))).trans hC6, hD6⟩
    · have hc2b : ¬ (1 : Nat) = cap := fun e => hc1 e.symm
      go_wp2_with (first
        | (go_at_call 45; refine (HFa _ _ _ hK5).mono ?_; rintro e w6 ⟨rfl, b6, hC6, hD6⟩)
        | (with_reducible refine at_list ?_; first
          | (refine wpList_loadAt (op := ⟨some 64, _, _, _, _, _⟩) rfl _ _ rfl g o rfl (faA f) hc2 _ Tryz.underlying32 rfl (iFa f) ?_)
          | (refine wpList_allocRow (op := ⟨some 3, _, _, _, _, _⟩) rfl _ rfl _ zFall.1 ?_; intro w3 hw3 hs3 hQ3; clear hs3; have hD3 := hD2.belowSize hw3; have hF3 := hF2.below hw3)
          | (refine wpList_storeRow (op := ⟨none, .store 32 (.tmp 3) (.tmp 64), _, _, _, _⟩) rfl _ _ _ rfl w2.heap.size (faA f) rfl rfl _ _ hQ3 rfl (iFa f) (faA_one f) ?_; intro w4 hg4 hs4 hQ4; clear hs4; have hB4 : Below w2.heap.size w2 w4 := hw3.trans (below_of_grown hg4 (Nat.le_refl _) hw3.size); have hD4 := hD2.belowSize hB4; have hF4 := hF2.below hB4; clear hD3 hF3)
          | (refine wpList_loadCell (op := ⟨some 69, _, _, _, _, _⟩) rfl _ _ rfl p 4 rfl _ _ hD4 _ Tryz.underlying45 rfl (.slice (some ⟨g, o, none⟩) 1 cap) ((dC_g4 _ _).trans (congrArg some hpv)) ?_)
          | (refine wpList_storeCell (op := ⟨none, .store 45 (.tmp 72) (.tmp 70), _, _, _, _⟩) rfl _ _ _ rfl p 4 rfl (.slice (some ⟨g, o + 3, none⟩) 0 (cap - 1)) rfl _ _ hD4 iSlP rfl rfl (by rw [dC_size]; decide) ?_; intro w5 hg5 hs5 hD5; clear hs5; rw [dC_s4] at hD5; have hK5 : DK w5 p b { m with pv := .slice (some ⟨g, o + 3, none⟩) 0 (cap - 1) } := ⟨sl, hD5, hF4.grown hg5 (hF4.ne hD4 (by decide)), hb⟩; have hQ5 := hQ4.grown hg5 (fun e => by have := Option.some.inj e; have := hD2.lt; omega)))
          | (refine wpList_loadCell (op := ⟨some 75, _, _, _, _, _⟩) rfl _ _ rfl w2.heap.size 1 rfl _ _ hQ5 _ Tryz.underlying3 rfl _ (faA_g1 f) ?_)
          | (refine wpList_loadCell (op := ⟨some 77, _, _, _, _, _⟩) rfl _ _ rfl w2.heap.size 2 rfl _ _ hQ5 _ Tryz.underlying3 rfl _ (faA_g2 f) ?_))
      go_ret
      exact ⟨rfl, b6, _, _, ((Chg.below hB2).trans ((Chg.below hB4).trans (Chg.own hg5))).trans hC6, hD6⟩
end Go.Proofs.YtaiiojbakmminaaGreatDoor
