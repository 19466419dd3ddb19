/- What slices.Insert of one file does. What slices.Delete of one file does. -/
import Derived.Test.YtaiiojbakmminaaGreatDoorKRgr
namespace Go.Proofs.YtaiiojbakmminaaGreatDoor
open Go Go.RowKit
/-- What a change of a slice of files leaves. -/
def SlP (w : World) (b : Option Nat) (l : List F) (e : Ending) (w' : World) : Prop := ∃ sl', e = .returned sl' ∧ w.grownBy w' b ∧ FL w' sl' l ∧ ∀ r, slBlk sl' = some r → b = some r ∨ w.heap.size ≤ r
theorem fL1 (l : List F) (u : Value) (h : u ∈ (l.map fL).flatten) : u.oneCell' = true := by
  obtain ⟨x, hx, hu⟩ := List.mem_flatten.1 h
  exact fL_one l x hx u hu
theorem fLlen (l : List F) : (l.map fL).flatten.length = l.length * 6 := by rw [flat_len (fL_all l), List.length_map]
section
variable {ops : Array Oper} {rest : List Oper} {op : Oper} {a : Act} {w : World} {Q : Exit → Act → World → Prop} {K : Act → World → Prop} {E : Prop}
/-- Files are copied into a slice of files, from the i-th on. -/
theorem run_cpF (x y : Operand) (ho : op.op = Op.call { callee := Callee.builtin Builtin.copy, args := #[x, y], argTypes := #[59, 59] }) (g cap i dLen dCap : Nat) (l V : List F) (hx : a.eval x = .slice (some ⟨g, i * 6, none⟩) dLen dCap)
    (ad : Addr) (sLen sCap : Nat) (hy : a.eval y = .slice (some ad) sLen sCap) (hm : V.length = Nat.min sLen dLen) (hsrc : ∀ j v, ((V.map fL).flatten)[j]? = some v → w.cell? (ad.add j) = some v) (hS : GS w 93 6 g cap (l.map fL)) (hi : i ≤ l.length) (hc : i + V.length ≤ cap) :
    ∃ w1 v, (execOp a.eval op).run Tryz.prog w = .ok (.value v) w1 ∧ w.grownBy w1 (some g) ∧ GS w1 93 6 g cap ((l.take i ++ V ++ l.drop (i + V.length)).map fL) ∧ w1.heap.size = w.heap.size := by
  have hr := run_copyK (P := Tryz.prog) (w := w) 59 59 op.type 93 g (i * 6) dLen dCap ad sLen sCap 6 V.length ((V.map fL).flatten) Tryz.underlying59 zFile.2 hm (fLlen V) hsrc
    (hS.there _ _ (by rw [fLlen]; omega)) (fun v hv => fL1 V v hv)
  refine ⟨_, _, wp_copy x y _ _ ho _ _ hx hy hr, grown_setCells _ _ _ _, ?_, size_setCells _ _ _ _⟩
  have := hS.put (fL_all l) i (V.map fL) (fL_all V) (by simpa using hi) (by simpa using hc)
  rw [List.length_map] at this
  simpa [List.map_take, List.map_drop] using this
theorem step_cpF (hgd : op.guard = none) (x y : Operand) (ho : op.op = Op.call { callee := Callee.builtin Builtin.copy, args := #[x, y], argTypes := #[59, 59] }) (g cap i dLen dCap : Nat) (l V : List F) (hx : a.eval x = .slice (some ⟨g, i * 6, none⟩) dLen dCap)
    (ad : Addr) (sLen sCap : Nat) (hy : a.eval y = .slice (some ad) sLen sCap) (hm : V.length = Nat.min sLen dLen) (hsrc : ∀ j v, ((V.map fL).flatten)[j]? = some v → w.cell? (ad.add j) = some v) (hS : GS w 93 6 g cap (l.map fL)) (hi : i ≤ l.length) (hc : i + V.length ≤ cap)
    (h : ∀ w1 v, w.grownBy w1 (some g) → GS w1 93 6 g cap ((l.take i ++ V ++ l.drop (i + V.length)).map fL) → K (a.put op.dst v) w1) :
    if Region.wanted op (yielded ops a.tmps) = true then Oper.wp Tryz.prog op a w K Q else E := by
  obtain ⟨w1, v, hr, h1, h2, h3⟩ := run_cpF x y ho g cap i dLen dCap l V hx ad sLen sCap hy hm hsrc hS hi hc
  exact step_run hgd hr (h w1 v h1 h2)
theorem wpList_cpF (hgd : op.guard = none) (x y : Operand) (ho : op.op = Op.call { callee := Callee.builtin Builtin.copy, args := #[x, y], argTypes := #[59, 59] }) (g cap i dLen dCap : Nat) (l V : List F) (hx : a.eval x = .slice (some ⟨g, i * 6, none⟩) dLen dCap)
    (ad : Addr) (sLen sCap : Nat) (hy : a.eval y = .slice (some ad) sLen sCap) (hm : V.length = Nat.min sLen dLen) (hsrc : ∀ j v, ((V.map fL).flatten)[j]? = some v → w.cell? (ad.add j) = some v) (hS : GS w 93 6 g cap (l.map fL)) (hi : i ≤ l.length) (hc : i + V.length ≤ cap)
    (h : ∀ w1 v, w.grownBy w1 (some g) → GS w1 93 6 g cap ((l.take i ++ V ++ l.drop (i + V.length)).map fL) → wpList Tryz.prog ops Q rest (a.put op.dst v) w1) :
    wpList Tryz.prog ops Q (op :: rest) a w := by
  obtain ⟨w1, v, hr, h1, h2, h3⟩ := run_cpF x y ho g cap i dLen dCap l V hx ad sLen sCap hy hm hsrc hS hi hc
  exact wpList_run hgd _ _ hr (h w1 v h1 h2)
end
theorem min_eq_of {a b n : Nat} (h : (n = a ∧ a ≤ b) ∨ (n = b ∧ b ≤ a)) : n = Nat.min a b := by
  rcases h with ⟨rfl, h⟩ | ⟨rfl, h⟩
  · exact (Nat.min_eq_left h).symm
  · exact (Nat.min_eq_right h).symm
theorem one_src {w : World} {vb : Nat} {f : F} {t : TypeId} (h : Blk w vb (fC f) t) : ∀ j v, (([f].map fL).flatten)[j]? = some v → w.cell? ((⟨vb, 0, none⟩ : Addr).add j) = some v := fun j v hj => by
  rw [Addr.add_mid, Nat.zero_add, h.cell]
  simpa using hj
theorem ins_list (l : List F) (f : F) (i : Nat) (hi : i < l.length) : (l.take (i + 1) ++ l.drop i ++ l.drop (i + 1 + (l.drop i).length)).take i ++ [f] ++ (l.take (i + 1) ++ l.drop i ++ l.drop (i + 1 + (l.drop i).length)).drop (i + 1) = l.take i ++ f :: l.drop i := by
  have e1 : l.drop (i + 1 + (l.drop i).length) = [] := List.drop_eq_nil_of_le (by simp; omega)
  have e2 : (l.take (i + 1)).length = i + 1 := by simp; omega
  rw [e1, List.append_nil, List.take_append_of_le_length (by omega), List.take_take, Nat.min_eq_left (by omega), List.drop_left' e2]
  simp
set_option maxRecDepth 100000 in
set_option maxHeartbeats 1000000 in
theorem insert_end (l : List F) (f : F) (a : Option Addr) (cap vb : Nat) (w : World) (hL : FL w (.slice a l.length cap) l) (hv : Blk w vb (fC f) 93) (hl : l.length ≤ 1000000) :
    Calls Tryz.prog 102 #[.slice a l.length cap, .int .i64 (l.length : Nat), .slice (some ⟨vb, 0, none⟩) 1 1] w (SlP w (slBlk (.slice a l.length cap)) (l ++ [f])) := by
  obtain ⟨ii, hi, hz, hs, hby⟩ := infoFile
  obtain ⟨w1, sl1, hr, hg, hG, hn⟩ := run_appendGL (P := Tryz.prog) (w := w) 59 59 93 6 0 (.slice a l.length cap) (l.map fL) (Nat.zero_le _) hL vb 1 (fL f) rfl (fun u hu => Array.all_eq_true_iff_forall_mem.1 (fC_one f) u (by simpa using hu)) 93 (by simpa using hv) ii _ rfl Tryz.underlying59 hi hz hs hby (by simpa using hl)
  have hcap : l.length ≤ cap := by
    obtain ⟨a', cap', e, h⟩ := hL.sl
    simp only [Value.slice.injEq] at e
    omega
  have hP : SlP w (slBlk (.slice a l.length cap)) (l ++ [f]) (.returned sl1) w1 := ⟨sl1, rfl, hg, by unfold FL; simpa using hG, hn⟩
  have HP : Hid (SlP w (slBlk (.slice a l.length cap)) (l ++ [f]) (.returned sl1) w1) := hP
  clear hP hG hg hn hL hv
  generalize SlP w (slBlk (.slice a l.length cap)) (l ++ [f]) = R at *
  go_enter Tryz.func102, Tryz.ntmps102
  go_wp2_with (with_reducible refine at_list ?_; refine wpList_run (op := ⟨some 25, _, _, _, _, _⟩) rfl _ _ (wp_append _ _ _ _ rfl _ _ rfl rfl hr) ?_)
  all_goals exact HP.out
set_option maxRecDepth 100000 in
set_option maxHeartbeats 2000000 in
theorem insert_room (l : List F) (f : F) (g cap vb i : Nat) (w : World) (hS : GS w 93 6 g cap (l.map fL)) (hv : Blk w vb (fC f) 93) (hvg : vb ≠ g) (hi : i < l.length) (hroom : l.length + 1 ≤ cap) (hl : l.length ≤ 1000000) :
    Calls Tryz.prog 102 #[.slice (some ⟨g, 0, none⟩) l.length cap, .int .i64 (i : Nat), .slice (some ⟨vb, 0, none⟩) 1 1] w (SlP w (some g) (l.take i ++ f :: l.drop i)) := by
  obtain ⟨cur, hcur, hcx, hcs, hcy⟩ := hS.out
  have hcsz : 0 < cur.size := by omega
  have hov : ∀ o lb cb, (callFunc 125 #[.slice (some ⟨vb, 0, none⟩) 1 1, .slice (some ⟨g, o, none⟩) lb cb]).run Tryz.prog w = .ok (.value (.bool false)) w := fun o lb cb => by
    rw [run_callFunc_extern Tryz.func125 (by kernel_rfl) (by kernel_rfl) (by kernel_rfl) (e := Extern.SlicesOverlaps.overlaps #[59, 59] #[4]) (by kernel_rfl),
      Lib.run_overlaps_apart w 59 4 93 Tryz.underlying59 6 (fun w => sizeOf_run zFile.2) ⟨vb, 0, none⟩ ⟨g, o, none⟩ 1 1 lb cb hvg 93 93 6 cur.size (by simp [World.shape?, hv.out, fC_size]) (by simp [World.shape?, hcur]) (by omega) (hv.frozen 0) (hv.frozen 6)]
    rfl
  have hsrc1 : ∀ j v, (((l.drop i).map fL).flatten)[j]? = some v → w.drew.cell? ((⟨g, i * 6, none⟩ : Addr).add j) = some v := fun j v hj => by
    rw [Addr.add_mid]
    refine hS.cell _ _ ?_
    rw [List.map_drop, ← flat_drop i (fL_all l), List.getElem?_drop] at hj
    exact hj
  have hS1 : GS w.drew 93 6 g cap (l.map fL) := hS.grown (row := none) (grown_of_below ((Below.refl w.heap.size w).drew)) (fun e => nomatch e)
  have hgw := hS.lt
  have hz1 : ¬ ((i : Int) = (l.length : Int)) := by omega
  have hz2 : ¬ ((cap : Int) < (l.length : Int) + 1) := by omega
  have hz3 : (i : Int) ≤ (l.length : Int) := by omega
  have hz4 : i ≤ l.length := by omega
  have hz5 : ¬ cap = i := by omega
  have hz6 : ¬ cap = i + 1 := by omega
  have hz7 : (i : Int) + 1 ≤ (l.length : Int) + 1 := by omega
  have hz8 : (i : Int) ≤ (l.length : Int) + 1 := by omega
  have hz9 : (l.length : Int) + 1 ≤ (cap : Int) := by omega
  have hw1 : IntKind.i64.wrap ((i : Int) + 1) = (i : Int) + 1 := by rw [IntKind.wrap_i64]; omega
  have hb1 : (0 : Int) ≤ (i : Int) + 1 := by omega
  have htn : ((i : Int) + 1).toNat = i + 1 := by omega
  clear hcur hcs hcsz hS hcx hcy
  go_enter Tryz.func102, Tryz.ntmps102
  go_wp2_with (simp only [hov])
  go_region_law (refine step_cpF rfl (.tmp 73) (.tmp 76) rfl g cap (i + 1) (l.length + 1 - (i + 1)) (cap - (i + 1)) l (l.drop i) (by simp [Act.eval, Act.put]) ⟨g, i * 6, none⟩ (l.length + 1 - i) (cap - i) (by simp [Act.eval, Act.put]) (min_eq_of (.inr (by rw [List.length_drop]; omega))) hsrc1 hS1 (by omega) (by rw [List.length_drop]; omega) ?_; intro w1 v1 hg1 hS2)
  have hv1 : Blk w1 vb (fC f) 93 := hv.drew.grown hg1 (fun e => hvg (Option.some.inj e))
  have hl2 : i ≤ (l.take (i + 1) ++ l.drop i ++ l.drop (i + 1 + (l.drop i).length)).length := by simp; omega
  have hgd : w.grownBy w1 (some g) := grown_trans (grown_of_below ((Below.refl w.heap.size w).drew)) hg1
  have HE := ins_list l f i hi
  have HE2 : Hid ((l.take (i + 1) ++ l.drop i ++ l.drop (i + 1 + (l.drop i).length)).take i ++ [f] ++ (l.take (i + 1) ++ l.drop i ++ l.drop (i + 1 + (l.drop i).length)).drop (i + 1) = l.take i ++ f :: l.drop i) := HE
  clear HE hsrc1 hS1
  generalize (l.take (i + 1) ++ l.drop i ++ l.drop (i + 1 + (l.drop i).length)) = l2 at *
  go_wp2_with (with_reducible refine at_list ?_; refine wpList_cpF (op := ⟨some 82, _, _, _, _, _⟩) rfl (.tmp 80) (.tmp 81) rfl g cap i (l.length + 1 - i) (cap - i) l2 [f] rfl ⟨vb, 0, none⟩ 1 1 rfl (min_eq_of (.inl ⟨rfl, by omega⟩)) (one_src hv1) hS2 hl2 (by simp; omega) ?_; intro w2 v2 hg2 hS3)
  go_ret
  refine ⟨_, rfl, grown_trans hgd hg2, ?_, fun r e => .inl e⟩
  have hS4 : GS w2 93 6 g cap ((l2.take i ++ [f] ++ l2.drop (i + 1)).map fL) := hS3
  rw [HE2.out] at hS4
  refine ⟨fL_all _, .inr ⟨g, cap, Nat.zero_le _, ?_, hS4⟩⟩
  simp
  omega
theorem grow_list (l : List F) (f : F) (i : Nat) (hi : i < l.length) : ((l.take i).take i ++ [f] ++ (l.take i).drop (i + 1)).take (i + 1) ++ l.drop i ++ ((l.take i).take i ++ [f] ++ (l.take i).drop (i + 1)).drop (i + 1 + (l.drop i).length) = l.take i ++ f :: l.drop i := by
  have e1 : (l.take i).drop (i + 1) = [] := List.drop_eq_nil_of_le (by simp; omega)
  have e2 : ((l.take i) ++ [f]).length = i + 1 := by simp; omega
  have e3 : (l.take i ++ [f]).drop (i + 1 + (l.drop i).length) = [] := List.drop_eq_nil_of_le (by omega)
  rw [e1, List.append_nil, List.take_take, Nat.min_self, List.take_of_length_le (l := l.take i ++ [f]) (by omega), e3]
  simp
set_option maxRecDepth 100000 in
set_option maxHeartbeats 2000000 in
theorem insert_grow (l : List F) (f : F) (g cap vb i : Nat) (w : World) (hS : GS w 93 6 g cap (l.map fL)) (hv : Blk w vb (fC f) 93) (hi : i < l.length) (hroom : cap < l.length + 1) (hl : l.length ≤ 1000000) :
    Calls Tryz.prog 102 #[.slice (some ⟨g, 0, none⟩) l.length cap, .int .i64 (i : Nat), .slice (some ⟨vb, 0, none⟩) 1 1] w (SlP w (some g) (l.take i ++ f :: l.drop i)) := by
  have hcap : l.length ≤ cap := by simpa using hS.out.choose_spec.2.1
  obtain ⟨ii, hti, hz, hs, hby⟩ := infoFile
  have hik : i + (l.length + 1 - i) = l.length + 1 := by omega
  have hold : (Builtin.firstCells ii.size i (.slice (some ⟨g, 0, none⟩) i cap)).run Tryz.prog w.drew = .ok (((l.take i).map fL).flatten).toArray w.drew := by
    rw [hs]
    exact run_firstCells_some w.drew 6 i ⟨g, 0, none⟩ i cap _ (by rw [fLlen]; simp; omega) (fun j v hj => by
      rw [Addr.add_mid, Nat.zero_add]
      refine hS.cell _ _ ?_
      rw [List.map_take, ← flat_take i (fL_all l), List.getElem?_take] at hj
      split at hj
      · exact hj
      · cases hj)
  have hr0 := fun ty => Lib.run_append_grow_zeros (P := Tryz.prog) w 59 3 ty 93 ii _ .i64 .i64 Tryz.underlying59 Tryz.underlying3 hti hz (some ⟨g, 0, none⟩) i cap _ hold (l.length + 1 - i) (by omega) (by omega) (by omega) (by omega) (Nat.le_trans (Nat.mul_le_mul (show l.length + 1 - i ≤ 1000001 by omega) hby) (by decide)) (by rw [hik]; exact growslice_fits (by omega) (Nat.le_trans (Nat.mul_le_mul (show l.length + 1 ≤ 1000001 by omega) hby) (by decide)))
  rw [hik] at hr0
  have hge : l.length + 1 ≤ grownCap w (l.length + 1) cap 93 := grownCap_ge w _ _ _
  have hgm : grownCap w (l.length + 1) cap 93 ≤ 9223372036854775807 := by
    have := grownCap_le_maxLen w (l.length + 1) cap 93 (by unfold maxLen; omega)
    unfold maxLen at this
    omega
  generalize grownCap w (l.length + 1) cap 93 = G at *
  have hN : Blk (w.drew.alloc (.cells (((((l.take i).map fL).flatten).toArray ++ Builtin.zeroCells (Value.agg (fC ⟨[], none, none, 0⟩)).cells (l.length + 1 - i)) ++ Builtin.zeroCells (Value.agg (fC ⟨[], none, none, 0⟩)).cells (G - (l.length + 1))) 93)) w.heap.size _ 93 := Blk.new w.drew _ _
  obtain ⟨W1, hW1⟩ : ∃ W1, W1 = w.drew.alloc (.cells (((((l.take i).map fL).flatten).toArray ++ Builtin.zeroCells (Value.agg (fC ⟨[], none, none, 0⟩)).cells (l.length + 1 - i)) ++ Builtin.zeroCells (Value.agg (fC ⟨[], none, none, 0⟩)).cells (G - (l.length + 1))) 93) := ⟨_, rfl⟩
  have hB1 : Below w.heap.size w W1 := by rw [hW1]; exact (Below.refl _ w).drew.alloc (Nat.le_refl _) _
  rw [← hW1] at hN hr0
  have hS1 : GS W1 93 6 w.heap.size G ((l.take i).map fL) := by
    refine ⟨_, hN.out, by simp; omega, ?_, fun j v hj => ?_⟩
    · have hc : (Value.agg (fC ⟨[], none, none, 0⟩)).cells.size = 6 := rfl
      simp only [Array.size_append, List.size_toArray, fLlen, size_zeroCells, hc, List.length_take]
      omega
    · have hjl := (List.getElem?_eq_some_iff.1 hj).1
      rw [Array.getElem?_append_left (by rw [Array.size_append, List.size_toArray]; omega), Array.getElem?_append_left (by simpa using hjl)]
      simpa using hj
  clear hW1 hN hold hz hti hs hby
  have hv1 : Blk W1 vb (fC f) 93 := hv.belowSize hB1
  have hgw := hS.lt
  have hvw := hv.lt
  have hS1l : i ≤ (l.take i).length := by simp; omega
  have HEx := grow_list l f i hi
  have HE : Hid (((l.take i).take i ++ [f] ++ (l.take i).drop (i + 1)).take (i + 1) ++ l.drop i ++ ((l.take i).take i ++ [f] ++ (l.take i).drop (i + 1)).drop (i + 1 + (l.drop i).length) = l.take i ++ f :: l.drop i) := HEx
  have hl2 : i + 1 ≤ ((l.take i).take i ++ [f] ++ (l.take i).drop (i + 1)).length := by simp; omega
  clear HEx
  have hz1 : ¬ ((i : Int) = (l.length : Int)) := by omega
  have hz2 : (cap : Int) < (l.length : Int) + 1 := by omega
  have hz3 : (i : Int) ≤ (l.length : Int) := by omega
  have hz4 : i ≤ l.length := by omega
  have hz5 : ¬ cap = i := by omega
  have hz6 : ¬ G = i := by omega
  have hz7 : ¬ G = i + 1 := by omega
  have hz8 : (i : Int) ≤ (l.length : Int) + 1 := by omega
  have hz9 : (i : Int) + 1 ≤ (l.length : Int) + 1 := by omega
  have hza : (i : Int) ≤ (cap : Int) := by omega
  have hw1 : IntKind.i64.wrap ((i : Int) + 1) = (i : Int) + 1 := by rw [IntKind.wrap_i64]; omega
  have hb1 : (0 : Int) ≤ (i : Int) + 1 := by omega
  have htn : ((i : Int) + 1).toNat = i + 1 := by omega
  have hkk : (l.length : Int) + 1 - (i : Int) = ((l.length + 1 - i : Nat) : Int) := by omega
  go_enter Tryz.func102, Tryz.ntmps102
  go_wp2_with (with_reducible refine at_list ?_; first
    | (refine wpList_run (op := ⟨some 40, _, _, _, _, _⟩) rfl _ _ (wp_append _ _ _ _ rfl _ (.int .i64 ((l.length + 1 - i : Nat) : Int)) rfl rfl (hr0 _)) ?_)
    | (refine wpList_cpF (op := ⟨some 45, _, _, _, _, _⟩) rfl (.tmp 43) (.tmp 44) rfl w.heap.size G i (l.length + 1 - i) (G - i) (l.take i) [f] rfl ⟨vb, 0, none⟩ 1 1 rfl (min_eq_of (.inl ⟨rfl, by omega⟩)) (one_src hv1) hS1 hS1l (by simp; omega) ?_; intro w2 v2 hg2 hS3))
  have hsrc2 : ∀ j v, (((l.drop i).map fL).flatten)[j]? = some v → w2.drew.cell? ((⟨g, i * 6, none⟩ : Addr).add j) = some v := fun j v hj => by
    rw [Addr.add_mid]
    have hG2 : GS w2 93 6 g cap (l.map fL) := (hS.grown (row := none) (grown_of_below hB1) (fun e => nomatch e)).grown hg2 (by simp; omega)
    refine hG2.cell _ _ ?_
    rw [List.map_drop, ← flat_drop i (fL_all l), List.getElem?_drop] at hj
    exact hj
  have hS4 : GS w2.drew 93 6 w.heap.size G (((l.take i).take i ++ [f] ++ (l.take i).drop (i + 1)).map fL) := GS.grown (w := w2) hS3 (row := none) (grown_of_below ((Below.refl w2.heap.size w2).drew)) (fun e => nomatch e)
  have hB2 : Below w.heap.size w w2 := hB1.trans (below_of_grown hg2 (Nat.le_refl _) hB1.size)
  clear hS3
  generalize ((l.take i).take i ++ [f] ++ (l.take i).drop (i + 1)) = l2 at *
  go_region_law (refine step_cpF rfl (.tmp 50) (.tmp 53) rfl w.heap.size G (i + 1) (l.length + 1 - (i + 1)) (G - (i + 1)) l2 (l.drop i) (by simp [Act.eval, Act.put]) ⟨g, i * 6, none⟩ (l.length - i) (cap - i) (by simp [Act.eval, Act.put]) (min_eq_of (.inl (by rw [List.length_drop]; omega))) hsrc2 hS4 hl2 (by rw [List.length_drop]; omega) ?_; intro w3 v3 hg3 hS5)
  go_wp2_with fail
  go_ret
  rw [HE.out] at hS5
  have hB3 : Below w.heap.size w w3 := hB2.drew.trans (below_of_grown hg3 (Nat.le_refl _) (by simpa using hB2.size))
  refine ⟨_, rfl, grown_of_below hB3, ?_, fun r e => .inr (Nat.le_of_eq (Option.some.inj e))⟩
  refine ⟨fL_all _, .inr ⟨w.heap.size, G, Nat.zero_le _, ?_, hS5⟩⟩
  simp
  omega
/-- slices.Insert of one file. -/
theorem insert_any (l : List F) (f : F) (a : Option Addr) (cap vb i : Nat) (w : World) (hL : FL w (.slice a l.length cap) l) (hv : Blk w vb (fC f) 93) (hvb : slBlk (.slice a l.length cap) ≠ some vb) (hi : i ≤ l.length) (hl : l.length ≤ 1000000) :
    Calls Tryz.prog 102 #[.slice a l.length cap, .int .i64 (i : Nat), .slice (some ⟨vb, 0, none⟩) 1 1] w (SlP w (slBlk (.slice a l.length cap)) (l.take i ++ f :: l.drop i)) := by
  by_cases he : i = l.length
  · subst he
    rw [List.take_of_length_le (Nat.le_refl _), List.drop_eq_nil_of_le (Nat.le_refl _)]
    exact insert_end l f a cap vb w hL hv hl
  · obtain ⟨f0, hf0⟩ : ∃ f0, l[0]? = some f0 := ⟨_, List.getElem?_eq_getElem (by omega)⟩
    obtain ⟨g, rfl, hS, _⟩ := hL.at 0 f0 hf0
    by_cases hc : l.length + 1 ≤ cap
    · exact insert_room l f g cap vb i w hS hv (fun e => hvb (by rw [e]; rfl)) (by omega) hc hl
    · exact insert_grow l f g cap vb i w hS hv (by omega) (by omega) hl
end Go.Proofs.YtaiiojbakmminaaGreatDoor
namespace Go.Proofs.YtaiiojbakmminaaGreatDoor
open Go Go.RowKit
section
variable {ops : Array Oper} {rest : List Oper} {op : Oper} {a : Act} {w : World} {Q : Exit → Act → World → Prop} {K : Act → World → Prop} {E : Prop}
/-- What stands behind is put to the left. -/
theorem step_left (hgd : op.guard = none) (x y : Operand) (ho : op.op = .call { callee := .builtin .append, args := #[x, y], argTypes := #[59, 59] }) (g cap i j dc : Nat) (l : List F) (hx : a.eval x = .slice (some ⟨g, 0, none⟩) i cap)
    (ad : Addr) (hy : a.eval y = .slice (some ad) (l.length - j) dc) (had : j < l.length → ad = ⟨g, j * 6, none⟩) (hS : GS w 93 6 g cap (l.map fL)) (hij : i ≤ j) (hj : j ≤ l.length)
    (h : ∀ w1, w.grownBy w1 (some g) → GS w1 93 6 g cap ((l.take i ++ l.drop j ++ l.drop (i + (l.drop j).length)).map fL) → K (a.put op.dst (.slice (some ⟨g, 0, none⟩) (i + (l.length - j)) cap)) w1) :
    if Region.wanted op (yielded ops a.tmps) = true then Oper.wp Tryz.prog op a w K Q else E := by
  obtain ⟨ii, hti, hz, hs, hby⟩ := infoFile
  have hcap : l.length ≤ cap := by simpa using hS.out.choose_spec.2.1
  have hdl : (l.drop j).length = l.length - j := List.length_drop
  have hsrc : Src Tryz.prog ii.size 59 (.slice (some ad) (l.length - j) dc) (l.length - j) (((l.drop j).map fL).flatten) w :=
    Src.ofSlice w Tryz.underlying59 ad _ dc _ (by rw [hs, fLlen, hdl]) (fun q u hq => by
      have hql := (List.getElem?_eq_some_iff.1 hq).1
      rw [fLlen, hdl] at hql
      rw [had (by omega), Addr.add_mid]
      refine hS.cell _ _ ?_
      rw [List.map_drop, ← flat_drop j (fL_all l), List.getElem?_drop] at hq
      exact hq) (fun u hu => fL1 _ u hu)
  have hth := hS.there (i * 6) ((((l.drop j).map fL).flatten).length) (by rw [fLlen, hdl]; omega)
  have hr := run_append_room_src (P := Tryz.prog) w 59 59 op.type 93 ii Tryz.underlying59 hti g 0 i cap _ (l.length - j) _ hsrc (by omega)
    (fun q hq => by rw [hs, Nat.zero_add]; exact (hth q hq).1) (fun q hq => by rw [hs, Nat.zero_add]; exact (hth q hq).2)
  rw [hs, Nat.zero_add] at hr
  refine step_run hgd (wp_append x y _ _ ho _ _ hx hy hr) (h _ (grown_setCells _ _ _ _) ?_)
  have := hS.put (fL_all l) i ((l.drop j).map fL) (fL_all _) (by simp; omega) (by simp; omega)
  rw [List.length_map] at this
  simpa [List.map_take, List.map_drop] using this
/-- The last ones are made zero. -/
theorem wpList_clr (hgd : op.guard = none) (x : Operand) (ho : op.op = .call { callee := .builtin .clear, args := #[x], argTypes := #[59] }) (g cap i n dc : Nat) (l : List F) (ad : Addr) (hx : a.eval x = .slice (some ad) n dc) (had : 0 < n → ad = ⟨g, i * 6, none⟩)
    (hS : GS w 93 6 g cap (l.map fL)) (hi : i + n ≤ l.length)
    (h : ∀ w1 v, w.grownBy w1 (some g) → GS w1 93 6 g cap ((l.take i).map fL) → wpList Tryz.prog ops Q rest (a.put op.dst v) w1) : wpList Tryz.prog ops Q (op :: rest) a w := by
  have hcap : l.length ≤ cap := by simpa using hS.out.choose_spec.2.1
  by_cases h0 : 0 < n
  · obtain rfl := had h0
    have hr := run_clearK (P := Tryz.prog) w 59 93 op.type (fC ⟨[], none, none, 0⟩) Tryz.underlying59 zFile.1 (fC_one _) g (i * 6) n dc (hS.there _ _ (by rw [fC_size]; omega))
    refine wpList_run hgd _ _ (wp_clear x _ ho _ hx hr) (h _ _ (grown_setCells _ _ _ _) ?_)
    have := hS.put (fL_all l) i (List.replicate n (fL ⟨[], none, none, 0⟩)) (fun z hz => by rw [(List.mem_replicate.1 hz).2]; rfl) (by simp; omega) (by simp; omega)
    refine GS.first this ((l.take i).map fL) ⟨List.replicate n (fL ⟨[], none, none, 0⟩) ++ (l.map fL).drop (i + (List.replicate n (fL ⟨[], none, none, 0⟩)).length), ?_⟩
    rw [List.map_take, List.append_assoc]
  · obtain rfl : n = 0 := by omega
    have hr : (Builtin.clear_ #[59] op.type #[.slice (some ad) 0 dc]).run Tryz.prog w = .ok (.tuple #[]) w := by
      simp [Builtin.clear_, run_underlying Tryz.underlying59]
    refine wpList_run hgd _ _ (wp_clear x _ ho _ hx hr) (h _ _ (grown_refl _ _) (hS.first _ ⟨(l.map fL).drop i, ?_⟩))
    rw [List.map_take, List.take_append_drop]
end
theorem del_list (l : List F) (i : Nat) (hi : i < l.length) : (l.take i ++ l.drop (i + 1) ++ l.drop (i + (l.drop (i + 1)).length)).take (i + (l.length - (i + 1))) = l.take i ++ l.drop (i + 1) := by
  have e : (l.take i ++ l.drop (i + 1)).length = i + (l.length - (i + 1)) := by simp; omega
  rw [List.take_left' e]
set_option maxRecDepth 100000 in
set_option maxHeartbeats 2000000 in
theorem delete_any (l : List F) (g cap i : Nat) (w : World) (hS : GS w 93 6 g cap (l.map fL)) (hi : i < l.length) (hl : l.length ≤ 1000000) :
    Calls Tryz.prog 103 #[.slice (some ⟨g, 0, none⟩) l.length cap, .int .i64 (i : Nat), .int .i64 ((i + 1 : Nat) : Int)] w (SlP w (some g) (l.take i ++ l.drop (i + 1))) := by
  have hcap : l.length ≤ cap := by simpa using hS.out.choose_spec.2.1
  have hS1 : GS w.drew 93 6 g cap (l.map fL) := hS.grown (row := none) (grown_of_below ((Below.refl w.heap.size w).drew)) (fun e => nomatch e)
  have HE : Hid _ := del_list l i hi
  have hl2 : i + (l.length - (i + 1)) + (l.length - (i + (l.length - (i + 1)))) ≤ (l.take i ++ l.drop (i + 1) ++ l.drop (i + (l.drop (i + 1)).length)).length := by simp; omega
  obtain ⟨A, hA, hA2⟩ : ∃ A : Addr, (if cap = i + 1 then some (⟨g, 0, none⟩ : Addr) else some ⟨g, (i + 1) * 6, none⟩) = some A ∧ Hid (i + 1 < l.length → A = ⟨g, (i + 1) * 6, none⟩) := by
    by_cases h : cap = i + 1
    · exact ⟨_, by rw [if_pos h], fun h2 => by omega⟩
    · exact ⟨_, by rw [if_neg h], fun h2 => rfl⟩
  have hz1 : ¬ ((i : Int) = ((i + 1 : Nat) : Int)) := by omega
  have hz2 : (i : Int) ≤ (l.length : Int) := by omega
  have hz3 : ((i + 1 : Nat) : Int) ≤ (l.length : Int) := by omega
  have hz4 : (l.length : Int) ≤ (cap : Int) := by omega
  have hz5 : (i : Int) ≤ ((i + 1 : Nat) : Int) := by omega
  have hz6 : (i : Int) + 1 ≤ (l.length : Int) := by omega
  have hz7 : (i : Int) ≤ (cap : Int) := by omega
  have hz8 : i + 1 ≤ l.length := by omega
  have hz9 : ¬ ((i : Int) = (i : Int) + 1) := by omega
  have hza : (i : Int) ≤ (i : Int) + 1 := by omega
  have hzb : (0 : Int) ≤ (i : Int) + 1 := by omega
  have hzc : ((i : Int) + 1).toNat = i + 1 := by omega
  go_enter Tryz.func103, Tryz.ntmps103
  go_wp2_with fail
  go_region_law (refine step_left rfl (.tmp 22) (.tmp 25) rfl g cap i (i + 1) (cap - (i + 1)) l (by simp [Act.eval, Act.put]) A (by simp [Act.eval, Act.put]) hA2.out hS1 (by omega) (by omega) ?_; intro w1 hg1 hS2)
  have hgd : w.grownBy w1 (some g) := grown_trans (grown_of_below ((Below.refl w.heap.size w).drew)) hg1
  obtain ⟨k, hk⟩ : ∃ k, k = i + (l.length - (i + 1)) := ⟨_, rfl⟩
  rw [← hk] at hl2 HE ⊢
  have hy1 : ¬ cap = k := by omega
  have hy2 : (k : Int) ≤ (l.length : Int) := by omega
  have hy3 : k + 1 = l.length := by omega
  have hlk : Hid ((l.take i ++ l.drop (i + 1)).length = k) := by
    show _ = _
    rw [hk]
    simp
    omega
  generalize (l.take i ++ l.drop (i + 1) ++ l.drop (i + (l.drop (i + 1)).length)) = l2 at *
  clear hk
  go_wp2_with (with_reducible refine at_list ?_; refine wpList_clr (op := ⟨none, _, _, _, _, _⟩) rfl (.tmp 31) rfl g cap k (l.length - k) (cap - k) l2 ⟨g, k * 6, none⟩ rfl (fun _ => rfl) hS2 hl2 ?_; intro w2 v2 hg2 hS3)
  go_ret
  rw [HE.out] at hS3
  refine ⟨_, rfl, grown_trans hgd hg2, ⟨fL_all _, .inr ⟨g, cap, Nat.zero_le _, ?_, hS3⟩⟩, fun r e => .inl e⟩
  rw [List.length_map, hlk.out]
  rfl
end Go.Proofs.YtaiiojbakmminaaGreatDoor
