/- What slices.Delete of one file does. -/
import Derived.Test.YtaiiojbakmminaaGreatDoorKIns
namespace Go.Proofs.YtaiiojbakmminaaGreatDoor
open Go Go.RowKit
section
variable {ops : Array Oper} {rest : List Oper} {op : Oper} {a : Act} {w : World} {Q : Exit → Act → World → Prop} {K : Act → World → Prop} {E : Prop}
/-- What stands behind is put to the left. -/
theorem step_left (hgd : op.guard = none) (x y : Operand) (ho : op.op = .call { callee := .builtin .append, args := #[x, y], argTypes := #[59, 59] }) (g cap i j dc : Nat) (l : List F) (hx : a.eval x = .slice (some ⟨g, 0, none⟩) i cap)
    (ad : Addr) (hy : a.eval y = .slice (some ad) (l.length - j) dc) (had : j < l.length → ad = ⟨g, j * 6, none⟩) (hS : GS w 93 6 g cap (l.map fL)) (hij : i ≤ j) (hj : j ≤ l.length)
    (h : ∀ w1, w.grownBy w1 (some g) → GS w1 93 6 g cap ((l.take i ++ l.drop j ++ l.drop (i + (l.drop j).length)).map fL) → K (a.put op.dst (.slice (some ⟨g, 0, none⟩) (i + (l.length - j)) cap)) w1) :
    if Region.wanted op (yielded ops a.tmps) = true then Oper.wp Tryz.prog op a w K Q else E := by
  obtain ⟨ii, hti, hz, hs, hby⟩ := infoFile
  have hcap : l.length ≤ cap := by simpa using hS.out.choose_spec.2.1
  have hdl : (l.drop j).length = l.length - j := List.length_drop
  have hsrc : Src Tryz.prog ii.size 59 (.slice (some ad) (l.length - j) dc) (l.length - j) (((l.drop j).map fL).flatten) w :=
    Src.ofSlice w Tryz.underlying59 ad _ dc _ (by rw [hs, fLlen, hdl]) (fun q u hq => by
      have hql := (List.getElem?_eq_some_iff.1 hq).1
      rw [fLlen, hdl] at hql
      rw [had (by omega), Addr.add_mid]
      refine hS.cell _ _ ?_
      rw [List.map_drop, ← flat_drop j (fL_all l), List.getElem?_drop] at hq
      exact hq) (fun u hu => fL1 _ u hu)
  have hth := hS.there (i * 6) ((((l.drop j).map fL).flatten).length) (by rw [fLlen, hdl]; omega)
  have hr := run_append_room_src (P := Tryz.prog) w 59 59 op.type 93 ii Tryz.underlying59 hti g 0 i cap _ (l.length - j) _ hsrc (by omega)
    (fun q hq => by rw [hs, Nat.zero_add]; exact (hth q hq).1) (fun q hq => by rw [hs, Nat.zero_add]; exact (hth q hq).2)
  rw [hs, Nat.zero_add] at hr
  refine step_run hgd (wp_append x y _ _ ho _ _ hx hy hr) (h _ (grown_setCells _ _ _ _) ?_)
  have := hS.put (fL_all l) i ((l.drop j).map fL) (fL_all _) (by simp; omega) (by simp; omega)
  rw [List.length_map] at this
  simpa [List.map_take, List.map_drop] using this
/-- The last ones are made zero. -/
theorem wpList_clr (hgd : op.guard = none) (x : Operand) (ho : op.op = .call { callee := .builtin .clear, args := #[x], argTypes := #[59] }) (g cap i n dc : Nat) (l : List F) (ad : Addr) (hx : a.eval x = .slice (some ad) n dc) (had : 0 < n → ad = ⟨g, i * 6, none⟩)
    (hS : GS w 93 6 g cap (l.map fL)) (hi : i + n ≤ l.length)
    (h : ∀ w1 v, w.grownBy w1 (some g) → GS w1 93 6 g cap ((l.take i).map fL) → wpList Tryz.prog ops Q rest (a.put op.dst v) w1) : wpList Tryz.prog ops Q (op :: rest) a w := by
  have hcap : l.length ≤ cap := by simpa using hS.out.choose_spec.2.1
  by_cases h0 : 0 < n
  · obtain rfl := had h0
    have hr := run_clearK (P := Tryz.prog) w 59 93 op.type (fC ⟨[], none, none, 0⟩) Tryz.underlying59 zFile.1 (fC_one _) g (i * 6) n dc (hS.there _ _ (by rw [fC_size]; omega))
    refine wpList_run hgd _ _ (wp_clear x _ ho _ hx hr) (h _ _ (grown_setCells _ _ _ _) ?_)
    have := hS.put (fL_all l) i (List.replicate n (fL ⟨[], none, none, 0⟩)) (fun z hz => by rw [(List.mem_replicate.1 hz).2]; rfl) (by simp; omega) (by simp; omega)
    refine GS.first this ((l.take i).map fL) ⟨List.replicate n (fL ⟨[], none, none, 0⟩) ++ (l.map fL).drop (i + (List.replicate n (fL ⟨[], none, none, 0⟩)).length), ?_⟩
    rw [List.map_take, List.append_assoc]
  · obtain rfl : n = 0 := by omega
    have hr : (Builtin.clear_ #[59] op.type #[.slice (some ad) 0 dc]).run Tryz.prog w = .ok (.tuple #[]) w := by
      simp [Builtin.clear_, run_underlying Tryz.underlying59]
    refine wpList_run hgd _ _ (wp_clear x _ ho _ hx hr) (h _ _ (grown_refl _ _) (hS.first _ ⟨(l.map fL).drop i, ?_⟩))
    rw [List.map_take, List.take_append_drop]
end
theorem del_list (l : List F) (i : Nat) (hi : i < l.length) : (l.take i ++ l.drop (i + 1) ++ l.drop (i + (l.drop (i + 1)).length)).take (i + (l.length - (i + 1))) = l.take i ++ l.drop (i + 1) := by
  have e : (l.take i ++ l.drop (i + 1)).length = i + (l.length - (i + 1)) := by simp; omega
  rw [List.take_left' e]
set_option maxRecDepth 100000 in
set_option maxHeartbeats 2000000 in
theorem delete_any (l : List F) (g cap i : Nat) (w : World) (hS : GS w 93 6 g cap (l.map fL)) (hi : i < l.length) (hl : l.length ≤ 1000000) :
    Calls Tryz.prog 103 #[.slice (some ⟨g, 0, none⟩) l.length cap, .int .i64 (i : Nat), .int .i64 ((i + 1 : Nat) : Int)] w (SlP w (some g) (l.take i ++ l.drop (i + 1))) := by
  have hcap : l.length ≤ cap := by simpa using hS.out.choose_spec.2.1
  have hS1 : GS w.drew 93 6 g cap (l.map fL) := hS.grown (row := none) (grown_of_below ((Below.refl w.heap.size w).drew)) (fun e => nomatch e)
  have HE : Hid _ := del_list l i hi
  have hl2 : i + (l.length - (i + 1)) + (l.length - (i + (l.length - (i + 1)))) ≤ (l.take i ++ l.drop (i + 1) ++ l.drop (i + (l.drop (i + 1)).length)).length := by simp; omega
  obtain ⟨A, hA, hA2⟩ : ∃ A : Addr, (if cap = i + 1 then some (⟨g, 0, none⟩ : Addr) else some ⟨g, (i + 1) * 6, none⟩) = some A ∧ Hid (i + 1 < l.length → A = ⟨g, (i + 1) * 6, none⟩) := by
    by_cases h : cap = i + 1
    · exact ⟨_, by rw [if_pos h], fun h2 => by omega⟩
    · exact ⟨_, by rw [if_neg h], fun h2 => rfl⟩
  have hz1 : ¬ ((i : Int) = ((i + 1 : Nat) : Int)) := by omega
  have hz2 : (i : Int) ≤ (l.length : Int) := by omega
  have hz3 : ((i + 1 : Nat) : Int) ≤ (l.length : Int) := by omega
  have hz4 : (l.length : Int) ≤ (cap : Int) := by omega
  have hz5 : (i : Int) ≤ ((i + 1 : Nat) : Int) := by omega
  have hz6 : (i : Int) + 1 ≤ (l.length : Int) := by omega
  have hz7 : (i : Int) ≤ (cap : Int) := by omega
  have hz8 : i + 1 ≤ l.length := by omega
  have hz9 : ¬ ((i : Int) = (i : Int) + 1) := by omega
  have hza : (i : Int) ≤ (i : Int) + 1 := by omega
  have hzb : (0 : Int) ≤ (i : Int) + 1 := by omega
  have hzc : ((i : Int) + 1).toNat = i + 1 := by omega
  go_enter Tryz.func103, Tryz.ntmps103
  go_wp2_with fail
  go_region_law (refine step_left rfl (.tmp 22) (.tmp 25) rfl g cap i (i + 1) (cap - (i + 1)) l (by simp [Act.eval, Act.put]) A (by simp [Act.eval, Act.put]) hA2.out hS1 (by omega) (by omega) ?_; intro w1 hg1 hS2)
  have hgd : w.grownBy w1 (some g) := grown_trans (grown_of_below ((Below.refl w.heap.size w).drew)) hg1
  obtain ⟨k, hk⟩ : ∃ k, k = i + (l.length - (i + 1)) := ⟨_, rfl⟩
  rw [← hk] at hl2 HE ⊢
  have hy1 : ¬ cap = k := by omega
  have hy2 : (k : Int) ≤ (l.length : Int) := by omega
  have hy3 : k + 1 = l.length := by omega
  have hlk : Hid ((l.take i ++ l.drop (i + 1)).length = k) := by
    show _ = _
    rw [hk]
    simp
    omega
  generalize (l.take i ++ l.drop (i + 1) ++ l.drop (i + (l.drop (i + 1)).length)) = l2 at *
  clear hk
  go_wp2_with (with_reducible refine at_list ?_; refine wpList_clr (op := ⟨none, _, _, _, _, _⟩) rfl (.tmp 31) rfl g cap k (l.length - k) (cap - k) l2 ⟨g, k * 6, none⟩ rfl (fun _ => rfl) hS2 hl2 ?_; intro w2 v2 hg2 hS3)
  go_ret
  rw [HE.out] at hS3
  refine ⟨_, rfl, grown_trans hgd hg2, ⟨fL_all _, .inr ⟨g, cap, Nat.zero_le _, ?_, hS3⟩⟩, fun r e => .inl e⟩
  rw [List.length_map, hlk.out]
  rfl
end Go.Proofs.YtaiiojbakmminaaGreatDoor
