/- The plain disk in memory, and what the plain Size and strike do. -/
import Derived.Test.YtgkkpmliociieaaRfw
namespace Go.Proofs.Ytgkkpmliociieaa
open Go Go.RowKit
/-- The bytes of plain files. -/
def usedR (l : List RF) : Nat := (l.map (·.s.length)).sum
theorem usedR_take (l : List RF) (i : Nat) (f : RF) (h : l[i]? = some f) : usedR (l.take (i + 1)) = usedR (l.take i) + f.s.length := by
  obtain ⟨hi, rfl⟩ := List.getElem?_eq_some_iff.1 h
  unfold usedR
  rw [List.take_succ_eq_append_getElem hi, List.map_append, List.sum_append]
  simp
theorem usedR_le (l : List RF) (i : Nat) : usedR (l.take i) ≤ usedR l := by
  have e : usedR l = usedR (l.take i) + usedR (l.drop i) := by
    unfold usedR
    rw [← List.sum_append, ← List.map_append, List.take_append_drop]
  omega
set_option maxRecDepth 100000 in
set_option maxHeartbeats 1000000 in
theorem size_any (l : List RF) (sl : Value) (lo : Nat) (w : World) (hL : RL w lo sl l) (hl : l.length ≤ 1000000) (hu : usedR l ≤ 1000000000000) :
    Calls Try.prog 34 #[sl] w fun e w' => e = .returned (.int .i64 (usedR l : Nat)) ∧ w' = w := by
  obtain ⟨a, cap, rfl⟩ := hL.sl
  obtain ⟨R, hR⟩ : ∃ R, Hid (R = usedR l) := ⟨_, rfl⟩
  rw [← hR.out]
  rw [← hR.out] at hu
  go_enter Try.func34, Try.ntmps34
  go_wp2_with fail
  go_loopw [3, 4] (fun v3 v4 wl => ∃ i : Nat, i ≤ l.length ∧ v4 = .int .i64 i ∧ v3 = .int .i64 (usedR (l.take i) : Nat) ∧ wl = w) (fun _ v4 _ => l.length - (intOf v4).toNat)
  case atStart => exact ⟨0, by omega, rfl, rfl, rfl⟩
  case round =>
    obtain ⟨i, hil, rfl, rfl, hw⟩ := hrel
    have hw2 := hw.symm
    subst hw2
    clear hw
    by_cases hlt : i < l.length
    · have hz2 : (i : Int) < (l.length : Int) := by omega
      obtain ⟨f, hf⟩ : ∃ f, l[i]? = some f := ⟨_, List.getElem?_eq_getElem hlt⟩
      obtain ⟨g, rfl, hg, hgl, _⟩ := hL.at i f hf
      have c0 := rL_s hg
      have e3 : Hid _ := usedR_take l i f hf
      have e4 := usedR_le l (i + 1)
      rw [e3.out, ← hR.out] at e4
      clear hf hg
      have hw1 : IntKind.i64.wrap ((usedR (l.take i) : Int) + (f.s.length : Int)) = ((usedR (l.take i) + f.s.length : Nat) : Int) := by rw [IntKind.wrap_i64]; omega
      generalize usedR (l.take i) = u at *
      go_wp2_with fail
      go_roundw
      case rel => exact ⟨i + 1, by omega, by go_num, by simp [e3.out], trivial⟩
      case measure => simp [intOf]; omega
    · have hz2 : ¬ (i : Int) < (l.length : Int) := by omega
      have e1 : usedR (l.take i) = R := by rw [List.take_of_length_le (by omega), hR.out]
      rw [e1]
      go_wp2_with fail
      go_ret
      exact ⟨rfl, rfl⟩
/-- The plain disk. -/
structure RD where
  now : List RF
  sure : List RF
  room : Int
  ch : Nat
  off : Bool
def rdC (m : RD) (x y : Value) : Array Value := #[x, y, .int .i64 m.room, .slice none 0 0, .int .i64 m.ch, .bool m.off]
theorem rdC_size (m : RD) (x y : Value) : (rdC m x y).size = 6 := rfl
theorem rdC_one (m : RD) (x y : Value) (hx : x.oneCell' = true) (hy : y.oneCell' = true) : (rdC m x y).all (·.oneCell') = true := Array.all_eq_true_iff_forall_mem.2 fun v hv => by
  simp only [rdC, List.mem_toArray, List.mem_cons, List.not_mem_nil, or_false] at hv
  rcases hv with rfl | rfl | rfl | rfl | rfl | rfl <;> first | exact hx | exact hy | rfl
theorem rdC_g0 (m : RD) (x y : Value) : (rdC m x y)[0]? = some x := rfl
theorem rdC_g1 (m : RD) (x y : Value) : (rdC m x y)[1]? = some y := rfl
theorem rdC_g2 (m : RD) (x y : Value) : (rdC m x y)[2]? = some (.int .i64 m.room) := rfl
theorem rdC_g3 (m : RD) (x y : Value) : (rdC m x y)[3]? = some (.slice none 0 0) := rfl
theorem rdC_g4 (m : RD) (x y : Value) : (rdC m x y)[4]? = some (.int .i64 m.ch) := rfl
theorem rdC_g5 (m : RD) (x y : Value) : (rdC m x y)[5]? = some (.bool m.off) := rfl
theorem rdC_s0 (m : RD) (x y z : Value) (l : List RF) : (rdC m x y).setIfInBounds 0 z = rdC { m with now := l } z y := rfl
theorem rdC_s1 (m : RD) (x y z : Value) (l : List RF) : (rdC m x y).setIfInBounds 1 z = rdC { m with sure := l } x z := rfl
theorem rdC_s2 (m : RD) (x y : Value) (n : Int) : (rdC m x y).setIfInBounds 2 (.int .i64 n) = rdC { m with room := n } x y := rfl
theorem rdC_s4 (m : RD) (x y : Value) (n : Nat) : (rdC m x y).setIfInBounds 4 (.int .i64 n) = rdC { m with ch := n } x y := rfl
def rd0 : RD := ⟨[], [], 0, 0, false⟩
theorem zRd : (∀ w, (zeroValue 27).run Try.prog w = .ok (.agg (rdC rd0 (.slice none 0 0) (.slice none 0 0))) w) ∧ (Try.prog.info? 27).map (·.size) = some 6 := zero_of_info (by kernel_rfl)
theorem iRd (m : RD) (x y : Value) : (Try.prog.info? 27).map (·.size) = some (rdC m x y).size := zRd.2
/-- A value is the plain disk. -/
structure RK (w : World) (v : Value) (m : RD) (x y : Value) : Prop where
  eq : v = .agg (rdC m x y)
  now : RL w 0 x m.now
  sure : RL w 0 y m.sure
theorem RK.one {w : World} {v : Value} {m : RD} {x y : Value} (h : RK w v m x y) : (rdC m x y).all (·.oneCell') = true := rdC_one _ _ _ h.now.cells.2 h.sure.cells.2
theorem RK.below {w w' : World} {v : Value} {m : RD} {x y : Value} (h : RK w v m x y) (hb : Below w.heap.size w w') : RK w' v m x y := ⟨h.eq, h.now.below hb, h.sure.below hb⟩
set_option maxRecDepth 100000 in
set_option maxHeartbeats 1000000 in
theorem strike_any (m : RD) (x y v : Value) (w : World) (h : RK w v m x y) (hc : m.ch ≤ 1000000) :
    Calls Try.prog 54 #[v] w fun e w' => e = .returned (.tuple #[.agg (rdC { m with ch := m.ch + 1 } x y), .bool false]) ∧ Below w.heap.size w w' := by
  have h1 := h.one
  have hx1 := h.now.cells.2
  have hy1 := h.sure.cells.2
  have hz := rdC_one rd0 (.slice none 0 0) (.slice none 0 0) rfl rfl
  obtain ⟨rfl, _, _⟩ := h
  have h1b : (rdC { m with ch := m.ch + 1 } x y).all (·.oneCell') = true := rdC_one _ _ _ hx1 hy1
  have hw1 : IntKind.i64.wrap ((m.ch : Int) + 1) = ((m.ch + 1 : Nat) : Int) := by rw [IntKind.wrap_i64]; omega
  go_enter Try.func54, Try.ntmps54
  go_wp2_with (with_reducible refine at_list ?_; first
    | (refine wpList_boxRow (op := ⟨some 1, _, _, _, _, _⟩) rfl _ _ rfl _ rfl ?_; intro w1 hw1' hs1 h3; clear hs1)
    | (refine wpList_allocRow (op := ⟨some 2, _, _, _, _, _⟩) rfl _ rfl _ zRd.1 ?_; intro w2 hw2 hs2 h4; clear hs2; have hB2 := hw1'.trans (hw2.mono hw1'.size); have hlt := h3.lt; replace h3 := h3.belowSize hw2))
  go_loopw [4] (fun v4 wl => v4 = .int .i64 0 ∧ wl = w2) (fun _ _ => 0)
  case atStart => exact ⟨rfl, rfl⟩
  case round =>
    obtain ⟨rfl, hw⟩ := hrel
    have hw2' := hw.symm
    subst hw2'
    clear hw
    have hs1 := hw1'.size
    have c3 : w2.cell? ⟨w.heap.size, 3, none⟩ = some (.slice none 0 0) := (h3.cell 3).trans (rdC_g3 _ _ _)
    go_wp2_with (with_reducible refine at_list ?_; first
      | (refine wpList_loadCell (op := ⟨some 43, _, _, _, _, _⟩) rfl _ _ rfl w.heap.size 4 rfl _ _ h3 _ Try.underlying3 rfl _ (rdC_g4 _ _ _) ?_)
      | (refine wpList_storeCell (op := ⟨none, .store 3 (.tmp 45) (.tmp 44), _, _, _, _⟩) rfl _ _ _ rfl w.heap.size 4 rfl (.int .i64 ((m.ch + 1 : Nat) : Int)) rfl _ _ h3 iInt rfl rfl (by rw [rdC_size]; decide) ?_; intro w3 hg3 hs3 h5; rw [rdC_s4] at h5; replace h4 := h4.grown hg3 (by simp; omega))
      | (refine wpList_loadRow (op := ⟨some 46, _, _, _, _, _⟩) rfl _ _ rfl w.heap.size rfl _ _ h5 _ Try.underlying27 rfl (iRd _ _ _) ?_)
      | (refine wpList_storeRow (op := ⟨none, .store 27 (.tmp 2) (.tmp 46), _, _, _, _⟩) rfl _ _ _ rfl w1.heap.size (rdC { m with ch := m.ch + 1 } x y) rfl rfl _ _ h4 rfl (iRd _ _ _) h1b ?_; intro w4 hg4 hs4 h6; clear hs4))
    have hB3 := hB2.trans (below_of_grown hg3 (Nat.le_refl _) hB2.size)
    refine bodyPost_ret (v := .tuple #[.agg (rdC { m with ch := m.ch + 1 } x y), .bool false]) ?_ rfl ⟨rfl, hB3.trans (below_of_grown hg4 hs1 hB3.size)⟩
    exact res_cv rfl _ _ w1.heap.size _ _ _ _ rfl rfl h6 Try.underlying27 rfl (iRd _ _ _)
end Go.Proofs.Ytgkkpmliociieaa
