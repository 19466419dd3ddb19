/- What the plain Hash, MembersBytes, Check and Bytes do. -/
import Derived.Test.YtdolgkegeomafaaDoorHdr
import Derived.Deep.RegionHeld3
namespace Go.Proofs.YtdolgkegeomafaaDoor
open Go Go.RowKit
theorem rnum1 (n : Nat) (w : World) (hn : n < 18446744073709551616) : Calls Tryd.prog 34 #[.int .u64 n, .int .i64 1] w fun e w' => e = .returned (.string ⟨(num n 1).toArray⟩) ∧ Below w.heap.size w w' := rnum_nat 1 (by decide) n w hn
theorem rnum8 (n : Nat) (w : World) (hn : n < 18446744073709551616) : Calls Tryd.prog 34 #[.int .u64 n, .int .i64 8] w fun e w' => e = .returned (.string ⟨(num n 8).toArray⟩) ∧ Below w.heap.size w w' := rnum_nat 8 (by decide) n w hn
theorem hash32_same {s : List UInt8} (h : s.length = 32) : hash32 s = s := by
  unfold hash32
  rw [h, List.replicate_zero, List.append_nil, List.take_of_length_le (by omega)]
theorem memsB_take {l : List Int} {i : Nat} (h : i < l.length) : memsB (l.take (i + 1)) = memsB (l.take i) ++ num (l.getD i 0).toNat 1 := by
  rw [List.take_succ_eq_append_getElem h, memsB_snoc, List.getD_eq_getElem?_getD, List.getElem?_eq_getElem h]
  rfl
section
attribute [local go_sem] mkApp2 extract_take
attribute [local go_sem] mkApp0
set_option maxRecDepth 100000 in
set_option maxHeartbeats 400000 in
theorem rhash_any (s : List UInt8) (w : World) (hl : s.length ≤ 549755813888) : Calls Tryd.prog 35 #[.string ⟨s.toArray⟩] w fun e w' => e = .returned (.string ⟨(hash32 s).toArray⟩) ∧ w' = w := by
  go_enter Tryd.func35, Tryd.ntmps35
  go_wp2_with fail
  go_loopw [0] (fun v0 wl => ∃ k : Nat, (k = 0 ∨ s.length + k ≤ 32) ∧ v0 = .string ⟨(s ++ List.replicate k 0).toArray⟩ ∧ wl = w) (fun v0 _ => 32 - strLen v0)
  case atStart => exact ⟨0, .inl rfl, by simp, rfl⟩
  case round =>
    obtain ⟨k, hk, rfl, hw⟩ := hrel
    have hw2 := hw.symm
    subst hw2
    clear hw
    have hrl : (s ++ List.replicate k (0 : UInt8)).length = s.length + k := by simp
    by_cases hlt : s.length + k < 32
    · have HR : Hid (s ++ List.replicate (k + 1) (0 : UInt8) = (s ++ List.replicate k 0) ++ [0]) := by rw [List.replicate_succ', List.append_assoc]; exact rfl
      generalize s ++ List.replicate k (0 : UInt8) = t at *
      have hd : decide ((t.length : Int) < 32) = true := decide_eq_true (by omega)
      go_wp2_with fail
      go_roundw
      case rel => exact ⟨k + 1, .inr (by omega), by rw [HR.out], trivial⟩
      case measure => simp [strLen, mk_size]; omega
    · have HE : Hid ((s ++ List.replicate k (0 : UInt8)).take 32 = hash32 s) := by
        unfold hash32
        by_cases h32 : 32 ≤ s.length
        · rw [List.take_append_of_le_length h32, List.take_append_of_le_length h32]; exact rfl
        · rw [show 32 - s.length = k from by omega]; exact rfl
      generalize s ++ List.replicate k (0 : UInt8) = t at *
      have hd : decide ((t.length : Int) < 32) = false := decide_eq_false (by omega)
      go_wp2_with fail
      go_ret
      exact ⟨by rw [← HE.out]; rfl, rfl⟩
end
section
attribute [local go_sem] mkApp2
set_option maxRecDepth 100000 in
set_option maxHeartbeats 2000000 in
theorem rmemB_any (l : List Int) (a : Option Addr) (cap : Nat) (w : World) (hA : IA w a l) (hm : ∀ x ∈ l, 0 ≤ x ∧ x ≤ 15) (hl : l.length ≤ 16) :
    Calls Tryd.prog 36 #[.slice a l.length cap] w fun e w' => e = .returned (.string ⟨(memB l).toArray⟩) ∧ Below w.heap.size w w' := by
  have HN := fun w1 => rnum1 l.length w1 (by omega)
  have hwr : IntKind.u64.wrap (l.length : Int) = (l.length : Int) := by rw [IntKind.wrap_u64]; omega
  go_enter Tryd.func36, Tryd.ntmps36
  go_wp2_with (go_at_call 34; refine (HN _).mono ?_; rintro e w1 ⟨rfl, hw1⟩)
  clear HN hwr
  go_loopw [3, 4] (fun v3 v4 wl => ∃ i : Nat, i ≤ l.length ∧ v4 = .int .i64 i ∧ v3 = .string ⟨(num l.length 1 ++ memsB (l.take i)).toArray⟩ ∧ Below w.heap.size w wl) (fun _ v4 _ => l.length - (intOf v4).toNat)
  case atStart => exact ⟨0, by omega, rfl, by rw [List.take_zero, memsB_nil, List.append_nil], hw1⟩
  case round =>
    obtain ⟨i, hil, rfl, rfl, hB⟩ := hrel
    clear hw1
    by_cases hlt : i < l.length
    · obtain ⟨g, o, rfl⟩ := hA.ex (by omega)
      have c0 := (hA.below hB).cell hlt
      have hz1 : (0 : Int) ≤ (i : Int) := by omega
      have hz2 : (i : Int) < (l.length : Int) := by omega
      have hz3 : i < l.length := hlt
      have hs : Hid (num l.length 1 ++ memsB (l.take (i + 1)) = (num l.length 1 ++ memsB (l.take i)) ++ num (l.getD i 0).toNat 1) := by rw [memsB_take hlt, List.append_assoc]; exact rfl
      have hlen : (num l.length 1 ++ memsB (l.take i)).length ≤ 17 := by rw [List.length_append, num_length, memsB_len, List.length_take]; omega
      have hx := hm (l.getD i 0) (by rw [List.getD_eq_getElem?_getD, List.getElem?_eq_getElem hlt]; exact List.getElem_mem hlt)
      generalize num l.length 1 ++ memsB (l.take i) = t at *
      obtain ⟨k, hk⟩ : ∃ k : Nat, l.getD i 0 = (k : Int) := ⟨(l.getD i 0).toNat, by omega⟩
      rw [hk] at c0 hx
      rw [hk, Int.toNat_natCast] at hs
      have HN := fun w1 => rnum1 k w1 (by omega)
      have hwr : IntKind.u64.wrap (k : Int) = (k : Int) := by rw [IntKind.wrap_u64]; omega
      have hnl := num_length 1 k
      generalize num k 1 = u at *
      clear hk
      go_wp2_with (go_at_call 34; refine (HN _).mono ?_; rintro e w2 ⟨rfl, hw2⟩)
      go_roundw
      case rel => exact ⟨i + 1, by omega, by go_num, by rw [hs.out], hB.trans (hw2.mono hB.size)⟩
      case measure => simp [intOf]; omega
    · have hz2 : ¬ (i : Int) < (l.length : Int) := by omega
      have he : num l.length 1 ++ memsB (l.take i) = memB l := by rw [List.take_of_length_le (by omega)]; rfl
      rw [he]
      go_wp2_with fail
      go_ret
      exact ⟨rfl, hB⟩
end
/-- The cells of a header. -/
def hc (h : HH) (a : Option Addr) (cap : Nat) : Array Value := #[.int .u64 h.height, .string ⟨h.prev.toArray⟩, .string ⟨h.txr.toArray⟩, .string ⟨h.str.toArray⟩, .slice a h.mem.length cap]
section
attribute [local go_sem] Oper.semAt_some
set_option maxRecDepth 100000 in
set_option maxHeartbeats 4000000 in
theorem rcheckH_any (h : HH) (a : Option Addr) (cap : Nat) (w : World) (hA : IA w a h.mem) :
    Calls Tryd.prog 5 #[.agg (hc h a cap)] w fun e w' => e = .returned (.int .i64 (chkH h)) ∧ Below w.heap.size w w' := by
  obtain ⟨B, hB0⟩ : ∃ B, okM h.mem = B := ⟨_, rfl⟩
  have HM := fun w1 (k : IA w1 a h.mem) => rmembers_any h.mem a cap w1 k B hB0
  have hres : Hid (chkH h = if h.height = 0 ∨ h.prev.length ≠ 32 ∨ h.txr.length ≠ 32 ∨ h.str.length ≠ 32 ∨ B = false then 80 else 0) := by
    show chkH h = _
    unfold chkH okH
    rw [hB0]
    by_cases h1 : h.height = 0 ∨ h.prev.length ≠ 32 ∨ h.txr.length ≠ 32 ∨ h.str.length ≠ 32 ∨ B = false
    · rw [if_pos h1, if_neg]
      intro h2
      rw [Bool.and_eq_true, decide_eq_true_eq] at h2
      obtain ⟨⟨a1, a2, a3, a4⟩, a5⟩ := h2
      rcases h1 with h1 | h1 | h1 | h1 | h1
      · exact a1 h1
      · exact h1 a2
      · exact h1 a3
      · exact h1 a4
      · rw [a5] at h1; cases h1
    · rw [if_neg h1, if_pos]
      rw [Bool.and_eq_true, decide_eq_true_eq]
      exact ⟨⟨fun e => h1 (.inl e), Classical.byContradiction fun e => h1 (.inr (.inl e)), Classical.byContradiction fun e => h1 (.inr (.inr (.inl e))), Classical.byContradiction fun e => h1 (.inr (.inr (.inr (.inl e))))⟩, by
        cases B
        · exact absurd (.inr (.inr (.inr (.inr rfl)))) h1
        · rfl⟩
  rw [hres.out]
  obtain ⟨ht, p, t, s, m⟩ := h
  clear hres hB0
  dsimp only [hc] at *
  by_cases c1 : ht = 0
  · rw [if_pos (.inl c1)]
    have d1 : ((ht : Int) == 0) = true := by rw [beq_iff_eq]; omega
    go_enter Tryd.func5, Tryd.ntmps5
    go_wp2_with (first
      | (with_reducible refine at_list ?_; refine wpList_boxRow (op := ⟨some 1, _, _, _, _, _⟩) rfl _ _ rfl _ rfl ?_; intro w1 hw1 hs1 hb1; replace hs1 := hs1.symm; have q0 := hb1.cell 0; have q1 := hb1.cell 1; have q2 := hb1.cell 2; have q3 := hb1.cell 3; have q4 := hb1.cell 4; simp only [List.getElem?_toArray, List.getElem?_cons_zero, List.getElem?_cons_succ] at q0 q1 q2 q3 q4)
      | (go_at_call 10; refine (HM _ (hA.below hw1)).mono ?_; rintro e w2 ⟨rfl, hw2⟩))
    go_ret
    exact ⟨rfl, hw1⟩
  · have d1 : ((ht : Int) == 0) = false := by rw [beq_eq_false_iff_ne]; omega
    by_cases c2 : ¬ p.length = 32
    · rw [if_pos (.inr (.inl c2))]
      have d2 : ((p.length : Int) == 32) = false := by rw [beq_eq_false_iff_ne]; omega
      go_enter Tryd.func5, Tryd.ntmps5
      go_wp2_with (first
        | (with_reducible refine at_list ?_; refine wpList_boxRow (op := ⟨some 1, _, _, _, _, _⟩) rfl _ _ rfl _ rfl ?_; intro w1 hw1 hs1 hb1; replace hs1 := hs1.symm; have q0 := hb1.cell 0; have q1 := hb1.cell 1; have q2 := hb1.cell 2; have q3 := hb1.cell 3; have q4 := hb1.cell 4; simp only [List.getElem?_toArray, List.getElem?_cons_zero, List.getElem?_cons_succ] at q0 q1 q2 q3 q4)
        | (go_at_call 10; refine (HM _ (hA.below hw1)).mono ?_; rintro e w2 ⟨rfl, hw2⟩))
      go_ret
      exact ⟨rfl, hw1⟩
    · have d2 : ((p.length : Int) == 32) = true := by rw [beq_iff_eq]; omega
      by_cases c3 : ¬ t.length = 32
      · rw [if_pos (.inr (.inr (.inl c3)))]
        have d3 : ((t.length : Int) == 32) = false := by rw [beq_eq_false_iff_ne]; omega
        go_enter Tryd.func5, Tryd.ntmps5
        go_wp2_with (first
          | (with_reducible refine at_list ?_; refine wpList_boxRow (op := ⟨some 1, _, _, _, _, _⟩) rfl _ _ rfl _ rfl ?_; intro w1 hw1 hs1 hb1; replace hs1 := hs1.symm; have q0 := hb1.cell 0; have q1 := hb1.cell 1; have q2 := hb1.cell 2; have q3 := hb1.cell 3; have q4 := hb1.cell 4; simp only [List.getElem?_toArray, List.getElem?_cons_zero, List.getElem?_cons_succ] at q0 q1 q2 q3 q4)
          | (go_at_call 10; refine (HM _ (hA.below hw1)).mono ?_; rintro e w2 ⟨rfl, hw2⟩))
        go_ret
        exact ⟨rfl, hw1⟩
      · have d3 : ((t.length : Int) == 32) = true := by rw [beq_iff_eq]; omega
        by_cases c4 : ¬ s.length = 32
        · rw [if_pos (.inr (.inr (.inr (.inl c4))))]
          have d4 : ((s.length : Int) == 32) = false := by rw [beq_eq_false_iff_ne]; omega
          go_enter Tryd.func5, Tryd.ntmps5
          go_wp2_with (first
            | (with_reducible refine at_list ?_; refine wpList_boxRow (op := ⟨some 1, _, _, _, _, _⟩) rfl _ _ rfl _ rfl ?_; intro w1 hw1 hs1 hb1; replace hs1 := hs1.symm; have q0 := hb1.cell 0; have q1 := hb1.cell 1; have q2 := hb1.cell 2; have q3 := hb1.cell 3; have q4 := hb1.cell 4; simp only [List.getElem?_toArray, List.getElem?_cons_zero, List.getElem?_cons_succ] at q0 q1 q2 q3 q4)
            | (go_at_call 10; refine (HM _ (hA.below hw1)).mono ?_; rintro e w2 ⟨rfl, hw2⟩))
          go_ret
          exact ⟨rfl, hw1⟩
        · have d4 : ((s.length : Int) == 32) = true := by rw [beq_iff_eq]; omega
          cases B
          · rw [if_pos (.inr (.inr (.inr (.inr rfl))))]
            go_enter Tryd.func5, Tryd.ntmps5
            go_wp2_with (first
              | (with_reducible refine at_list ?_; refine wpList_boxRow (op := ⟨some 1, _, _, _, _, _⟩) rfl _ _ rfl _ rfl ?_; intro w1 hw1 hs1 hb1; replace hs1 := hs1.symm; have q0 := hb1.cell 0; have q1 := hb1.cell 1; have q2 := hb1.cell 2; have q3 := hb1.cell 3; have q4 := hb1.cell 4; simp only [List.getElem?_toArray, List.getElem?_cons_zero, List.getElem?_cons_succ] at q0 q1 q2 q3 q4)
              | (go_at_call 10; refine (HM _ (hA.below hw1)).mono ?_; rintro e w2 ⟨rfl, hw2⟩))
            go_ret
            exact ⟨rfl, hw1.trans (hw2.mono hw1.size)⟩
          · rw [if_neg (fun h => h.elim c1 fun h => h.elim c2 fun h => h.elim c3 fun h => h.elim c4 Bool.noConfusion)]
            go_enter Tryd.func5, Tryd.ntmps5
            go_wp2_with (first
              | (with_reducible refine at_list ?_; refine wpList_boxRow (op := ⟨some 1, _, _, _, _, _⟩) rfl _ _ rfl _ rfl ?_; intro w1 hw1 hs1 hb1; replace hs1 := hs1.symm; have q0 := hb1.cell 0; have q1 := hb1.cell 1; have q2 := hb1.cell 2; have q3 := hb1.cell 3; have q4 := hb1.cell 4; simp only [List.getElem?_toArray, List.getElem?_cons_zero, List.getElem?_cons_succ] at q0 q1 q2 q3 q4)
              | (go_at_call 10; refine (HM _ (hA.below hw1)).mono ?_; rintro e w2 ⟨rfl, hw2⟩))
            go_ret
            exact ⟨rfl, hw1.trans (hw2.mono hw1.size)⟩
end
end Go.Proofs.YtdolgkegeomafaaDoor
