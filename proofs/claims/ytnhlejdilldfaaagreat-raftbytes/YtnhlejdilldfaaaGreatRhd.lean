/- A snapshot in the place of all up to an index: lay. May a message be? What is kept, as one of its own: cloneHard. -/
import Derived.Test.YtnhlejdilldfaaaGreatRen
import Derived.Test.YtnhlejdilldfaaaGreatRfo
namespace Go.Proofs.YtnhlejdilldfaaaGreat
open Go Go.RowKit Go.Maps
theorem LG.nil (F : Nat → Prop) (w : World) : LG F w (.slice none 0 0) [] := lg_nil (ls := []) ⟨fun x hx => (by cases hx), .inl ⟨rfl, rfl⟩⟩ rfl
end Go.Proofs.YtnhlejdilldfaaaGreat
namespace Go.Proofs.YtnhlejdilldfaaaGreat
open Go Go.RowKit Go.Maps
/-- The counts that a message holds. -/
def MSG.cs (m : MSG) : Nat → Int
  | 0 => m.term
  | 1 => m.index
  | 2 => m.logTerm
  | 3 => m.commit
  | _ => m.off
theorem ok_bad {m : MSG} (i : Nat) (h : MSG.cnt (m.cs i) = false) : m.ok = false := by
  unfold MSG.ok
  match i with
  | 0 => have h : MSG.cnt m.term = false := h; rw [h]; simp
  | 1 => have h : MSG.cnt m.index = false := h; rw [h]; simp
  | 2 => have h : MSG.cnt m.logTerm = false := h; rw [h]; simp
  | 3 => have h : MSG.cnt m.commit = false := h; rw [h]; simp
  | i + 4 => have h : MSG.cnt m.off = false := h; rw [h]; simp
theorem idx5_0 (a b c d e : Int) (w : World) : (Instr.index 83 (.agg #[.int .i64 a, .int .i64 b, .int .i64 c, .int .i64 d, .int .i64 e]) (.int .i64 0)).run Tryz.prog w = .ok (.int .i64 a) w := by kernel_rfl
theorem idx5_1 (a b c d e : Int) (w : World) : (Instr.index 83 (.agg #[.int .i64 a, .int .i64 b, .int .i64 c, .int .i64 d, .int .i64 e]) (.int .i64 1)).run Tryz.prog w = .ok (.int .i64 b) w := by kernel_rfl
theorem idx5_2 (a b c d e : Int) (w : World) : (Instr.index 83 (.agg #[.int .i64 a, .int .i64 b, .int .i64 c, .int .i64 d, .int .i64 e]) (.int .i64 2)).run Tryz.prog w = .ok (.int .i64 c) w := by kernel_rfl
theorem idx5_3 (a b c d e : Int) (w : World) : (Instr.index 83 (.agg #[.int .i64 a, .int .i64 b, .int .i64 c, .int .i64 d, .int .i64 e]) (.int .i64 3)).run Tryz.prog w = .ok (.int .i64 d) w := by kernel_rfl
theorem idx5_4 (a b c d e : Int) (w : World) : (Instr.index 83 (.agg #[.int .i64 a, .int .i64 b, .int .i64 c, .int .i64 d, .int .i64 e]) (.int .i64 4)).run Tryz.prog w = .ok (.int .i64 e) w := by kernel_rfl
section
attribute [local go_sem] idx5_0 idx5_1 idx5_2 idx5_3 idx5_4
set_option maxRecDepth 100000 in
set_option maxHeartbeats 1000000 in
theorem check_any (m : MSG) (ea : Option Addr) (ec : Nat) (ma : Option Addr) (mc : Nat) (w : World) (_hle : m.ents.length ≤ ec) (B : Bool) (hB0 : Hid (m.ok = B)) : Calls Tryz.prog 10 #[.agg #[.int .i64 m.kind, .int .i64 m.frm, .int .i64 m.dst, .int .i64 m.term, .int .i64 m.index, .int .i64 m.logTerm, .int .i64 m.commit, .bool m.yes, .slice ea m.ents.length ec, .int .i64 m.off, .string ⟨m.piece.toArray⟩, .bool m.done, .slice ma m.mems.length mc]] w fun e w' => e = .returned (.bool B) ∧ Below w.heap.size w w' := by
  go_enter Tryz.func10, Tryz.ntmps10
  go_upto_region 1 with fail
  have hA0 := bl_al (Below.refl w.heap.size w) (.cells #[.int .i64 m.kind, .int .i64 m.frm, .int .i64 m.dst, .int .i64 m.term, .int .i64 m.index, .int .i64 m.logTerm, .int .i64 m.commit, .bool m.yes, .slice ea m.ents.length ec, .int .i64 m.off, .string ⟨m.piece.toArray⟩, .bool m.done, .slice ma m.mems.length mc] 25)
  have hBA := Blk.new w #[.int .i64 m.kind, .int .i64 m.frm, .int .i64 m.dst, .int .i64 m.term, .int .i64 m.index, .int .i64 m.logTerm, .int .i64 m.commit, .bool m.yes, .slice ea m.ents.length ec, .int .i64 m.off, .string ⟨m.piece.toArray⟩, .bool m.done, .slice ma m.mems.length mc] 25
  generalize w.alloc (.cells #[.int .i64 m.kind, .int .i64 m.frm, .int .i64 m.dst, .int .i64 m.term, .int .i64 m.index, .int .i64 m.logTerm, .int .i64 m.commit, .bool m.yes, .slice ea m.ents.length ec, .int .i64 m.off, .string ⟨m.piece.toArray⟩, .bool m.done, .slice ma m.mems.length mc] 25) = A at *
  have e0 := hBA.cell 0; have e1 := hBA.cell 1; have e2 := hBA.cell 2; have e3 := hBA.cell 3; have e4 := hBA.cell 4; have e5 := hBA.cell 5; have e6 := hBA.cell 6; have e7 := hBA.cell 7; have e8 := hBA.cell 8; have e9 := hBA.cell 9; have e10 := hBA.cell 10; have e11 := hBA.cell 11; have e12 := hBA.cell 12
  go_wp2_with fail
  go_loopw [18] (fun v18 wl => ∃ i : Nat, i ≤ 5 ∧ v18 = .int .i64 i ∧ Hid (∀ j, j < i → MSG.cnt (m.cs j) = true) ∧ wl = A) (fun v18 _ => 5 - (intOf v18).toNat)
  case atStart => exact ⟨0, by omega, rfl, (fun j hj => absurd hj (Nat.not_lt_zero _)), rfl⟩
  case round =>
    obtain ⟨i, hil, rfl, hI, hw⟩ := hrel
    have hw2 := hw.symm
    subst hw2
    clear hw
    rcases (by omega : i = 0 ∨ i = 1 ∨ i = 2 ∨ i = 3 ∨ i = 4 ∨ i = 5) with rfl | rfl | rfl | rfl | rfl | rfl
    · have HC := isCount_any
      have hcs : m.cs 0 = m.term := rfl
      cases hq : MSG.cnt m.term with
      | false =>
        have hBf : B = false := by rw [← hB0.out]; exact ok_bad 0 hq
        subst hBf
        have HC1 := HC A m.term
        rw [hq] at HC1
        clear hI HC hq hcs
        go_wp2_with (go_at_call 42; refine HC1.mono ?_; rintro e w1 ⟨rfl, hw1⟩; replace hw1 := hw1.symm; subst hw1)
        go_ret
        exact ⟨rfl, hA0⟩
      | true =>
        have hI2 : Hid (∀ j, j < 0 + 1 → MSG.cnt (m.cs j) = true) := fun j hj => by
          by_cases hji : j < 0
          · exact hI.out j hji
          · obtain rfl : j = 0 := by omega
            exact hq
        have HC1 := HC A m.term
        rw [hq] at HC1
        clear hI HC hq hcs
        go_wp2_with (go_at_call 42; refine HC1.mono ?_; rintro e w1 ⟨rfl, hw1⟩; replace hw1 := hw1.symm; subst hw1)
        go_roundw
        case rel => exact ⟨0 + 1, by omega, by first | rfl | go_num, hI2, trivial⟩
        case measure => simp [intOf]
    · have HC := isCount_any
      have hcs : m.cs 1 = m.index := rfl
      cases hq : MSG.cnt m.index with
      | false =>
        have hBf : B = false := by rw [← hB0.out]; exact ok_bad 1 hq
        subst hBf
        have HC1 := HC A m.index
        rw [hq] at HC1
        clear hI HC hq hcs
        go_wp2_with (go_at_call 42; refine HC1.mono ?_; rintro e w1 ⟨rfl, hw1⟩; replace hw1 := hw1.symm; subst hw1)
        go_ret
        exact ⟨rfl, hA0⟩
      | true =>
        have hI2 : Hid (∀ j, j < 1 + 1 → MSG.cnt (m.cs j) = true) := fun j hj => by
          by_cases hji : j < 1
          · exact hI.out j hji
          · obtain rfl : j = 1 := by omega
            exact hq
        have HC1 := HC A m.index
        rw [hq] at HC1
        clear hI HC hq hcs
        go_wp2_with (go_at_call 42; refine HC1.mono ?_; rintro e w1 ⟨rfl, hw1⟩; replace hw1 := hw1.symm; subst hw1)
        go_roundw
        case rel => exact ⟨1 + 1, by omega, by first | rfl | go_num, hI2, trivial⟩
        case measure => simp [intOf]
    · have HC := isCount_any
      have hcs : m.cs 2 = m.logTerm := rfl
      cases hq : MSG.cnt m.logTerm with
      | false =>
        have hBf : B = false := by rw [← hB0.out]; exact ok_bad 2 hq
        subst hBf
        have HC1 := HC A m.logTerm
        rw [hq] at HC1
        clear hI HC hq hcs
        go_wp2_with (go_at_call 42; refine HC1.mono ?_; rintro e w1 ⟨rfl, hw1⟩; replace hw1 := hw1.symm; subst hw1)
        go_ret
        exact ⟨rfl, hA0⟩
      | true =>
        have hI2 : Hid (∀ j, j < 2 + 1 → MSG.cnt (m.cs j) = true) := fun j hj => by
          by_cases hji : j < 2
          · exact hI.out j hji
          · obtain rfl : j = 2 := by omega
            exact hq
        have HC1 := HC A m.logTerm
        rw [hq] at HC1
        clear hI HC hq hcs
        go_wp2_with (go_at_call 42; refine HC1.mono ?_; rintro e w1 ⟨rfl, hw1⟩; replace hw1 := hw1.symm; subst hw1)
        go_roundw
        case rel => exact ⟨2 + 1, by omega, by first | rfl | go_num, hI2, trivial⟩
        case measure => simp [intOf]
    · have HC := isCount_any
      have hcs : m.cs 3 = m.commit := rfl
      cases hq : MSG.cnt m.commit with
      | false =>
        have hBf : B = false := by rw [← hB0.out]; exact ok_bad 3 hq
        subst hBf
        have HC1 := HC A m.commit
        rw [hq] at HC1
        clear hI HC hq hcs
        go_wp2_with (go_at_call 42; refine HC1.mono ?_; rintro e w1 ⟨rfl, hw1⟩; replace hw1 := hw1.symm; subst hw1)
        go_ret
        exact ⟨rfl, hA0⟩
      | true =>
        have hI2 : Hid (∀ j, j < 3 + 1 → MSG.cnt (m.cs j) = true) := fun j hj => by
          by_cases hji : j < 3
          · exact hI.out j hji
          · obtain rfl : j = 3 := by omega
            exact hq
        have HC1 := HC A m.commit
        rw [hq] at HC1
        clear hI HC hq hcs
        go_wp2_with (go_at_call 42; refine HC1.mono ?_; rintro e w1 ⟨rfl, hw1⟩; replace hw1 := hw1.symm; subst hw1)
        go_roundw
        case rel => exact ⟨3 + 1, by omega, by first | rfl | go_num, hI2, trivial⟩
        case measure => simp [intOf]
    · have HC := isCount_any
      have hcs : m.cs 4 = m.off := rfl
      cases hq : MSG.cnt m.off with
      | false =>
        have hBf : B = false := by rw [← hB0.out]; exact ok_bad 4 hq
        subst hBf
        have HC1 := HC A m.off
        rw [hq] at HC1
        clear hI HC hq hcs
        go_wp2_with (go_at_call 42; refine HC1.mono ?_; rintro e w1 ⟨rfl, hw1⟩; replace hw1 := hw1.symm; subst hw1)
        go_ret
        exact ⟨rfl, hA0⟩
      | true =>
        have hI2 : Hid (∀ j, j < 4 + 1 → MSG.cnt (m.cs j) = true) := fun j hj => by
          by_cases hji : j < 4
          · exact hI.out j hji
          · obtain rfl : j = 4 := by omega
            exact hq
        have HC1 := HC A m.off
        rw [hq] at HC1
        clear hI HC hq hcs
        go_wp2_with (go_at_call 42; refine HC1.mono ?_; rintro e w1 ⟨rfl, hw1⟩; replace hw1 := hw1.symm; subst hw1)
        go_roundw
        case rel => exact ⟨4 + 1, by omega, by first | rfl | go_num, hI2, trivial⟩
        case measure => simp [intOf]
    · have hcn : MSG.cnt m.term = true ∧ MSG.cnt m.index = true ∧ MSG.cnt m.logTerm = true ∧ MSG.cnt m.commit = true ∧ MSG.cnt m.off = true := ⟨hI.out 0 (by omega), hI.out 1 (by omega), hI.out 2 (by omega), hI.out 3 (by omega), hI.out 4 (by omega)⟩
      have hok : (decide (1 ≤ m.kind ∧ m.kind ≤ 6) && (decide (0 ≤ m.frm ∧ m.frm < 16) && (decide (0 ≤ m.dst ∧ m.dst < 16) && (decide (m.frm ≠ m.dst) && (decide (m.logTerm ≤ m.term) && (decide (m.ents.length ≤ 16) && decide (m.piece.length ≤ 200))))))) = B := by
        rw [← hB0.out]
        unfold MSG.ok
        rw [hcn.1, hcn.2.1, hcn.2.2.1, hcn.2.2.2.1, hcn.2.2.2.2]
        rfl
      replace hok : Hid (_ = B) := hok
      clear hcn hI hB0
      have HR := isReplica_any
      go_wp2_with (go_at_call 43; refine (HR A _).mono ?_; rintro e w1 ⟨rfl, hw1⟩; replace hw1 := hw1.symm; subst hw1)
      all_goals go_ret
      all_goals (have hok := hok.out; subst hok; refine ⟨?_, hA0⟩; have hc1 : ∀ n : Nat, ((n : Int) ≤ 200) = (n ≤ 200) := fun n => propext (by omega); have hc2 : ∀ n : Nat, ((n : Int) ≤ 16) = (n ≤ 16) := fun n => propext (by omega); congr 2; simp_all [bne]; try omega)
end
end Go.Proofs.YtnhlejdilldfaaaGreat
namespace Go.Proofs.YtnhlejdilldfaaaGreat
open Go Go.RowKit Go.Maps
theorem hd_info (a b c d : Int) (s : ByteArray) (v u : Value) : (Tryz.prog.info? 43).map (·.size) = some (#[Value.int .i64 a, .int .i64 b, .int .i64 c, .int .i64 d, .string s, v, u] : Array Value).size := by kernel_rfl
theorem hd_size (a b c d : Int) (s : ByteArray) (v u : Value) (a' b' c' d' : Int) (s' : ByteArray) (v' u' : Value) : (#[Value.int .i64 a, .int .i64 b, .int .i64 c, .int .i64 d, .string s, v, u] : Array Value).size = (#[Value.int .i64 a', .int .i64 b', .int .i64 c', .int .i64 d', .string s', v', u'] : Array Value).size := rfl
theorem hd_one (a b c d : Int) (s : ByteArray) (x1 : Option Addr) (n1 c1 : Nat) (x2 : Option Addr) (n2 c2 : Nat) : (#[Value.int .i64 a, .int .i64 b, .int .i64 c, .int .i64 d, .string s, .slice x1 n1 c1, .slice x2 n2 c2] : Array Value).all (·.oneCell') = true := by simp [Value.oneCell']
/-- What cloneHard tells. -/
def HdP (w : World) (k : HD) (e : Ending) (w' : World) : Prop := ∃ x c v, e = .returned (.agg #[.int .i64 k.term, .int .i64 k.vote, .int .i64 k.bi, .int .i64 k.bt, .string ⟨k.base.toArray⟩, .slice x k.bconf.length c, v]) ∧ Below w.heap.size w w' ∧ (∀ r, slBlk v = some r → w.heap.size ≤ r) ∧ IF (fun q => NewB w w' q ∧ slBlk v ≠ some q) w' x k.bconf ∧ LG (fun q => NewB w w' q ∧ slBlk v ≠ some q) w' v k.log
set_option maxRecDepth 100000 in
set_option maxHeartbeats 1000000 in
theorem cloneHard_any (k : HD) (ba la : Option Addr) (bc lc : Nat) (w : World) (hB : IA w ba k.bconf) (hL : EA w la k.log) (hbl : k.bconf.length ≤ 17592186044416) (hll : k.log.length ≤ 137438953472) : Calls Tryz.prog 60 #[.agg #[.int .i64 k.term, .int .i64 k.vote, .int .i64 k.bi, .int .i64 k.bt, .string ⟨k.base.toArray⟩, .slice ba k.bconf.length bc, .slice la k.log.length lc]] w (HdP w k) := by
  have hb := bl_al (bl_al (Below.refl w.heap.size w) (.cells #[.int .i64 k.term, .int .i64 k.vote, .int .i64 k.bi, .int .i64 k.bt, .string ⟨k.base.toArray⟩, .slice ba k.bconf.length bc, .slice la k.log.length lc] 43)) (.cells #[.int .i64 0, .int .i64 0, .int .i64 0, .int .i64 0, .string ⟨#[]⟩, .slice none 0 0, .slice none 0 0] 43)
  have hB1 := (Blk.new w #[.int .i64 k.term, .int .i64 k.vote, .int .i64 k.bi, .int .i64 k.bt, .string ⟨k.base.toArray⟩, .slice ba k.bconf.length bc, .slice la k.log.length lc] 43).alloc (.cells #[.int .i64 0, .int .i64 0, .int .i64 0, .int .i64 0, .string ⟨#[]⟩, .slice none 0 0, .slice none 0 0] 43)
  have hB2 := Blk.new (w.alloc (.cells #[.int .i64 k.term, .int .i64 k.vote, .int .i64 k.bi, .int .i64 k.bt, .string ⟨k.base.toArray⟩, .slice ba k.bconf.length bc, .slice la k.log.length lc] 43)) #[.int .i64 0, .int .i64 0, .int .i64 0, .int .i64 0, .string ⟨#[]⟩, .slice none 0 0, .slice none 0 0] 43
  rw [World.size_alloc] at hB2
  have hne : Hid (w.heap.size + 1 ≠ w.heap.size) := (fun e => by omega)
  go_enter Tryz.func60, Tryz.ntmps60
  go_upto_region 1 with fail
  generalize (w.alloc (.cells #[.int .i64 k.term, .int .i64 k.vote, .int .i64 k.bi, .int .i64 k.bt, .string ⟨k.base.toArray⟩, .slice ba k.bconf.length bc, .slice la k.log.length lc] 43)).alloc (.cells #[.int .i64 0, .int .i64 0, .int .i64 0, .int .i64 0, .string ⟨#[]⟩, .slice none 0 0, .slice none 0 0] 43) = A at *
  have e5 := hB1.cell 5
  go_upto_region 2 with (go_at_call 61; refine (sclF ba k.bconf bc _ (hB.below hb) hbl).mono ?_; rintro e w1 ⟨x, c, rfl, hI1, hw1⟩; have hX1 := hB1.belowSize hw1; have hY1 := hB2.belowSize hw1; have hb1 := bl_ca hb hw1; have e5 := hX1.cell 5; have f5 := hX1.frozen 5)
  have hX2 := hX1.setCell 5 (.slice x k.bconf.length c)
  have hY2 := hY1.setCell_other ⟨w.heap.size, 5, none⟩ hne.out (.slice x k.bconf.length c)
  have hb2 := bl_st hb1 (Nat.le_refl _) 5 (.slice x k.bconf.length c)
  have hI2 := hI1.kept (F' := NewB A w1) (w' := w1.setCell ⟨w.heap.size, 5, none⟩ (.slice x k.bconf.length c)) (fun q hq => Below.heap_setCell _ _ _ _ (fun e => by have := hq.1; have h9 := hB1.lt; have e : q = w.heap.size := e; omega)) (fun _ h => h)
  have hs2 : (w1.setCell ⟨w.heap.size, 5, none⟩ (.slice x k.bconf.length c)).heap.size = w1.heap.size := by simp
  replace hs2 : Hid (_ = _) := hs2
  generalize w1.setCell ⟨w.heap.size, 5, none⟩ (.slice x k.bconf.length c) = w2 at *
  clear e5 f5
  have e6 := hX2.cell 6
  go_upto_region 3 with (go_at_call 85; refine (cloneEntries_any la k.log lc _ (hL.below hb2) hll).mono ?_; rintro e w3 hce; obtain ⟨v, rfl, hw3, hv3, hG3⟩ := hce; obtain ⟨a3, c3, rfl, _⟩ := hG3.sl; have hX3 := hX2.belowSize hw3; have hY3 := hY2.belowSize hw3; have hb3 := bl_ca hb2 hw3; have e6 := hX3.cell 6; have f6 := hX3.frozen 6)
  have hlt3 := hY3.lt
  have hX4 := hX3.setCell 6 (.slice a3 k.log.length c3)
  have hY4 := hY3.setCell_other ⟨w.heap.size, 6, none⟩ hne.out (.slice a3 k.log.length c3)
  have hb4 := bl_st hb3 (Nat.le_refl _) 6 (.slice a3 k.log.length c3)
  have hk4 : ∀ q, w.heap.size + 2 ≤ q → (w3.setCell ⟨w.heap.size, 6, none⟩ (.slice a3 k.log.length c3)).heap[q]? = w3.heap[q]? := fun q hq => Below.heap_setCell _ _ _ _ (fun e => by have e : q = w.heap.size := e; omega)
  have hs4 : (w3.setCell ⟨w.heap.size, 6, none⟩ (.slice a3 k.log.length c3)).heap.size = w3.heap.size := by simp
  replace hs4 : Hid (_ = _) := hs4
  generalize w3.setCell ⟨w.heap.size, 6, none⟩ (.slice a3 k.log.length c3) = w4 at *
  clear e6 f6
  have e0 := hX4.cell 0; have e1 := hX4.cell 1; have e2 := hX4.cell 2; have e3 := hX4.cell 3; have e4 := hX4.cell 4; have e5 := hX4.cell 5; have e6 := hX4.cell 6
  go_wp2_with (with_reducible refine at_list ?_; refine wpList_storeRow (op := ⟨none, .store 43 (.tmp 2) (.tmp 11), _, _, _, _⟩) rfl _ _ _ rfl (w.heap.size + 1) #[.int .i64 k.term, .int .i64 k.vote, .int .i64 k.bi, .int .i64 k.bt, .string ⟨k.base.toArray⟩, .slice x k.bconf.length c, .slice a3 k.log.length c3] rfl rfl _ _ hY4 (hd_size ..) (hd_info ..) (hd_one ..) ?_; intro w5 hg5 hs5 h5b)
  refine bodyPost_ret (v := .agg #[.int .i64 k.term, .int .i64 k.vote, .int .i64 k.bi, .int .i64 k.bt, .string ⟨k.base.toArray⟩, .slice x k.bconf.length c, .slice a3 k.log.length c3]) ?_ rfl ⟨x, c, _, rfl, bl_gr hb4 hg5 (Nat.le_succ _), ?_, ?_, ?_⟩
  · exact results_cell_row rfl _ _ (w.heap.size + 1) _ _ _ _ rfl h5b.out Tryz.underlying43 rfl (hd_info ..)
  · intro r hr
    have := hv3 r hr
    have := hs2.out
    have := hw1.size
    have := hb.size
    omega
  · have h1 := hs2.out
    have h2 := hw1.size
    have h3 := hw3.size
    have h4 := hs4.out
    have h5 := hg5.size
    have h6 := hB2.lt
    have h7 := hb.size
    refine hI2.kept (fun q hq => ?_) (fun q hq => ⟨⟨by have := hq.1; omega, by have := hq.2; omega⟩, fun e => by have := hv3 q e; have := hq.2; omega⟩)
    have k1 := hq.1
    have k2 := hq.2
    rw [hg5.block q (by omega) (fun e => by have := Option.some.inj e; omega), hk4 q (by omega), hw3.block q (by omega)]
  · have h1 := hs2.out
    have h2 := hw1.size
    have h3 := hw3.size
    have h4 := hs4.out
    have h5 := hg5.size
    have h6 := hB2.lt
    have h7 := hb.size
    have hlt : ∀ q, slBlk (.slice a3 k.log.length c3) = some q → q < w3.heap.size := fun q e => by
      obtain ⟨ls, hl, _⟩ := hG3
      exact (hl.lt q e).2
    have hkq : ∀ q, w2.heap.size ≤ q → q < w3.heap.size → w5.heap[q]? = w3.heap[q]? := fun q k1 k2 => by
      rw [hg5.block q (by omega) (fun e => by have := Option.some.inj e; omega), hk4 q (by omega)]
    exact hG3.kept (fun q e => hkq q (hv3 q e) (hlt q e)) (fun q hq => hkq q hq.1.1 hq.1.2) (fun q hq => ⟨⟨by have := hq.1.1; omega, by have := hq.1.2; omega⟩, hq.2⟩)
end Go.Proofs.YtnhlejdilldfaaaGreat
