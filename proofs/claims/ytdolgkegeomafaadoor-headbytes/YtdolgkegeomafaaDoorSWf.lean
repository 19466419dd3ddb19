/- What Write does. -/
import Derived.Test.YtdolgkegeomafaaDoorSWe
import Derived.Test.YtdolgkegeomafaaDoorSDig
namespace Go.Proofs.YtdolgkegeomafaaDoor.Sh
open Go.RowKit

theorem write_nil (s : ByteArray) (w : World) : Calls Tryd.prog 47 #[.pointer none, .string s] w fun e w' => e = .returned (.tuple #[]) ∧ w' = w := by
  go_enter Tryd.func47, Tryd.ntmps47
  go_wp2
  refine bodyPost_ret (v := .tuple #[]) (by simp [results, Tryd.results47, go_sem]) rfl ⟨rfl, rfl⟩

theorem i44 : (Tryd.prog.info? 22).map (·.size) = some 1 := by kernel_rfl
theorem extract_drop (l : List UInt8) (n : Nat) : (ByteArray.mk l.toArray).extract n l.length = ⟨(l.drop n).toArray⟩ := by
  have : ((ByteArray.mk l.toArray).extract n l.length).data = (l.drop n).toArray := by
    apply Array.ext'
    simp [ByteArray.extract, ByteArray.copySlice]
    apply List.take_of_length_le
    simp
  rw [show (ByteArray.mk l.toArray).extract n l.length = ⟨((ByteArray.mk l.toArray).extract n l.length).data⟩ from rfl, this]
attribute [local go_sem] extract_drop
theorem mk_size (l : List UInt8) : (ByteArray.mk l.toArray).size = l.length := by show l.toArray.size = _; simp
def strLen : Value → Nat | .string s => s.size | _ => 0
set_option maxRecDepth 100000 in
set_option maxHeartbeats 4000000 in
theorem write_any (b : Nat) (m s : List UInt8) (H : S8) (fb : Nat → UInt8) (w : World) (hG : Glob w) (hb0 : 2 ≤ b) (hm : m.length + s.length ≤ 1099511627776)
    (hb : Blk w b (digC H fb m.length) 83) (hH : m.length = 0 ∨ H = hashTo m (m.length / 64)) (ht : ∀ j, j < m.length % 64 → fb j = m.getD (64 * (m.length / 64) + j) 0) :
    Calls Tryd.prog 47 #[.pointer (some ⟨b, 0, none⟩), .string ⟨s.toArray⟩] w fun e w' => e = .returned (.tuple #[]) ∧ (∃ H' fb', Dig w' b (m ++ s) H' fb') ∧ w.grownBy w' (some b) := by
  have HH : Hid (m.length = 0 ∨ H = hashTo m (m.length / 64)) := hH
  clear hH
  have HT : Hid (∀ j, j < m.length % 64 → fb j = m.getD (64 * (m.length / 64) + j) 0) := ht
  clear ht
  by_cases h0 : m.length = 0
  case' pos =>
    have hd : ((m.length : Int) == 0) = true := beq_iff_eq.2 (by omega)
    go_enter Tryd.func47, Tryd.ntmps47
    go_wp2_with (with_reducible refine at_list ?_; first
      | (refine wpList_loadCell (op := ⟨some 11, _, _, _, _, _⟩) rfl _ _ rfl b 72 rfl _ _ hb _ Tryd.underlying22 rfl _ (digC_taken _ _ _) ?_)
      | (refine wpList_load_mid (op := ⟨some 14, _, _, _, _, _⟩) rfl _ _ rfl 0 0 rfl (row32 H0.at 8).toList _ hG.range Tryd.underlying80 rfl (by rw [Array.length_toList, row32_size]; exact z40.2) ?_; rw [Array.toArray_toList])
      | (refine wpList_storePart rfl _ _ _ rfl b 0 _ rfl rfl _ _ hb (by rw [row32_size, digC_size]; omega) (by rw [row32_size]; exact z40.2) (row32_one _ _) ?_; intro w1 hg1 hs1 hb1; rw [digC_setWords] at hb1))
    go_simp
    have hG1 : Glob w1 := hG.grown hg1 hb0
    have hD : Dig w1 b m H0 fb := ⟨hb1, by rw [h0]; rfl, HT.out⟩
    clear hb1 hs1 hd h0
  case' neg =>
    have hd : ((m.length : Int) == 0) = false := beq_eq_false_iff_ne.2 (by omega)
    go_enter Tryd.func47, Tryd.ntmps47
    go_wp2_with (with_reducible refine at_list ?_; first
      | (refine wpList_loadCell (op := ⟨some 11, _, _, _, _, _⟩) rfl _ _ rfl b 72 rfl _ _ hb _ Tryd.underlying22 rfl _ (digC_taken _ _ _) ?_))
    have hG1 := hG
    have hg1 : w.grownBy w (some b) := grown_refl w _
    have hD : Dig w b m H fb := ⟨hb, HH.out.resolve_left h0, HT.out⟩
    clear hd h0
  all_goals
    clear HH HT hb
    go_loopw [1] (fun v wl => ∃ (l1 l2 : List UInt8) (H' : S8) (fb' : Nat → UInt8), s = l1 ++ l2 ∧ v = .string ⟨l2.toArray⟩ ∧ w.grownBy wl (some b) ∧ Glob wl ∧ Dig wl b (m ++ l1) H' fb') (fun v _ => strLen v)
    case atStart => exact ⟨[], s, _, _, rfl, rfl, hg1, hG1, by rw [List.append_nil]; exact hD⟩
    case round =>
      clear hD hG1 hg1
      obtain ⟨l1, l2, H', fb', hs, rfl, hg, hG', hD⟩ := hrel
      have HS : Hid (s = l1 ++ l2) := hs
      have hlen : (m ++ l1).length + l2.length ≤ 1099511627776 := by rw [hs] at hm; simp at hm ⊢; omega
      clear hs
      by_cases hl : l2.length = 0
      · have hn : l2 = [] := List.length_eq_zero_iff.1 hl
        subst hn
        go_wp2_with fail
        refine bodyPost_end (results_none rfl _ _ _) rfl ⟨rfl, ⟨H', fb', ?_⟩, hg⟩
        rw [HS.out, List.append_nil]
        exact hD
      · have hp : 0 < l2.length := by omega
        clear hl
        obtain ⟨mm, hmm⟩ : ∃ mm, mm = m ++ l1 := ⟨_, rfl⟩
        have HM : Hid (mm = m ++ l1) := hmm
        rw [← hmm] at hD hlen
        clear hmm
        obtain ⟨n, hn⟩ : ∃ n, n = Nat.min l2.length (64 - mm.length % 64) := ⟨_, rfl⟩
        have hn1 : n ≤ l2.length := by rw [hn]; exact Nat.min_le_left _ _
        have hn2 : mm.length % 64 + n ≤ 64 := by have : n ≤ 64 - mm.length % 64 := by rw [hn]; exact Nat.min_le_right _ _
                                                 omega
        have hn3 : 1 ≤ n := by rw [hn]; simp only [Nat.min_def]; split <;> omega
        have HN : Hid (n = Nat.min l2.length (64 - mm.length % 64)) := hn
        clear hn
        have htl : (l2.take n).length = n := by rw [List.length_take]; omega
        have HTL : Hid ((l2.take n).length = n) := htl
        clear htl
        by_cases hf : mm.length % 64 + n = 64
        · have hff : ((mm.length : Int) % 64 + (n : Int) == 64) = true := beq_iff_eq.2 (by omega)
          go_wp2_with (with_reducible refine at_list ?_; first
            | (refine wpList_loadCell (op := ⟨some 23, _, _, _, _, _⟩) rfl _ _ rfl b 72 rfl _ _ hD.blk _ Tryd.underlying22 rfl _ (digC_taken _ _ _) ?_)
            | (refine wpList_sliceArr rfl _ _ _ rfl b 8 rfl _ _ rfl (mm.length % 64) (by omega) _ _ Tryd.underlying81 i5 (by omega) ?_)
            | (refine wpList_copyStr rfl _ _ _ _ rfl b (8 + mm.length % 64) (64 - mm.length % 64) (64 - mm.length % 64) rfl l2 rfl _ Tryd.underlying51 i5 _ _ hD.blk n HN.out (by rw [digC_size]; omega) ?_; intro w2 hg2 hs2 hb2; rw [digC_setBytes _ _ _ _ _ (by rw [HTL.out]; omega)] at hb2)
            | (refine wpList_loadCell (op := ⟨some 39, _, _, _, _, _⟩) rfl _ _ rfl b 72 rfl _ _ hb2 _ Tryd.underlying22 rfl _ (digC_taken _ _ _) ?_)
            | (refine wpList_storeCell rfl _ _ _ rfl b 72 rfl (.int .u64 ((mm.length : Int) + (n : Int))) rfl _ _ hb2 i44 rfl rfl (by rw [digC_size]; omega) ?_; intro w3 hg3 hs3 hb3; rw [show ((mm.length : Int) + (n : Int)) = ((mm.length + n : Nat) : Int) from by omega, digC_setTaken] at hb3))
          have hG3 : Glob w3 := (hG'.grown hg2 hb0).grown hg3 hb0
          have hr0 : w3.drew.rangeAt b 0 (row32 H'.at 8).toList := by have := hb3.drew.range 0 8; rw [digC_words] at this; exact this
          have hr8 : w3.drew.rangeAt b 8 (row8 (putB fb' (mm.length % 64) (l2.take n)) 64).toList := by have := hb3.drew.range 8 64; rw [digC_block] at this; exact this
          have hi0 : (Tryd.prog.info? 80).map (·.size) = some (row32 H'.at 8).toList.length := by rw [Array.length_toList, row32_size]; exact z40.2
          have hi8 : (Tryd.prog.info? 81).map (·.size) = some (row8 (putB fb' (mm.length % 64) (l2.take n)) 64).toList.length := by rw [Array.length_toList, row8_size]; exact i47
          refine wp_region_any (by kernel_rfl) ?_
          change wpAny _ _ _ _ _ _ _ (World.drew _)
          refine wpAny_take (i := 0) (oi := ⟨some 49, .move (.tmp 0), _, _, _, _⟩) (v := .pointer (some ⟨b, 0, none⟩)) rfl (by kernel_rfl) (by kernel_rfl) (by kernel_rfl) (fun _ _ _ h => h) (Or.inl ⟨by rfl, fun w => by go_simp⟩) ?_
          refine wpAny_take (i := 1) (oi := ⟨some 50, .move (.tmp 0), _, _, _, _⟩) (v := .pointer (some ⟨b, 0, none⟩)) rfl (by kernel_rfl) (by kernel_rfl) (by kernel_rfl) (fun _ _ _ h => h) (Or.inl ⟨by rfl, fun w => by go_simp⟩) ?_
          refine wpAny_take (i := 2) (oi := ⟨some 51, .nilCheck (.tmp 50), _, _, _, _⟩) (v := .pointer (some ⟨b, 0, none⟩)) rfl (by kernel_rfl) (by kernel_rfl) (by kernel_rfl) (fun _ _ _ h => h) (Or.inl ⟨by rfl, fun w => by go_simp⟩) ?_
          refine wpAny_take (i := 3) (oi := ⟨some 52, .fieldAddr 83 (.tmp 51) 0, _, _, _, _⟩) (v := .pointer (some ⟨b, 0, none⟩)) rfl (by kernel_rfl) (by kernel_rfl) (by kernel_rfl) (fun _ _ _ h => h) (Or.inl ⟨by rfl, fun w => by go_simp⟩) ?_
          refine wpAny_take (i := 5) (oi := ⟨some 54, .move (.tmp 0), _, _, _, _⟩) (v := .pointer (some ⟨b, 0, none⟩)) rfl (by kernel_rfl) (by kernel_rfl) (by kernel_rfl) (fun _ _ _ h => h) (Or.inl ⟨by rfl, fun w => by go_simp⟩) ?_
          refine wpAny_take (i := 6) (oi := ⟨some 55, .nilCheck (.tmp 54), _, _, _, _⟩) (v := .pointer (some ⟨b, 0, none⟩)) rfl (by kernel_rfl) (by kernel_rfl) (by kernel_rfl) (fun _ _ _ h => h) (Or.inl ⟨by rfl, fun w => by go_simp⟩) ?_
          refine wpAny_take (i := 7) (oi := ⟨some 56, .fieldAddr 83 (.tmp 55) 1, _, _, _, _⟩) (v := .pointer (some ⟨b, 8, none⟩)) rfl (by kernel_rfl) (by kernel_rfl) (by kernel_rfl) (fun _ _ _ h => h) (Or.inl ⟨by rfl, fun w => by go_simp⟩) ?_
          simp only [Act.put, List.setIfInBounds_toArray, List.set_cons_zero, List.set_cons_succ]
          refine wpAny_ready (rs := [4, 8]) (by kernel_rfl) (by simp) ?_
          refine AllReady.cons (o := ⟨some 53, .load 80 (.tmp 52), _, _, _, _⟩) rfl (fun K hK => ?_) (AllReady.cons (o := ⟨some 57, .load 81 (.tmp 56), _, _, _, _⟩) rfl (fun K hK => ?_) AllReady.nil)
          case' refine_1 =>
            rw [if_pos (by rfl)]
            refine wp_load_mid 80 (.tmp 52) rfl b 0 rfl _ _ hr0 Tryd.underlying80 rfl hi0 ?_
            refine hK _ _ ?_
            clear hK K
            refine wpAny_ready (rs := [8]) (by kernel_rfl) (by simp) ?_
            refine AllReady.cons (o := ⟨some 57, .load 81 (.tmp 56), _, _, _, _⟩) rfl (fun K hK => ?_) AllReady.nil
            rw [if_pos (by rfl)]
            refine wp_load_mid 81 (.tmp 56) rfl b 8 rfl _ _ hr8 Tryd.underlying81 rfl hi8 ?_
            refine hK _ _ ?_
            clear hK K
          case' refine_2 =>
            rw [if_pos (by rfl)]
            refine wp_load_mid 81 (.tmp 56) rfl b 8 rfl _ _ hr8 Tryd.underlying81 rfl hi8 ?_
            refine hK _ _ ?_
            clear hK K
            refine wpAny_ready (rs := [4]) (by kernel_rfl) (by simp) ?_
            refine AllReady.cons (o := ⟨some 53, .load 80 (.tmp 52), _, _, _, _⟩) rfl (fun K hK => ?_) AllReady.nil
            rw [if_pos (by rfl)]
            refine wp_load_mid 80 (.tmp 52) rfl b 0 rfl _ _ hr0 Tryd.underlying80 rfl hi0 ?_
            refine hK _ _ ?_
            clear hK K
          all_goals
            clear hr0 hr8 hi0 hi8
            refine wpAny_ready (rs := [9]) (by kernel_rfl) (by simp) ?_
            refine AllReady.cons (o := ⟨some 58, .call ⟨.value (.func 52), #[.tmp 53, .tmp 57], #[80, 81]⟩, _, _, _, _⟩) rfl (fun K hK => ?_) AllReady.nil
            rw [if_pos (by rfl), Array.toArray_toList, Array.toArray_toList]
            go_simp
            refine (mix_any _ _ _ hG3.drew).mono ?_
            rintro e w4 ⟨rfl, hw4⟩
            refine hK _ _ ?_
            clear hK K
            refine wpAny_take (i := 10) (oi := ⟨some 59, .nilCheck (.tmp 49), _, _, _, _⟩) (v := .pointer (some ⟨b, 0, none⟩)) rfl (by kernel_rfl) (by kernel_rfl) (by kernel_rfl) (fun _ _ _ h => h) (Or.inl ⟨by rfl, fun w => by go_simp⟩) ?_
            refine wpAny_take (i := 11) (oi := ⟨some 60, .fieldAddr 83 (.tmp 59) 0, _, _, _, _⟩) (v := .pointer (some ⟨b, 0, none⟩)) rfl (by kernel_rfl) (by kernel_rfl) (by kernel_rfl) (fun _ _ _ h => h) (Or.inl ⟨by rfl, fun w => by go_simp⟩) ?_
            refine wpAny_ready (rs := [12]) (by kernel_rfl) (by simp) ?_
            refine AllReady.cons (o := ⟨none, .store 80 (.tmp 60) (.tmp 58), _, _, _, _⟩) rfl (fun K hK => ?_) AllReady.nil
            rw [if_pos (by rfl)]
            have hb4 : Blk w4 b (digC H' (putB fb' (mm.length % 64) (l2.take n)) (mm.length + n)) 83 := hb3.drew.belowSize hw4
            refine wp_store_mid 80 (.tmp 60) (.tmp 58) rfl b 0 (row32 (mixS H' (putB fb' (mm.length % 64) (l2.take n))).at 8) rfl rfl (hb4.there 0 _ (by rw [row32_size, digC_size]; omega)) (by rw [row32_size]; exact z40.2) (row32_one _ _) ?_
            refine hK _ _ ?_
            clear hK K
            refine wpAny_done (by kernel_rfl) ?_ _
            have hb5 := hb4.setCells (row32 (mixS H' (putB fb' (mm.length % 64) (l2.take n))).at 8).toList 0
            rw [digC_setWords] at hb5
            have hg5 : w3.grownBy (w4.setCells b 0 (row32 (mixS H' (putB fb' (mm.length % 64) (l2.take n))).at 8).toList) (some b) :=
              grown_trans (grown_of_below ((Below.refl w3.heap.size w3).drew.trans (show Below w3.heap.size w3.drew w4 from hw4))) (grown_setCells _ _ _ _)
            generalize w4.setCells b 0 (row32 (mixS H' (putB fb' (mm.length % 64) (l2.take n))).at 8).toList = w5 at hb5 hg5 ⊢
            clear hb4 hw4
            go_simp
            go_wp2_with fail
            go_roundw
            case rel =>
              have hq := dig_full (l := l2.take n) hD.words hD.tail (by rw [HTL.out]; omega)
              have hml : mm.length + n = (mm ++ l2.take n).length := by rw [List.length_append, HTL.out]
              refine ⟨l1 ++ l2.take n, l2.drop n, mixS H' (putB fb' (mm.length % 64) (l2.take n)), putB fb' (mm.length % 64) (l2.take n), ?_, rfl, grown_trans hg (grown_trans hg2 (grown_trans hg3 hg5)), hG3.grown hg5 hb0, ?_⟩
              · rw [List.append_assoc, List.take_append_drop]; exact HS.out
              · rw [← List.append_assoc, ← HM.out]
                exact ⟨by rw [← hml]; exact hb5, hq.1, fun j hj => by rw [hq.2] at hj; omega⟩
            case measure => simp only [strLen, mk_size, List.length_drop]; omega
        · have hff : ((mm.length : Int) % 64 + (n : Int) == 64) = false := beq_eq_false_iff_ne.2 (by omega)
          go_wp2_with (with_reducible refine at_list ?_; first
            | (refine wpList_loadCell (op := ⟨some 23, _, _, _, _, _⟩) rfl _ _ rfl b 72 rfl _ _ hD.blk _ Tryd.underlying22 rfl _ (digC_taken _ _ _) ?_)
            | (refine wpList_sliceArr rfl _ _ _ rfl b 8 rfl _ _ rfl (mm.length % 64) (by omega) _ _ Tryd.underlying81 i5 (by omega) ?_)
            | (refine wpList_copyStr rfl _ _ _ _ rfl b (8 + mm.length % 64) (64 - mm.length % 64) (64 - mm.length % 64) rfl l2 rfl _ Tryd.underlying51 i5 _ _ hD.blk n HN.out (by rw [digC_size]; omega) ?_; intro w2 hg2 hs2 hb2; rw [digC_setBytes _ _ _ _ _ (by rw [HTL.out]; omega)] at hb2)
            | (refine wpList_loadCell (op := ⟨some 39, _, _, _, _, _⟩) rfl _ _ rfl b 72 rfl _ _ hb2 _ Tryd.underlying22 rfl _ (digC_taken _ _ _) ?_)
            | (refine wpList_storeCell rfl _ _ _ rfl b 72 rfl (.int .u64 ((mm.length : Int) + (n : Int))) rfl _ _ hb2 i44 rfl rfl (by rw [digC_size]; omega) ?_; intro w3 hg3 hs3 hb3; rw [show ((mm.length : Int) + (n : Int)) = ((mm.length + n : Nat) : Int) from by omega, digC_setTaken] at hb3))
          go_roundw
          case rel =>
            have hq := dig_part (l := l2.take n) hD.words hD.tail (by rw [HTL.out]; omega)
            have hml : mm.length + n = (mm ++ l2.take n).length := by rw [List.length_append, HTL.out]
            refine ⟨l1 ++ l2.take n, l2.drop n, H', putB fb' (mm.length % 64) (l2.take n), ?_, rfl, grown_trans hg (grown_trans hg2 hg3), (hG'.grown hg2 hb0).grown hg3 hb0, ?_⟩
            · rw [List.append_assoc, List.take_append_drop]; exact HS.out
            · rw [← List.append_assoc, ← HM.out]
              exact ⟨by rw [← hml]; exact hb3, hq.1, hq.2⟩
          case measure => simp only [strLen, mk_size, List.length_drop]; omega
end Go.Proofs.YtdolgkegeomafaaDoor.Sh
