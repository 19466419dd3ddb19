/- What ShaPurposes does. -/
import Derived.Test.YthighfdjlbkefaaDoorSsl
import Derived.Test.YthighfdjlbkefaaDoorLaw
import Derived.Test.YthighfdjlbkefaaDoorPcs
namespace Go.Proofs.YthighfdjlbkefaaDoor
open Go.RowKit
/-- The first n texts, each cut. -/
def fewsTo (ss : List (List UInt8)) (n : Nat) : List (List UInt8) := (ss.take n).map fewL
theorem fewsTo_length (ss : List (List UInt8)) (n : Nat) (h : n ≤ ss.length) : (fewsTo ss n).length = n := by
  unfold fewsTo; rw [List.length_map, List.length_take]; omega
theorem fewsTo_succ (ss : List (List UInt8)) (n : Nat) (h : n < ss.length) : fewsTo ss (n + 1) = fewsTo ss n ++ [fewL (ss.getD n [])] := by
  unfold fewsTo
  rw [List.take_add_one, List.map_append, List.getElem?_eq_getElem h, List.getD_eq_getElem?_getD, List.getElem?_eq_getElem h]
  rfl
theorem fewsTo_le (ss : List (List UInt8)) (n i : Nat) : ((fewsTo ss n).getD i []).length ≤ 3000 := by
  unfold fewsTo
  rw [List.getD_eq_getElem?_getD, List.getElem?_map]
  cases (ss.take n)[i]? with
  | none => simp
  | some v => exact fewL_length v
theorem tagTo_few (p : UInt8) (ss : List (List UInt8)) (h : ∀ i, (ss.getD i []).length ≤ 3000) : ∀ n, (tagTo p ss n).length ≤ 1 + 3004 * n
  | 0 => by simp [tagTo]
  | n + 1 => by
    have := tagTo_few p ss h n
    have := h n
    rw [tagTo, List.length_append, List.length_append, be_length]
    omega
theorem list_ext_getD {l k : List (List UInt8)} (hl : l.length = k.length) (h : ∀ j, j < l.length → l.getD j [] = k.getD j []) : l = k := by
  apply List.ext_getElem hl
  intro i h1 h2
  have := h i h1
  rwa [List.getD_eq_getElem?_getD, List.getD_eq_getElem?_getD, List.getElem?_eq_getElem h1, List.getElem?_eq_getElem h2] at this
set_option maxRecDepth 100000 in
set_option maxHeartbeats 2000000 in
theorem shaPurposes_any (p : UInt8) (a1 a2 : Option Addr) (len1 cap1 len2 cap2 : Nat) (s1 s2 : List (List UInt8)) (w : World) (hG : Glob w) (hs1 : IsStrs w a1 len1 s1) (hs2 : IsStrs w a2 len2 s2) (hc1 : len1 ≤ cap1) (hc2 : len2 ≤ cap2) :
    Calls Tryd.prog 5 #[.int .u8 (n8 p), .slice a1 len1 cap1, .slice a2 len2 cap2] w fun e w' => e = .returned (.bool true) ∧ Below w.heap.size w w' := by
  obtain ⟨i9', hi9, hz9, hz9s, hb9⟩ := info9
  have hp0 := n8_nonneg p
  have hp1 := n8_le p
  have L1 : Hid (len1 = s1.length) := hs1.1
  have L2 : Hid (len2 = s2.length) := hs2.1
  have hs1' := hs1.2
  have hs2' := hs2.2
  clear hs1 hs2
  obtain ⟨m1, M1⟩ : ∃ m1, m1 = if 8 < len1 then 8 else len1 := ⟨_, rfl⟩
  obtain ⟨m2, M2⟩ : ∃ m2, m2 = if 8 < len2 then 8 else len2 := ⟨_, rfl⟩
  have hm1 : m1 ≤ 8 := by rw [M1]; split <;> omega
  have hm2 : m2 ≤ 8 := by rw [M2]; split <;> omega
  have hml1 : m1 ≤ len1 := by rw [M1]; split <;> omega
  have hml2 : m2 ≤ len2 := by rw [M2]; split <;> omega
  have D1 : m1 = 0 ∨ ∃ b o, a1 = some ⟨b, o, none⟩ ∧ ∀ i, i < m1 → w.cell? ⟨b, o + i, none⟩ = some (.string ⟨(s1.getD i []).toArray⟩) := by
    rcases hs1' with h | ⟨b, o, h1, h2⟩
    · exact .inl (by omega)
    · exact .inr ⟨b, o, h1, fun i hi => h2 i (by omega)⟩
  have D2 : m2 = 0 ∨ ∃ b o, a2 = some ⟨b, o, none⟩ ∧ ∀ i, i < m2 → w.cell? ⟨b, o + i, none⟩ = some (.string ⟨(s2.getD i []).toArray⟩) := by
    rcases hs2' with h | ⟨b, o, h1, h2⟩
    · exact .inl (by omega)
    · exact .inr ⟨b, o, h1, fun i hi => h2 i (by omega)⟩
  have A1 : 8 < len1 → ∃ b o, a1 = some ⟨b, o, none⟩ := fun h => by
    rcases hs1' with h' | ⟨b, o, h1, h2⟩
    · omega
    · exact ⟨b, o, h1⟩
  have A2 : 8 < len2 → ∃ b o, a2 = some ⟨b, o, none⟩ := fun h => by
    rcases hs2' with h' | ⟨b, o, h1, h2⟩
    · omega
    · exact ⟨b, o, h1⟩
  have D1 : Hid (m1 = 0 ∨ ∃ b o, a1 = some ⟨b, o, none⟩ ∧ ∀ i, i < m1 → w.cell? ⟨b, o + i, none⟩ = some (.string ⟨(s1.getD i []).toArray⟩)) := D1
  have D2 : Hid (m2 = 0 ∨ ∃ b o, a2 = some ⟨b, o, none⟩ ∧ ∀ i, i < m2 → w.cell? ⟨b, o + i, none⟩ = some (.string ⟨(s2.getD i []).toArray⟩)) := D2
  clear hs1' hs2'
  obtain ⟨h8, hm, hE⟩ | ⟨h8, hm, hE⟩ : (8 < len1 ∧ 8 ≤ m1 ∧ ∃ b o, a1 = some ⟨b, o, none⟩) ∨ (¬ 8 < len1 ∧ len1 ≤ m1 ∧ True) := by
    by_cases h : 8 < len1
    · exact .inl ⟨h, by rw [M1, if_pos h]; exact Nat.le_refl _, A1 h⟩
    · exact .inr ⟨h, by rw [M1, if_neg h]; exact Nat.le_refl _, trivial⟩
  all_goals
    obtain ⟨k8, km, kE⟩ | ⟨k8, km, kE⟩ : (8 < len2 ∧ 8 ≤ m2 ∧ ∃ b o, a2 = some ⟨b, o, none⟩) ∨ (¬ 8 < len2 ∧ len2 ≤ m2 ∧ True) := by
      by_cases h : 8 < len2
      · exact .inl ⟨h, by rw [M2, if_pos h]; exact Nat.le_refl _, A2 h⟩
      · exact .inr ⟨h, by rw [M2, if_neg h]; exact Nat.le_refl _, trivial⟩
    all_goals
      clear A1 A2 M1 M2
      first | (obtain ⟨b1, o1, rfl⟩ := hE) | clear hE
      first | (obtain ⟨b2, o2, rfl⟩ := kE) | clear kE
  all_goals
    first | (have e1 : decide ((8 : Int) < (len1 : Int)) = false := (by simp; omega)) | skip
    first | (have e2 : decide ((8 : Int) < (len2 : Int)) = false := (by simp; omega)) | skip
    go_enter Tryd.func5, Tryd.ntmps5
    go_wp2_with (with_reducible refine at_list ?_; first
      | (refine wpList_tsl0 (op := ⟨some 25, _, _, _, _, _⟩) rfl rfl ?_; intro w1 hw1 hs1 hA1; replace hs1 := hs1.symm)
      | (refine wpList_tsl0 (op := ⟨some 26, _, _, _, _, _⟩) rfl rfl ?_; intro w2 hw2 hs2 hA2; replace hs2 := hs2.symm))
    obtain ⟨gB, hgB⟩ : ∃ gB, gB = w1.heap.size := ⟨_, rfl⟩
    have hB2 : Below w.heap.size w w2 := hw1.trans (hw2.mono hw1.size)
    have hA2' : SS w2 gB 0 [] := by rw [hgB]; exact hA2
    have hA1' : SS w2 w.heap.size 0 [] := hA1.belowSize hw2
    have hne : w.heap.size ≠ gB := by have := hA1.lt; omega
    have hgw : w.heap.size ≤ gB := by have := hA1.lt; omega
    rw [← hgB]
    clear hgB hw1 hw2 hs1 hs2 hA1 hA2
    go_loopw [7, 9] (fun v7 v9 wl => ∃ n g cap : Nat, n ≤ m1 ∧ v7 = .slice (some ⟨g, 0, none⟩) n cap ∧ v9 = .int .i64 n ∧ Below w.heap.size w wl ∧ SS wl g cap (fewsTo s1 n) ∧ SS wl gB 0 [] ∧ w.heap.size ≤ g ∧ g ≠ gB) (fun _ v9 _ => m1 - (intOf v9).toNat)
    case atStart => exact ⟨0, w.heap.size, 0, by omega, rfl, rfl, hB2, by simpa [fewsTo] using hA1', hA2', Nat.le_refl _, hne⟩
    case round =>
      clear hB2 hA1' hA2' hne
      obtain ⟨n, g, cp, hn, rfl, rfl, hB, hA, hZ, hge, hne⟩ := hrel
      by_cases hlt : n < m1
      · obtain ⟨t, ht⟩ : ∃ t, t = s1.getD n [] := ⟨_, rfl⟩
        obtain hd | ⟨b, o, hab, hcc⟩ := D1.out
        · omega
        have hcw := hcc n hlt
        rw [← ht] at hcw
        have hbl := World.block_lt_of_cell? w _ hcw
        have hcr : wr.cell? ⟨b, o + n, none⟩ = some (.string ⟨t.toArray⟩) := by rw [hB.cell (p := ⟨b, o + n, none⟩) hbl]; exact hcw
        have HT : Hid (fewsTo s1 (n + 1) = fewsTo s1 n ++ [fewL t]) := by rw [ht]; exact fewsTo_succ s1 n (by have := L1.out; omega)
        have HL : Hid ((fewsTo s1 n).length = n) := fewsTo_length s1 n (by have := L1.out; omega)
        clear ht hcw hcc hbl
        cases hab
        go_wp2_with (first
          | (go_at_call 8; refine (few_any _ _).mono ?_; rintro e w' ⟨rfl, rfl⟩)
          | (with_reducible refine at_list ?_; first
            | (refine wpList_tsl1 rfl _ rfl (fewL t) rfl ?_; intro w3 hw3 hs3 hb3; replace hs3 := hs3.symm)
            | (refine wpList_appendSS rfl _ _ _ rfl g cp (fewsTo s1 n) n HL.out.symm rfl (hA.belowSize hw3) _ _ rfl (fewL t) _ hb3 i9' Tryd.underlying25 hi9 hz9 hz9s hb9 (by rw [HL.out]; omega) ?_; intro w4 g4 cap4 hg4 hgr4 hA4)))
        go_roundw
        case rel =>
          have hB3 := hB.trans (hw3.mono hB.size)
          have hlt4 := hZ.lt
          have hsz := hw3.size
          refine ⟨n + 1, g4, cap4, by omega, rfl, by go_num, hB3.trans (below_of_grown hgr4 hge hB3.size), by rw [HT.out]; exact hA4, (hZ.belowSize hw3).grown hgr4 (by simpa using hne.symm), ?_, ?_⟩
          · have := hB.size; omega
          · omega
        case measure => simp [intOf]; omega
      · obtain rfl : m1 = n := by omega
        first | (have d1 : decide (m1 < len1) = false := (by simp; omega)) | (have d1 : decide (m1 < 8) = false := (by simp; omega))
        first | (have c1 : decide ((m1 : Int) < (len1 : Int)) = false := (by simp; omega)) | (have c1 : decide ((m1 : Int) < 8) = false := (by simp; omega))
        go_wp2_with fail
        go_loopw [8, 10] (fun v8 v10 wl => ∃ n g2 cap2 : Nat, n ≤ m2 ∧ v8 = .slice (some ⟨g2, 0, none⟩) n cap2 ∧ v10 = .int .i64 n ∧ Below w.heap.size w wl ∧ SS wl g2 cap2 (fewsTo s2 n) ∧ SS wl g cp (fewsTo s1 m1) ∧ w.heap.size ≤ g2 ∧ g ≠ g2) (fun _ v10 _ => m2 - (intOf v10).toNat)
        case atStart => exact ⟨0, gB, 0, by omega, rfl, rfl, hB, by simpa [fewsTo] using hZ, hA, hgw, hne⟩
        case round =>
          clear hB hA hZ hne hgw
          obtain ⟨n, g2, cp2, hn2, rfl, rfl, hB, hA2, hA, hge2, hne⟩ := hrel
          by_cases hlt2 : n < m2
          · obtain ⟨t, ht⟩ : ∃ t, t = s2.getD n [] := ⟨_, rfl⟩
            obtain hd | ⟨b, o, hab, hcc⟩ := D2.out
            · omega
            have hcw := hcc n hlt2
            rw [← ht] at hcw
            have hbl := World.block_lt_of_cell? w _ hcw
            have hcr : wr.cell? ⟨b, o + n, none⟩ = some (.string ⟨t.toArray⟩) := by rw [hB.cell (p := ⟨b, o + n, none⟩) hbl]; exact hcw
            have HT : Hid (fewsTo s2 (n + 1) = fewsTo s2 n ++ [fewL t]) := by rw [ht]; exact fewsTo_succ s2 n (by have := L2.out; omega)
            have HL : Hid ((fewsTo s2 n).length = n) := fewsTo_length s2 n (by have := L2.out; omega)
            clear ht hcw hcc hbl
            cases hab
            go_wp2_with (first
              | (go_at_call 8; refine (few_any _ _).mono ?_; rintro e w' ⟨rfl, rfl⟩)
              | (with_reducible refine at_list ?_; first
                | (refine wpList_tsl1 rfl _ rfl (fewL t) rfl ?_; intro w3 hw3 hs3 hb3; replace hs3 := hs3.symm)
                | (refine wpList_appendSS rfl _ _ _ rfl g2 cp2 (fewsTo s2 n) n HL.out.symm rfl (hA2.belowSize hw3) _ _ rfl (fewL t) _ hb3 i9' Tryd.underlying25 hi9 hz9 hz9s hb9 (by rw [HL.out]; omega) ?_; intro w4 g4 cap4 hg4 hgr4 hA4)))
            go_roundw
            case rel =>
              have hB3 := hB.trans (hw3.mono hB.size)
              have hlt4 := hA.lt
              have hsz := hw3.size
              refine ⟨n + 1, g4, cap4, by omega, rfl, by go_num, hB3.trans (below_of_grown hgr4 hge2 hB3.size), by rw [HT.out]; exact hA4, (hA.belowSize hw3).grown hgr4 (by simpa using hne), ?_, ?_⟩
              · have := hB.size; omega
              · omega
            case measure => simp [intOf]; omega
          · obtain rfl : m2 = n := by omega
            obtain ⟨la, hla⟩ : ∃ la, la = fewsTo s1 m1 := ⟨_, rfl⟩
            obtain ⟨lb, hlb⟩ : ∃ lb, lb = fewsTo s2 m2 := ⟨_, rfl⟩
            have NA : Hid (la.length = m1) := by rw [hla]; exact fewsTo_length s1 m1 (by have := L1.out; omega)
            have NB : Hid (lb.length = m2) := by rw [hlb]; exact fewsTo_length s2 m2 (by have := L2.out; omega)
            have TA := tagTo_few p la (fun i => by rw [hla]; exact fewsTo_le _ _ _) m1
            have TB := tagTo_few p lb (fun i => by rw [hlb]; exact fewsTo_le _ _ _) m2
            rw [← hla] at hA
            rw [← hlb] at hA2
            clear hla hlb
            first | (have d2 : decide (m2 < len2) = false := (by simp; omega)) | (have d2 : decide (m2 < 8) = false := (by simp; omega))
            first | (have c2 : decide ((m2 : Int) < (len2 : Int)) = false := (by simp; omega)) | (have c2 : decide ((m2 : Int) < 8) = false := (by simp; omega))
            go_wp2_with fail
            go_loopw [11, 12] (fun v11 v12 wl => ∃ (n : Nat) (sm : Bool), n ≤ m1 ∧ v11 = .bool sm ∧ v12 = .int .i64 n ∧ Below w.heap.size w wl ∧ SS wl g cp la ∧ SS wl g2 cp2 lb ∧ Hid (sm = true → m1 = m2 ∧ ∀ j, j < n → la.getD j [] = lb.getD j [])) (fun _ v12 _ => m1 - (intOf v12).toNat)
            case atStart => exact ⟨0, _, by omega, rfl, rfl, hB, hA, hA2, fun h => ⟨by simp at h; omega, fun j hj => by omega⟩⟩
            case round =>
              clear hB hA hA2
              obtain ⟨n, sm, hn, rfl, rfl, hB, hA, hA2, HS⟩ := hrel
              by_cases hx : n < m1
              · cases sm with
                | true =>
                  obtain ⟨hmm0, hS0⟩ := HS.out rfl
                  have hx2 : n < m2 := by omega
                  have hmm : Hid (m1 = m2) := hmm0
                  have hS : Hid (∀ j, j < n → la.getD j [] = lb.getD j []) := hS0
                  clear HS hmm0 hS0
                  have hca := hA.cell n (by rw [NA.out]; exact hx)
                  have hcb := hA2.cell n (by rw [NB.out]; omega)
                  generalize hta : la.getD n [] = ta at hca
                  generalize htb : lb.getD n [] = tb at hcb
                  have HTE : Hid (ta = tb → la.getD n [] = lb.getD n []) := fun h => by rw [hta, htb, h]
                  clear hta htb
                  go_wp2_with fail
                  go_region
                  all_goals
                    go_wp2_with fail
                    go_roundw
                    case rel =>
                      refine ⟨n + 1, _, by omega, rfl, by go_num, hB.drew, hA.drew, hA2.drew, fun h => ⟨hmm.out, fun j hj => ?_⟩⟩
                      by_cases hjn : j < n
                      · exact hS.out j hjn
                      · obtain rfl : j = n := by omega
                        refine HTE.out ?_
                        simp at h
                        exact h
                    case measure => simp [intOf]; omega
                | false =>
                  have b1 : decide ((n : Int) < (m1 : Int)) = true := by simp; omega
                  clear HS
                  have NB' : Hid (lb.length = m2) := NB
                  have hGr := hG.belowSize hB
                  go_wp2_with (first
                    | (go_at_call_of 15 (Value.slice (some ⟨g, 0, none⟩) m1 cp); refine (tagged_any p g 0 m1 cp la _ hGr (fun i hi => by rw [Nat.zero_add]; exact hA.cell i (by rw [NA.out]; exact hi)) (by omega)).mono ?_; rintro e w5 ⟨rfl, hw5⟩)
                    | (go_at_call_of 15 (Value.slice (some ⟨g2, 0, none⟩) m2 cp2); refine (tagged_any p g2 0 m2 cp2 lb _ (hGr.belowSize hw5) (fun i hi => by rw [Nat.zero_add]; exact (hA2.belowSize hw5).cell i (by rw [NB'.out]; exact hi)) (by omega)).mono ?_; rintro e w6 ⟨rfl, hw6⟩)
                    | (go_at_call 9; refine (awake_any _ ((hGr.belowSize hw5).belowSize hw6)).mono ?_; rintro e w7 ⟨rfl, hw7⟩)
                    | (go_at_call 16; refine (rtagged_any p g 0 m1 cp la _ (fun i hi => by rw [Nat.zero_add]; exact (((hA.belowSize hw5).belowSize hw6).belowSize hw7).cell i (by rw [NA.out]; exact hi)) (by omega)).mono ?_; rintro e w8 ⟨rfl, hw8⟩))
                  go_ret
                  have hB5 := hB.trans (hw5.mono hB.size)
                  have hB6 := hB5.trans (hw6.mono hB5.size)
                  have hB7 := hB6.trans (hw7.mono hB6.size)
                  exact ⟨rfl, hB7.trans (hw8.mono hB7.size)⟩
              · have b1 : decide ((n : Int) < (m1 : Int)) = false := by simp; omega
                cases sm with
                | true =>
                  obtain ⟨hmm, hS⟩ := HS.out rfl
                  obtain rfl : la = lb := list_ext_getD (by rw [NA.out, NB.out, hmm]) (fun j hj => hS j (by rw [NA.out] at hj; omega))
                  clear HS hS
                  subst hmm
                  have NB' : Hid (la.length = m1) := NA
                  have hGr := hG.belowSize hB
                  go_wp2_with (first
                    | (go_at_call_of 15 (Value.slice (some ⟨g, 0, none⟩) m1 cp); refine (tagged_any p g 0 m1 cp la _ hGr (fun i hi => by rw [Nat.zero_add]; exact hA.cell i (by rw [NA.out]; exact hi)) (by omega)).mono ?_; rintro e w5 ⟨rfl, hw5⟩)
                    | (go_at_call_of 15 (Value.slice (some ⟨g2, 0, none⟩) m1 cp2); refine (tagged_any p g2 0 m1 cp2 la _ (hGr.belowSize hw5) (fun i hi => by rw [Nat.zero_add]; exact (hA2.belowSize hw5).cell i (by rw [NB'.out]; exact hi)) (by omega)).mono ?_; rintro e w6 ⟨rfl, hw6⟩)
                    | (go_at_call 9; refine (awake_any _ ((hGr.belowSize hw5).belowSize hw6)).mono ?_; rintro e w7 ⟨rfl, hw7⟩)
                    | (go_at_call 16; refine (rtagged_any p g 0 m1 cp la _ (fun i hi => by rw [Nat.zero_add]; exact (((hA.belowSize hw5).belowSize hw6).belowSize hw7).cell i (by rw [NA.out]; exact hi)) (by omega)).mono ?_; rintro e w8 ⟨rfl, hw8⟩))
                  go_ret
                  have hB5 := hB.trans (hw5.mono hB.size)
                  have hB6 := hB5.trans (hw6.mono hB5.size)
                  have hB7 := hB6.trans (hw7.mono hB6.size)
                  exact ⟨rfl, hB7.trans (hw8.mono hB7.size)⟩
                | false =>
                  clear HS
                  have NB' : Hid (lb.length = m2) := NB
                  have hGr := hG.belowSize hB
                  go_wp2_with (first
                    | (go_at_call_of 15 (Value.slice (some ⟨g, 0, none⟩) m1 cp); refine (tagged_any p g 0 m1 cp la _ hGr (fun i hi => by rw [Nat.zero_add]; exact hA.cell i (by rw [NA.out]; exact hi)) (by omega)).mono ?_; rintro e w5 ⟨rfl, hw5⟩)
                    | (go_at_call_of 15 (Value.slice (some ⟨g2, 0, none⟩) m2 cp2); refine (tagged_any p g2 0 m2 cp2 lb _ (hGr.belowSize hw5) (fun i hi => by rw [Nat.zero_add]; exact (hA2.belowSize hw5).cell i (by rw [NB'.out]; exact hi)) (by omega)).mono ?_; rintro e w6 ⟨rfl, hw6⟩)
                    | (go_at_call 9; refine (awake_any _ ((hGr.belowSize hw5).belowSize hw6)).mono ?_; rintro e w7 ⟨rfl, hw7⟩)
                    | (go_at_call 16; refine (rtagged_any p g 0 m1 cp la _ (fun i hi => by rw [Nat.zero_add]; exact (((hA.belowSize hw5).belowSize hw6).belowSize hw7).cell i (by rw [NA.out]; exact hi)) (by omega)).mono ?_; rintro e w8 ⟨rfl, hw8⟩))
                  go_ret
                  have hB5 := hB.trans (hw5.mono hB.size)
                  have hB6 := hB5.trans (hw6.mono hB5.size)
                  have hB7 := hB6.trans (hw7.mono hB6.size)
                  exact ⟨rfl, hB7.trans (hw8.mono hB7.size)⟩
end Go.Proofs.YthighfdjlbkefaaDoor
