/- What Move and Truncate of a disk do. -/
import Derived.Test.YtgkkpmliociieaaChn
namespace Go.Proofs.Ytgkkpmliociieaa
open Go Go.RowKit
def movD (m : DM) (n t : B) : DM × Nat := if theE m n = 0 then (if okN t = true then (if n = t then (m, 1) else ({ m with ch := m.ch + 1, l := lay t (theC m n) 3 (lay n none 3 m.l) }, 0)) else (m, 110)) else (m, theE m n)
set_option maxRecDepth 100000 in
set_option maxHeartbeats 2000000 in
theorem move_any (p : Nat) (b : Option Nat) (m : DM) (n t : B) (w : World) (hK : DK w p b m) (hm : Okd m) (hn : n.length ≤ 9223372036854775807) (ht : t.length ≤ 9223372036854775807) (hnk : theE m n = 0 → okN n = true) :
    Calls Try.prog 48 #[.pointer (some ⟨p, 0, none⟩), .string ⟨n.toArray⟩, .string ⟨t.toArray⟩] w (ChP w p b (movD m n t)) := by
  have hl := hm.len
  have hch := hm.ch
  have HT := there_any p b m n w hK hm.l.ris (by omega) hn
  have HN := fun w1 => name_any t w1 ht
  have HS := fun w1 (hB : Below w.heap.size w w1) => struck_any p b m w1 (hK.below hB) (by omega)
  have HL := fun w1 (hD : DK w1 p b { m with ch := m.ch + 1 }) => lay_any p b { m with ch := m.ch + 1 } n none 3 w1 hD hm.l.ris (by show m.l.length ≤ _; omega)
  have hl2 := lay_len n none 3 m.l hm.l.ris
  have HL2 := fun (hk : theE m n = 0) b1 w1 (hD : DK w1 p b1 { m with ch := m.ch + 1, l := lay n none 3 m.l }) => lay_any p b1 { m with ch := m.ch + 1, l := lay n none 3 m.l } t (theC m n) 3 w1 hD (lay_ok hm.l (hnk hk)).ris (by show (lay n none 3 m.l).length ≤ _; omega)
  unfold movD
  clear hnk
  generalize theE m n = k at *
  generalize theC m n = c at *
  generalize okN t = o at *
  by_cases hk : k = 0
  · subst hk
    rw [if_pos rfl]
    have HL3 := HL2 rfl
    clear HL2
    cases o with
    | false =>
      rw [if_neg (by simp)]
      clear HL HL3 HS
      go_enter Try.func48, Try.ntmps48
      go_wp2_with (first
        | (go_at_call 39; refine HT.mono ?_; rintro e w1 ⟨rfl, hw1⟩)
        | (go_at_call 24; refine (HN _).mono ?_; rintro e w0 ⟨rfl, hw0⟩; subst hw0)
        | (with_reducible refine at_list ?_; first
          | (refine wpList_allocRow (op := ⟨some 7, _, _, _, _, _⟩) rfl _ rfl _ zCon.1 ?_; intro w2 hw2 hs2 h5; clear hs2; have hB2 := hw1.trans (hw2.mono hw1.size); have hsz := hw1.size)
          | (refine wpList_storeRow (op := ⟨none, .store 75 (.tmp 7) (.tmp 13), _, _, _, _⟩) rfl _ _ _ rfl w1.heap.size (cC c) rfl rfl _ _ h5 rfl (iCon _) (cC_one _) ?_; intro w3 hg3 hs3 h5b; clear hs3; have hB3 := hB2.trans (below_of_grown hg3 (by omega) hB2.size))))
      go_ret
      exact ⟨rfl, b, Chg.below hB3, hK.below hB3⟩
    | true =>
      rw [if_pos rfl]
      by_cases hnt : n = t
      · rw [if_pos hnt]
        have hd : (n == t) = true := by simp [hnt]
        clear HL HL3 HS hnt
        go_enter Try.func48, Try.ntmps48
        go_wp2_with (first
          | (go_at_call 39; refine HT.mono ?_; rintro e w1 ⟨rfl, hw1⟩)
          | (go_at_call 24; refine (HN _).mono ?_; rintro e w0 ⟨rfl, hw0⟩; subst hw0)
          | (with_reducible refine at_list ?_; first
            | (refine wpList_allocRow (op := ⟨some 7, _, _, _, _, _⟩) rfl _ rfl _ zCon.1 ?_; intro w2 hw2 hs2 h5; clear hs2; have hB2 := hw1.trans (hw2.mono hw1.size); have hsz := hw1.size)
            | (refine wpList_storeRow (op := ⟨none, .store 75 (.tmp 7) (.tmp 13), _, _, _, _⟩) rfl _ _ _ rfl w1.heap.size (cC c) rfl rfl _ _ h5 rfl (iCon _) (cC_one _) ?_; intro w3 hg3 hs3 h5b; clear hs3; have hB3 := hB2.trans (below_of_grown hg3 (by omega) hB2.size))))
        go_ret
        exact ⟨rfl, b, Chg.below hB3, hK.below hB3⟩
      · rw [if_neg hnt]
        have hd : (n == t) = false := by simp [hnt]
        clear hnt
        go_enter Try.func48, Try.ntmps48
        go_wp2_with (first
          | (go_at_call 39; refine HT.mono ?_; rintro e w1 ⟨rfl, hw1⟩)
          | (go_at_call 24; refine (HN _).mono ?_; rintro e w0 ⟨rfl, hw0⟩; subst hw0)
          | (go_at_call 64; refine (HS _ hB3).mono ?_; rintro e w4 ⟨rfl, hC4, hD4⟩; have h54 := hC4.blk (hK.below hB3) h5b (by decide) (by decide))
          | (go_at_call 65; refine (HL _ hD4).mono ?_; rintro e w5 ⟨rfl, b5, hC5, hD5⟩; clear HL; have h55 := hC5.blk hD4 h54 (by decide) (by decide))
          | (go_at_call 65; refine (HL3 b5 _ hD5).mono ?_; rintro e w6 ⟨rfl, b6, hC6, hD6⟩; clear HL3)
          | (with_reducible refine at_list ?_; first
            | (refine wpList_allocRow (op := ⟨some 7, _, _, _, _, _⟩) rfl _ rfl _ zCon.1 ?_; intro w2 hw2 hs2 h5; clear hs2; have hB2 := hw1.trans (hw2.mono hw1.size); have hsz := hw1.size)
            | (refine wpList_storeRow (op := ⟨none, .store 75 (.tmp 7) (.tmp 13), _, _, _, _⟩) rfl _ _ _ rfl w1.heap.size (cC c) rfl rfl _ _ h5 rfl (iCon _) (cC_one _) ?_; intro w3 hg3 hs3 h5b; clear hs3; have hB3 := hB2.trans (below_of_grown hg3 (by omega) hB2.size))
            | (refine wpList_run (op := ⟨some 28, _, _, _, _, _⟩) rfl _ _ (run_built0 _ rfl _ built0) ?_)
            | (refine wpList_loadRow (op := ⟨some 32, _, _, _, _, _⟩) rfl _ _ rfl w1.heap.size rfl _ _ h55 _ Try.underlying75 rfl (iCon _) ?_)))
        go_ret
        exact ⟨rfl, b6, (((Chg.below hB3).trans hC4).trans hC5).trans hC6, hD6⟩
  · rw [if_neg hk]
    have hkz : ¬ (k : Int) = 0 := by omega
    clear HL HS HL2 HN
    go_enter Try.func48, Try.ntmps48
    go_wp2_with (first
      | (go_at_call 39; refine HT.mono ?_; rintro e w1 ⟨rfl, hw1⟩)
      | (with_reducible refine at_list ?_; first
        | (refine wpList_allocRow (op := ⟨some 7, _, _, _, _, _⟩) rfl _ rfl _ zCon.1 ?_; intro w2 hw2 hs2 h5; clear hs2; have hB2 := hw1.trans (hw2.mono hw1.size); have hsz := hw1.size)
        | (refine wpList_storeRow (op := ⟨none, .store 75 (.tmp 7) (.tmp 13), _, _, _, _⟩) rfl _ _ _ rfl w1.heap.size (cC c) rfl rfl _ _ h5 rfl (iCon _) (cC_one _) ?_; intro w3 hg3 hs3 h5b; clear hs3; have hB3 := hB2.trans (below_of_grown hg3 (by omega) hB2.size))))
    go_ret
    exact ⟨rfl, b, Chg.below hB3, hK.below hB3⟩
def truD (m : DM) (n : B) (z : Int) : DM × Nat := if theE m n = 0 then (if 0 ≤ z ∧ z ≤ ((byt (theC m n)).length : Int) then ({ m with ch := m.ch + 1, l := lay n (some ((byt (theC m n)).take z.toNat)) 5 m.l }, 0) else (m, 1)) else (m, theE m n)
theorem extract_take (l : List UInt8) (n : Nat) : (ByteArray.mk l.toArray).extract 0 n = ⟨(l.take n).toArray⟩ := by
  have : ((ByteArray.mk l.toArray).extract 0 n).data = (l.take n).toArray := by
    apply Array.ext'
    simp [ByteArray.extract, ByteArray.copySlice]
  rw [show (ByteArray.mk l.toArray).extract 0 n = ⟨((ByteArray.mk l.toArray).extract 0 n).data⟩ from rfl, this]
section
attribute [local go_sem] extract_take
set_option maxRecDepth 100000 in
set_option maxHeartbeats 2000000 in
theorem truncate_any (p : Nat) (b : Option Nat) (m : DM) (n : B) (z : Int) (w : World) (hK : DK w p b m) (hm : Okd m) (hn : n.length ≤ 9223372036854775807) :
    Calls Try.prog 50 #[.pointer (some ⟨p, 0, none⟩), .string ⟨n.toArray⟩, .int .i64 z] w (ChP w p b (truD m n z)) := by
  have hl := hm.len
  have hch := hm.ch
  have HT := there_any p b m n w hK hm.l.ris (by omega) hn
  have HS := fun w1 (hB : Below w.heap.size w w1) => struck_any p b m w1 (hK.below hB) (by omega)
  have HL := fun s w1 (hD : DK w1 p b { m with ch := m.ch + 1 }) => lay_any p b { m with ch := m.ch + 1 } n (some s) 5 w1 hD hm.l.ris (by show m.l.length ≤ _; omega)
  unfold truD
  generalize theE m n = k at *
  generalize theC m n = c at *
  by_cases hk : k = 0
  · subst hk
    rw [if_pos rfl]
    by_cases hz : 0 ≤ z ∧ z ≤ ((byt c).length : Int)
    · rw [if_pos hz]
      obtain ⟨q, rfl⟩ := Int.eq_ofNat_of_zero_le hz.1
      have hz2 := hz.2
      have hzq : q ≤ (byt c).length := by omega
      have hz3 : ¬ ((byt c).length : Int) < (q : Int) := by omega
      rw [Int.toNat_natCast]
      clear hz
      go_enter Try.func50, Try.ntmps50
      go_wp2_with (first
        | (go_at_call 39; refine HT.mono ?_; rintro e w1 ⟨rfl, hw1⟩)
        | (go_at_call 64; refine (HS _ hB3).mono ?_; rintro e w4 ⟨rfl, hC4, hD4⟩; have h54 := hC4.blk (hK.below hB3) h5b (by decide) (by decide))
        | (go_at_call 65; refine (HL ((byt c).take q) _ hD4).mono ?_; rintro e w5 ⟨rfl, b5, hC5, hD5⟩; clear HL)
        | (with_reducible refine at_list ?_; first
          | (refine wpList_allocRow (op := ⟨some 7, _, _, _, _, _⟩) rfl _ rfl _ zCon.1 ?_; intro w2 hw2 hs2 h5; clear hs2; have hB2 := hw1.trans (hw2.mono hw1.size); have hsz := hw1.size)
          | (refine wpList_storeRow (op := ⟨none, .store 75 (.tmp 7) (.tmp 13), _, _, _, _⟩) rfl _ _ _ rfl w1.heap.size (cC c) rfl rfl _ _ h5 rfl (iCon _) (cC_one _) ?_; intro w3 hg3 hs3 h5b; clear hs3; have hB3 := hB2.trans (below_of_grown hg3 (by omega) hB2.size); have cc := (h5b.cell 1).trans (cC_g1 _))
          | (refine wpList_loadCell (op := ⟨some 32, _, _, _, _, _⟩) rfl _ _ rfl w1.heap.size 1 rfl _ _ h54 _ Try.underlying9 rfl _ (cC_g1 _) ?_)
          | (refine wpList_run (op := ⟨some 35, _, _, _, _, _⟩) rfl _ _ (run_built2 _ _ _ _ _ rfl _ _ rfl rfl _ (builtC ((byt c).take q))) ?_)))
      go_ret
      exact ⟨rfl, b5, ((Chg.below hB3).trans hC4).trans hC5, hD5⟩
    · rw [if_neg hz]
      clear HL HS
      by_cases hz0 : z < 0
      · clear hz
        go_enter Try.func50, Try.ntmps50
        go_wp2_with (first
          | (go_at_call 39; refine HT.mono ?_; rintro e w1 ⟨rfl, hw1⟩)
          | (with_reducible refine at_list ?_; first
            | (refine wpList_allocRow (op := ⟨some 7, _, _, _, _, _⟩) rfl _ rfl _ zCon.1 ?_; intro w2 hw2 hs2 h5; clear hs2; have hB2 := hw1.trans (hw2.mono hw1.size); have hsz := hw1.size)
            | (refine wpList_storeRow (op := ⟨none, .store 75 (.tmp 7) (.tmp 13), _, _, _, _⟩) rfl _ _ _ rfl w1.heap.size (cC c) rfl rfl _ _ h5 rfl (iCon _) (cC_one _) ?_; intro w3 hg3 hs3 h5b; clear hs3; have hB3 := hB2.trans (below_of_grown hg3 (by omega) hB2.size))))
        go_ret
        exact ⟨rfl, b, Chg.below hB3, hK.below hB3⟩
      · have hz1 : ((byt c).length : Int) < z := by omega
        clear hz
        go_enter Try.func50, Try.ntmps50
        go_wp2_with (first
          | (go_at_call 39; refine HT.mono ?_; rintro e w1 ⟨rfl, hw1⟩)
          | (with_reducible refine at_list ?_; first
            | (refine wpList_allocRow (op := ⟨some 7, _, _, _, _, _⟩) rfl _ rfl _ zCon.1 ?_; intro w2 hw2 hs2 h5; clear hs2; have hB2 := hw1.trans (hw2.mono hw1.size); have hsz := hw1.size)
            | (refine wpList_storeRow (op := ⟨none, .store 75 (.tmp 7) (.tmp 13), _, _, _, _⟩) rfl _ _ _ rfl w1.heap.size (cC c) rfl rfl _ _ h5 rfl (iCon _) (cC_one _) ?_; intro w3 hg3 hs3 h5b; clear hs3; have hB3 := hB2.trans (below_of_grown hg3 (by omega) hB2.size); have cc := (h5b.cell 1).trans (cC_g1 _))))
        go_ret
        exact ⟨rfl, b, Chg.below hB3, hK.below hB3⟩
  · rw [if_neg hk]
    have hkz : ¬ (k : Int) = 0 := by omega
    clear HL HS
    go_enter Try.func50, Try.ntmps50
    go_wp2_with (first
      | (go_at_call 39; refine HT.mono ?_; rintro e w1 ⟨rfl, hw1⟩)
      | (with_reducible refine at_list ?_; first
        | (refine wpList_allocRow (op := ⟨some 7, _, _, _, _, _⟩) rfl _ rfl _ zCon.1 ?_; intro w2 hw2 hs2 h5; clear hs2; have hB2 := hw1.trans (hw2.mono hw1.size); have hsz := hw1.size)
        | (refine wpList_storeRow (op := ⟨none, .store 75 (.tmp 7) (.tmp 13), _, _, _, _⟩) rfl _ _ _ rfl w1.heap.size (cC c) rfl rfl _ _ h5 rfl (iCon _) (cC_one _) ?_; intro w3 hg3 hs3 h5b; clear hs3; have hB3 := hB2.trans (below_of_grown hg3 (by omega) hB2.size))))
    go_ret
    exact ⟨rfl, b, Chg.below hB3, hK.below hB3⟩
end
end Go.Proofs.Ytgkkpmliociieaa
