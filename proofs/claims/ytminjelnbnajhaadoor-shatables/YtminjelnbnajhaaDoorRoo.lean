/- What root does. -/
import Derived.Test.YtminjelnbnajhaaDoorAb
namespace Go.Proofs.YtminjelnbnajhaaDoor
open Go Go.RowKit
theorem built72 : Tryd.prog.built 72 [] = some (wrow [0, 0, 0, 0]) := by kernel_rfl
theorem z72 : (∀ w, (zeroValue 72).run Tryd.prog w = .ok (.agg (wrow [0, 0, 0, 0])) w) ∧ (Tryd.prog.info? 72).map (·.size) = some 4 := zero_of_info (by kernel_rfl)
theorem i72 (l : List Nat) (h : l.length = 4) : (Tryd.prog.info? 72).map (·.size) = some (wrow l).size := by rw [wrow_size, h]; exact z72.2
theorem sz72 {l : List Nat} (h : l.length = 4) : (wrow l).size = (wrow [0, 0, 0, 0]).size := by rw [wrow_size, h]; simp [wrow]
theorem setBit_length (x : List Nat) (b : Nat) : (setBit x b).length = x.length := by simp [setBit]
theorem rootS_length (p : Nat) (cube : Bool) : ∀ n, (rootS p cube n).length = 4
  | 0 => rfl
  | n + 1 => by
    rw [rootS]
    split
    · exact rootS_length p cube n
    · rw [setBit_length]; exact rootS_length p cube n
theorem ofInt_q (a : Nat) : BitVec.ofInt 32 (q a) = BitVec.ofNat 32 a := by unfold q; exact BitVec.ofInt_natCast 32 a
theorem or_bit (a k : Nat) : bits .or .u32 (q a) (2 ^ k % 4294967296) = q ((a ||| 1 <<< k) % 4294967296) := by
  have e : BitVec.ofInt 32 ((2 : Int) ^ k % 4294967296) = BitVec.ofNat 32 (2 ^ k) := by
    have h : ((2 : Int) ^ k % 4294967296) = (((2 ^ k) % 4294967296 : Nat) : Int) := by rw [Int.natCast_emod, Int.natCast_pow]; rfl
    rw [h, BitVec.ofInt_natCast]
    apply BitVec.eq_of_toNat_eq
    simp
  show IntKind.u32.wrap ((BitVec.ofInt 32 (q a) ||| BitVec.ofInt 32 ((2 : Int) ^ k % 4294967296)).toNat : Int) = _
  rw [ofInt_q, e, ← BitVec.ofNat_or, BitVec.toNat_ofNat, Nat.one_shiftLeft, IntKind.wrap_u32]
  unfold q
  omega
attribute [local go_sem] or_bit
set_option maxRecDepth 100000 in
set_option maxHeartbeats 1000000 in
theorem root_any (p : Nat) (cube : Bool) (w : World) :
    Calls Tryd.prog 38 #[.int .u64 (q p), .bool cube] w fun e w' => e = .returned (.int .u32 (q (rootW p cube))) ∧ Below w.heap.size w w' := by
  go_enter Tryd.func38, Tryd.ntmps38
  go_wp2_with (with_reducible refine at_list ?_; first
    | (refine wpList_build0 rfl _ rfl _ built72 ?_)
    | (refine wpList_allocRow (op := ⟨some 5, _, _, _, _, _⟩) rfl _ rfl _ z72.1 ?_; intro w1 hw1 hs1 hb1; replace hs1 := hs1.symm)
    | (refine wpList_storeRow (op := ⟨none, .store 72 (.tmp 5) (.tmp 8), _, _, _, _⟩) rfl _ _ _ rfl w.heap.size (wrow [0, 0, 0, 0]) rfl rfl _ _ hb1 rfl (i72 _ rfl) (wrow_one _) ?_; intro w2 hg2 hs2 hb2; replace hs2 := hs2.symm))
  have hB2 : Below w.heap.size w w2 := hw1.trans (below_of_grown hg2 (Nat.le_refl _) hw1.size)
  clear hw1 hs1 hb1 hg2 hs2
  go_loopw [6] (fun v wl => ∃ n : Nat, n ≤ 37 ∧ v = .int .i64 (36 - (n : Int)) ∧ Below w.heap.size w wl ∧ Blk wl w.heap.size (wrow (rootS p cube n)) 72) (fun v _ => (intOf v + 1).toNat)
  case atStart => exact ⟨0, by omega, rfl, hB2, hb2⟩
  case round =>
    clear hB2 hb2
    obtain ⟨n, hn, rfl, hB, hb⟩ := hrel
    by_cases hlt : n < 37
    · obtain ⟨b, hbn⟩ : ∃ b : Nat, b + n = 36 := ⟨36 - n, by omega⟩
      have hbl : b ≤ 36 := by omega
      have HR : Hid (rootS p cube (n + 1) = if aboveS (setBit (rootS p cube n) b) p cube then rootS p cube n else setBit (rootS p cube n) b) := by rw [rootS, show 36 - n = b from by omega]; exact rfl
      have hxl := rootS_length p cube n
      rw [show (36 - (n : Int)) = (b : Int) from by omega]
      generalize rootS p cube n = X at *
      have hj : b / 32 < X.length := by omega
      go_wp2_with (with_reducible refine at_list ?_; first
        | (refine wpList_loadRow (op := ⟨some 13, _, _, _, _, _⟩) rfl _ _ rfl w.heap.size rfl _ _ hb _ Tryd.underlying72 rfl (i72 _ hxl) ?_)
        | (refine wpList_allocRow (op := ⟨some 7, _, _, _, _, _⟩) rfl _ rfl _ z72.1 ?_; intro w3 hw3 hs3 hb3; replace hs3 := hs3.symm)
        | (refine wpList_storeRow (op := ⟨none, .store 72 (.tmp 7) (.tmp 13), _, _, _, _⟩) rfl _ _ _ rfl wr.heap.size _ rfl rfl _ _ hb3 (sz72 hxl) (i72 _ hxl) (wrow_one _) ?_; intro w4 hg4 hs4 hb4; replace hs4 := hs4.symm)
        | (refine wpList_addrW rfl _ _ _ rfl wr.heap.size rfl .i64 _ rfl (b / 32) _ _ Tryd.underlying72 i38 (by omega) (by omega) ?_)
        | (refine wpList_loadCell (op := ⟨some 17, _, _, _, _, _⟩) rfl _ _ rfl wr.heap.size (b / 32) rfl _ _ hb4 _ Tryd.underlying46 rfl _ (wrow_get _ _ hj) ?_)
        | (refine wpList_storeN (op := ⟨none, .store 46 (.tmp 23) (.tmp 22), _, _, _, _⟩) rfl _ _ _ rfl wr.heap.size (b / 32) rfl (rd X (b / 32) ||| 1 <<< (b % 32)) rfl X _ hb4 i38 hj ?_; intro w5 hg5 hs5 hb5; replace hs5 := hs5.symm)
        | (refine wpList_loadRow (op := ⟨some 24, _, _, _, _, _⟩) rfl _ _ rfl wr.heap.size rfl _ _ hb5 _ Tryd.underlying72 rfl (i72 _ (by rw [List.length_set]; exact hxl)) ?_))
      have hB3 := hB.trans (hw3.mono hB.size)
      have hB4 := hB3.trans (below_of_grown hg4 hB.size hB3.size)
      have hB5 := hB4.trans (below_of_grown hg5 hB.size hB4.size)
      have hlt2 := hb.lt
      have hb0 : Blk w5 w.heap.size (wrow X) 72 := ((hb.belowSize hw3).grown hg4 (by simp; omega)).grown hg5 (by simp; omega)
      have hb5' : Blk w5 wr.heap.size (wrow (setBit X b)) 72 := hb5
      have hY : X.set (b / 32) (rd X (b / 32) ||| 1 <<< (b % 32)) = setBit X b := rfl
      have hyl : (setBit X b).length = 4 := by rw [setBit_length]; exact hxl
      rw [hY]
      generalize wr.heap.size = G at *
      clear hB hb hw3 hs3 hb3 hg4 hs4 hb4 hg5 hs5 hb5 hB3 hB4 hY
      generalize setBit X b = Y at *
      have hA := above_any Y p cube w5 hyl
      cases hab : aboveS Y p cube with
      | true =>
        rw [hab] at hA HR
        have HR2 : Hid (rootS p cube (n + 1) = X) := by rw [HR.out]; exact rfl
        clear HR hab
        go_wp2_with (go_at_call 42; refine hA.mono ?_; rintro e w6 ⟨rfl, hw6⟩)
        go_roundw
        case rel => exact ⟨n + 1, by omega, by go_num, hB5.trans (hw6.mono hB5.size), by rw [HR2.out]; exact hb0.belowSize hw6⟩
        case measure => simp [intOf]
      | false =>
        rw [hab] at hA HR
        have HR2 : Hid (rootS p cube (n + 1) = Y) := by rw [HR.out]; exact rfl
        clear HR hab
        go_wp2_with (first
          | (go_at_call 42; refine hA.mono ?_; rintro e w6 ⟨rfl, hw6⟩)
          | (with_reducible refine at_list ?_; first
            | (refine wpList_loadRow (op := ⟨some 29, _, _, _, _, _⟩) rfl _ _ rfl G rfl _ _ (hb5'.belowSize hw6) _ Tryd.underlying72 rfl (i72 _ hyl) ?_)
            | (refine wpList_storeRow (op := ⟨none, .store 72 (.tmp 5) (.tmp 29), _, _, _, _⟩) rfl _ _ _ rfl w.heap.size (wrow Y) rfl rfl _ _ (hb0.belowSize hw6) (by rw [wrow_size, wrow_size, hxl, hyl]) (i72 _ hyl) (wrow_one _) ?_; intro w7 hg7 hs7 hb7; replace hs7 := hs7.symm)))
        go_roundw
        case rel =>
          have hB6 := hB5.trans (hw6.mono hB5.size)
          exact ⟨n + 1, by omega, by go_num, hB6.trans (below_of_grown hg7 (Nat.le_refl _) hB6.size), by rw [HR2.out]; exact hb7⟩
        case measure => simp [intOf]
    · have hb7 : Blk wr w.heap.size (wrow (rootS p cube 37)) 72 := by rw [show (37 : Nat) = n from by omega]; exact hb
      have hl7 := rootS_length p cube 37
      clear hb
      have HW : Hid (rd (rootS p cube 37) 0 = rootW p cube) := rfl
      generalize rootS p cube 37 = X at *
      go_wp2_with (with_reducible refine at_list ?_; first
        | (refine wpList_loadCell (op := ⟨some 31, _, _, _, _, _⟩) rfl _ _ rfl w.heap.size 0 rfl _ _ hb7 _ Tryd.underlying46 rfl _ (wrow_get _ _ (by omega)) ?_))
      go_ret
      refine ⟨?_, hB⟩
      rw [← HW.out]
      rfl
end Go.Proofs.YtminjelnbnajhaaDoor
