/- What Take and Decode do at the bytes of a header that may be. -/
import Derived.Test.YtdolgkegeomafaaDoorHmd
namespace Go.Proofs.YtdolgkegeomafaaDoor
open Go Go.RowKit
/-- The cells of a header. -/
def hA (ht : Nat) (p t s : List UInt8) (sl : Value) : Array Value := #[.int .u64 ht, .string ⟨p.toArray⟩, .string ⟨t.toArray⟩, .string ⟨s.toArray⟩, sl]
theorem hA_size (ht : Nat) (p t s : List UInt8) (sl : Value) : (hA ht p t s sl).size = 5 := rfl
theorem hA_set0 (ht ht' : Nat) (p t s : List UInt8) (sl : Value) : (hA ht p t s sl).setIfInBounds 0 (.int .u64 (ht' : Nat)) = hA ht' p t s sl := rfl
theorem hA_set1 (ht : Nat) (p p' t s : List UInt8) (sl : Value) : (hA ht p t s sl).setIfInBounds 1 (.string ⟨p'.toArray⟩) = hA ht p' t s sl := rfl
theorem hA_set2 (ht : Nat) (p t t' s : List UInt8) (sl : Value) : (hA ht p t s sl).setIfInBounds 2 (.string ⟨t'.toArray⟩) = hA ht p t' s sl := rfl
theorem hA_set3 (ht : Nat) (p t s s' : List UInt8) (sl : Value) : (hA ht p t s sl).setIfInBounds 3 (.string ⟨s'.toArray⟩) = hA ht p t s' sl := rfl
theorem hA_set4 (ht : Nat) (p t s : List UInt8) (sl sl' : Value) : (hA ht p t s sl).setIfInBounds 4 sl' = hA ht p t s sl' := rfl
theorem hA_g0 (ht : Nat) (p t s : List UInt8) (sl : Value) : (hA ht p t s sl)[0]? = some (.int .u64 (ht : Nat)) := rfl
theorem hA_g1 (ht : Nat) (p t s : List UInt8) (sl : Value) : (hA ht p t s sl)[1]? = some (.string ⟨p.toArray⟩) := rfl
theorem hA_g2 (ht : Nat) (p t s : List UInt8) (sl : Value) : (hA ht p t s sl)[2]? = some (.string ⟨t.toArray⟩) := rfl
theorem hA_g3 (ht : Nat) (p t s : List UInt8) (sl : Value) : (hA ht p t s sl)[3]? = some (.string ⟨s.toArray⟩) := rfl
theorem hA_g4 (ht : Nat) (p t s : List UInt8) (sl : Value) : (hA ht p t s sl)[4]? = some sl := rfl
theorem hA_one (ht : Nat) (p t s : List UInt8) (a : Option Addr) (n cap : Nat) : (hA ht p t s (.slice a n cap)).all (·.oneCell') = true := by simp [hA, Value.oneCell']
theorem zH0 : (∀ w, (zeroValue 25).run Tryd.prog w = .ok (.agg (hA 0 [] [] [] (.slice none 0 0))) w) ∧ (Tryd.prog.info? 25).map (·.size) = some 5 := zH
theorem iU : (Tryd.prog.info? 22).map (·.size) = some 1 := by kernel_rfl
theorem iSlI : (Tryd.prog.info? 23).map (·.size) = some 1 := by kernel_rfl
theorem fail_none {r : R} : r.fail 0 = r := by
  unfold R.fail
  split
  · rename_i h
    obtain ⟨a, b, c⟩ := r
    have h : c = 0 := h
    subst h
    rfl
  · rfl
theorem hd_at (h : HH) (hk : OkH h) (hh : h.height < 18446744073709551616) (a c : List UInt8) (S : List UInt8) (hS : a ++ (hB h ++ c) = S) :
    (⟨S, a.length, 0⟩ : R).number 8 = (⟨S, a.length + 8, 0⟩, h.height) ∧ (⟨S, a.length + 8, 0⟩ : R).bytes 32 = (⟨S, a.length + 40, 0⟩, h.prev) ∧ (⟨S, a.length + 40, 0⟩ : R).bytes 32 = (⟨S, a.length + 72, 0⟩, h.txr) ∧ (⟨S, a.length + 72, 0⟩ : R).bytes 32 = (⟨S, a.length + 104, 0⟩, h.str) ∧ ∃ y, y.length = a.length + 104 ∧ y ++ (memB h.mem ++ c) = S := by
  obtain ⟨ht, p, t, s, m⟩ := h
  have hp := hk.p
  have ht' := hk.t
  have hs := hk.s
  dsimp only at hp ht' hs hh ⊢
  have e0 : a ++ (num ht 8 ++ (p ++ (t ++ (s ++ (memB m ++ c))))) = S := by rw [← hS, hB]; simp only [List.append_assoc]
  have e1 : a ++ num ht 8 ++ (p ++ (t ++ (s ++ (memB m ++ c)))) = S := by rw [← e0]; simp only [List.append_assoc]
  have e2 : a ++ num ht 8 ++ p ++ (t ++ (s ++ (memB m ++ c))) = S := by rw [← e0]; simp only [List.append_assoc]
  have e3 : a ++ num ht 8 ++ p ++ t ++ (s ++ (memB m ++ c)) = S := by rw [← e0]; simp only [List.append_assoc]
  have e4 : a ++ num ht 8 ++ p ++ t ++ s ++ (memB m ++ c) = S := by rw [← e0]; simp only [List.append_assoc]
  have h1 := R.number_at a (num ht 8) (p ++ (t ++ (s ++ (memB m ++ c)))) 8 (by rw [num_length]; rfl) (by rw [num_length]; omega)
  rw [e0, num_length, num_eight ht hh] at h1
  have h2 := R.bytes_at (a ++ num ht 8) p (t ++ (s ++ (memB m ++ c)))
  have h3 := R.bytes_at (a ++ num ht 8 ++ p) t (s ++ (memB m ++ c))
  have h4 := R.bytes_at (a ++ num ht 8 ++ p ++ t) s (memB m ++ c)
  have l1 : (a ++ num ht 8).length = a.length + 8 := by rw [List.length_append, num_length]
  have l2 : (a ++ num ht 8 ++ p).length = a.length + 40 := by rw [List.length_append, l1, hp]
  have l3 : (a ++ num ht 8 ++ p ++ t).length = a.length + 72 := by rw [List.length_append, l2, ht']
  have l4 : (a ++ num ht 8 ++ p ++ t ++ s).length = a.length + 104 := by rw [List.length_append, l3, hs]
  rw [e1, l1, hp] at h2
  rw [e2, l2, ht'] at h3
  rw [e3, l3, hs] at h4
  exact ⟨h1, h2, h3, h4, _, l4, e4⟩
/-- What Take leaves. -/
def TakeHP (b : Nat) (w : World) (r : R) (h : HH) (e : Ending) (w' : World) : Prop :=
  ∃ a cap, e = .returned (.agg (hA h.height h.prev h.txr h.str (.slice a h.mem.length cap))) ∧ VL w' 3 w.heap.size (.slice a h.mem.length cap) (h.mem.map fun x => .int .i64 x) ∧ To w w' b r
set_option maxRecDepth 100000 in
set_option maxHeartbeats 4000000 in
theorem takeH_at (b : Nat) (h : HH) (hk : OkH h) (hh : h.height < 18446744073709551616) (x c S : List UInt8) (hS : x ++ (hB h ++ c) = S) (w : World) (hR : RD w b ⟨S, x.length, 0⟩) (hs : S.length ≤ 140737488355328) :
    Calls Tryd.prog 15 #[.pointer (some ⟨b, 0, none⟩)] w (TakeHP b w ⟨S, x.length + (hB h).length, 0⟩ h) := by
  have hbl := hR.lt
  have hSl : S.length = x.length + ((105 + h.mem.length) + c.length) := by rw [← hS, List.length_append, List.length_append, hB_len hk]
  obtain ⟨g1, g2, g3, g4, y, hy, hyS⟩ := hd_at h hk hh x c S hS
  have hE : Hid (x.length + (hB h).length = x.length + 104 + 1 + h.mem.length) := by show _ = _; rw [hB_len hk]; omega
  have H1 := fun w (hR : RD w b ⟨S, x.length, 0⟩) => number_r b ⟨S, x.length, 0⟩ 8 w hR (show x.length ≤ S.length by omega) hs
  have H2 := fun w (hR : RD w b ⟨S, x.length + 8, 0⟩) => hash_any b ⟨S, x.length + 8, 0⟩ w hR (show x.length + 8 ≤ S.length by omega) hs
  have H3 := fun w (hR : RD w b ⟨S, x.length + 40, 0⟩) => hash_any b ⟨S, x.length + 40, 0⟩ w hR (show x.length + 40 ≤ S.length by omega) hs
  have H4 := fun w (hR : RD w b ⟨S, x.length + 72, 0⟩) => hash_any b ⟨S, x.length + 72, 0⟩ w hR (show x.length + 72 ≤ S.length by omega) hs
  have H5 := fun w (hR : RD w b ⟨y ++ (memB h.mem ++ c), y.length, 0⟩) => takeM_at b y c h.mem hk.m w hR (by rw [hyS]; exact hs)
  have H6 := fun w => fail_any b ⟨S, x.length + 104 + 1 + h.mem.length, 0⟩ 0 w
  have H7 := fun w => err_any b ⟨S, x.length + 104 + 1 + h.mem.length, 0⟩ w
  have HC := fun a cap w (hA : IA w a h.mem) => checkH_any h a cap w hA
  rw [g1] at H1
  rw [g2] at H2
  rw [g3] at H3
  rw [g4] at H4
  rw [hyS, hy] at H5
  rw [fail_none] at H6
  rw [chkH_zero hk] at HC
  rw [hE.out]
  obtain ⟨ht, p, t, s, m⟩ := h
  dsimp only at H1 H2 H3 H4 H5 H6 H7 hE
  change ∀ a cap w, IA w a m → Calls Tryd.prog 8 #[.agg (hA ht p t s (.slice a m.length cap))] w _ at HC
  unfold TakeHP
  dsimp only
  clear hk hh hS hSl g1 g2 g3 g4 hy hyS hE
  generalize x.length + 104 + 1 + m.length = pE at *
  generalize x.length + 104 = p4 at *
  generalize x.length + 72 = p3 at *
  generalize x.length + 40 = p2 at *
  generalize x.length + 8 = p1 at *
  generalize x.length = p0 at *
  go_enter Tryd.func15, Tryd.ntmps15
  go_wp2_with (first
    | (go_at_call 29; refine (H1 _ ((hR.below hw1).below hw2)).mono ?_; rintro e w3 ⟨rfl, hT1⟩; clear H1; replace hz1 := hz1.to hT1 (by omega); replace hz2 := hz2.to hT1 (by omega); replace hT1 := To.behind (hw1.trans (hw2.mono hw1.size)) hT1)
    | (go_at_call 30; refine (H2 _ hT2.rd).mono ?_; rintro e w5 ⟨rfl, hT3⟩; clear H2; replace hz1 := hz1.to hT3 (by omega); replace hz4 := hz4.to hT3 (by omega); replace hT3 := hT2.trans hT3)
    | (go_at_call 30; refine (H3 _ hT4.rd).mono ?_; rintro e w7 ⟨rfl, hT5⟩; clear H3; replace hz1 := hz1.to hT5 (by omega); replace hz6 := hz6.to hT5 (by omega); replace hT5 := hT4.trans hT5)
    | (go_at_call 30; refine (H4 _ hT6.rd).mono ?_; rintro e w9 ⟨rfl, hT7⟩; clear H4; replace hz1 := hz1.to hT7 (by omega); replace hz8 := hz8.to hT7 (by omega); replace hT7 := hT6.trans hT7)
    | (go_at_call 31; refine (H5 _ hT8.rd).mono ?_; rintro e w11 ⟨sl, rfl, hV, hT9⟩; clear H5; replace hz1 := hz1.to hT9 (by omega); replace hz10 := hz10.to hT9 (by omega); replace hV := hV.mono hT8.grown.size; replace hT9 := hT8.trans hT9; obtain ⟨a5, cap5, rfl, hIA⟩ := hV.ia; clear hIA)
    | (go_at_call 8; refine (HC _ _ _ hIA).mono ?_; rintro e w13 ⟨rfl, hw13⟩; clear HC hIA; replace hz1 := hz1.belowSize hw13; replace hz12 := hz12.belowSize hw13; replace hV := hV.below hw13; replace hT10 : To w w13 b _ := ⟨grown_trans hT10.grown (grown_of_below hw13), hT10.rd.below hw13⟩)
    | (go_at_call 32; refine (H6 _ hT10.rd).mono ?_; rintro e w14 ⟨rfl, hT11⟩; clear H6; replace hz1 := hz1.to hT11 (by omega); replace hz12 := hz12.to hT11 (by omega); replace hV := hV.grown7 hT11.grown hbl; replace hT11 := hT10.trans hT11)
    | (go_at_call 33; refine (H7 _ hT11.rd).mono ?_; rintro e w15 ⟨rfl, hw15⟩; have hw15 := hw15.symm; subst hw15; clear H7)
    | (with_reducible refine at_list ?_; first
      | (refine wpList_allocRow (op := ⟨some 2, _, _, _, _, _⟩) rfl _ rfl _ zH0.1 ?_; intro w1 hw1 hs1 hz1; replace hs1 := hs1.symm)
      | (refine wpList_allocRow (op := ⟨some 3, _, _, _, _, _⟩) rfl _ rfl _ zH0.1 ?_; intro w2 hw2 hs2 hz2; replace hs2 := hs2.symm; replace hz1 := hz1.belowSize hw2)
      | (refine wpList_storeCell (op := ⟨none, .store 22 (.tmp 6) (.tmp 5), _, _, _, _⟩) rfl _ _ _ rfl w1.heap.size 0 rfl (.int .u64 (ht : Nat)) rfl _ _ hz2 iU rfl rfl (by rw [hA_size]; decide) ?_; intro w4 hg4 hs4 hz4; rw [hA_set0] at hz4; replace hz1 := hz1.grown hg4 (by simp; omega); have hT2 := hT1.write hg4 hbl hw1.size)
      | (refine wpList_storeCell (op := ⟨none, .store 9 (.tmp 9) (.tmp 8), _, _, _, _⟩) rfl _ _ _ rfl w1.heap.size 1 rfl (.string ⟨p.toArray⟩) rfl _ _ hz4 i9 rfl rfl (by rw [hA_size]; decide) ?_; intro w6 hg6 hs6 hz6; rw [hA_set1] at hz6; replace hz1 := hz1.grown hg6 (by simp; omega); have hT4 := hT3.write hg6 hbl hw1.size)
      | (refine wpList_storeCell (op := ⟨none, .store 9 (.tmp 12) (.tmp 11), _, _, _, _⟩) rfl _ _ _ rfl w1.heap.size 2 rfl (.string ⟨t.toArray⟩) rfl _ _ hz6 i9 rfl rfl (by rw [hA_size]; decide) ?_; intro w8 hg8 hs8 hz8; rw [hA_set2] at hz8; replace hz1 := hz1.grown hg8 (by simp; omega); have hT6 := hT5.write hg8 hbl hw1.size)
      | (refine wpList_storeCell (op := ⟨none, .store 9 (.tmp 15) (.tmp 14), _, _, _, _⟩) rfl _ _ _ rfl w1.heap.size 3 rfl (.string ⟨s.toArray⟩) rfl _ _ hz8 i9 rfl rfl (by rw [hA_size]; decide) ?_; intro w10 hg10 hs10 hz10; rw [hA_set3] at hz10; replace hz1 := hz1.grown hg10 (by simp; omega); have hT8 := hT7.write hg10 hbl hw1.size)
      | (refine wpList_storeCell (op := ⟨none, .store 23 (.tmp 18) (.tmp 17), _, _, _, _⟩) rfl _ _ _ rfl w1.heap.size 4 rfl (.slice a5 m.length cap5) rfl _ _ hz10 iSlI rfl rfl (by rw [hA_size]; decide) ?_; intro w12 hg12 hs12 hz12; rw [hA_set4] at hz12; replace hz1 := hz1.grown hg12 (by simp; omega); replace hV := hV.grownT hg12 hz10 (by decide); have hT10 := hT9.write hg12 hbl hw1.size; have hIA := hV.ia0)
      | (refine wpList_loadRow (op := ⟨some 20, _, _, _, _, _⟩) rfl _ _ rfl w1.heap.size rfl _ _ hz12 _ Tryd.underlying25 rfl (by rw [hA_size]; exact zH.2) ?_)
      | (refine wpList_loadRow (op := ⟨some 27, _, _, _, _, _⟩) rfl _ _ rfl w1.heap.size rfl _ _ hz12 _ Tryd.underlying25 rfl (by rw [hA_size]; exact zH.2) ?_)
      | (refine wpList_storeRow (op := ⟨none, .store 25 (.tmp 2) (.tmp 27), _, _, _, _⟩) rfl _ _ _ rfl w.heap.size (hA ht p t s (.slice a5 m.length cap5)) rfl rfl _ _ hz1 (by simp only [hA_size]) (by rw [hA_size]; exact zH.2) (hA_one _ _ _ _ _ _ _) ?_; intro w16 hg16 hs16 hz16; replace hV := hV.grownT hg16 hz1 (by decide); have hT12 := hT11.write hg16 hbl (Nat.le_refl _))))
  refine bodyPost_ret (v := .agg (hA ht p t s (.slice a5 m.length cap5))) ?_ rfl ⟨a5, cap5, rfl, hV, hT12⟩
  exact results_cell_row rfl _ _ w.heap.size _ _ _ _ rfl hz16.out Tryd.underlying25 rfl (by rw [hA_size]; exact zH.2)
end Go.Proofs.YtdolgkegeomafaaDoor
