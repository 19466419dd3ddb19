/- What the plain Bytes of a header does. -/
import Derived.Test.YtjfpfkiccbcedaaGreatDoorHdp
import Derived.Test.YtjfpfkiccbcedaaGreatDoorApr
namespace Go.Proofs.YtjfpfkiccbcedaaGreatDoor
open Go Go.RowKit
section
attribute [local go_sem] mkApp2
set_option maxRecDepth 100000 in
set_option maxHeartbeats 4000000 in
theorem rbytesH_any (h : HH) (a : Option Addr) (cap : Nat) (w : World) (hA : IA w a h.mem) (hk : OkH h) (hh : h.height < 18446744073709551616) :
    Calls Tryz.prog 59 #[.agg (hc h a cap)] w fun e w' => e = .returned (.string ⟨(hB h).toArray⟩) ∧ Below w.heap.size w w' := by
  have H1 := fun w1 => rnum8 h.height w1 hh
  have H2 := fun w1 => rhash_any h.prev w1 (by rw [hk.p]; decide)
  have H3 := fun w1 => rhash_any h.txr w1 (by rw [hk.t]; decide)
  have H4 := fun w1 => rhash_any h.str w1 (by rw [hk.s]; decide)
  have H5 := fun w1 (k : IA w1 a h.mem) => rmemB_any h.mem a cap w1 k hk.m.each hk.m.len
  rw [hash32_same hk.p] at H2
  rw [hash32_same hk.t] at H3
  rw [hash32_same hk.s] at H4
  have hE : Hid (hB h = num h.height 8 ++ (h.prev ++ (h.txr ++ (h.str ++ memB h.mem)))) := rfl
  have n1 := num_length 8 h.height
  have n2 := hk.p
  have n3 := hk.t
  have n4 := hk.s
  have n5 := memB_len h.mem
  have n6 := hk.m.len
  rw [hE.out]
  clear hE hk hh
  obtain ⟨ht, p, t, s, m⟩ := h
  dsimp only [hc] at *
  generalize num ht 8 = tb at *
  generalize memB m = tm at *
  have f1 : ¬ 9223372036854775807 < 8 + (32 + (32 + (32 + tm.length))) := by omega
  have f2 : ¬ 9223372036854775807 < 104 + tm.length := by omega
  have f3 : ¬ 9223372036854775807 < tm.length + 104 := by omega
  have f4 : (8 + (32 + (32 + (32 + tm.length))) ≤ 9223372036854775807) := by omega
  clear n5 n6
  go_enter Tryz.func59, Tryz.ntmps59
  go_wp2_with (with_reducible refine at_list ?_; refine wpList_boxRow (op := ⟨some 1, _, _, _, _, _⟩) rfl _ _ rfl _ rfl ?_; intro w1 hw1 hs1 hb1; replace hs1 := hs1.symm; have q0 := hb1.cell 0; have q1 := hb1.cell 1; have q2 := hb1.cell 2; have q3 := hb1.cell 3; have q4 := hb1.cell 4; simp only [List.getElem?_toArray, List.getElem?_cons_zero, List.getElem?_cons_succ] at q0 q1 q2 q3 q4)
  have hD : Below w1.heap.size w1 w1.drew := (Below.refl _ _).drew
  go_region_held3 (fun w' => w'.cell? ⟨w.heap.size, 0, none⟩ = some (.int .u64 (ht : Nat)) ∧ w'.cell? ⟨w.heap.size, 1, none⟩ = some (.string ⟨p.toArray⟩) ∧ w'.cell? ⟨w.heap.size, 2, none⟩ = some (.string ⟨t.toArray⟩) ∧ w'.cell? ⟨w.heap.size, 3, none⟩ = some (.string ⟨s.toArray⟩) ∧ w'.cell? ⟨w.heap.size, 4, none⟩ = some (.slice a m.length cap)) ((go_split_ands; first | exact ⟨q0, q1, q2, q3, q4⟩ | exact ⟨by assumption, by assumption, by assumption, by assumption, by assumption⟩ | exact ⟨cell_keep (by assumption) (by assumption), cell_keep (by assumption) (by assumption), cell_keep (by assumption) (by assumption), cell_keep (by assumption) (by assumption), cell_keep (by assumption) (by assumption)⟩)) (first
    | (go_at_call 71; refine (H1 _).mono ?_; rintro e w2 ⟨rfl, hw2⟩; clear H1)
    | (go_at_call 45; refine (H2 _).mono ?_; clear H2; rintro e w3 ⟨rfl, hw3⟩; have hw3 := hw3.symm; subst hw3)
    | (go_at_call 45; refine (H3 _).mono ?_; clear H3; rintro e w4 ⟨rfl, hw4⟩; have hw4 := hw4.symm; subst hw4)
    | (go_at_call 45; refine (H4 _).mono ?_; rintro e w5 ⟨rfl, hw5⟩; have hw5 := hw5.symm; subst hw5)
    | (go_at_call 99; refine (H5 _ (hA.below (hw1.trans ((hD.trans hw2).mono hw1.size)))).mono ?_; rintro e w6 ⟨rfl, hw6⟩))
  go_wp2_with fail
  go_ret
  exact ⟨rfl, (hw1.trans ((hD.trans hw2).mono hw1.size)).trans (hw6.mono (Nat.le_trans hw1.size hw2.size))⟩
end
end Go.Proofs.YtjfpfkiccbcedaaGreatDoor
