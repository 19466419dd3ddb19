/- What the plain Bytes does. -/
import Derived.Test.YtncoifkchoiiaaaDoorOsl
import Derived.Test.YtncoifkchoiiaaaDoorChk
import Derived.Deep.RegionHeld3
namespace Go.Proofs.YtncoifkchoiiaaaDoor
open Go Go.RowKit
theorem cell_keep {w w' : World} {p : Addr} {v : Value} (h : Below w.heap.size w w') (hc : w.cell? p = some v) : w'.cell? p = some v := by
  rw [h.cell (World.block_lt_of_cell? _ _ hc)]; exact hc
attribute [local go_sem] mkApp2
set_option maxRecDepth 100000 in
set_option maxHeartbeats 400000 in
theorem rtxb_any (t : TX) (ht : OkT t) (hc : t.client < 18446744073709551616) (hn : t.nonce < 18446744073709551616) (a : Option Addr) (cap : Nat) (w : World) (h : SL w a t.ops) :
    Calls Tryd.prog 15 #[.agg (txc t.client t.nonce (.slice a t.ops.length cap))] w fun e w' => e = .returned (.string ⟨(txB t).toArray⟩) ∧ Below w.heap.size w w' := by
  obtain ⟨c, n, l⟩ := t
  have hl8 := ht.len1
  have hall : ∀ o ∈ l, OkO o := fun o ho => ht.okO ho
  have HT : Hid (txB ⟨c, n, l⟩ = hdB c n l.length ++ opsB l) := by exact rfl
  rw [HT.out]
  clear HT ht
  dsimp only at *
  have H1 := fun w => rnum_any c 8 w hc
  have H2 := fun w => rnum_any n 8 w hn
  have H3 := fun w => rnum_any l.length 4 w (by omega)
  rw [show cut8 8 = 8 from rfl] at H1 H2
  rw [show cut8 4 = 4 from rfl] at H3
  have h64 := wrap_u64_nat l.length (by omega)
  have HD : Hid (hdB c n l.length = (num c 8 ++ num n 8) ++ num l.length 4) := (List.append_assoc _ _ _).symm
  have hhd := hdB_length c n l.length
  have hn1 := num_length 8 c
  have hn2 := num_length 8 n
  have hn3 := num_length 4 l.length
  go_enter Tryd.func15, Tryd.ntmps15
  go_wp2_with (with_reducible refine at_list ?_; first
    | (refine wpList_boxRow (op := ⟨some 1, _, _, _, _, _⟩) rfl _ _ rfl _ rfl ?_; intro w1 hw1 hs1 hb1; replace hs1 := hs1.symm; have c0 := (hb1.cell 0).trans (txc_g0 _ _ _); have c1 := (hb1.cell 1).trans (txc_g1 _ _ _); have c2 := (hb1.cell 2).trans (txc_g2 _ _ _)))
  go_region_held3 (fun w' => w'.cell? ⟨w.heap.size, 0, none⟩ = some (.int .u64 (c : Nat)) ∧ w'.cell? ⟨w.heap.size, 1, none⟩ = some (.int .u64 (n : Nat)) ∧ w'.cell? ⟨w.heap.size, 2, none⟩ = some (.slice a l.length cap)) ((go_split_ands; first | exact ⟨c0, c1, c2⟩ | exact ⟨cell_keep (by assumption) (by assumption), cell_keep (by assumption) (by assumption), cell_keep (by assumption) (by assumption)⟩)) (first
    | (go_at_call 35; refine (H1 _).mono ?_; rintro e w2 ⟨rfl, hw2⟩; clear H1)
    | (go_at_call 35; refine (H2 _).mono ?_; rintro e w3 ⟨rfl, hw3⟩; clear H2)
    | (go_at_call 35; refine (H3 _).mono ?_; rintro e w4 ⟨rfl, hw4⟩; clear H3))
  have hB4 : Below w.heap.size w w4 := ((hw1.trans ((Below.refl _ _).drew.trans (hw2.mono (Nat.le_refl _)) |>.mono hw1.size)).trans (hw3.mono (Nat.le_trans hw1.size hw2.size))).trans (hw4.mono (Nat.le_trans (Nat.le_trans hw1.size hw2.size) hw3.size))
  have hb4 : Blk w4 w.heap.size (txc c n (.slice a l.length cap)) 32 := ((hb1.drew.belowSize hw2).belowSize hw3).belowSize hw4
  rw [show num c 8 ++ (num n 8 ++ num l.length 4) = hdB c n l.length from rfl]
  clear c0 c1 c2 hb1 hw1 hs1 hw2 hw3 hw4 hn1 hn2 hn3 HD h64
  go_wp2_with fail
  go_loopw [3, 4] (fun v3 v4 wl => ∃ i : Nat, i ≤ l.length ∧ v3 = .string ⟨(hdB c n l.length ++ opsB (l.take i)).toArray⟩ ∧ v4 = .int .i64 i ∧ Below w.heap.size w wl ∧ Blk wl w.heap.size (txc c n (.slice a l.length cap)) 32) (fun _ v4 _ => l.length - (intOf v4).toNat)
  case atStart => exact ⟨0, by omega, by rw [List.take_zero, opsB_nil, List.append_nil], rfl, hB4, hb4⟩
  case round =>
    obtain ⟨i, hi, rfl, rfl, hB, hM⟩ := hrel
    have c2 := (hM.cell 2).trans (txc_g2 _ _ _)
    clear hB4 hb4
    by_cases hlt : i < l.length
    · obtain ⟨g, o, rfl⟩ := h.ex (by omega)
      have hr := (h.below hB).at i hlt
      have hO := hall _ (List.getElem_mem hlt)
      have hT : Hid (opsB (l.take (i + 1)) = opsB (l.take i) ++ opB l[i]) := by
        rw [List.take_succ_eq_append_getElem hlt, opsB_snoc]
        exact rfl
      have hlen := opsB_le (l.take i) (fun o ho => hall o (List.mem_of_mem_take ho))
      rw [List.length_take] at hlen
      generalize l[i] = y at *
      obtain ⟨k, key, vv⟩ := y
      obtain ⟨hk0, hk1, hy0, hy1, hv1⟩ := hO
      dsimp only at hk0 hk1 hy0 hy1 hv1
      obtain ⟨m, rfl⟩ : ∃ m : Nat, k = m := ⟨k.toNat, by omega⟩
      have HT2 : Hid (opB ⟨(m : Nat), key, vv⟩ = num m 1 ++ ((num key.length 4 ++ key) ++ (num vv.length 4 ++ vv))) := by exact rfl
      rw [HT2.out] at hT
      clear HT2
      have d0 : wr.cell? ⟨g, o + i * 3, none⟩ = some (.int .i64 (m : Nat)) := hr 0 _ rfl
      have d1 : wr.cell? ⟨g, o + i * 3 + 1, none⟩ = some (.string ⟨key.toArray⟩) := hr 1 _ rfl
      have d2 : wr.cell? ⟨g, o + i * 3 + 2, none⟩ = some (.string ⟨vv.toArray⟩) := hr 2 _ rfl
      generalize opsB (l.take i) = ob at *
      have hm64 := wrap_u64_nat m (by omega)
      have G1 := fun w => rnum_any m 1 w (by omega)
      rw [show cut8 1 = 1 from rfl] at G1
      have G2 := fun w => rtext_str key w (by omega)
      have G3 := fun w => rtext_str vv w (by omega)
      have hn1 := num_length 1 m
      have hn2 : (num key.length 4 ++ key).length = 4 + key.length := by rw [List.length_append, num_length]
      have hn3 : (num vv.length 4 ++ vv).length = 4 + vv.length := by rw [List.length_append, num_length]
      generalize num key.length 4 ++ key = tk at *
      generalize num vv.length 4 ++ vv = tv at *
      generalize num m 1 = tm at *
      have hz1 : (0 : Int) ≤ (i : Int) := by omega
      have hz2 : (i : Int) < (l.length : Int) := by omega
      have HL : Hid ((hdB c n l.length ++ ob).length = 20 + ob.length) := by rw [List.length_append, hhd]; exact rfl
      have HLL := HL.out
      obtain ⟨tb, htb⟩ : ∃ tb, tb = hdB c n l.length ++ ob := ⟨_, rfl⟩
      have HTB : Hid (hdB c n l.length ++ ob = tb) := htb.symm
      rw [← htb] at HLL ⊢
      clear htb
      have f1 : ¬ 9223372036854775807 < tm.length + tk.length := by omega
      have f2 : ¬ 9223372036854775807 < tm.length + tk.length + tv.length := by omega
      have f3 : ¬ 9223372036854775807 < tb.length + (tm.length + (tk.length + tv.length)) := by omega
      clear hn1 hn2 hn3 HLL HL hlen
      go_wp2_with fail
      go_region_held3 (fun w' => w'.cell? ⟨w.heap.size, 2, none⟩ = some (.slice (some ⟨g, o, none⟩) l.length cap) ∧ w'.cell? ⟨g, o + i * 3, none⟩ = some (.int .i64 (m : Nat)) ∧ w'.cell? ⟨g, o + i * 3 + 1, none⟩ = some (.string ⟨key.toArray⟩) ∧ w'.cell? ⟨g, o + i * 3 + 2, none⟩ = some (.string ⟨vv.toArray⟩)) ((go_split_ands; first | exact ⟨c2, d0, d1, d2⟩ | exact ⟨cell_keep (by assumption) (by assumption), cell_keep (by assumption) (by assumption), cell_keep (by assumption) (by assumption), cell_keep (by assumption) (by assumption)⟩)) (first
        | (go_at_call 35; refine (G1 _).mono ?_; rintro e w5 ⟨rfl, hw5⟩; clear G1)
        | (go_at_call 36; refine (G2 _).mono ?_; rintro e w6 ⟨rfl, hw6⟩; clear G2)
        | (go_at_call 36; refine (G3 _).mono ?_; rintro e w7 ⟨rfl, hw7⟩; clear G3))
      have hB7 : Below w.heap.size w w7 := ((hB.trans ((Below.refl _ _).drew.trans (hw5.mono (Nat.le_refl _)) |>.mono hB.size)).trans (hw6.mono (Nat.le_trans hB.size hw5.size))).trans (hw7.mono (Nat.le_trans (Nat.le_trans hB.size hw5.size) hw6.size))
      have hM7 := ((hM.drew.belowSize hw5).belowSize hw6).belowSize hw7
      clear hB hM c2 d0 d1 d2 hw5 hw6 hw7 hr
      go_wp2_with fail
      go_roundw
      case rel => exact ⟨i + 1, by omega, by rw [hT.out, ← HTB.out]; simp only [List.append_assoc], by go_num, hB7, hM7⟩
      case measure => simp [intOf]; omega
    · have hT : Hid (l.take i = l) := List.take_of_length_le (by omega)
      rw [hT.out]
      clear hT
      go_wp2_with fail
      go_ret
      exact ⟨rfl, hB⟩
end Go.Proofs.YtncoifkchoiiaaaDoor
