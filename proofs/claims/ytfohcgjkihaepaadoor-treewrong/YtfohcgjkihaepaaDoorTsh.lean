/- TreeShort tells true. -/
import Derived.Test.YtfohcgjkihaepaaDoorTpr
import Derived.Test.YtfohcgjkihaepaaDoorApd
namespace Go.Proofs.YtfohcgjkihaepaaDoor.Sh
open Go Go.RowKit
/-- A place out of any number, as the statements have it. -/
theorem place_of (i : Int) (n : Nat) (hn : 0 < n) (hn2 : n ≤ 1000) (_ : -9223372036854775808 ≤ i ∧ i ≤ 9223372036854775807) :
    ∃ (r : Int) (t : Nat), i.tmod (n : Int) = r ∧ IntKind.i64.wrap r = r ∧ IntKind.i64.wrap (r + (n : Int)) = r + (n : Int) ∧ (r + (n : Int)).tmod (n : Int) = (t : Int) ∧ t < n := by
  have h1 : i.tmod (n : Int) < (n : Int) := Int.tmod_lt_of_pos i (by omega)
  have h2 : -(n : Int) < i.tmod (n : Int) := by
    have := Int.tmod_lt_of_pos (-i) (show (0 : Int) < (n : Int) by omega)
    rw [Int.neg_tmod] at this
    omega
  generalize i.tmod (n : Int) = r at *
  refine ⟨r, ((r + (n : Int)).tmod (n : Int)).toNat, rfl, by rw [IntKind.wrap_i64]; omega, by rw [IntKind.wrap_i64]; omega, ?_, ?_⟩
  · have : 0 ≤ (r + (n : Int)).tmod (n : Int) := Int.tmod_nonneg _ (by omega)
    omega
  · have a := Int.tmod_lt_of_pos (r + (n : Int)) (show (0 : Int) < (n : Int) by omega)
    omega
theorem last_root (A : List (List UInt8)) (e t : Nat) (h : 2 ^ e ≤ A.length) : ∃ q, pathD digest (A.take (2 ^ e) ++ A.take (2 ^ e)) (2 ^ e + t) = q ++ [rootD digest (A.take (2 ^ e))] := by
  have hp : 0 < 2 ^ e := Nat.pow_pos (by decide)
  have hl : (A.take (2 ^ e)).length = 2 ^ e := by rw [List.length_take]; omega
  have hll : (A.take (2 ^ e) ++ A.take (2 ^ e)).length = 2 ^ e + 2 ^ e := by rw [List.length_append, hl]
  have hc : cutN (A.take (2 ^ e) ++ A.take (2 ^ e)).length = 2 ^ e := cutN_eq (by rw [hll]; omega) (by rw [hll]; omega)
  have hr := pathD_right digest (l := A.take (2 ^ e) ++ A.take (2 ^ e)) (i := 2 ^ e + t) (by rw [hll]; omega) (by rw [hc]; omega)
  rw [hc, List.take_left' hl] at hr
  exact ⟨_, hr⟩
section
attribute [local go_sem] mkApp_nat mkApp0 mkApp1
set_option maxRecDepth 100000 in
set_option maxHeartbeats 1000000 in
theorem treeShort_nil (x : List (List UInt8)) (i : Int) (ax : Option Addr) (cx : Nat) (w : World) (hG : Glob w) (hX : XA w ax x) (h0 : (fewD x).length = 0) :
    Calls Tryd.prog 7 #[.slice ax x.length cx, .int .i64 i] w fun e w' => e = .returned (.bool true) ∧ Below w.heap.size w w' := by
  have HF1 := few_any x ax cx w hX
  have HW := fun w1 (hb : Below w.heap.size w w1) => awake_any w1 (hG.belowSize hb)
  rw [h0] at HF1
  clear hX hG h0
  go_enter Tryd.func7, Tryd.ntmps7
  go_wp2_with (first
    | (go_at_call 8; refine HF1.mono ?_; rintro e w1 ⟨g, c, rfl, hSa, hga, hw1⟩)
    | (go_at_call 11; refine (HW _ hw1).mono ?_; rintro e w4 ⟨rfl, hw4⟩))
  go_ret
  exact ⟨rfl, hw1.trans (hw4.mono hw1.size)⟩
set_option maxRecDepth 100000 in
set_option maxHeartbeats 2000000 in
theorem treeShort_some (x : List (List UInt8)) (i : Int) (ax : Option Addr) (cx : Nat) (w : World) (hG : Glob w) (hX : XA w ax x) (hi : -9223372036854775808 ≤ i ∧ i ≤ 9223372036854775807) (h0 : 0 < (fewD x).length) :
    Calls Tryd.prog 7 #[.slice ax x.length cx, .int .i64 i] w fun e w' => e = .returned (.bool true) ∧ Below w.heap.size w w' := by
  obtain ⟨iop, hio, hz, hsz, hby⟩ := info9
  have HF1 := few_any x ax cx w hX
  have la := fewD_len x
  have hfs := few_small x
  have HW := fun w1 (hb : Below w.heap.size w w1) => awake_any w1 (hG.belowSize hb)
  obtain ⟨r, t, er, er1, er2, er3, ht⟩ := place_of i (fewD x).length h0 (by omega) hi
  have HP := fun w1 g c (h : SS w1 g c (fewD x)) (hb : Below w.heap.size w w1) => prove_any (fewD x) (some ⟨g, 0, none⟩) c t w1 h.xa h.le (by omega) (few_small x) (hG.belowSize hb) ht
  have hpl : Hid (∀ e, (fewD x).length ≤ 2 ^ e → (pathD digest (fewD x) t).length ≤ e) := fun e he => by rw [path_len digest ht]; exact steps_le e he
  generalize fewD x = A at *
  generalize pathD digest A t = P at *
  clear hX hi
  have hnz : ((A.length : Int) == 0) = false := by rw [beq_eq_false_iff_ne]; omega
  have hnz2 : ¬ A.length = 0 := by omega
  have HT0 : ∀ w1 : World, (Instr.buildSlice 22 0 #[]).run Tryd.prog w1 = .ok (.slice (some ⟨w1.heap.size, 0, none⟩) 0 0) (w1.alloc (.cells #[] 9)) := fun w1 => tsl0 w1
  have hS0 : ∀ w1 : World, SS (w1.alloc (.cells #[] 9)) w1.heap.size 0 [] := fun w1 => ⟨#[], (0, 0), (Blk.new w1 _ _).out, by simp, by simp, .inl rfl, fun j hj => by simp at hj⟩
  go_enter Tryd.func7, Tryd.ntmps7
  go_wp2_with (first
    | (go_at_call 8; refine HF1.mono ?_; rintro e w1 ⟨g, c, rfl, hSa, hga, hw1⟩; have T : Lst w g c A w1 := ⟨hw1, hSa⟩)
    | (go_at_call 10; refine (HP _ _ _ T.sa T.bel).mono ?_; rintro e w3 ⟨sl, rfl, hV3, hw3⟩; obtain ⟨ap, cp, rfl⟩ := hV3.form; rw [List.length_map] at hV3 ⊢; replace T := T.to hw3))
  go_loopw [9] (fun v9 wl => ∃ e : Nat, v9 = .int .i64 e ∧ e ≤ 6 ∧ Lst w g c A wl) (fun v9 _ => 6 - (intOf v9).toNat)
  case atStart => exact ⟨0, rfl, by omega, T⟩
  case round =>
    clear T HF1 HP hV3 hw3 hSa hw1 hga
    obtain ⟨e, rfl, he, T⟩ := hrel
    have hb : 2 ^ e ≤ 64 := Nat.pow_le_pow_right (n := 2) (by decide) he
    have he6 : Hid (e = 6 → 2 ^ e = 64) := fun h => by rw [h]
    have hcv : IntKind.u64.wrap (e : Int) = (e : Int) := by rw [IntKind.wrap_u64]; omega
    have hpe := hpl.out e
    have hsh : Hid (wrap64 ((2 : Int) ^ e) = ((2 ^ e : Nat) : Int)) := by
      show wrap64 ((2 : Int) ^ e) = ((2 ^ e : Nat) : Int)
      have hp : (2 : Int) ^ e = ((2 ^ e : Nat) : Int) := by simp
      have hq : ∀ z : Nat, z ≤ 64 → wrap64 (z : Int) = z := by intro z hz; unfold wrap64; omega
      rw [hp, hq _ hb]
    generalize hzz : (2 ^ e : Nat) = z at *
    replace hzz : Hid ((2 ^ e : Nat) = z) := hzz
    by_cases hlt : z < A.length
    · have hlt2 : (z : Int) < (A.length : Int) := by omega
      have he5 : e + 1 ≤ 6 := by
        by_cases h6 : e = 6
        · have := he6.out h6
          omega
        · omega
      clear hpe he6
      have hsh2 := hsh.out
      go_wp2_with fail
      clear hsh2
      go_roundw
      case rel => exact ⟨e + 1, by go_num, he5, T⟩
      case measure => simp [intOf]; omega
    · have hlt2 : ¬ ((z : Int) < (A.length : Int)) := by omega
      have hpe2 := hpe (by omega)
      have hpe3 : ¬ ((e : Int) < (P.length : Int)) := by omega
      clear hpe hpl he6
      have hsh2 := hsh.out
      go_wp2_with (go_at_call 11; refine (HW _ T.bel).mono ?_; rintro e w4 ⟨rfl, hw4⟩; replace T := T.to hw4)
      clear hsh2 hsh
      go_loopw [10] (fun v10 wl => ∃ e2 : Nat, v10 = .int .i64 ((2 ^ e2 : Nat) : Int) ∧ 2 ^ e2 ≤ A.length ∧ Lst w g c A wl) (fun v10 _ => A.length - (intOf v10).toNat)
      case atStart => exact ⟨0, rfl, by show 1 ≤ _; omega, T⟩
      case round =>
        clear T
        obtain ⟨e2, rfl, hk, T⟩ := hrel
        have hps : Hid (2 ^ (e2 + 1) = 2 ^ e2 * 2) := Nat.pow_succ 2 e2
        have hp : 0 < 2 ^ e2 := Nat.pow_pos (by decide)
        have hLR : Hid (∀ t, ∃ q, pathD digest (A.take (2 ^ e2) ++ A.take (2 ^ e2)) (2 ^ e2 + t) = q ++ [rootD digest (A.take (2 ^ e2))]) := fun t => last_root A e2 t hk
        generalize hkk : 2 ^ e2 = k at *
        replace hkk : Hid (2 ^ e2 = k) := hkk
        by_cases hlt3 : 2 * k ≤ A.length
        · go_wp2_with fail
          go_roundw
          case rel => exact ⟨e2 + 1, by rw [hps.out]; go_num, by rw [hps.out]; omega, T⟩
          case measure => simp [intOf]; omega
        · have hl1 : (A.take k).length = k := by rw [List.length_take]; omega
          have hc1 := T.sa.le
          have hk1 : (k : Int) ≤ (A.length : Int) := by omega
          have hk2 : (k : Int) ≤ (c : Int) := by omega
          have hk3 : (0 : Int) ≤ (k : Int) := by omega
          have hk4 : (A.length : Int) ≤ (c : Int) := by omega
          have hkz : ((k : Int) == 0) = false := by rw [beq_eq_false_iff_ne]; omega
          have hkn : ¬ k = 0 := by omega
          have hX1 := T.sa.xa.take k
          have hA0 : Below wr.heap.size wr (wr.alloc (.cells #[] 9)).drew := ((Below.refl wr.heap.size wr).alloc (Nat.le_refl _) _).drew
          have hlb : (A.take k ++ A.take k).length = k + k := by rw [List.length_append, hl1]
          have hsb : ∀ y ∈ A.take k ++ A.take k, y.length ≤ 1000 := fun y hy => by
            rcases List.mem_append.1 hy with h | h
            · exact hfs y (List.mem_of_mem_take h)
            · exact hfs y (List.mem_of_mem_take h)
          obtain ⟨t2, et, et2, ht2⟩ : ∃ t2 : Nat, (t : Int).tmod (k : Int) = (t2 : Int) ∧ IntKind.i64.wrap ((k : Int) + (t2 : Int)) = (k : Int) + (t2 : Int) ∧ t2 < k := by
            have h1 := Nat.mod_lt t (show 0 < k from hp)
            refine ⟨t % k, by rw [← Int.ofNat_tmod], ?_, h1⟩
            rw [IntKind.wrap_i64]
            omega
          have HP2 := fun w1 g1 c1 (h : SS w1 g1 c1 (A.take k ++ A.take k)) (hb : Below w.heap.size w w1) => prove_any (A.take k ++ A.take k) (some ⟨g1, 0, none⟩) c1 (k + t2) w1 h.xa h.le (by omega) hsb (hG.belowSize hb) (by omega)
          have hps := path_short digest (A.take k ++ A.take k) (k + t2) (by omega)
          obtain ⟨q, hq⟩ := hLR.out t2
          rw [hq, List.length_append] at hps
          simp only [hq, hlb, Int.natCast_add] at HP2
          have HR := fun w1 (h : Lst w g c A w1) => troot_of k (A.take k) (some ⟨g, 0, none⟩) c w1 hl1 (h.sa.xa.take k) (by omega) (by omega) (fun y hy => hfs y (List.mem_of_mem_take hy)) (hG.belowSize h.bel)
          rw [hl1] at HR
          clear hq hLR hfs hsb
          generalize rootD digest (A.take k) = rk at *
          have hql : q.length ≤ 1000 := by simp at hps; omega
          have hw1 : IntKind.i64.wrap ((q.length : Int) + 1 - 1) = (q.length : Int) := by rw [IntKind.wrap_i64]; omega
          have hw2 : IntKind.i64.wrap (q.length : Int) = (q.length : Int) := by rw [IntKind.wrap_i64]; omega
          have hz1 : (0 : Int) ≤ (q.length : Int) := by omega
          have hz2 : (q.length : Int) < (q.length : Int) + 1 := by omega
          have hz3 : (0 : Int) < (q.length : Int) + 1 := by omega
          clear hps hp
          go_wp2_with fail
          go_region_held3 (fun _ => True) (trivial) (first
            | (refine step_appSM (by rfl) _ _ 22 (by rfl) wr.heap.size 0 [] 0 rfl (by rfl) (hS0 wr).drew (some ⟨g, 0, none⟩) c (A.take k) k hl1.symm (by rfl) (hX1.below hA0) iop Tryd.underlying22 hio hz hsz hby (by rw [hl1]; simp; omega) ?_; intro w5 g5 c5 hg5 hgr5 hS5; have hB5 := hA0.trans (below_of_grown hgr5 (Nat.le_refl _) hA0.size); have T5 := T.to hB5; have hg5' : wr.heap.size ≤ g5 := (by rcases hg5 with rfl | h; exact Nat.le_refl _; exact Nat.le_trans hA0.size h))
            | (refine step_appSM (by rfl) _ _ 22 (by rfl) g5 c5 ([] ++ A.take k) (0 + k) (by rw [List.nil_append, hl1, Nat.zero_add]) (by rfl) hS5 (some ⟨g, 0, none⟩) c (A.take k) k hl1.symm (by rfl) (T5.sa.xa.take k) iop Tryd.underlying22 hio hz hsz hby (by rw [List.nil_append, hl1]; omega) ?_; intro w6 g6 c6 hg6 hgr6 hS6; have hB6 := hB5.trans (below_of_grown hgr6 hg5' hB5.size); have T6 := T.to hB6))
          replace hS6 : SS w6 g6 c6 (A.take k ++ A.take k) := hS6
          go_wp2_with (go_at_call 10; refine (HP2 _ _ _ hS6 T6.bel).mono ?_; rintro e w7 ⟨sl, rfl, hV7, hw7⟩; obtain ⟨aq, cq, rfl⟩ := hV7.form; obtain ⟨gq, rfl, hcq⟩ := hV7.at q.length (sv rk) (by simp); rw [List.length_map, List.length_append, List.length_singleton]; have T7 := T6.to hw7)
          have c7 : w7.cell? ⟨gq, q.length, none⟩ = some (.string ⟨rk.toArray⟩) := hcq
          go_region_held3 (fun w' => w'.cell? ⟨gq, q.length, none⟩ = some (.string ⟨rk.toArray⟩)) (first | assumption | exact c7) ((go_at_call 9; refine (HR _ (T7.to (Below.refl _ _).drew)).mono ?_; rintro e w8 ⟨rfl, hw8⟩; have T8 := (T7.to (Below.refl _ _).drew).to hw8; have c8 : w8.cell? ⟨gq, q.length, none⟩ = some (.string ⟨rk.toArray⟩) := (hw8.cell (World.block_lt_of_cell? _ _ c7)).trans c7))
          go_wp2_with fail
          go_ret
          exact ⟨rfl, T8.bel⟩
end
theorem treeShort_any (x : List (List UInt8)) (i : Int) (ax : Option Addr) (cx : Nat) (w : World) (hG : Glob w) (hX : XA w ax x) (hi : -9223372036854775808 ≤ i ∧ i ≤ 9223372036854775807) :
    Calls Tryd.prog 7 #[.slice ax x.length cx, .int .i64 i] w fun e w' => e = .returned (.bool true) ∧ Below w.heap.size w w' := by
  by_cases h : (fewD x).length = 0
  · exact treeShort_nil x i ax cx w hG hX h
  · exact treeShort_some x i ax cx w hG hX hi (by omega)
end Go.Proofs.YtfohcgjkihaepaaDoor.Sh
