/- What climb and Verify do. -/
import Derived.Test.YtfohcgjkihaepaaDoorPrv
namespace Go.Proofs.YtfohcgjkihaepaaDoor.Sh
open Go Go.RowKit
theorem VL.form {w : World} {t : TypeId} {lo : Nat} {sl : Value} {l : List Value} (h : VL w t lo sl l) : ∃ a c, sl = .slice a l.length c := by
  rcases h with ⟨rfl, rfl⟩ | ⟨g, cap, _, rfl, _⟩
  · exact ⟨none, 0, rfl⟩
  · exact ⟨_, cap, rfl⟩
theorem VL.at {w : World} {t : TypeId} {lo n c : Nat} {a : Option Addr} {l : List Value} (h : VL w t lo (.slice a n c) l) (j : Nat) (v : Value) (hv : l[j]? = some v) : ∃ g, a = some ⟨g, 0, none⟩ ∧ w.cell? ⟨g, j, none⟩ = some v := by
  rcases h with ⟨rfl, _⟩ | ⟨g, cap, _, he, hS⟩
  · simp at hv
  · simp only [Value.slice.injEq] at he
    exact ⟨g, he.1, hS.cell j v hv⟩
theorem VL.apart {w w' : World} {t : TypeId} {lo g c : Nat} {sl : Value} {l : List Value} {m : List (List UInt8)} (h : VL w t lo sl l) (hg : w.grownBy w' (some g)) (hS : SS w g c m) (ht : t ≠ 9) : VL w' t lo sl l := by
  rcases h with h | ⟨gb, cap, h1, h2, h3⟩
  · exact .inl h
  · refine .inr ⟨gb, cap, h1, h2, h3.grown hg (fun e => ?_)⟩
    have e := Option.some.inj e
    subst e
    obtain ⟨cur, fr, q1, _⟩ := h3.out
    obtain ⟨cur2, fr2, q2, _⟩ := hS.out
    rw [q1] at q2
    simp only [Option.some.injEq, Obj.cells.injEq] at q2
    exact ht q2.2.1
theorem VL.texts {w : World} {t : TypeId} {lo n c : Nat} {a : Option Addr} {l : List (List UInt8)} (h : VL w t lo (.slice a n c) (l.map sv)) : XA w a l := fun j hj => by
  obtain ⟨g, ha, hc⟩ := h.at j (sv l[j]) (by rw [List.getElem?_map, List.getElem?_eq_getElem hj]; rfl)
  exact ⟨g, 0, ha, by rw [Nat.zero_add]; exact hc⟩
theorem SS.one {w : World} {g : Nat} {x : List UInt8} (h : Blk w g #[sv x] 9) : SS w g 1 [x] :=
  ⟨#[sv x], (0, 0), h.out, by simp, by simp, .inl rfl, fun j hj => by
    obtain rfl : j = 0 := by simp at hj; omega
    rfl⟩
/-- What climb leaves. -/
def ClimbP (s : List UInt8) (i n : Int) (p : List (List UInt8)) (w : World) (e : Ending) (w' : World) : Prop :=
  Below w.heap.size w w' ∧ ((¬ goodP n i p ∧ e = .returned (.tuple #[.slice none 0 0, .bool false])) ∨ (goodP n i p ∧ ∃ g c, w.heap.size ≤ g ∧ e = .returned (.tuple #[.slice (some ⟨g, 0, none⟩) (p.length + 1) c, .bool true]) ∧ SS w' g c (upL digest (sides n.toNat i.toNat) (0 :: s) p p.length)))
section
attribute [local go_sem] mkApp_nat mkApp0 mkApp1
set_option maxRecDepth 100000 in
set_option maxHeartbeats 2000000 in
theorem climb_any (s : List UInt8) (i n : Int) (p : List (List UInt8)) (a : Option Addr) (cap : Nat) (w : World) (hn : n ≤ 100) (hs : s.length ≤ 1000) (hX : XA w a p) (hG : Glob w) :
    Calls Tryd.prog 25 #[.string ⟨s.toArray⟩, .int .i64 i, .int .i64 n, .slice a p.length cap] w (ClimbP s i n p w) := by
  by_cases hpl : 0 ≤ i ∧ i < n
  · obtain ⟨i', rfl⟩ := Int.eq_ofNat_of_zero_le hpl.1
    obtain ⟨n', rfl⟩ := Int.eq_ofNat_of_zero_le (show 0 ≤ n by omega)
    have hin : i' < n' := by omega
    have HP := isPlace_any i' n' w
    rw [decide_eq_true hpl] at HP
    have HA := ahead_any n' i' (by omega) hin w
    have hshort : (sides n' i').length ≤ 7 := sides_short (by omega)
    have hbad : ∀ w', Below w.heap.size w w' → (¬ (p.length = (sides n' i').length ∧ ∀ x ∈ p, x.length = 32)) → ClimbP s i' n' p w (.returned (.tuple #[.slice none 0 0, .bool false])) w' := by
      intro w' hb h
      exact ⟨hb, .inl ⟨fun hg => h (goodP_nat.1 hg).2, rfl⟩⟩
    have hgood : ∀ w' g c, Below w.heap.size w w' → w.heap.size ≤ g → p.length = (sides n' i').length → (∀ x ∈ p, x.length = 32) → SS w' g c (upL digest (sides n' i') (0 :: s) p p.length) → ClimbP s i' n' p w (.returned (.tuple #[.slice (some ⟨g, 0, none⟩) (p.length + 1) c, .bool true])) w' := by
      intro w' g c hb hg h1 h2 hS
      refine ⟨hb, .inr ⟨goodP_nat.2 ⟨hin, h1, h2⟩, g, c, hg, rfl, ?_⟩⟩
      rw [Int.toNat_natCast, Int.toNat_natCast]
      exact hS
    clear hpl
    generalize sides n' i' = bs at *
    replace hbad : Hid (∀ w', Below w.heap.size w w' → (¬ (p.length = bs.length ∧ ∀ x ∈ p, x.length = 32)) → ClimbP s i' n' p w (.returned (.tuple #[.slice none 0 0, .bool false])) w') := hbad
    replace hgood : Hid (∀ w' g c, Below w.heap.size w w' → w.heap.size ≤ g → p.length = bs.length → (∀ x ∈ p, x.length = 32) → SS w' g c (upL digest bs (0 :: s) p p.length) → ClimbP s i' n' p w (.returned (.tuple #[.slice (some ⟨g, 0, none⟩) (p.length + 1) c, .bool true])) w') := hgood
    by_cases hlen : p.length = bs.length
    · have hne : ((p.length : Int) != (bs.length : Int)) = false := by rw [bne_eq_false_iff_eq]; omega
      have HL : Hid (p.length = bs.length) := hlen
      have hpb : p.length ≤ bs.length := by omega
      clear hlen
      obtain ⟨iop, hio, hz, hsz, hby⟩ := info9
      have f1 : ¬ 9223372036854775807 < 1 + s.length := by omega
      have f3 : ¬ 9223372036854775807 < s.length + 1 := by omega
      go_enter Tryd.func25, Tryd.ntmps25
      go_wp2_with (first
        | (go_at_call 23; refine HP.mono ?_; rintro e w1 ⟨rfl, hw1⟩; have hw1 := hw1.symm; subst hw1)
        | (go_at_call 34; refine HA.mono ?_; rintro e w2 ⟨sl, rfl, hV2, hw2⟩; obtain ⟨ab, cb, rfl⟩ := hV2.form; rw [List.length_map] at hV2 ⊢)
        | (with_reducible refine at_list ?_; refine wpList_tsl1 (op := ⟨some 30, _, _, _, _, _⟩) rfl _ rfl (0 :: s) rfl ?_; intro w3 hw3 hs3 hb3; replace hs3 := hs3.symm; have hB3 := hw2.trans (hw3.mono hw2.size); have hV3 := hV2.below hw3; have hS3 := SS.one hb3))
      go_loopw [11, 33] (fun v11 v33 wl => ∃ (k g c : Nat), k ≤ p.length ∧ v33 = .int .i64 k ∧ v11 = .slice (some ⟨g, 0, none⟩) (k + 1) c ∧ SS wl g c (upL digest bs (0 :: s) p k) ∧ (∀ j, j < k → (p.getD j []).length = 32) ∧ w.heap.size ≤ g ∧ Below w.heap.size w wl ∧ VL wl 4 w.heap.size (.slice ab bs.length cb) (bs.map Value.bool)) (fun _ v33 _ => p.length - (intOf v33).toNat)
      case atStart => exact ⟨0, _, 1, by omega, rfl, rfl, hS3, fun j hj => absurd hj (by omega), hw2.size, hB3, hV3⟩
      case round =>
        obtain ⟨k, g, c, hk, rfl, rfl, hS, h32, hlo, hB, hV⟩ := hrel
        clear hb3 hS3 hV3 hB3 hs3 hw3 hV2 hw2 HP HA
        by_cases hlt : k < p.length
        · obtain ⟨gp, op, rfl, hr⟩ := (hX.below hB) k hlt
          obtain ⟨gb, rfl, hcb⟩ := hV.at k (.bool (bs.getD k false)) (by rw [List.getElem?_map, List.getElem?_eq_getElem (by omega), List.getD_eq_getElem?_getD, List.getElem?_eq_getElem (by omega)]; rfl)
          have hpk : p.getD k [] = p[k] := by rw [List.getD_eq_getElem?_getD, List.getElem?_eq_getElem hlt]; rfl
          have hmem : p[k] ∈ p := List.getElem_mem hlt
          have hz1 : (0 : Int) ≤ (k : Int) := by omega
          have hz2 : (k : Int) < (p.length : Int) := by omega
          have hz3 : (k : Int) < (bs.length : Int) := by omega
          have hT : Hid (upL digest bs (0 :: s) p (k + 1) = upL digest bs (0 :: s) p k ++ [halvT (bs.getD k false) (digest (upT digest bs (0 :: s) p k)) (p.getD k [])]) := upL_succ digest bs (0 :: s) p k
          rw [hpk] at hT
          by_cases hy : (p[k]).length = 32
          · have h32b : Hid (∀ j, j < k + 1 → (p.getD j []).length = 32) := fun j hj => by
              by_cases hjk : j < k
              · exact h32 j hjk
              · obtain rfl : j = k := by omega
                rw [hpk]
                exact hy
            have hxs := upT_small digest digest_length bs (0 :: s) p (by simp; omega) k h32
            have HT := fun w1 (hb : Below w.heap.size w w1) (h : SS w1 g c (upL digest bs (0 :: s) p k)) => top_any (upL digest bs (0 :: s) p k) g 0 c k (upT digest bs (0 :: s) p k) (upL_len _ _ _ _ _) w1 h.xa (by rw [List.getElem?_eq_getElem (by rw [upL_len]; omega), upL_get]) (by omega) (by omega) (hG.belowSize hb)
            have hd := digest_length (upT digest bs (0 :: s) p k)
            have hul : Hid (k + 1 = (upL digest bs (0 :: s) p k).length) := (upL_len _ _ _ _ _).symm
            have hne2 : (((p[k]).length : Int) != 32) = false := by rw [bne_eq_false_iff_eq]; omega
            have HB := fun x y (hx : x.length ≤ 32) (hy : y.length ≤ 32) w1 => halves_any x y (by omega) (by omega) w1
            have hy32 : (p[k]).length ≤ 32 := by omega
            clear hpk h32 hy
            generalize p[k] = y at *
            generalize digest (upT digest bs (0 :: s) p k) = t at *
            clear hxs
            generalize bs.getD k false = b at *
            have ht32 : t.length ≤ 32 := by omega
            clear hd
            cases b
            · have HB := HB t y ht32 hy32
              replace hT : Hid (upL digest bs (0 :: s) p (k + 1) = upL digest bs (0 :: s) p k ++ [1 :: (t ++ y)]) := hT
              generalize (1 :: (t ++ y)) = z at *
              go_wp2_with (first
                | (go_at_call 26; refine (HT _ hB hS).mono ?_; rintro e w4 ⟨rfl, hw4⟩; have hB4 := hB.trans (hw4.mono hB.size); have hS4 := hS.belowSize hw4; have hV4 := hV.below hw4; replace hcb := (hw4.cell (World.block_lt_of_cell? _ _ hcb)).trans hcb)
                | (go_at_call 22; refine (HB _).mono ?_; rintro e w5 ⟨rfl, hw5⟩; have hw5 := hw5.symm; subst hw5)
                | (with_reducible refine at_list ?_; first
                  | (refine wpList_tsl1 (op := ⟨some 54, _, _, _, _, _⟩) rfl _ rfl z rfl ?_; intro w6 hw6 hs6 hb6; replace hs6 := hs6.symm; have hB6 := hB4.trans (hw6.mono hB4.size); have hS6 := hS4.belowSize hw6; have hV6 := hV4.below hw6)
                  | (refine wpList_appendSS (op := ⟨some 55, _, _, _, _, _⟩) rfl _ _ 22 rfl g c (upL digest bs (0 :: s) p k) (k + 1) hul.out rfl hS6 w4.heap.size 1 rfl z 9 hb6 iop Tryd.underlying22 hio hz hsz hby (by rw [← hul.out]; omega) ?_; intro w7 g7 c7 hg7 hgr7 hS7)))
              go_roundw
              case rel => exact ⟨k + 1, g7, c7, by omega, by go_num, rfl, by rw [hT.out]; exact hS7, h32b, by rcases hg7 with rfl | h; exact hlo; exact Nat.le_trans hB6.size h, hB6.trans (below_of_grown hgr7 hlo hB6.size), hV6.apart hgr7 hS6 (by decide)⟩
              case measure => simp [intOf]; omega
            · have HB := HB y t hy32 ht32
              replace hT : Hid (upL digest bs (0 :: s) p (k + 1) = upL digest bs (0 :: s) p k ++ [1 :: (y ++ t)]) := hT
              generalize (1 :: (y ++ t)) = z at *
              go_wp2_with (first
                | (go_at_call 26; refine (HT _ hB hS).mono ?_; rintro e w4 ⟨rfl, hw4⟩; have hB4 := hB.trans (hw4.mono hB.size); have hS4 := hS.belowSize hw4; have hV4 := hV.below hw4; replace hcb := (hw4.cell (World.block_lt_of_cell? _ _ hcb)).trans hcb)
                | (go_at_call 22; refine (HB _).mono ?_; rintro e w5 ⟨rfl, hw5⟩; have hw5 := hw5.symm; subst hw5)
                | (with_reducible refine at_list ?_; first
                  | (refine wpList_tsl1 (op := ⟨some 54, _, _, _, _, _⟩) rfl _ rfl z rfl ?_; intro w6 hw6 hs6 hb6; replace hs6 := hs6.symm; have hB6 := hB4.trans (hw6.mono hB4.size); have hS6 := hS4.belowSize hw6; have hV6 := hV4.below hw6)
                  | (refine wpList_appendSS (op := ⟨some 55, _, _, _, _, _⟩) rfl _ _ 22 rfl g c (upL digest bs (0 :: s) p k) (k + 1) hul.out rfl hS6 w4.heap.size 1 rfl z 9 hb6 iop Tryd.underlying22 hio hz hsz hby (by rw [← hul.out]; omega) ?_; intro w7 g7 c7 hg7 hgr7 hS7)))
              go_roundw
              case rel => exact ⟨k + 1, g7, c7, by omega, by go_num, rfl, by rw [hT.out]; exact hS7, h32b, by rcases hg7 with rfl | h; exact hlo; exact Nat.le_trans hB6.size h, hB6.trans (below_of_grown hgr7 hlo hB6.size), hV6.apart hgr7 hS6 (by decide)⟩
              case measure => simp [intOf]; omega
          · have hne2 : (((p[k]).length : Int) != 32) = true := by rw [bne_iff_ne]; omega
            have hq := hbad.out wr hB (fun h => hy (h.2 _ hmem))
            clear hpk hT hy hmem
            generalize p[k] = y at *
            go_wp2_with fail
            go_ret2
            exact hq
        · have hke : Hid (k = p.length) := by exact (show k = p.length by omega)
          have hq := hgood.out wr g c hB hlo HL.out (all32 (fun j hj => h32 j (by omega))) (by rw [← hke.out]; exact hS)
          rw [← hke.out] at hq
          go_wp2_with fail
          go_ret2
          exact hq
    · have hne : ((p.length : Int) != (bs.length : Int)) = true := by rw [bne_iff_ne]; omega
      have hq : Hid (∀ w', Below w.heap.size w w' → ClimbP s i' n' p w (.returned (.tuple #[.slice none 0 0, .bool false])) w') := fun w' hb => hbad.out w' hb (fun h => hlen h.1)
      clear hlen
      go_enter Tryd.func25, Tryd.ntmps25
      go_wp2_with (first
        | (go_at_call 23; refine HP.mono ?_; rintro e w1 ⟨rfl, hw1⟩; have hw1 := hw1.symm; subst hw1)
        | (go_at_call 34; refine HA.mono ?_; rintro e w2 ⟨sl, rfl, hV2, hw2⟩; obtain ⟨ab, cb, rfl⟩ := hV2.form; rw [List.length_map] at hV2 ⊢))
      go_ret2
      exact hq.out _ hw2
  · have HP := isPlace_any i n w
    rw [decide_eq_false hpl] at HP
    have hq : ClimbP s i n p w (.returned (.tuple #[.slice none 0 0, .bool false])) w := ⟨Below.refl _ _, .inl ⟨fun h => hpl ⟨h.1, h.2.1⟩, rfl⟩⟩
    clear hpl
    go_enter Tryd.func25, Tryd.ntmps25
    go_wp2_with (go_at_call 23; refine HP.mono ?_; rintro e w1 ⟨rfl, hw1⟩; have hw1 := hw1.symm; subst hw1)
    go_ret2
    exact hq
end
theorem climb_bad (s : List UInt8) (i n : Int) (p : List (List UInt8)) (a : Option Addr) (cap : Nat) (w : World) (hn : n ≤ 100) (hs : s.length ≤ 1000) (hX : XA w a p) (hG : Glob w) (h : ¬ goodP n i p) :
    Calls Tryd.prog 25 #[.string ⟨s.toArray⟩, .int .i64 i, .int .i64 n, .slice a p.length cap] w fun e w' => e = .returned (.tuple #[.slice none 0 0, .bool false]) ∧ Below w.heap.size w w' := by
  refine (climb_any s i n p a cap w hn hs hX hG).mono ?_
  rintro e w' ⟨hb, ⟨_, rfl⟩ | ⟨hg, _⟩⟩
  · exact ⟨rfl, hb⟩
  · exact absurd hg h
theorem climb_good (s : List UInt8) (i n : Int) (p : List (List UInt8)) (a : Option Addr) (cap : Nat) (w : World) (hn : n ≤ 100) (hs : s.length ≤ 1000) (hX : XA w a p) (hG : Glob w) (h : goodP n i p) :
    Calls Tryd.prog 25 #[.string ⟨s.toArray⟩, .int .i64 i, .int .i64 n, .slice a p.length cap] w fun e w' => ∃ g c, e = .returned (.tuple #[.slice (some ⟨g, 0, none⟩) (p.length + 1) c, .bool true]) ∧ Below w.heap.size w w' ∧ w.heap.size ≤ g ∧ SS w' g c (upL digest (sides n.toNat i.toNat) (0 :: s) p p.length) := by
  refine (climb_any s i n p a cap w hn hs hX hG).mono ?_
  rintro e w' ⟨hb, ⟨hg, _⟩ | ⟨_, g, c, hg, rfl, hS⟩⟩
  · exact absurd h hg
  · exact ⟨g, c, rfl, hb, hg, hS⟩
end Go.Proofs.YtfohcgjkihaepaaDoor.Sh
