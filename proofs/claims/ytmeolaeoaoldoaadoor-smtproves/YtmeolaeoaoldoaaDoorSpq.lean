/- What the plain half, Root and Proof do. What the plain Proof, Without, With and Leaves do. What the plain Without, With and Leaves do. What the plain Paths does. -/
import Derived.Test.YtmeolaeoaoldoaaDoorSpr
import Derived.BigQuiet
namespace Go.Proofs.YtmeolaeoaoldoaaDoor.Sh
open Go Go.RowKit
theorem KA.two {w : World} {g o : Nat} {l : List LF} {i : Nat} {x y : List UInt8} (h : KA w (some ⟨g, o, none⟩) l) (hx : l[i]? = some (x, y)) : w.cell? ⟨g, o + i * 2, none⟩ = some (.string ⟨x.toArray⟩) ∧ w.cell? ⟨g, o + i * 2 + 1, none⟩ = some (.string ⟨y.toArray⟩) := by
  obtain ⟨hi, he⟩ := List.getElem?_eq_some_iff.1 hx
  obtain ⟨g', o', ha, hr⟩ := h i hi
  simp only [Option.some.injEq, Addr.mk.injEq, and_true] at ha
  obtain ⟨rfl, rfl⟩ := ha
  rw [he] at hr
  exact ⟨hr 0 _ rfl, hr 1 _ rfl⟩
theorem KA.ex {w : World} {a : Option Addr} {l : List LF} (h : KA w a l) (h0 : 0 < l.length) : ∃ g o, a = some ⟨g, o, none⟩ := by
  obtain ⟨g, o, ha, _⟩ := h 0 h0
  exact ⟨g, o, ha⟩
theorem KL.sl2 {w : World} {t : TypeId} {lo : Nat} {sl : Value} {l : List LF} (h : KL w t lo sl l) : ∃ a cap, sl = .slice a l.length cap ∧ KA w a l ∧ ∀ g1 o1, a = some ⟨g1, o1, none⟩ → lo ≤ g1 := by
  have hk := h
  rcases h with ⟨rfl, rfl⟩ | ⟨g, cap, hlo, rfl, h3⟩
  · exact ⟨none, 0, rfl, KA.nil _ _, fun g1 o1 e => nomatch e⟩
  · obtain ⟨a, c, e, hA⟩ := hk.sl
    simp only [Value.slice.injEq] at e
    obtain ⟨rfl, _, rfl⟩ := e
    refine ⟨_, _, rfl, hA, fun g1 o1 e => ?_⟩
    simp only [Option.some.injEq, Addr.mk.injEq, and_true] at e
    omega
/-- What is written elsewhere leaves pairs as they were. -/
theorem KA.other {w w' : World} {a : Option Addr} {l : List LF} {g : Nat} (h : KA w a l) (hg : w.grownBy w' (some g)) (hne : ∀ g1 o1, a = some ⟨g1, o1, none⟩ → g1 ≠ g) : KA w' a l := fun i hi => by
  obtain ⟨g1, o1, ha, hr⟩ := h i hi
  refine ⟨g1, o1, ha, fun j v hv => ?_⟩
  have hc := hr j v hv
  have hlt := World.block_lt_of_cell? _ _ hc
  have hb := hg.block g1 hlt (fun e => hne g1 o1 ha (Option.some.inj e))
  simp only [World.cell?] at hc ⊢
  rw [hb]
  exact hc
theorem halfD_take {l : List LF} {i : Nat} {x : LF} (n b : Nat) (h : l[i]? = some x) : halfD (l.take (i + 1)) n b = if bitD x.1 n = b then halfD (l.take i) n b ++ [x] else halfD (l.take i) n b := by
  obtain ⟨hi, rfl⟩ := List.getElem?_eq_some_iff.1 h
  unfold halfD
  rw [List.take_succ_eq_append_getElem hi, List.filter_append]
  by_cases hb : bitD (l[i]).1 n = b
  · rw [if_pos hb]; simp [hb]
  · rw [if_neg hb]; simp [hb]
theorem rootS_len : ∀ (f : Nat) (l : List LF) (n : Nat), (rootS TgD f l n).length ≤ 32
  | f, [], n => by rw [rootS_nil]; decide
  | f, [x], n => by rw [rootS_one]; exact Nat.le_of_eq (TgD_len _ _)
  | 0, x :: y :: r, n => Nat.zero_le _
  | f + 1, x :: y :: r, n => Nat.le_of_eq (TgD_len _ _)
theorem halfD_len (l : List LF) (n b : Nat) : (halfD l n b).length ≤ l.length := List.length_filter_le _ _
set_option maxRecDepth 100000 in
set_option maxHeartbeats 1000000 in
theorem half_any (l : List LF) (a : Option Addr) (cap n b : Nat) (w : World) (hL : KA w a l) (hl : l.length ≤ 1000) (hp : ∀ x ∈ l, x.1.length = 32) (hn : n < 256) :
    Calls Tryd.prog 41 #[.slice a l.length cap, .int .i64 n, .int .i64 b] w fun e w' => ∃ a1 c1, e = .returned (.slice a1 (halfD l n b).length c1) ∧ KA w' a1 (halfD l n b) ∧ Below w.heap.size w w' ∧ ∀ g1 o1, a1 = some ⟨g1, o1, none⟩ → w.heap.size ≤ g1 := by
  obtain ⟨i0, hi0, hz0, hs0, hb0⟩ := infoLf
  obtain ⟨R, hR⟩ : ∃ R, R = halfD l n b := ⟨_, rfl⟩
  rw [← hR]
  replace hR : Hid (R = halfD l n b) := hR
  go_enter Tryd.func41, Tryd.ntmps41
  go_wp2_with (with_reducible refine at_list ?_; refine wpList_bsl0Lf (op := ⟨some 9, _, _, _, _, _⟩) rfl rfl ?_; intro w1 hw1 hs1 hK1; replace hs1 := hs1.symm)
  go_loopw [7, 8] (fun v7 v8 wl => ∃ i : Nat, i ≤ l.length ∧ v8 = .int .i64 i ∧ KL wl 52 w.heap.size v7 (halfD (l.take i) n b) ∧ Below w.heap.size w wl) (fun _ v8 _ => l.length - (intOf v8).toNat)
  case atStart => exact ⟨0, by omega, rfl, hK1, hw1⟩
  case round =>
    obtain ⟨i, hi, rfl, hK, hB⟩ := hrel
    clear hw1 hs1 hK1
    by_cases hlt : i < l.length
    · obtain ⟨g, o, rfl⟩ := (hL.below hB).ex (by omega)
      obtain ⟨x, hx⟩ : ∃ x, l[i]? = some x := ⟨_, List.getElem?_eq_getElem hlt⟩
      have hx32 := hp x (List.mem_of_getElem? hx)
      have hT := halfD_take n b hx
      obtain ⟨p, v⟩ := x
      dsimp only at hx32 hT
      obtain ⟨d1, d2⟩ := (hL.below hB).two hx
      have HBt := bit_any p n wr (by omega) (by omega)
      have hlen := halfD_len (l.take i) n b
      rw [List.length_take] at hlen
      have hz1 : (0 : Int) ≤ (i : Int) := by omega
      have hz2 : (i : Int) < (l.length : Int) := by omega
      clear hx
      by_cases hb : bitD p n = b
      · rw [if_pos hb] at hT
        replace hT : Hid (halfD (l.take (i + 1)) n b = halfD (l.take i) n b ++ [(p, v)]) := hT
        have hbe : ((bitD p n : Int) == (b : Int)) = true := by rw [beq_iff_eq]; omega
        clear hb
        generalize bitD p n = bb at *
        generalize halfD (l.take i) n b = L at *
        go_wp2_with (first
          | (go_at_call 34; refine HBt.mono ?_; rintro e w2 ⟨rfl, hw2⟩; have hw2 := hw2.symm; subst hw2)
          | (with_reducible refine at_list ?_; first
            | (refine wpList_bslLf (op := ⟨some 30, _, _, _, _, _⟩) rfl _ rfl (p, v) rfl ?_; intro w3 hw3 hs3 hb3; replace hs3 := hs3.symm; have hK3 := hK.below hw3; have hB3 := hB.trans (hw3.mono hB.size))
            | (refine wpList_appendKL (op := ⟨some 31, _, _, _, _, _⟩) rfl _ _ 32 52 rfl w.heap.size u7 L hB3.size rfl hK3 wr.heap.size 1 rfl (p, v) 52 hb3 i0 ([], []) Tryd.underlying32 hi0 hz0 hs0 hb0 (by omega) ?_; intro w4 sl4 hw4 hkp4 hK4)))
        go_roundw
        case rel => exact ⟨i + 1, by omega, by go_num, by rw [hT.out]; exact hK4, hB3.trans hw4⟩
        case measure => simp [intOf]; omega
      · rw [if_neg hb] at hT
        replace hT : Hid (halfD (l.take (i + 1)) n b = halfD (l.take i) n b) := hT
        have hbe : ((bitD p n : Int) == (b : Int)) = false := by rw [beq_eq_false_iff_ne]; omega
        clear hb
        generalize bitD p n = bb at *
        go_wp2_with (go_at_call 34; refine HBt.mono ?_; rintro e w2 ⟨rfl, hw2⟩; have hw2 := hw2.symm; subst hw2)
        go_roundw
        case rel => exact ⟨i + 1, by omega, by go_num, by rw [hT.out]; exact hK, hB⟩
        case measure => simp [intOf]; omega
    · have hE : Hid (halfD (l.take i) n b = R) := by rw [List.take_of_length_le (by omega)]; exact hR.out.symm
      rw [hE.out] at hK
      obtain ⟨a1, c1, e7, hA, hg⟩ := hK.sl2
      subst e7
      go_wp2_with fail
      go_ret
      exact ⟨a1, c1, rfl, hA, hB, hg⟩
set_option maxRecDepth 100000 in
set_option maxHeartbeats 2000000 in
theorem root7_of : ∀ (f : Nat) (l : List LF) (a : Option Addr) (cap n : Nat) (w : World), n + f = 256 → Stand l n → KA w a l → l.length ≤ 1000 → (∀ x ∈ l, x.2.length ≤ 1000) →
    Calls Tryd.prog 13 #[.slice a l.length cap, .int .i64 n] w fun e w' => e = .returned (.string ⟨(rootS TgD f l n).toArray⟩) ∧ Below w.heap.size w w' := by
  intro f
  induction f with
  | zero => ?_
  | succ f ih => ?_
  all_goals
    intro l a cap n w hnf hSt hL hl hv
    by_cases h0 : l.length = 0
    · obtain rfl : l = [] := List.length_eq_zero_iff.1 h0
      have HE := empty7_any w
      rw [rootS_nil]
      go_enter Tryd.func13, Tryd.ntmps13
      go_wp2_with (go_at_call 27; refine HE.mono ?_; rintro e w1 ⟨rfl, hw1⟩; have hw1 := hw1.symm; subst hw1)
      go_ret
      exact ⟨rfl, Below.refl _ _⟩
    by_cases h1 : l.length = 1
    · obtain ⟨x, rfl⟩ := List.length_eq_one_iff.1 h1
      obtain ⟨g, o, rfl⟩ := hL.ex (by simp)
      have hx1 := hSt.len x (by simp)
      have hx2 := hv x (by simp)
      have HH := hash7_any x w (by omega) (by omega)
      rw [rootS_one]
      obtain ⟨p, v⟩ := x
      obtain ⟨d1, d2⟩ := hL.two (i := 0) (x := p) (y := v) rfl
      rw [Nat.zero_mul, Nat.add_zero] at d1 d2
      unfold kvc at HH
      dsimp only at HH
      generalize hashL TgD (p, v) = hh at *
      go_enter Tryd.func13, Tryd.ntmps13
      go_wp2_with (go_at_call 31; refine HH.mono ?_; rintro e w1 ⟨rfl, hw1⟩)
      go_ret
      exact ⟨rfl, hw1⟩
    have h2 : 2 ≤ l.length := by omega
    have hlt := hSt.lt h2
  · omega
  · have hb0 : ((l.length : Int) == 0) = false := by rw [beq_eq_false_iff_ne]; omega
    have hb1 : ((l.length : Int) == 1) = false := by rw [beq_eq_false_iff_ne]; omega
    have HA := fun b w1 (hB : Below w.heap.size w w1) => half_any l a cap n b w1 (hL.below hB) hl hSt.len hlt
    have HR := fun b w1 a1 c1 (hA : KA w1 a1 (halfD l n b)) => ih (halfD l n b) a1 c1 (n + 1) w1 (by omega) (hSt.half b) hA (Nat.le_trans (halfD_len l n b) hl) (fun x hx => hv x (List.mem_filter.1 hx).1)
    have hT := fun w1 g (h : XA w1 (some ⟨g, 0, none⟩) [rootS TgD f (halfD l n 0) (n + 1), rootS TgD f (halfD l n 1) (n + 1)]) => rtag_any 74 [rootS TgD f (halfD l n 0) (n + 1), rootS TgD f (halfD l n 1) (n + 1)] g 2 w1 h (by rw [show ([_, _] : List (List UInt8)).length = 2 from rfl, tag2]; have := rootS_len f (halfD l n 0) (n + 1); have := rootS_len f (halfD l n 1) (n + 1); omega)
    rw [rootS_cut TgD h2]
    unfold joinD
    have HA0 := HA 0
    have HA1 := HA 1
    have HR0 := HR 0
    have HR1 := HR 1
    clear HA HR ih hSt hv h0 h1 hL
    generalize halfD l n 0 = l0 at *
    generalize halfD l n 1 = l1 at *
    generalize rootS TgD f l0 (n + 1) = r0 at *
    generalize rootS TgD f l1 (n + 1) = r1 at *
    generalize TgD 74 [r0, r1] = R at *
    have hw : IntKind.i64.wrap ((n : Int) + 1) = (n : Int) + 1 := by rw [IntKind.wrap_i64]; omega
    simp only [Int.natCast_add, Int.cast_ofNat_Int] at HR0 HR1
    have B0 : Below w.heap.size w w := Below.refl _ _
    go_enter Tryd.func13, Tryd.ntmps13
    go_wp2_with (first
      | (go_at_call 41; refine (HA0 _ B0).mono ?_; clear HA0; rintro e w1 ⟨a1, c1, rfl, hA1, hw1, _⟩; replace B0 := B0.trans (hw1.mono B0.size))
      | (go_at_call 13; refine (HR0 _ _ _ hA1).mono ?_; clear HR0; rintro e w2 ⟨rfl, hw2⟩; replace B0 := B0.trans (hw2.mono B0.size))
      | (go_at_call 41; refine (HA1 _ B0).mono ?_; clear HA1; rintro e w3 ⟨a3, c3, rfl, hA3, hw3, _⟩; replace B0 := B0.trans (hw3.mono B0.size))
      | (go_at_call 13; refine (HR1 _ _ _ hA3).mono ?_; clear HR1; rintro e w4 ⟨rfl, hw4⟩; replace B0 := B0.trans (hw4.mono B0.size))
      | (with_reducible refine at_list ?_; refine wpList_tsl2 (op := ⟨some 28, _, _, _, _, _⟩) rfl _ _ rfl r0 r1 rfl rfl ?_; intro w5 hw5 hs5 hb5; replace hs5 := hs5.symm; replace B0 := B0.trans (hw5.mono B0.size))
      | (go_at_call 33; refine (hT _ _ (XA.blk2 hb5)).mono ?_; rintro e w6 ⟨rfl, hw6⟩; replace B0 := B0.trans (hw6.mono B0.size)))
    go_ret
    exact ⟨rfl, B0⟩
end Go.Proofs.YtmeolaeoaoldoaaDoor.Sh
namespace Go.Proofs.YtmeolaeoaoldoaaDoor.Sh
open Go Go.RowKit
theorem KA.lt {w : World} {a : Option Addr} {l : List LF} {g o : Nat} (h : KA w a l) (ha : a = some ⟨g, o, none⟩) (h0 : 0 < l.length) : g < w.heap.size := by
  obtain ⟨g1, o1, hb, hr⟩ := h 0 h0
  rw [ha] at hb
  simp only [Option.some.injEq, Addr.mk.injEq, and_true] at hb
  obtain ⟨rfl, rfl⟩ := hb
  exact World.block_lt_of_cell? _ _ (hr 0 _ rfl)
/-- What the plain Proof leaves. -/
def Prf7 (R1 : List (List UInt8)) (R2 : List LF) (w : World) (e : Ending) (w' : World) : Prop := ∃ g c a2 c2, e = .returned (.tuple #[.slice (some ⟨g, 0, none⟩) R1.length c, .slice a2 R2.length c2]) ∧ SS w' g c R1 ∧ KA w' a2 R2 ∧ Below w.heap.size w w'
set_option maxRecDepth 100000 in
set_option maxHeartbeats 2000000 in
theorem proof7_any (l : List LF) (a : Option Addr) (cap : Nat) (p : List UInt8) (w : World) (hSt : Stand l 0) (hL : KA w a l) (hl : l.length ≤ 1000) (hv : ∀ x ∈ l, x.2.length ≤ 1000) (hp : p.length = 32) :
    Calls Tryd.prog 23 #[.slice a l.length cap, .string ⟨p.toArray⟩] w (Prf7 (proofS TgD 256 l p 0).1 (proofS TgD 256 l p 0).2 w) := by
  obtain ⟨iop, hio, hz, hsz, hby⟩ := info9
  have hfin := (proof_end TgD 256 p 0 hSt rfl).2.1
  obtain ⟨R1, hR1⟩ : ∃ R, R = (proofS TgD 256 l p 0).1 := ⟨_, rfl⟩
  obtain ⟨R2, hR2⟩ : ∃ R, R = (proofS TgD 256 l p 0).2 := ⟨_, rfl⟩
  rw [← hR1, ← hR2]
  rw [← hR1] at hfin
  replace hR1 : Hid (R1 = (proofS TgD 256 l p 0).1) := hR1
  replace hR2 : Hid (R2 = (proofS TgD 256 l p 0).2) := hR2
  go_enter Tryd.func23, Tryd.ntmps23
  go_wp2_with (with_reducible refine at_list ?_; refine wpList_tsl0 (op := ⟨some 9, _, _, _, _, _⟩) rfl rfl ?_; intro w1 hw1 hs1 hS1; replace hs1 := hs1.symm)
  go_loopw [0, 6, 7] (fun v0 v6 v7 wl => ∃ (n f : Nat) (m : List LF) (a1 : Option Addr) (c1 : Nat) (bs : List (List UInt8)) (g c : Nat), n + f = 256 ∧ v7 = .int .i64 n ∧ v0 = .slice a1 m.length c1 ∧ v6 = .slice (some ⟨g, 0, none⟩) bs.length c ∧ KA wl a1 m ∧ Stand m n ∧ SS wl g c bs ∧ w.heap.size ≤ g ∧ m.length ≤ 1000 ∧ (∀ x ∈ m, x.2.length ≤ 1000) ∧ (0 < m.length → ∀ g1 o1, a1 = some ⟨g1, o1, none⟩ → g1 ≠ g) ∧ Hid (R1 = bs ++ (proofS TgD f m p n).1) ∧ Hid (R2 = (proofS TgD f m p n).2) ∧ Below w.heap.size w wl) (fun _ _ v7 _ => 256 - (intOf v7).toNat)
  case atStart => exact ⟨0, 256, l, a, cap, [], _, 0, rfl, rfl, rfl, rfl, hL.below hw1, hSt, hS1, Nat.le_refl _, hl, hv, fun h0 g1 o1 e h => by
    have := hL.lt e h0
    omega, hR1, hR2, hw1⟩
  case round =>
    clear hL hl hv hSt hR1 hR2 hw1 hs1 hS1
    obtain ⟨n, f, m, a1, c1, bs, g, c, hnf, rfl, rfl, rfl, hA, hSm, hS, hlo, hm, hv, hne, hI1, hI2, hB⟩ := hrel
    by_cases h2 : 2 ≤ m.length
    · have hn := hSm.lt h2
      obtain ⟨f', rfl⟩ : ∃ f', f = f' + 1 := ⟨f - 1, by omega⟩
      have hz0 : (1 : Int) < (m.length : Int) := by omega
      have hb2 := bitD_lt p n
      have HBt := bit_any p n wr (by omega) (by omega)
      have HA1 := fun w1 (h : KA w1 a1 m) => half_any m a1 c1 n (1 - bitD p n) w1 h hm hSm.len hn
      have HA2 := fun w1 (h : KA w1 a1 m) => half_any m a1 c1 n (bitD p n) w1 h hm hSm.len hn
      have HR := fun w1 a3 c3 (h : KA w1 a3 (halfD m n (1 - bitD p n))) => root7_of f' (halfD m n (1 - bitD p n)) a3 c3 (n + 1) w1 (by omega) (hSm.half _) h (Nat.le_trans (halfD_len _ _ _) hm) (fun x hx => hv x (List.mem_filter.1 hx).1)
      have hcut := proofS_cut TgD (f := f') (i := n) h2 p
      rw [hcut] at hI1 hI2
      replace hI1 : Hid (R1 = (bs ++ [rootS TgD f' (halfD m n (1 - bitD p n)) (n + 1)]) ++ (proofS TgD f' (halfD m n (bitD p n)) p (n + 1)).1) := by rw [List.append_assoc]; exact hI1
      replace hI2 : Hid (R2 = (proofS TgD f' (halfD m n (bitD p n)) p (n + 1)).2) := hI2
      have hSn := hSm.half (bitD p n)
      have hmn := Nat.le_trans (halfD_len m n (bitD p n)) hm
      have hvn : ∀ x ∈ halfD m n (bitD p n), x.2.length ≤ 1000 := fun x hx => hv x (List.mem_filter.1 hx).1
      have hbl : bs.length ≤ 256 := by
        have := congrArg List.length hI1.out
        rw [List.length_append, List.length_append] at this
        omega
      clear hcut hSm hv
      have hw1b : IntKind.i64.wrap (1 - (bitD p n : Int)) = ((1 - bitD p n : Nat) : Int) := by rw [IntKind.wrap_i64]; omega
      have hw1 : IntKind.i64.wrap ((n : Int) + 1) = (n : Int) + 1 := by rw [IntKind.wrap_i64]; omega
      simp only [Int.natCast_add, Int.cast_ofNat_Int] at HR
      generalize bitD p n = b at *
      generalize 1 - b = b' at *
      generalize halfD m n b' = m' at *
      generalize halfD m n b = mn at *
      generalize rootS TgD f' m' (n + 1) = r at *
      go_wp2_with (first
        | (go_at_call 34; refine HBt.mono ?_; rintro e w2 ⟨rfl, hw2⟩; have hw2 := hw2.symm; subst hw2)
        | (go_at_call 41; refine (HA1 _ hA).mono ?_; clear HA1; rintro e w3 ⟨a3, c3, rfl, hA3, hw3, _⟩; replace hB := hB.trans (hw3.mono hB.size); replace hA := hA.below hw3; replace hS := hS.belowSize hw3)
        | (go_at_call 13; refine (HR _ _ _ hA3).mono ?_; rintro e w4 ⟨rfl, hw4⟩; replace hB := hB.trans (hw4.mono hB.size); replace hA := hA.below hw4; replace hS := hS.belowSize hw4)
        | (with_reducible refine at_list ?_; first
          | (refine wpList_tsl1 (op := ⟨some 27, _, _, _, _, _⟩) rfl _ rfl r rfl ?_; intro w5 hw5 hs5 hb5; replace hs5 := hs5.symm; replace hB := hB.trans (hw5.mono hB.size); replace hA := hA.below hw5; replace hS := hS.belowSize hw5)
          | (refine wpList_appendSS (op := ⟨some 28, _, _, _, _, _⟩) rfl _ _ 48 rfl g c bs bs.length rfl rfl hS w4.heap.size 1 rfl r 9 hb5 iop Tryd.underlying48 hio hz hsz hby (by omega) ?_; intro w6 g6 c6 hg6 hgr6 hS6; have hA6 := hA.other hgr6 (hne (by omega)); have hB6 := hB.trans (below_of_grown hgr6 hlo hB.size); have hlo6 : w.heap.size ≤ g6 := (by rcases hg6 with rfl | h; exact hlo; exact Nat.le_trans hB.size h); have hlt6 := hS6.lt))
        | (go_at_call 41; refine (HA2 _ hA6).mono ?_; rintro e w7 ⟨a7, c7, rfl, hA7, hw7, hg7⟩))
      go_roundw
      case rel => exact ⟨n + 1, f', mn, a7, c7, bs ++ [r], g6, c6, by omega, by go_num, rfl, by rw [List.length_append]; rfl, hA7, hSn, hS6.belowSize hw7, hlo6, hmn, hvn, fun _ g1 o1 e h => by
        have := hg7 g1 o1 e
        omega, hI1, hI2, hB6.trans (hw7.mono hB6.size)⟩
      case measure => simp [intOf]; omega
    · have hz0 : ¬ ((1 : Int) < (m.length : Int)) := by omega
      rw [proofS_short TgD f (by omega)] at hI1 hI2
      replace hI1 : Hid (R1 = bs) := by rw [List.append_nil] at hI1; exact hI1
      replace hI2 : Hid (R2 = m) := hI2
      go_wp2_with fail
      go_ret2
      exact ⟨g, c, a1, c1, by rw [hI1.out, hI2.out]; rfl, by rw [hI1.out]; exact hS, by rw [hI2.out]; exact hA, hB⟩
end Go.Proofs.YtmeolaeoaoldoaaDoor.Sh
namespace Go.Proofs.YtmeolaeoaoldoaaDoor.Sh
open Go Go.RowKit
/-- Keys without one; with one laid; their leaves. -/
def withoutD (l : List LF) (k : List UInt8) : List LF := l.filter fun x => !(x.1 == k)
def withD (l : List LF) (k v : List UInt8) : List LF := withoutD l k ++ [(k, v)]
def leavesD (l : List LF) : List LF := l.map fun x => ofD TgD x.1 x.2
theorem withoutD_take {l : List LF} {i : Nat} {x : LF} (k : List UInt8) (h : l[i]? = some x) : withoutD (l.take (i + 1)) k = if (x.1 == k) = true then withoutD (l.take i) k else withoutD (l.take i) k ++ [x] := by
  obtain ⟨hi, rfl⟩ := List.getElem?_eq_some_iff.1 h
  unfold withoutD
  rw [List.take_succ_eq_append_getElem hi, List.filter_append]
  by_cases hb : ((l[i]).1 == k) = true
  · rw [if_pos hb, List.filter_cons_of_neg (by simp [hb])]; simp
  · rw [if_neg hb, List.filter_cons_of_pos (by simp [hb])]; simp
theorem withoutD_len (l : List LF) (k : List UInt8) : (withoutD l k).length ≤ l.length := List.length_filter_le _ _
theorem leavesD_take {l : List LF} {i : Nat} {x : LF} (h : l[i]? = some x) : leavesD (l.take (i + 1)) = leavesD (l.take i) ++ [ofD TgD x.1 x.2] := by
  obtain ⟨hi, rfl⟩ := List.getElem?_eq_some_iff.1 h
  unfold leavesD
  rw [List.take_succ_eq_append_getElem hi, List.map_append]
  rfl
theorem leavesD_len (l : List LF) : (leavesD l).length = l.length := List.length_map _
section
variable {P : Program} {ops : Array Oper} {o : Oper} {a : Act} {w : World} {K : Act → World → Prop} {Q : Exit → Act → World → Prop} {E : Prop}
theorem step_appKL (hgd : o.guard = none) (x y : Operand) (st t : TypeId) (hop : o.op = .call { callee := .builtin .append, args := #[x, y], argTypes := #[st, st] })
    (lo : Nat) (sl : Value) (l : List LF) (hlo : lo ≤ w.heap.size) (hx : a.eval x = sl) (hsl : KL w t lo sl l) (g2 c : Nat) (hy : a.eval y = .slice (some ⟨g2, 0, none⟩) 1 c) (u : LF) (t2 : TypeId) (hb2 : Blk w g2 (kvc u) t2) (i : TypeInfo) (z : LF)
    (hu : P.underlying st = some (.slice t)) (hi : P.info? t = some i) (hz : i.zero = some (.agg (kvc z))) (hs : i.size = 2) (hby : i.bytes ≤ 64) (hlen : l.length ≤ 1000000)
    (h : ∀ (w1 : World) (sl1 : Value), Below lo w w1 → KeepsT t w w1 → KL w1 t lo sl1 (l ++ [u]) → K (a.put o.dst sl1) w1) :
    if Region.wanted o (yielded ops a.tmps) = true then Oper.wp P o a w K Q else E := by
  have hw : Region.wanted o (yielded ops a.tmps) = true := by simp [Region.wanted, hgd]
  rw [if_pos hw]
  obtain ⟨w1, sl1, hr, hb, hkp, hl⟩ := run_appendKL (P := P) (w := w) st o.type t lo sl l hlo hsl g2 c u t2 hb2 i z hu hi hz hs hby hlen
  unfold Oper.wp
  simp [execOp, hop, resolve, invoke, builtin, hx, hy, hr, Result.andThen]
  exact h w1 sl1 hb hkp hl
end
set_option maxRecDepth 100000 in
set_option maxHeartbeats 1000000 in
theorem without_any (l : List LF) (a : Option Addr) (cap : Nat) (k : List UInt8) (w : World) (hL : KA w a l) (hl : l.length ≤ 1000) :
    Calls Tryd.prog 35 #[.slice a l.length cap, .string ⟨k.toArray⟩] w fun e w' => ∃ sl, e = .returned sl ∧ KL w' 38 w.heap.size sl (withoutD l k) ∧ Below w.heap.size w w' := by
  obtain ⟨i0, hi0, hz0, hs0, hb0⟩ := infoKy
  obtain ⟨R, hR⟩ : ∃ R, R = withoutD l k := ⟨_, rfl⟩
  rw [← hR]
  replace hR : Hid (R = withoutD l k) := hR
  go_enter Tryd.func35, Tryd.ntmps35
  go_wp2_with (with_reducible refine at_list ?_; refine wpList_bsl0Ky (op := ⟨some 7, _, _, _, _, _⟩) rfl rfl ?_; intro w1 hw1 hs1 hK1; replace hs1 := hs1.symm)
  go_loopw [5, 6] (fun v5 v6 wl => ∃ i : Nat, i ≤ l.length ∧ v6 = .int .i64 i ∧ KL wl 38 w.heap.size v5 (withoutD (l.take i) k) ∧ Below w.heap.size w wl) (fun _ v6 _ => l.length - (intOf v6).toNat)
  case atStart => exact ⟨0, by omega, rfl, hK1, hw1⟩
  case round =>
    obtain ⟨i, hi, rfl, hK, hB⟩ := hrel
    clear hw1 hs1 hK1
    by_cases hlt : i < l.length
    · obtain ⟨g, o, rfl⟩ := (hL.below hB).ex (by omega)
      obtain ⟨x, hx⟩ : ∃ x, l[i]? = some x := ⟨_, List.getElem?_eq_getElem hlt⟩
      have hT := withoutD_take k hx
      obtain ⟨p, v⟩ := x
      dsimp only at hT
      obtain ⟨d1, d2⟩ := (hL.below hB).two hx
      have hlen := withoutD_len (l.take i) k
      rw [List.length_take] at hlen
      have hz1 : (0 : Int) ≤ (i : Int) := by omega
      have hz2 : (i : Int) < (l.length : Int) := by omega
      clear hx
      by_cases hb : (p == k) = true
      · rw [if_pos hb] at hT
        replace hT : Hid (withoutD (l.take (i + 1)) k = withoutD (l.take i) k) := hT
        go_wp2_with fail
        go_roundw
        case rel => exact ⟨i + 1, by omega, by go_num, by rw [hT.out]; exact hK, hB⟩
        case measure => simp [intOf]; omega
      · rw [if_neg hb] at hT
        replace hT : Hid (withoutD (l.take (i + 1)) k = withoutD (l.take i) k ++ [(p, v)]) := hT
        have hbf : (p == k) = false := by simpa using hb
        clear hb
        generalize withoutD (l.take i) k = L at *
        go_wp2_with (with_reducible refine at_list ?_; first
          | (refine wpList_bslKy (op := ⟨some 26, _, _, _, _, _⟩) rfl _ rfl (p, v) rfl ?_; intro w3 hw3 hs3 hb3; replace hs3 := hs3.symm; have hK3 := hK.below hw3; have hB3 := hB.trans (hw3.mono hB.size))
          | (refine wpList_appendKL (op := ⟨some 27, _, _, _, _, _⟩) rfl _ _ 24 38 rfl w.heap.size u5 L hB3.size rfl hK3 wr.heap.size 1 rfl (p, v) 38 hb3 i0 ([], []) Tryd.underlying24 hi0 hz0 hs0 hb0 (by omega) ?_; intro w4 sl4 hw4 hkp4 hK4))
        go_roundw
        case rel => exact ⟨i + 1, by omega, by go_num, by rw [hT.out]; exact hK4, hB3.trans hw4⟩
        case measure => simp [intOf]; omega
    · have hE : Hid (withoutD (l.take i) k = R) := by rw [List.take_of_length_le (by omega)]; exact hR.out.symm
      rw [hE.out] at hK
      go_wp2_with fail
      go_ret
      exact ⟨_, rfl, hK, hB⟩
set_option maxRecDepth 100000 in
set_option maxHeartbeats 1000000 in
theorem with_any (l : List LF) (a : Option Addr) (cap : Nat) (k v : List UInt8) (w : World) (hL : KA w a l) (hl : l.length ≤ 1000) :
    Calls Tryd.prog 36 #[.slice a l.length cap, .string ⟨k.toArray⟩, .string ⟨v.toArray⟩] w fun e w' => ∃ sl, e = .returned sl ∧ KL w' 38 w.heap.size sl (withD l k v) ∧ Below w.heap.size w w' := by
  obtain ⟨i0, hi0, hz0, hs0, hb0⟩ := infoKy
  have HW := without_any l a cap k w hL hl
  have hlen := withoutD_len l k
  unfold withD
  generalize withoutD l k = L at *
  go_enter Tryd.func36, Tryd.ntmps36
  go_wp2_with (first
    | (go_at_call 35; refine HW.mono ?_; rintro e w1 ⟨sl1, rfl, hK1, hw1⟩)
    | (with_reducible refine at_list ?_; first
      | (refine wpList_bslKy (op := ⟨some 13, _, _, _, _, _⟩) rfl _ rfl (k, v) rfl ?_; intro w3 hw3 hs3 hb3; replace hs3 := hs3.symm; have hK3 := hK1.below hw3; have hB3 := hw1.trans (hw3.mono hw1.size))
      | (refine wpList_appendKL (op := ⟨some 14, _, _, _, _, _⟩) rfl _ _ 24 38 rfl w.heap.size sl1 L hB3.size rfl hK3 w1.heap.size 1 rfl (k, v) 38 hb3 i0 ([], []) Tryd.underlying24 hi0 hz0 hs0 hb0 (by omega) ?_; intro w4 sl4 hw4 hkp4 hK4)))
  go_ret
  exact ⟨_, rfl, hK4, hB3.trans hw4⟩
set_option maxRecDepth 100000 in
set_option maxHeartbeats 1000000 in
theorem leaves_any (l : List LF) (a : Option Addr) (cap : Nat) (w : World) (hL : KA w a l) (hl : l.length ≤ 1000) (hs : ∀ x ∈ l, x.1.length ≤ 1000 ∧ x.2.length ≤ 1000) :
    Calls Tryd.prog 14 #[.slice a l.length cap] w fun e w' => ∃ sl, e = .returned sl ∧ KL w' 52 w.heap.size sl (leavesD l) ∧ Below w.heap.size w w' := by
  obtain ⟨i0, hi0, hz0, hs0, hb0⟩ := infoLf
  obtain ⟨R, hR⟩ : ∃ R, R = leavesD l := ⟨_, rfl⟩
  rw [← hR]
  replace hR : Hid (R = leavesD l) := hR
  go_enter Tryd.func14, Tryd.ntmps14
  go_wp2_with (with_reducible refine at_list ?_; refine wpList_bsl0Lf (op := ⟨some 5, _, _, _, _, _⟩) rfl rfl ?_; intro w1 hw1 hs1 hK1; replace hs1 := hs1.symm)
  go_loopw [3, 4] (fun v3 v4 wl => ∃ i : Nat, i ≤ l.length ∧ v4 = .int .i64 i ∧ KL wl 52 w.heap.size v3 (leavesD (l.take i)) ∧ Below w.heap.size w wl) (fun _ v4 _ => l.length - (intOf v4).toNat)
  case atStart => exact ⟨0, by omega, rfl, hK1, hw1⟩
  case round =>
    obtain ⟨i, hi, rfl, hK, hB⟩ := hrel
    clear hw1 hs1 hK1
    by_cases hlt : i < l.length
    · obtain ⟨g, o, rfl⟩ := (hL.below hB).ex (by omega)
      obtain ⟨x, hx⟩ : ∃ x, l[i]? = some x := ⟨_, List.getElem?_eq_getElem hlt⟩
      have hT : Hid (leavesD (l.take (i + 1)) = leavesD (l.take i) ++ [ofD TgD x.1 x.2]) := leavesD_take hx
      have hxs := hs x (List.mem_of_getElem? hx)
      obtain ⟨p, v⟩ := x
      dsimp only at hxs hT
      obtain ⟨d1, d2⟩ := (hL.below hB).two hx
      have HO := fun w1 => of_any p v w1 (by omega) (by omega)
      have hlen : (leavesD (l.take i)).length ≤ 1000 := by rw [leavesD_len, List.length_take]; omega
      have hz1 : (0 : Int) ≤ (i : Int) := by omega
      have hz2 : (i : Int) < (l.length : Int) := by omega
      have hx2 : Hid (l[i]? = some (p, v)) := hx
      clear hx
      generalize ofD TgD p v = y at *
      generalize leavesD (l.take i) = L at *
      obtain ⟨y1, y2⟩ := y
      have HB1 : ∀ (w1 : World), (Instr.buildSlice 32 1 #[(0, .agg #[.string ⟨y1.toArray⟩, .string ⟨y2.toArray⟩])]).run Tryd.prog w1 = .ok (.slice (some ⟨w1.heap.size, 0, none⟩) 1 1) (w1.alloc (.cells #[.string ⟨y1.toArray⟩, .string ⟨y2.toArray⟩] 52)) := fun w1 => bslLf (y1, y2) w1
      unfold kvc at HO
      dsimp only at HO
      have hk : ∀ W, Below wr.heap.size wr W → W.cell? ⟨g, o + i * 2, none⟩ = some (.string ⟨p.toArray⟩) ∧ W.cell? ⟨g, o + i * 2 + 1, none⟩ = some (.string ⟨v.toArray⟩) := fun W h => ⟨(h.cell (World.block_lt_of_cell? _ _ d1)).trans d1, (h.cell (World.block_lt_of_cell? _ _ d2)).trans d2⟩
      go_wp2_with fail
      go_region_held3 (fun w' => w'.cell? ⟨g, o + i * 2, none⟩ = some (.string ⟨p.toArray⟩) ∧ w'.cell? ⟨g, o + i * 2 + 1, none⟩ = some (.string ⟨v.toArray⟩)) (first | assumption | exact ⟨d1, d2⟩ | exact kAl _) (first
        | (go_at_call 22; refine (HO wr.drew).mono ?_; rintro e w2 ⟨rfl, hw2⟩; have hB2 : Below wr.heap.size wr w2 := (Below.refl wr.heap.size wr).drew.trans hw2; have k2 := hk _ hB2; have hAl : ∀ o, Below wr.heap.size wr (w2.alloc o) := (fun o => hB2.trans (((Below.refl w2.heap.size w2).alloc (Nat.le_refl _) o).mono hB2.size)); have kAl : ∀ q, (w2.alloc q).cell? ⟨g, o + i * 2, none⟩ = some (.string ⟨p.toArray⟩) ∧ (w2.alloc q).cell? ⟨g, o + i * 2 + 1, none⟩ = some (.string ⟨v.toArray⟩) := (fun q => hk _ (hAl q)))
        | (refine step_appKL (by rfl) _ _ 32 52 (by rfl) w.heap.size u3 L (hB.trans ((hAl _).mono hB.size)).size (by rfl) (hK.below (hAl _)) w2.heap.size 1 (by rfl) (y1, y2) 52 (Blk.new w2 _ _) i0 ([], []) Tryd.underlying32 hi0 hz0 hs0 hb0 (by omega) ?_; intro w4 sl4 hw4 hkp4 hK4; have hB4 := (hB.trans ((hAl _).mono hB.size)).trans hw4; have k4 := (hL.below hB4).two hx2.out))
      go_wp2_with fail
      go_roundw
      case rel => exact ⟨i + 1, by omega, by go_num, by rw [hT.out]; exact hK4, hB4⟩
      case measure => simp [intOf]; omega
    · have hE : Hid (leavesD (l.take i) = R) := by rw [List.take_of_length_le (by omega)]; exact hR.out.symm
      rw [hE.out] at hK
      go_wp2_with fail
      go_ret
      exact ⟨_, rfl, hK, hB⟩
end Go.Proofs.YtmeolaeoaoldoaaDoor.Sh
namespace Go.Proofs.YtmeolaeoaoldoaaDoor.Sh
open Go Go.RowKit
/-- Two unlike keys of the list have one path. -/
def twinAt (ks : List (List UInt8)) (i k : Nat) : Prop := ks.getD i [] ≠ ks.getD k [] ∧ TgD 80 [ks.getD i []] = TgD 80 [ks.getD k []]
def TwinsP (ks : List (List UInt8)) : Prop := ∃ i k, k < i ∧ i < ks.length ∧ twinAt ks i k
set_option maxRecDepth 100000 in
set_option maxHeartbeats 2000000 in
theorem paths_any (ks : List (List UInt8)) (a : Option Addr) (cap : Nat) (w : World) (hX : XA w a ks) (hl : ks.length ≤ 1000) (hs : ∀ x ∈ ks, x.length ≤ 1000) (b : Bool) (hb : b = true ↔ TwinsP ks) :
    Calls Tryd.prog 37 #[.slice a ks.length cap] w fun e w' => e = .returned (.bool b) ∧ Below w.heap.size w w' := by
  have hbt : Hid (∀ i k, k < i → i < ks.length → twinAt ks i k → b = true) := fun i k h1 h2 h3 => hb.2 ⟨i, k, h1, h2, h3⟩
  have hbf : Hid ((∀ i k, k < i → i < ks.length → ¬ twinAt ks i k) → b = false) := fun h => by
    rw [Bool.eq_false_iff]
    intro h2
    obtain ⟨i, k, h3, h4, h5⟩ := hb.1 h2
    exact h i k h3 h4 h5
  clear hb
  go_enter Tryd.func37, Tryd.ntmps37
  go_wp2_with fail
  go_loopw [3] (fun v3 wl => ∃ i : Nat, i ≤ ks.length ∧ v3 = .int .i64 i ∧ Hid (∀ i' k, k < i' → i' < i → ¬ twinAt ks i' k) ∧ Below w.heap.size w wl) (fun v3 _ => ks.length - (intOf v3).toNat)
  case atStart => exact ⟨0, by omega, rfl, fun i' k h1 h2 => absurd h2 (by omega), Below.refl _ _⟩
  case round =>
    obtain ⟨i, hi, rfl, hN, hB⟩ := hrel
    by_cases hlt : i < ks.length
    · have hz2 : (i : Int) < (ks.length : Int) := by omega
      obtain ⟨g, o, rfl⟩ := hX.ex (by omega)
      go_wp2_with fail
      go_loopw [4] (fun v4 wl => ∃ k : Nat, k ≤ i ∧ v4 = .int .i64 k ∧ Hid (∀ k', k' < k → ¬ twinAt ks i k') ∧ Below w.heap.size w wl) (fun v4 _ => i - (intOf v4).toNat)
      case atStart => exact ⟨0, by omega, rfl, fun k' h => absurd h (by omega), hB⟩
      case round =>
        clear hB
        obtain ⟨k, hk, rfl, hM, hB⟩ := hrel
        by_cases hki : k < i
        · have d1 := (hX.below hB).at i hlt
          have d2 := (hX.below hB).at k (by omega)
          have e1 : ks.getD i [] = ks[i] := by rw [List.getD_eq_getElem?_getD, List.getElem?_eq_getElem hlt]; rfl
          have e2 : ks.getD k [] = ks[k] := by rw [List.getD_eq_getElem?_getD, List.getElem?_eq_getElem (by omega)]; rfl
          have s1 := hs _ (List.getElem_mem hlt)
          have s2 := hs _ (List.getElem_mem (show k < ks.length by omega))
          have hT : Hid (twinAt ks i k ↔ ks[i] ≠ ks[k] ∧ TgD 80 [ks[i]] = TgD 80 [ks[k]]) := by unfold twinAt; rw [e1, e2]; exact Iff.rfl
          have hz1 : (0 : Int) ≤ (i : Int) := by omega
          have hz3 : (0 : Int) ≤ (k : Int) := by omega
          have hz4 : (k : Int) < (ks.length : Int) := by omega
          have hz5 : (k : Int) < (i : Int) := by omega
          have HO1 := fun w1 => of_any ks[i] [] w1 (by omega) (by decide)
          have HO2 := fun w1 => of_any ks[k] [] w1 (by omega) (by decide)
          unfold ofD kvc at HO1 HO2
          dsimp only at HO1 HO2
          clear e1 e2
          generalize ks[i] = x at *
          generalize ks[k] = y at *
          generalize TgD 80 [x] = px at *
          generalize TgD 80 [y] = py at *
          generalize TgD 86 [[]] = pv at *
          have hf1 : ∀ w1 : World, (Instr.field 52 (.agg #[.string ⟨px.toArray⟩, .string ⟨pv.toArray⟩]) 0).run Tryd.prog w1 = .ok (.string ⟨px.toArray⟩) w1 := fun _ => by kernel_rfl
          have hf2 : ∀ w1 : World, (Instr.field 52 (.agg #[.string ⟨py.toArray⟩, .string ⟨pv.toArray⟩]) 0).run Tryd.prog w1 = .ok (.string ⟨py.toArray⟩) w1 := fun _ => by kernel_rfl
          by_cases hxy : x = y
          · have hb1 : (x == y) = true := by rw [beq_iff_eq]; exact hxy
            have hM2 : Hid (∀ k', k' < k + 1 → ¬ twinAt ks i k') := fun k' hk' => by
              by_cases h : k' < k
              · exact hM.out k' h
              · obtain rfl : k' = k := by omega
                rw [hT.out]
                exact fun h => h.1 hxy
            clear hxy hT
            go_wp2_with fail
            go_quiet (fail)
            go_wp2_with fail
            go_roundw
            case rel => exact ⟨k + 1, by omega, by go_num, hM2, below_draws hB _⟩
            case measure => simp [intOf]; omega
          · have hb1 : (x == y) = false := by rw [beq_eq_false_iff_ne]; exact hxy
            have hk : ∀ W, Below wr.heap.size wr W → W.cell? ⟨g, o + i, none⟩ = some (.string ⟨x.toArray⟩) ∧ W.cell? ⟨g, o + k, none⟩ = some (.string ⟨y.toArray⟩) := fun W h => ⟨(h.cell (World.block_lt_of_cell? _ _ d1)).trans d1, (h.cell (World.block_lt_of_cell? _ _ d2)).trans d2⟩
            by_cases hp : px = py
            · have hb2 : (px == py) = true := by rw [beq_iff_eq]; exact hp
              have hbb := hbt.out i k hki hlt (hT.out.2 ⟨hxy, hp⟩)
              clear hxy hT hp hN hM hbt hbf
              subst hbb
              go_wp2_with fail
              go_region_held3 (fun w' => w'.cell? ⟨g, o + i, none⟩ = some (.string ⟨x.toArray⟩) ∧ w'.cell? ⟨g, o + k, none⟩ = some (.string ⟨y.toArray⟩)) (first | assumption | exact ⟨d1, d2⟩) (first
                | (go_at_call 22; refine (HO1 wr.drew).mono ?_; clear HO1; rintro e w2 ⟨rfl, hw2⟩; have hB2 : Below wr.heap.size wr w2 := (Below.refl wr.heap.size wr).drew.trans hw2; have k2 := hk _ hB2)
                | (go_at_call 22; refine (HO2 w2).mono ?_; rintro e w3 ⟨rfl, hw3⟩; have hB3 : Below wr.heap.size wr w3 := hB2.trans (hw3.mono hB2.size); have k3 := hk _ hB3))
              go_wp2_with fail
              go_ret
              exact ⟨rfl, hB.trans (hB3.mono hB.size)⟩
            · have hb2 : (px == py) = false := by rw [beq_eq_false_iff_ne]; exact hp
              have hM2 : Hid (∀ k', k' < k + 1 → ¬ twinAt ks i k') := fun k' hk' => by
                by_cases h : k' < k
                · exact hM.out k' h
                · obtain rfl : k' = k := by omega
                  rw [hT.out]
                  exact fun h => hp h.2
              clear hxy hT hp
              go_wp2_with fail
              go_region_held3 (fun w' => w'.cell? ⟨g, o + i, none⟩ = some (.string ⟨x.toArray⟩) ∧ w'.cell? ⟨g, o + k, none⟩ = some (.string ⟨y.toArray⟩)) (first | assumption | exact ⟨d1, d2⟩) (first
                | (go_at_call 22; refine (HO1 wr.drew).mono ?_; clear HO1; rintro e w2 ⟨rfl, hw2⟩; have hB2 : Below wr.heap.size wr w2 := (Below.refl wr.heap.size wr).drew.trans hw2; have k2 := hk _ hB2)
                | (go_at_call 22; refine (HO2 w2).mono ?_; rintro e w3 ⟨rfl, hw3⟩; have hB3 : Below wr.heap.size wr w3 := hB2.trans (hw3.mono hB2.size); have k3 := hk _ hB3))
              go_wp2_with fail
              go_roundw
              case rel => exact ⟨k + 1, by omega, by go_num, hM2, hB.trans (hB3.mono hB.size)⟩
              case measure => simp [intOf]; omega
        · have hN2 : Hid (∀ i' k, k < i' → i' < i + 1 → ¬ twinAt ks i' k) := fun i' k' h1 h2 => by
            by_cases h : i' < i
            · exact hN.out i' k' h1 h
            · obtain rfl : i' = i := by omega
              exact hM.out k' (by omega)
          have hz5 : ¬ ((k : Int) < (i : Int)) := by omega
          go_wp2_with fail
          go_roundw
          case rel => exact ⟨i + 1, by omega, by go_num, hN2, hB⟩
          case measure => simp [intOf]; omega
    · have hz2 : ¬ ((i : Int) < (ks.length : Int)) := by omega
      have hbb := hbf.out (fun i' k h1 h2 => hN.out i' k h1 (by omega))
      subst hbb
      go_wp2_with fail
      go_ret
      exact ⟨rfl, hB⟩
end Go.Proofs.YtmeolaeoaoldoaaDoor.Sh
