/- What the plain Tag does. -/
import Derived.Test.YtminjelnbnajhaaDoorMa
import Derived.Test.YtminjelnbnajhaaDoorWi
import Derived.Test.YtminjelnbnajhaaDoorRtg
namespace Go.Proofs.YtminjelnbnajhaaDoor
open Go Go.RowKit
/-- Two slices of bytes that grow, apart from one another, beyond what was there. -/
structure TwoBS (w0 wl : World) (g1 c1 : Nat) (l1 : List UInt8) (g2 c2 : Nat) (l2 : List UInt8) : Prop where
  below : Below w0.heap.size w0 wl
  lo1 : w0.heap.size ≤ g1
  lo2 : w0.heap.size ≤ g2
  ne : g1 ≠ g2
  b1 : BS wl g1 c1 l1
  b2 : BS wl g2 c2 l2
theorem TwoBS.later {w0 wl w' : World} {g1 c1 g2 c2 : Nat} {l1 l2 : List UInt8} (h : TwoBS w0 wl g1 c1 l1 g2 c2 l2) (hb : Below wl.heap.size wl w') : TwoBS w0 w' g1 c1 l1 g2 c2 l2 :=
  ⟨h.below.trans (hb.mono h.below.size), h.lo1, h.lo2, h.ne, h.b1.belowSize hb, h.b2.belowSize hb⟩
theorem TwoBS.app1 {w0 wl w' : World} {g1 c1 g2 c2 g1' c1' : Nat} {l1 l2 l1' : List UInt8} (h : TwoBS w0 wl g1 c1 l1 g2 c2 l2) (hg : wl.grownBy w' (some g1)) (hg' : g1' = g1 ∨ wl.heap.size ≤ g1') (hb : BS w' g1' c1' l1') : TwoBS w0 w' g1' c1' l1' g2 c2 l2 := by
  have h1 := h.lo1
  have h2 := h.b2.lt
  have h3 := h.below.size
  have h4 := h.ne
  exact ⟨h.below.trans (below_of_grown hg h1 h3), by omega, h.lo2, by omega, hb, h.b2.grown hg (by simp; omega)⟩
theorem TwoBS.app2 {w0 wl w' : World} {g1 c1 g2 c2 g2' c2' : Nat} {l1 l2 l2' : List UInt8} (h : TwoBS w0 wl g1 c1 l1 g2 c2 l2) (hg : wl.grownBy w' (some g2)) (hg' : g2' = g2 ∨ wl.heap.size ≤ g2') (hb : BS w' g2' c2' l2') : TwoBS w0 w' g1 c1 l1 g2' c2' l2' := by
  have h1 := h.lo2
  have h2 := h.b1.lt
  have h3 := h.below.size
  have h4 := h.ne
  exact ⟨h.below.trans (below_of_grown hg h1 h3), h.lo1, by omega, by omega, h.b1.grown hg (by simp; omega), hb⟩

def hpadTo (k : List UInt8) (p : UInt8) (i : Nat) : List UInt8 := (List.range i).map fun j => keyF k j ^^^ p
theorem hpadTo_length (k : List UInt8) (p : UInt8) (i : Nat) : (hpadTo k p i).length = i := by simp [hpadTo]
theorem hpadTo_succ (k : List UInt8) (p : UInt8) (i : Nat) : hpadTo k p i ++ (List.range 1).map (fun _ => keyF k i ^^^ p) = hpadTo k p (i + 1) := by
  unfold hpadTo
  rw [List.range_succ (n := i), List.map_append]
  rfl
theorem hpadTo_all (k : List UInt8) (p : UInt8) : hpadTo k p 64 = hpadK k p := rfl
theorem xor54 (x : UInt8) : bits .xor .u8 (n8 x) 54 = n8 (x ^^^ 54) := bits_xor8 x 54
theorem xor92 (x : UInt8) : bits .xor .u8 (n8 x) 92 = n8 (x ^^^ 92) := bits_xor8 x 92

theorem xor0_54 : bits .xor .u8 0 54 = n8 54 := by decide
theorem xor0_92 : bits .xor .u8 0 92 = n8 92 := by decide

theorem run_bytesStrBS {P : Program} {op : Oper} {a : Act} (src dst : TypeId) (x : Operand) (ho : op.op = .convert src dst x) (g len cap : Nat) (hx : a.eval x = .slice (some ⟨g, 0, none⟩) len cap)
    (e : TypeId) (hs : P.underlying src = some (.slice e)) (he : P.underlying e = some (.int .u8)) (hd : P.underlying dst = some .string)
    (l : List UInt8) (hl : len = l.length) (w : World) (hb : BS w g cap l) : (execOp a.eval op).run P w = .ok (.value (.string ⟨l.toArray⟩)) w := by
  subst hl
  have hld : (loadCells ⟨g, 0, none⟩ l.length).run P w = .ok ((l.map fun b => (b.toNat : Int)).map (Value.int .u8)).toArray w := by
    have := run_loadCells_list (P := P) w ⟨g, 0, none⟩ ((l.map fun b => (b.toNat : Int)).map (Value.int .u8)) (fun j v hv => by
      have hj : j < l.length := by have := (List.getElem?_eq_some_iff.1 hv).1; simpa using this
      rw [Addr.add_mid, Nat.zero_add, hb.cell j hj, ← hv]
      simp [hj, n8, List.getD_eq_getElem?_getD])
    simpa using this
  have hr := run_bytesToString (P := P) w ⟨g, 0, none⟩ l.length cap (l.map fun b => (b.toNat : Int)) hld
  rw [foldl_push] at hr
  have e2 : ((l.map fun b => (b.toNat : Int)).map fun k => UInt8.ofNat k.toNat) = l := by
    rw [List.map_map]
    exact (List.map_congr_left (fun b _ => by simp)).trans (List.map_id l)
  rw [e2] at hr
  unfold execOp
  simp only [ho, hx, Sem.run_bind, run_convert_bytes_string w src dst e _ _ _ hs he hd, hr, Result.andThen_ok]
  show Result.ok (Next.value (.string ⟨ByteArray.empty.data ++ l.toArray⟩)) w = _
  rw [show ByteArray.empty.data = #[] from rfl, Array.empty_append]

attribute [local go_sem] idx8 mkApp2 xor54 xor92 xor0_54 xor0_92
set_option maxRecDepth 100000 in
set_option maxHeartbeats 1000000 in
theorem rtag_any (k s : List UInt8) (w : World) (hk : k.length ≤ 549755813888) (hs : s.length ≤ 274877906944) :
    Calls Tryd.prog 16 #[.string ⟨k.toArray⟩, .string ⟨s.toArray⟩] w fun e w' => e = .returned (.string ⟨(hmac k s).toArray⟩) ∧ Below w.heap.size w w' := by
  obtain ⟨i5', hi5, hz5, hs5, hb5⟩ := info5
  obtain ⟨kk, hkk⟩ : ∃ kk, kk = k := ⟨k, rfl⟩
  obtain ⟨sk, hsk⟩ : ∃ sk, sk = shortKey k := ⟨_, rfl⟩
  have hsl : sk.length ≤ 64 := by rw [hsk]; exact shortKey_length k
  have HK0 : ∀ j, byteOf sk j = keyF kk j := by intro j; rw [hsk, hkk]; rfl
  have HK : Hid (∀ j, byteOf sk j = keyF kk j) := HK0
  have HM : Hid (hmac k s = digest (hpadTo kk 92 64 ++ digest (hpadTo kk 54 64 ++ s))) := by rw [hkk]; exact rfl
  have hdl : (digest (hpadTo kk 54 64 ++ s)).length ≤ 32 := by rw [digest_length]; exact Nat.le_refl _
  have hp1 : (hpadTo kk 54 64).length ≤ 64 := by rw [hpadTo_length]; exact Nat.le_refl _
  have hp2 : (hpadTo kk 92 64).length ≤ 64 := by rw [hpadTo_length]; exact Nat.le_refl _
  clear hkk HK0
  have key : ∀ (w2 : World) (g1 g2 : Nat), TwoBS w w2 g1 0 (hpadTo kk 54 0) g2 0 (hpadTo kk 92 0) → Hid (TwoBS w w2 g1 0 (hpadTo kk 54 0) g2 0 (hpadTo kk 92 0)) := fun _ _ _ h => h
  by_cases h : 64 < k.length
  case' pos =>
    have hd : sk = digest k := by rw [hsk]; unfold shortKey; rw [if_pos h]
    clear hsk
    go_enter Tryd.func16, Tryd.ntmps16
    go_wp2_with (first
      | (go_at_call 12; refine (rsum_any k _ (by omega)).mono ?_; rintro e w0 ⟨rfl, hw0⟩)
      | (with_reducible refine at_list ?_; first
        | (refine wpList_bsl0 (op := ⟨some 14, _, _, _, _, _⟩) rfl rfl ?_; intro w1 hw1 hs1 hb1; replace hs1 := hs1.symm)
        | (refine wpList_bsl0 (op := ⟨some 15, _, _, _, _, _⟩) rfl rfl ?_; intro w2 hw2 hs2 hb2; replace hs2 := hs2.symm)))
    rw [← hd]
    clear hd h
    have hB1 := hw0.trans (hw1.mono hw0.size)
    have hT : TwoBS w w2 w0.heap.size 0 (hpadTo kk 54 0) w1.heap.size 0 (hpadTo kk 92 0) := ⟨hB1.trans (hw2.mono hB1.size), hw0.size, hB1.size, by omega, hb1.belowSize hw2, hb2⟩
    generalize w0.heap.size = G1 at *
    generalize w1.heap.size = G2 at *
    clear hw0 hw1 hs1 hb1 hw2 hs2 hb2 hB1
  case' neg =>
    obtain rfl : sk = k := by rw [hsk]; unfold shortKey; rw [if_neg h]
    clear hsk
    go_enter Tryd.func16, Tryd.ntmps16
    go_wp2_with (first
      | (with_reducible refine at_list ?_; first
        | (refine wpList_bsl0 (op := ⟨some 14, _, _, _, _, _⟩) rfl rfl ?_; intro w1 hw1 hs1 hb1; replace hs1 := hs1.symm)
        | (refine wpList_bsl0 (op := ⟨some 15, _, _, _, _, _⟩) rfl rfl ?_; intro w2 hw2 hs2 hb2; replace hs2 := hs2.symm)))
    have hT : TwoBS w w2 w.heap.size 0 (hpadTo kk 54 0) w1.heap.size 0 (hpadTo kk 92 0) := ⟨hw1.trans (hw2.mono hw1.size), Nat.le_refl _, hw1.size, by omega, hb1.belowSize hw2, hb2⟩
    obtain ⟨G1, hG1⟩ : ∃ G1, G1 = w.heap.size := ⟨_, rfl⟩
    rw [← hG1] at hT
    generalize w1.heap.size = G2 at *
    clear hw1 hs1 hb1 hw2 hs2 hb2 h
  all_goals
    clear key
    go_loopw [5, 6, 7] (fun v5 v6 v7 wl => ∃ i g1 c1 g2 c2 : Nat, i ≤ 64 ∧ v7 = .int .i64 i ∧ v5 = .slice (some ⟨g1, 0, none⟩) i c1 ∧ v6 = .slice (some ⟨g2, 0, none⟩) i c2 ∧ TwoBS w wl g1 c1 (hpadTo kk 54 i) g2 c2 (hpadTo kk 92 i)) (fun _ _ v7 _ => 64 - (intOf v7).toNat)
    case atStart => exact ⟨0, G1, 0, G2, 0, by omega, rfl, by first | rfl | (rw [hG1]; rfl) | (subst hG1; rfl), rfl, hT⟩
    case round =>
      clear hT
      obtain ⟨i, g1, c1, g2, c2, hi, rfl, rfl, rfl, hT⟩ := hrel
      by_cases hlt : i < 64
      · by_cases hc : i < sk.length
        case' pos =>
          have HB := HK.out i
          have HV54 : Hid ((fun _ : Nat => byteOf sk i ^^^ 54) = fun _ => keyF kk i ^^^ 54) := by rw [HB]; exact rfl
          have HV92 : Hid ((fun _ : Nat => byteOf sk i ^^^ 92) = fun _ => keyF kk i ^^^ 92) := by rw [HB]; exact rfl
          clear HB
          go_wp2_with (with_reducible refine at_list ?_; first
            | (refine wpList_bsl1 (op := ⟨some 30, _, _, _, _, _⟩) rfl _ rfl (byteOf sk i ^^^ 54) rfl ?_; intro w9 hw9 hs9 hb9; replace hs9 := hs9.symm)
            | (refine wpList_appendBS (op := ⟨some 31, _, _, _, _, _⟩) rfl _ _ _ rfl g1 c1 (hpadTo kk 54 i) _ (hpadTo_length _ _ _).symm rfl (hT.b1.belowSize hw9) wr.heap.size 1 1 rfl _ _ hb9 _ Tryd.underlying40 hi5 hz5 hs5 hb5 (by rw [hpadTo_length]; omega) ?_; intro w10 g10 c10 hg10' hg10 hb10; rw [HV54.out, hpadTo_succ] at hb10; have hT10 := (hT.later hw9).app1 hg10 hg10' hb10; clear hg10' hg10 hb10 hb9 hw9 hs9)
            | (refine wpList_bsl1 (op := ⟨some 35, _, _, _, _, _⟩) rfl _ rfl (byteOf sk i ^^^ 92) rfl ?_; intro w11 hw11 hs11 hb11; replace hs11 := hs11.symm)
            | (refine wpList_appendBS (op := ⟨some 36, _, _, _, _, _⟩) rfl _ _ _ rfl g2 c2 (hpadTo kk 92 i) _ (hpadTo_length _ _ _).symm rfl (hT10.b2.belowSize hw11) w10.heap.size 1 1 rfl _ _ hb11 _ Tryd.underlying40 hi5 hz5 hs5 hb5 (by rw [hpadTo_length]; omega) ?_; intro w12 g12 c12 hg12' hg12 hb12; rw [HV92.out, hpadTo_succ] at hb12; have hT12 := (hT10.later hw11).app2 hg12 hg12' hb12; clear hg12' hg12 hb12 hb11 hw11 hs11 hT10))
        case' neg =>
          have HB : keyF kk i = 0 := by
            rw [← HK.out i]
            unfold byteOf
            rw [List.getD_eq_getElem?_getD, List.getElem?_eq_none (by omega)]
            rfl
          have HV54 : Hid ((fun _ : Nat => (54 : UInt8)) = fun _ => keyF kk i ^^^ 54) := by rw [HB]; exact rfl
          have HV92 : Hid ((fun _ : Nat => (92 : UInt8)) = fun _ => keyF kk i ^^^ 92) := by rw [HB]; exact rfl
          clear HB
          go_wp2_with (with_reducible refine at_list ?_; first
            | (refine wpList_bsl1 (op := ⟨some 30, _, _, _, _, _⟩) rfl _ rfl (54) rfl ?_; intro w9 hw9 hs9 hb9; replace hs9 := hs9.symm)
            | (refine wpList_appendBS (op := ⟨some 31, _, _, _, _, _⟩) rfl _ _ _ rfl g1 c1 (hpadTo kk 54 i) _ (hpadTo_length _ _ _).symm rfl (hT.b1.belowSize hw9) wr.heap.size 1 1 rfl _ _ hb9 _ Tryd.underlying40 hi5 hz5 hs5 hb5 (by rw [hpadTo_length]; omega) ?_; intro w10 g10 c10 hg10' hg10 hb10; rw [HV54.out, hpadTo_succ] at hb10; have hT10 := (hT.later hw9).app1 hg10 hg10' hb10; clear hg10' hg10 hb10 hb9 hw9 hs9)
            | (refine wpList_bsl1 (op := ⟨some 35, _, _, _, _, _⟩) rfl _ rfl (92) rfl ?_; intro w11 hw11 hs11 hb11; replace hs11 := hs11.symm)
            | (refine wpList_appendBS (op := ⟨some 36, _, _, _, _, _⟩) rfl _ _ _ rfl g2 c2 (hpadTo kk 92 i) _ (hpadTo_length _ _ _).symm rfl (hT10.b2.belowSize hw11) w10.heap.size 1 1 rfl _ _ hb11 _ Tryd.underlying40 hi5 hz5 hs5 hb5 (by rw [hpadTo_length]; omega) ?_; intro w12 g12 c12 hg12' hg12 hb12; rw [HV92.out, hpadTo_succ] at hb12; have hT12 := (hT10.later hw11).app2 hg12 hg12' hb12; clear hg12' hg12 hb12 hb11 hw11 hs11 hT10))
        all_goals
          go_roundw
          case rel => exact ⟨i + 1, g10, c10, g12, c12, by omega, by go_num, rfl, rfl, hT12⟩
          case measure => simp [intOf]; omega
      · have hT64 : TwoBS w wr g1 c1 (hpadTo kk 54 64) g2 c2 (hpadTo kk 92 64) := by rw [show (64 : Nat) = i from by omega]; exact hT
        have hi64 : 64 ≤ i := by omega
        clear hT
        have l1 : i = (hpadTo kk 54 64).length := by rw [hpadTo_length]; omega
        have l2 : i = (hpadTo kk 92 64).length := by rw [hpadTo_length]; omega
        have L1 : Hid (i = (hpadTo kk 54 64).length) := l1
        have L2 : Hid (i = (hpadTo kk 92 64).length) := l2
        clear l1 l2
        go_wp2_with fail
        refine wp_region_held_drew (S := fun w' => TwoBS w w' g1 c1 (hpadTo kk 54 64) g2 c2 (hpadTo kk 92 64)) (by kernel_rfl) (hT64.later (Below.refl _ _).drew) (fun hHeld => ?_)
        refine wpAnyH_take (i := 0) (oi := ⟨some 37, _, _, _, _, _⟩) (v := .slice (some ⟨g2, 0, none⟩) i c2) rfl (by kernel_rfl) (by kernel_rfl) (by kernel_rfl) (fun _ _ _ h => h) (Or.inl ⟨by rfl, fun w hSw => by go_simp⟩) hHeld ?_
        refine wpAnyH_take (i := 1) (oi := ⟨some 38, _, _, _, _, _⟩) (v := .string ⟨(hpadTo kk 92 64).toArray⟩) rfl (by kernel_rfl) (by kernel_rfl) (by kernel_rfl) (fun _ _ _ h => h) (Or.inl ⟨by rfl, fun w hSw => run_bytesStrBS _ _ _ rfl g2 i c2 rfl _ Tryd.underlying40 Tryd.underlying5 Tryd.underlying9 _ L2.out _ hSw.b2⟩) hHeld ?_
        refine wpAnyH_take (i := 2) (oi := ⟨some 39, _, _, _, _, _⟩) (v := .slice (some ⟨g1, 0, none⟩) i c1) rfl (by kernel_rfl) (by kernel_rfl) (by kernel_rfl) (fun _ _ _ h => h) (Or.inl ⟨by rfl, fun w hSw => by go_simp⟩) hHeld ?_
        refine wpAnyH_take (i := 3) (oi := ⟨some 40, _, _, _, _, _⟩) (v := .string ⟨(hpadTo kk 54 64).toArray⟩) rfl (by kernel_rfl) (by kernel_rfl) (by kernel_rfl) (fun _ _ _ h => h) (Or.inl ⟨by rfl, fun w hSw => run_bytesStrBS _ _ _ rfl g1 i c1 rfl _ Tryd.underlying40 Tryd.underlying5 Tryd.underlying9 _ L1.out _ hSw.b1⟩) hHeld ?_
        refine wpAnyH_take (i := 4) (oi := ⟨some 41, _, _, _, _, _⟩) (v := .string ⟨s.toArray⟩) rfl (by kernel_rfl) (by kernel_rfl) (by kernel_rfl) (fun _ _ _ h => h) (Or.inl ⟨by rfl, fun w hSw => by go_simp⟩) hHeld ?_
        refine wpAnyH_take (i := 5) (oi := ⟨some 42, _, _, _, _, _⟩) (v := .string ⟨(hpadTo kk 54 64 ++ s).toArray⟩) rfl (by kernel_rfl) (by kernel_rfl) (by kernel_rfl) (fun _ _ _ h => h) (Or.inl ⟨by rfl, fun w hSw => by go_simp; omega⟩) hHeld ?_
        simp only [Act.put, List.setIfInBounds_toArray, List.set_cons_zero, List.set_cons_succ]
        refine wpAnyH_ready (rs := [6]) (by kernel_rfl) (by simp) ?_
        refine AllReadyH.cons (o := ⟨some 43, .call ⟨.value (.func 12), #[.tmp 42], #[9]⟩, _, _, _, _⟩) rfl (fun K hK => ?_) AllReadyH.nil
        rw [if_pos (by rfl)]
        go_simp
        refine (rsum_any (hpadTo kk 54 64 ++ s) _ (by rw [List.length_append]; omega)).mono ?_
        rintro e w4 ⟨rfl, hw4⟩
        refine hK.out _ _ (hHeld.later hw4) (fun hHeld2 => ?_)
        clear hK K hHeld hw4
        refine wpAnyH_take (i := 7) (oi := ⟨some 44, _, _, _, _, _⟩) (v := .string ⟨(hpadTo kk 92 64 ++ digest (hpadTo kk 54 64 ++ s)).toArray⟩) rfl (by kernel_rfl) (by kernel_rfl) (by kernel_rfl) (fun _ _ _ h => h) (Or.inl ⟨by rfl, fun w hSw => by go_simp; omega⟩) hHeld2 ?_
        simp only [Act.put, List.setIfInBounds_toArray, List.set_cons_zero, List.set_cons_succ]
        refine wpAnyH_ready (rs := [8]) (by kernel_rfl) (by simp) ?_
        refine AllReadyH.cons (o := ⟨some 45, .call ⟨.value (.func 12), #[.tmp 44], #[9]⟩, _, _, _, _⟩) rfl (fun K hK => ?_) AllReadyH.nil
        rw [if_pos (by rfl)]
        go_simp
        refine (rsum_any (hpadTo kk 92 64 ++ digest (hpadTo kk 54 64 ++ s)) _ (by rw [List.length_append]; omega)).mono ?_
        rintro e w5 ⟨rfl, hw5⟩
        refine hK.out _ _ (hHeld2.later hw5) (fun hHeld => ?_)
        clear hK K hHeld2 hw5
        refine wpAnyH_take (i := 9) (oi := ⟨some 4, _, _, _, _, _⟩) (v := .string ⟨(digest (hpadTo kk 92 64 ++ digest (hpadTo kk 54 64 ++ s))).toArray⟩) rfl (by kernel_rfl) (by kernel_rfl) (by kernel_rfl) (fun _ _ _ h => h) (Or.inl ⟨by rfl, fun w hSw => by go_simp⟩) hHeld ?_
        refine wpAnyH_done (by kernel_rfl) ?_ _
        simp only [Act.put, List.setIfInBounds_toArray, List.set_cons_zero, List.set_cons_succ]
        have hBe := hHeld.below
        clear hHeld hT64
        go_simp
        go_wp2_with fail
        go_ret
        refine ⟨?_, hBe⟩
        rw [HM.out]
        rfl
end Go.Proofs.YtminjelnbnajhaaDoor
