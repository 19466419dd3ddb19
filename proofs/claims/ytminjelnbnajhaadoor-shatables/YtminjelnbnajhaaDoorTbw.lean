/- What Tables does. -/
import Derived.Test.YtminjelnbnajhaaDoorTbl
namespace Go.Proofs.YtminjelnbnajhaaDoor
open Go Go.RowKit
structure TB (w0 wl : World) (A B C D g cap : Nat) (l : List Nat) (i j : Nat) : Prop where
  below : Below w0.heap.size w0 wl
  a : w0.heap.size ≤ A
  ab : A < B
  bc : B < C
  cd : C < D
  dg : D < g
  kA : Blk wl A (row32 (fun _ => 0) 64) 47
  kB : Blk wl B (row32 (fun _ => 0) 8) 48
  kC : Blk wl C (row32 (kTo i) 64) 47
  kD : Blk wl D (row32 (hTo j) 8) 48
  u : US wl g cap l
theorem TB.later {w0 wl w' : World} {A B C D g cap i j : Nat} {l : List Nat} (h : TB w0 wl A B C D g cap l i j) (hb : Below wl.heap.size wl w') : TB w0 w' A B C D g cap l i j :=
  ⟨h.below.trans (hb.mono h.below.size), h.a, h.ab, h.bc, h.cd, h.dg, h.kA.belowSize hb, h.kB.belowSize hb, h.kC.belowSize hb, h.kD.belowSize hb, h.u.belowSize hb⟩
theorem US.grown {w w' : World} {g cap : Nat} {row : Option Nat} {l : List Nat} (h : US w g cap l) (hb : w.grownBy w' row) (hr : some g ≠ row) : US w' g cap l := by
  obtain ⟨cur, fr, h1, hr'⟩ := h.out
  exact ⟨cur, fr, by rw [hb.block g h.lt hr]; exact h1, hr'⟩
theorem TB.putC {w0 wl w' : World} {A B C D g cap i i' j : Nat} {l : List Nat} (h : TB w0 wl A B C D g cap l i j) (hg : wl.grownBy w' (some C)) (hb : Blk w' C (row32 (kTo i') 64) 47) : TB w0 w' A B C D g cap l i' j := by
  have h1 := h.a; have h2 := h.ab; have h3 := h.bc; have h4 := h.cd; have h5 := h.dg
  exact ⟨h.below.trans (below_of_grown hg (by omega) h.below.size), h1, h2, h3, h4, h5, h.kA.grown hg (by simp; omega), h.kB.grown hg (by simp; omega), hb, h.kD.grown hg (by simp; omega), h.u.grown hg (by simp; omega)⟩
theorem TB.putD {w0 wl w' : World} {A B C D g cap i j j' : Nat} {l : List Nat} (h : TB w0 wl A B C D g cap l i j) (hg : wl.grownBy w' (some D)) (hb : Blk w' D (row32 (hTo j') 8) 48) : TB w0 w' A B C D g cap l i j' := by
  have h1 := h.a; have h2 := h.ab; have h3 := h.bc; have h4 := h.cd; have h5 := h.dg
  exact ⟨h.below.trans (below_of_grown hg (by omega) h.below.size), h1, h2, h3, h4, h5, h.kA.grown hg (by simp; omega), h.kB.grown hg (by simp; omega), h.kC.grown hg (by simp; omega), hb, h.u.grown hg (by simp; omega)⟩
theorem TB.skipD {w0 wl : World} {A B C D g cap i j j' : Nat} {l : List Nat} (h : TB w0 wl A B C D g cap l i j) (h1 : 8 ≤ j) (h2 : 8 ≤ j') : TB w0 wl A B C D g cap l i j' :=
  ⟨h.below, h.a, h.ab, h.bc, h.cd, h.dg, h.kA, h.kB, h.kC, by
    have e : row32 (hTo j') 8 = row32 (hTo j) 8 := row32_congr fun k hk => by unfold hTo; rw [if_pos (by omega), if_pos (by omega)]
    rw [e]; exact h.kD, h.u⟩
theorem kAll : row32 (kTo 64) 64 = row32 Kt 64 := row32_congr fun k hk => by unfold kTo; rw [if_pos hk]
theorem hAll : row32 (hTo 64) 8 = row32 H0.at 8 := row32_congr fun k hk => by unfold hTo; rw [if_pos (by omega)]
section
variable {P : Program} {op : Oper} {a : Act} {w : World} {K : Act → World → Prop} {Q : Exit → Act → World → Prop}
theorem wp_loadRow (ty : TypeId) (x : Operand) (ho : op.op = .load ty x) (b : Nat) (hx : a.eval x = .pointer (some ⟨b, 0, none⟩))
    (c : Array Value) (t : TypeId) (hb : Blk w b c t) (d : TypeDesc) (hu : P.underlying ty = some d) (hd : d.isRow = true) (hi : (P.info? ty).map (·.size) = some c.size)
    (h : K (a.put op.dst (.agg c)) w) : op.wp P a w K Q := by
  refine wp_run (.agg c) w ?_ h
  have hl := hb.loadVar (P := P) (ty := ty) d hu hd hi
  unfold execOp
  simp only [ho, hx, Instr.loadAt, Instr.sureAddr, Sem.run_bind, Sem.run_pure, Result.andThen_ok, hl]
theorem wp_storeRow (ty : TypeId) (x y : Operand) (ho : op.op = .store ty x y) (b : Nat) (cells : Array Value)
    (hx : a.eval x = .pointer (some ⟨b, 0, none⟩)) (hy : a.eval y = .agg cells) (c : Array Value) (t : TypeId) (hb : Blk w b c t) (hn : cells.size = c.size)
    (hi : (P.info? ty).map (·.size) = some cells.size) (h1 : cells.all (·.oneCell') = true)
    (h : ∀ w1 : World, w.grownBy w1 (some b) → w1.heap.size = w.heap.size → Blk w1 b cells t → K (a.put op.dst undef) w1) : op.wp P a w K Q := by
  refine wp_store_mid ty x y ho b 0 cells hx hy (hb.there 0 cells.size (by omega)) hi h1 (h _ (grown_setCells _ _ _ _) (size_setCells _ _ _ _) ?_)
  have := hb.setCells cells.toList 0
  rw [spl_all _ _ hn] at this
  exact this
end
set_option maxRecDepth 100000 in
set_option maxHeartbeats 1000000 in
theorem tables_any (w : World) : Calls Tryd.prog 26 #[] w fun e w' => e = .returned (.tuple #[.agg (row32 Kt 64), .agg (row32 H0.at 8)]) ∧ Below w.heap.size w w' := by
  obtain ⟨l, hl⟩ : ∃ l, l = primesTo 310 := ⟨_, rfl⟩
  have HL : Hid (primesTo 310 = l) := hl.symm
  have hll : l.length = 64 := by rw [hl]; exact primes_len
  have HKA : Hid (∀ j, j < 64 → q (rootW (l.getD j 0) true) = n32 (Kt j)) := by rw [hl]; exact kOf
  have HHA : Hid (∀ j, j < 8 → q (rootW (l.getD j 0) false) = n32 (H0.at j)) := by rw [hl]; exact hOf
  have hl64 : 64 ≤ l.length := by omega
  clear hl hll
  go_enter Tryd.func26, Tryd.ntmps26
  go_wp2_with (first
    | (go_at_call 37; refine (primes_any _).mono ?_; rintro e w7 ⟨g, cap, rfl, hw7, hg7, hU7⟩; rw [HL.out] at hU7; clear HL)
    | (with_reducible refine at_list ?_; first
      | (refine wpList_allocRow (op := ⟨some 0, _, _, _, _, _⟩) rfl _ rfl _ z39.1 ?_; intro w1 hw1 hs1 hb1; replace hs1 := hs1.symm)
      | (refine wpList_allocRow (op := ⟨some 1, _, _, _, _, _⟩) rfl _ rfl _ z40.1 ?_; intro w2 hw2 hs2 hb2; replace hs2 := hs2.symm)
      | (refine wpList_build0 (op := ⟨some 6, _, _, _, _, _⟩) rfl _ rfl _ built47 ?_)
      | (refine wpList_build0 (op := ⟨some 7, _, _, _, _, _⟩) rfl _ rfl _ built48 ?_)
      | (refine wpList_allocRow (op := ⟨some 2, _, _, _, _, _⟩) rfl _ rfl _ z39.1 ?_; intro w3 hw3 hs3 hb3; replace hs3 := hs3.symm)
      | (refine wpList_allocRow (op := ⟨some 3, _, _, _, _, _⟩) rfl _ rfl _ z40.1 ?_; intro w4 hw4 hs4 hb4; replace hs4 := hs4.symm)
      | (refine wpList_storeRow (op := ⟨none, .store 47 (.tmp 2) (.tmp 6), _, _, _, _⟩) rfl _ _ _ rfl w2.heap.size (row32 (fun _ => 0) 64) rfl rfl _ _ (hb3.belowSize hw4) rfl (by rw [row32_size]; exact z39.2) (row32_one _ _) ?_; intro w5 hg5 hs5 hb5; replace hs5 := hs5.symm)
      | (refine wpList_storeRow (op := ⟨none, .store 48 (.tmp 3) (.tmp 7), _, _, _, _⟩) rfl _ _ _ rfl w3.heap.size (row32 (fun _ => 0) 8) rfl rfl _ _ (hb4.grown hg5 (by simp; omega)) rfl (by rw [row32_size]; exact z40.2) (row32_one _ _) ?_; intro w6 hg6 hs6 hb6; replace hs6 := hs6.symm)))
  have hT : TB w w7 w.heap.size w1.heap.size w2.heap.size w3.heap.size g cap l 0 0 := by
    have hB2 := hw1.trans (hw2.mono hw1.size)
    have hB3 := hB2.trans (hw3.mono hB2.size)
    have hB4 := hB3.trans (hw4.mono hB3.size)
    have hB5 := hB4.trans (below_of_grown hg5 hB2.size hB4.size)
    have hB6 := hB5.trans (below_of_grown hg6 hB3.size hB5.size)
    have e0 : kTo 0 = fun _ => 0 := by funext j; unfold kTo; rw [if_neg (by omega)]
    have e1 : hTo 0 = fun _ => 0 := by funext j; unfold hTo; rw [if_neg (by omega)]
    refine ⟨hB6.trans (hw7.mono hB6.size), Nat.le_refl _, by omega, by omega, by omega, by omega, ?_, ?_, ?_, ?_, hU7⟩
    · exact (((((hb1.belowSize hw2).belowSize hw3).belowSize hw4).grown hg5 (by simp; omega)).grown hg6 (by simp; omega)).belowSize hw7
    · exact ((((hb2.belowSize hw3).belowSize hw4).grown hg5 (by simp; omega)).grown hg6 (by simp; omega)).belowSize hw7
    · rw [e0]; exact (hb5.grown hg6 (by simp; omega)).belowSize hw7
    · rw [e1]; exact hb6.belowSize hw7
  obtain ⟨A, hA⟩ : ∃ A, A = w.heap.size := ⟨_, rfl⟩
  rw [← hA] at hT ⊢
  generalize w1.heap.size = B at *
  generalize w2.heap.size = C at *
  generalize w3.heap.size = D at *
  clear hw1 hs1 hb1 hw2 hs2 hb2 hw3 hs3 hb3 hw4 hs4 hb4 hg5 hs5 hb5 hg6 hs6 hb6 hw7 hg7 hU7 hA
  go_loopw [5] (fun v wl => ∃ i : Nat, i ≤ 64 ∧ v = .int .i64 i ∧ TB w wl A B C D g cap l i i) (fun v _ => 64 - (intOf v).toNat)
  case atStart => exact ⟨0, by omega, rfl, hT⟩
  case round =>
    clear hT
    obtain ⟨i, hi, rfl, hT⟩ := hrel
    by_cases hlt : i < 64
    · have HK : Hid (q (rootW (l.getD i 0) true) = n32 (Kt i)) := HKA.out i hlt
      have hc := hT.u.cell i (by omega)
      by_cases h8 : i < 8
      · have HH : Hid (q (rootW (l.getD i 0) false) = n32 (H0.at i)) := HHA.out i h8
        have HP : Hid (∀ (v : World), US v g cap l → v.cell? ⟨g, i, none⟩ = some (.int .u64 (q (l.getD i 0)))) := fun v h => h.cell i (by omega)
        generalize l.getD i 0 = p at *
        go_wp2_with (first
          | (go_at_call_of 38 (Value.bool true); refine (root_any p true _).mono ?_; rintro e w8 ⟨rfl, hw8⟩; rw [HK.out]; have hT8 := hT.later hw8; clear hw8)
          | (go_at_call_of 38 (Value.bool false); refine (root_any p false _).mono ?_; rintro e w10 ⟨rfl, hw10⟩; rw [HH.out]; have hT10 := hT9.later hw10; clear hw10)
          | (with_reducible refine at_list ?_; first
            | (refine wpList_addrW (op := ⟨some 19, _, _, _, _, _⟩) rfl _ _ _ rfl C rfl .i64 _ rfl i _ _ Tryd.underlying47 i38 rfl hlt ?_)
            | (refine wpList_storeW (op := ⟨none, .store 46 (.tmp 19) (.tmp 18), _, _, _, _⟩) rfl _ _ _ rfl C i rfl (Kt i) rfl _ _ _ hT8.kC i38 hlt ?_; intro w9 hg9 hs9 hb9; replace hs9 := hs9.symm; rw [kTo_succ] at hb9; have hT9 := hT8.putC hg9 hb9; have hc9 := HP.out _ hT9.u; clear hg9 hs9 hb9 hT8)
            | (refine wpList_addrW (op := ⟨some 28, _, _, _, _, _⟩) rfl _ _ _ rfl D rfl .i64 _ rfl i _ _ Tryd.underlying48 i38 rfl h8 ?_)
            | (refine wpList_storeW (op := ⟨none, .store 46 (.tmp 28) (.tmp 27), _, _, _, _⟩) rfl _ _ _ rfl D i rfl (H0.at i) rfl _ _ _ hT10.kD i38 h8 ?_; intro w11 hg11 hs11 hb11; replace hs11 := hs11.symm; rw [hTo_succ] at hb11; have hT11 := hT10.putD hg11 hb11; clear hg11 hs11 hb11 hT10)))
        go_roundw
        case rel => exact ⟨i + 1, by omega, by go_num, hT11⟩
        case measure => simp [intOf]; omega
      · generalize l.getD i 0 = p at *
        go_wp2_with (first
          | (go_at_call_of 38 (Value.bool true); refine (root_any p true _).mono ?_; rintro e w8 ⟨rfl, hw8⟩; rw [HK.out]; have hT8 := hT.later hw8; clear hw8)
          | (with_reducible refine at_list ?_; first
            | (refine wpList_addrW (op := ⟨some 19, _, _, _, _, _⟩) rfl _ _ _ rfl C rfl .i64 _ rfl i _ _ Tryd.underlying47 i38 rfl hlt ?_)
            | (refine wpList_storeW (op := ⟨none, .store 46 (.tmp 19) (.tmp 18), _, _, _, _⟩) rfl _ _ _ rfl C i rfl (Kt i) rfl _ _ _ hT8.kC i38 hlt ?_; intro w9 hg9 hs9 hb9; replace hs9 := hs9.symm; rw [kTo_succ] at hb9; have hT9 := hT8.putC hg9 hb9; clear hg9 hs9 hb9 hT8)))
        go_roundw
        case rel => exact ⟨i + 1, by omega, by go_num, hT9.skipD (by omega) (by omega)⟩
        case measure => simp [intOf]; omega
    · obtain rfl : i = 64 := by omega
      have hC := hT.kC
      have hD := hT.kD
      rw [kAll] at hC
      rw [hAll] at hD
      have hAb := hT.kA
      have hBb := hT.kB
      have hBl := hT.below
      have o1 := hT.a
      have o2 := hT.ab
      have o3 := hT.bc
      have o4 := hT.cd
      clear hT HKA HHA
      go_wp2_with fail
      replace hC := hC.drew
      replace hD := hD.drew
      replace hAb := hAb.drew
      replace hBb := hBb.drew
      replace hBl := hBl.drew
      refine wp_region_any (by kernel_rfl) ?_
      change wpAny _ _ _ _ _ _ _ (World.drew _)
      generalize wr.drew = wd at *
      refine wpAny_ready (rs := [0, 1]) (by kernel_rfl) (by simp) ?_
      refine AllReady.cons (o := ⟨some 29, .load 47 (.tmp 2), _, _, _, _⟩) rfl (fun K hK => ?_) (AllReady.cons (o := ⟨some 30, .load 48 (.tmp 3), _, _, _, _⟩) rfl (fun K hK => ?_) AllReady.nil)
      · rw [if_pos (by rfl)]
        refine wp_loadRow _ _ rfl C rfl _ _ hC _ Tryd.underlying47 rfl (by rw [row32_size]; exact z39.2) ?_
        refine hK _ _ ?_
        clear hK K
        refine wpAny_ready (rs := [1, 2]) (by kernel_rfl) (by simp) ?_
        refine AllReady.cons (o := ⟨some 30, .load 48 (.tmp 3), _, _, _, _⟩) rfl (fun K hK => ?_) (AllReady.cons (o := ⟨none, .store 47 (.tmp 0) (.tmp 29), _, _, _, _⟩) rfl (fun K hK => ?_) AllReady.nil)
        · rw [if_pos (by rfl)]
          refine wp_loadRow _ _ rfl D rfl _ _ hD _ Tryd.underlying48 rfl (by rw [row32_size]; exact z40.2) ?_
          refine hK _ _ ?_
          clear hK K
          refine wpAny_ready (rs := [2]) (by kernel_rfl) (by simp) ?_
          refine AllReady.cons (o := ⟨none, .store 47 (.tmp 0) (.tmp 29), _, _, _, _⟩) rfl (fun K hK => ?_) AllReady.nil
          rw [if_pos (by rfl)]
          refine wp_storeRow _ _ _ rfl A (row32 Kt 64) rfl rfl _ _ hAb (by rw [row32_size, row32_size]) (by rw [row32_size]; exact z39.2) (row32_one _ _) ?_
          intro w2 hg2 hs2 hb2
          replace hD := hD.grown hg2 (by simp; omega)
          refine hK _ _ ?_
          clear hK K
          refine wpAny_ready (rs := [3]) (by kernel_rfl) (by simp) ?_
          refine AllReady.cons (o := ⟨none, .store 48 (.tmp 1) (.tmp 30), _, _, _, _⟩) rfl (fun K hK => ?_) AllReady.nil
          rw [if_pos (by rfl)]
          refine wp_storeRow _ _ _ rfl B (row32 H0.at 8) rfl rfl _ _ (hBb.grown hg2 (by simp; omega)) (by rw [row32_size, row32_size]) (by rw [row32_size]; exact z40.2) (row32_one _ _) ?_
          intro w3 hg3 hs3 hb3
          refine hK _ _ ?_
          clear hK K
          refine wpAny_done (by kernel_rfl) ?_ _
          simp only [Act.put, List.setIfInBounds_toArray, List.set_cons_zero, List.set_cons_succ]
          have hB2 := hBl.trans (below_of_grown hg2 o1 hBl.size)
          have hB3 := hB2.trans (below_of_grown hg3 (by omega) hB2.size)
          have hA3 := hb2.grown hg3 (by simp; omega)
          clear hg2 hs2 hg3 hs3 hb2 hC hD hAb hBb hBl hB2
          go_simp
          go_wp2_with fail
          refine bodyPost_ret (v := .tuple #[.agg (row32 Kt 64), .agg (row32 H0.at 8)]) ?_ rfl ⟨rfl, hB3⟩
          exact results_cell2 rfl _ _ A B _ _ rfl rfl (hA3.loadVar _ Tryd.underlying47 rfl (by rw [row32_size]; exact z39.2)) (hb3.loadVar _ Tryd.underlying48 rfl (by rw [row32_size]; exact z40.2))
        · rw [if_pos (by rfl)]
          refine wp_storeRow _ _ _ rfl A (row32 Kt 64) rfl rfl _ _ hAb (by rw [row32_size, row32_size]) (by rw [row32_size]; exact z39.2) (row32_one _ _) ?_
          intro w2 hg2 hs2 hb2
          replace hD := hD.grown hg2 (by simp; omega)
          refine hK _ _ ?_
          clear hK K
          refine wpAny_ready (rs := [1]) (by kernel_rfl) (by simp) ?_
          refine AllReady.cons (o := ⟨some 30, .load 48 (.tmp 3), _, _, _, _⟩) rfl (fun K hK => ?_) AllReady.nil
          rw [if_pos (by rfl)]
          refine wp_loadRow _ _ rfl D rfl _ _ hD _ Tryd.underlying48 rfl (by rw [row32_size]; exact z40.2) ?_
          refine hK _ _ ?_
          clear hK K
          refine wpAny_ready (rs := [3]) (by kernel_rfl) (by simp) ?_
          refine AllReady.cons (o := ⟨none, .store 48 (.tmp 1) (.tmp 30), _, _, _, _⟩) rfl (fun K hK => ?_) AllReady.nil
          rw [if_pos (by rfl)]
          refine wp_storeRow _ _ _ rfl B (row32 H0.at 8) rfl rfl _ _ (hBb.grown hg2 (by simp; omega)) (by rw [row32_size, row32_size]) (by rw [row32_size]; exact z40.2) (row32_one _ _) ?_
          intro w3 hg3 hs3 hb3
          refine hK _ _ ?_
          clear hK K
          refine wpAny_done (by kernel_rfl) ?_ _
          simp only [Act.put, List.setIfInBounds_toArray, List.set_cons_zero, List.set_cons_succ]
          have hB2 := hBl.trans (below_of_grown hg2 o1 hBl.size)
          have hB3 := hB2.trans (below_of_grown hg3 (by omega) hB2.size)
          have hA3 := hb2.grown hg3 (by simp; omega)
          clear hg2 hs2 hg3 hs3 hb2 hC hD hAb hBb hBl hB2
          go_simp
          go_wp2_with fail
          refine bodyPost_ret (v := .tuple #[.agg (row32 Kt 64), .agg (row32 H0.at 8)]) ?_ rfl ⟨rfl, hB3⟩
          exact results_cell2 rfl _ _ A B _ _ rfl rfl (hA3.loadVar _ Tryd.underlying47 rfl (by rw [row32_size]; exact z39.2)) (hb3.loadVar _ Tryd.underlying48 rfl (by rw [row32_size]; exact z40.2))
      · rw [if_pos (by rfl)]
        refine wp_loadRow _ _ rfl D rfl _ _ hD _ Tryd.underlying48 rfl (by rw [row32_size]; exact z40.2) ?_
        refine hK _ _ ?_
        clear hK K
        refine wpAny_ready (rs := [0]) (by kernel_rfl) (by simp) ?_
        refine AllReady.cons (o := ⟨some 29, .load 47 (.tmp 2), _, _, _, _⟩) rfl (fun K hK => ?_) AllReady.nil
        rw [if_pos (by rfl)]
        refine wp_loadRow _ _ rfl C rfl _ _ hC _ Tryd.underlying47 rfl (by rw [row32_size]; exact z39.2) ?_
        refine hK _ _ ?_
        clear hK K
        refine wpAny_ready (rs := [2]) (by kernel_rfl) (by simp) ?_
        refine AllReady.cons (o := ⟨none, .store 47 (.tmp 0) (.tmp 29), _, _, _, _⟩) rfl (fun K hK => ?_) AllReady.nil
        rw [if_pos (by rfl)]
        refine wp_storeRow _ _ _ rfl A (row32 Kt 64) rfl rfl _ _ hAb (by rw [row32_size, row32_size]) (by rw [row32_size]; exact z39.2) (row32_one _ _) ?_
        intro w2 hg2 hs2 hb2
        replace hD := hD.grown hg2 (by simp; omega)
        refine hK _ _ ?_
        clear hK K
        refine wpAny_ready (rs := [3]) (by kernel_rfl) (by simp) ?_
        refine AllReady.cons (o := ⟨none, .store 48 (.tmp 1) (.tmp 30), _, _, _, _⟩) rfl (fun K hK => ?_) AllReady.nil
        rw [if_pos (by rfl)]
        refine wp_storeRow _ _ _ rfl B (row32 H0.at 8) rfl rfl _ _ (hBb.grown hg2 (by simp; omega)) (by rw [row32_size, row32_size]) (by rw [row32_size]; exact z40.2) (row32_one _ _) ?_
        intro w3 hg3 hs3 hb3
        refine hK _ _ ?_
        clear hK K
        refine wpAny_done (by kernel_rfl) ?_ _
        simp only [Act.put, List.setIfInBounds_toArray, List.set_cons_zero, List.set_cons_succ]
        have hB2 := hBl.trans (below_of_grown hg2 o1 hBl.size)
        have hB3 := hB2.trans (below_of_grown hg3 (by omega) hB2.size)
        have hA3 := hb2.grown hg3 (by simp; omega)
        clear hg2 hs2 hg3 hs3 hb2 hC hD hAb hBb hBl hB2
        go_simp
        go_wp2_with fail
        refine bodyPost_ret (v := .tuple #[.agg (row32 Kt 64), .agg (row32 H0.at 8)]) ?_ rfl ⟨rfl, hB3⟩
        exact results_cell2 rfl _ _ A B _ _ rfl rfl (hA3.loadVar _ Tryd.underlying47 rfl (by rw [row32_size]; exact z39.2)) (hb3.loadVar _ Tryd.underlying48 rfl (by rw [row32_size]; exact z40.2))
end Go.Proofs.YtminjelnbnajhaaDoor
