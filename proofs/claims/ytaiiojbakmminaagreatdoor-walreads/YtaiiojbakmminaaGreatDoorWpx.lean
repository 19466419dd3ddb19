/- What begin of a log does. What Open does. What Snap, All, Len, Segments and Generation of a log do. What laying a generation and adding do plainly, on a synced disk without falls and without a limit. -/
import Derived.Test.YtaiiojbakmminaaGreatDoorWbg
import Derived.Test.YtaiiojbakmminaaGreatDoorWaf
namespace Go.Proofs.YtaiiojbakmminaaGreatDoor
open Go Go.RowKit
/-- What begin leaves. -/
def BgP (w : World) (q p : Nat) (b rb : Option Nat) (r : LG × (DN × Nat)) (t : Int) (e : Ending) (w' : World) : Prop := e = .returned (.tuple #[.int .i64 t, .int .i64 (r.2.2 : Nat)]) ∧ ∃ b' rb', Wch w w' q p b rb b' rb' ∧ WK w' q p b' rb' r.1 r.2.1
theorem fcl_rb (q : Nat) : IsF (rbF q) := ⟨_, _, _, rfl⟩
theorem fcl_rs (q : Nat) : IsF (rsF q) := ⟨_, _, _, rfl⟩
theorem fcl_b1 (x y z : Nat) : IsF (b1F x y z) := ⟨_, _, _, rfl⟩
theorem range4 : Array.range 4 = #[0, 1, 2, 3] := by decide
theorem fsl4 (v1 v2 v3 v4 : Value) (h1 : IsF v1) (h2 : IsF v2) (h3 : IsF v3) (h4 : IsF v4) (w : World) : (Instr.buildSlice TFS 4 #[(0, v1), (1, v2), (2, v3), (3, v4)]).run Tryz.prog w = .ok (.slice (some ⟨w.heap.size, 0, none⟩) 4 4) (w.alloc (.cells #[v1, v2, v3, v4] TF)) := by
  obtain ⟨_, _, _, rfl⟩ := h1
  obtain ⟨_, _, _, rfl⟩ := h2
  obtain ⟨_, _, _, rfl⟩ := h3
  obtain ⟨_, _, _, rfl⟩ := h4
  simp [Instr.buildSlice, run_underlying Tryz.underlying97, sizeOf_run iFn, Sem.run_bind, Instr.fill, newRow, Value.cells, range4]
theorem wpList_fsl4 {ops : Array Oper} {rest : List Oper} {op : Oper} {a : Act} {w : World} {Q : Exit → Act → World → Prop} (hgd : op.guard = none) (x1 x2 x3 x4 : Operand) (ho : op.op = .buildSlice TFS 4 #[(0, x1), (1, x2), (2, x3), (3, x4)]) (v1 v2 v3 v4 : Value) (e1 : a.eval x1 = v1) (e2 : a.eval x2 = v2) (e3 : a.eval x3 = v3) (e4 : a.eval x4 = v4)
    (h1 : IsF v1) (h2 : IsF v2) (h3 : IsF v3) (h4 : IsF v4)
    (h : ∀ w1 : World, Below w.heap.size w w1 → Blk w1 w.heap.size #[v1, v2, v3, v4] TF → wpList Tryz.prog ops Q rest (a.put op.dst (.slice (some ⟨w.heap.size, 0, none⟩) 4 4)) w1) : wpList Tryz.prog ops Q (op :: rest) a w := by
  have e : (#[(0, x1), (1, x2), (2, x3), (3, x4)] : Array (Nat × Operand)).map (fun (i, x) => (i, a.eval x)) = #[(0, v1), (1, v2), (2, v3), (3, v4)] := by simp [e1, e2, e3, e4]
  refine wpList_run hgd _ _ ?_ (h _ ((Below.refl _ _).alloc (Nat.le_refl _) _) (Blk.new _ _ _))
  unfold execOp
  simp only [ho, Sem.run_bind, e, fsl4 v1 v2 v3 v4 h1 h2 h3 h4, Result.andThen_ok]
  rfl
section
variable {op : Oper} {a : Act} {w : World}
theorem mk_rb (x1 : Operand) {b1 : Nat} (ho : op.op = .makeFunc (.func 65) #[x1] #[]) (h1 : a.eval x1 = .pointer (some ⟨b1, 0, none⟩)) : (execOp a.eval op).run Tryz.prog w = .ok (.value (rbF b1)) w := run_mkF _ _ _ ho _ _ (args1 h1) args0
theorem mk_rs (x1 : Operand) {b1 : Nat} (ho : op.op = .makeFunc (.func 66) #[x1] #[]) (h1 : a.eval x1 = .pointer (some ⟨b1, 0, none⟩)) : (execOp a.eval op).run Tryz.prog w = .ok (.value (rsF b1)) w := run_mkF _ _ _ ho _ _ (args1 h1) args0
theorem mk_b1 (x1 x2 x3 : Operand) {b1 b2 b3 : Nat} (ho : op.op = .makeFunc (.func 67) #[] #[x1, x2, x3]) (h1 : a.eval x1 = .pointer (some ⟨b1, 0, none⟩)) (h2 : a.eval x2 = .pointer (some ⟨b2, 0, none⟩)) (h3 : a.eval x3 = .pointer (some ⟨b3, 0, none⟩)) : (execOp a.eval op).run Tryz.prog w = .ok (.value (b1F b1 b2 b3)) w := run_mkF _ _ _ ho _ _ args0 (args3 h1 h2 h3)
end
theorem below_loc {n i : Nat} {w w1 w2 : World} (h : Below n w w1) (hg : w1.grownBy w2 (some i)) (hi : n ≤ i) (hn : n ≤ w1.heap.size) : Below n w w2 := ⟨hg.os.trans h.os, hg.tape.trans h.tape, hg.output.trans h.output, Nat.le_trans h.size hg.size, fun k hk => (hg.block k (by omega) (fun e => by have := Option.some.inj e; omega)).trans (h.block k hk)⟩
theorem set1 (u v : Value) : (#[u] : Array Value).setIfInBounds 0 v = #[v] := rfl
set_option maxRecDepth 100000 in
set_option maxHeartbeats 1000000 in
theorem begin_any (q p : Nat) (b rb : Option Nat) (L : LG) (m : DN) (R1 R2 : LG × (DN × Nat)) (w : World) (hK : WK w q p b rb L m) (hG : Gw w) (hg : L.g ≠ 0) (hm : Okn m)
    (H1 : ∀ w' b' rb', WK w' q p b' rb' L m → Gw w' → Calls Tryz.prog 65 #[.pointer (some ⟨q, 0, none⟩)] w' (RsP w' q p b' rb' R1))
    (H2 : R1.2.2 = 0 → ∀ w' b' rb', WK w' q p b' rb' R1.1 R1.2.1 → Gw w' → Calls Tryz.prog 66 #[.pointer (some ⟨q, 0, none⟩)] w' (RsP w' q p b' rb' R2))
    (o : R1.2.2 = 0 → R2.2.2 = 0 → Okw R2.1 R2.2.1) :
    Calls Tryz.prog 35 #[.pointer (some ⟨q, 0, none⟩)] w (BgP w q p b rb (bgR R1 R2) (bgT (usedL m.l) R1 R2)) := by
  obtain ⟨rv, hL, hTR, hD⟩ := hK.out
  have hgz : ¬ (L.g : Int) = 0 := by omega
  have hU : usedL m.l ≤ 1000000000000 := by have := hm.used; omega
  have HU := fun w1 (hB : Below w.heap.size w w1) => usedN p b m w1 (hD.below hB) hm
  have HT : ∀ w8 bl bu bt g, Below w.heap.size w w8 → Blk w8 bl #[.pointer (some ⟨q, 0, none⟩)] 25 → Blk w8 bu #[.int .i64 (usedL m.l : Nat)] 3 → Blk w8 bt #[.int .i64 0] 3 → Blk w8 g #[rbF q, rsF q, b1F bu bl bt, swq q] TF → w.heap.size ≤ bt → bu ≠ bt → Calls Tryz.prog 37 #[.slice (some ⟨g, 0, none⟩) 4 4] w8 (TnP w q p bt b rb (bgR R1 R2) (bgT (usedL m.l) R1 R2)) := fun w8 bl bu bt g hB kl ku kt kg lb hne => begin_turn q p bl bu bt g (usedL m.l) 4 b rb L m R1 R2 w w8 hK hG hB hU kl ku kt kg lb hne H1 H2 o
  clear H1 H2 o hU
  generalize bgR R1 R2 = r at *
  generalize bgT (usedL m.l) R1 R2 = t at *
  generalize usedL m.l = U at *
  go_enter Tryz.func35, Tryz.ntmps35
  go_upto_region 4 with (first
    | (go_at_call 33; refine (HU _ hw1).mono ?_; rintro e w2 ⟨rfl, hw2⟩; have hB2 := hw1.trans (hw2.mono hw1.size); have hl2 := hl1.belowSize hw2)
    | (with_reducible refine at_list ?_; first
      | (refine wpList_box1 (op := ⟨some 1, _, _, _, _, _⟩) rfl _ _ rfl (.pointer (some ⟨q, 0, none⟩)) rfl rfl ?_; intro w1 hw1 hl1; have hL1 := hL.belowSize hw1)
      | (refine wpList_loadCell (op := ⟨some 7, _, _, _, _, _⟩) rfl _ _ rfl w.heap.size 0 rfl _ _ hl1 _ Tryz.underlying25 rfl _ rfl ?_)
      | (refine wpList_loadCell (op := ⟨some 10, _, _, _, _, _⟩) rfl _ _ rfl q 2 rfl _ _ hL1 _ Tryz.underlying3 rfl _ (lC_g2 _ _ _) ?_)
      | (refine wpList_loadCell (op := ⟨some 14, _, _, _, _, _⟩) rfl _ _ rfl w.heap.size 0 rfl _ _ hl1 _ Tryz.underlying25 rfl _ rfl ?_)
      | (refine wpList_loadCell (op := ⟨some 17, _, _, _, _, _⟩) rfl _ _ rfl q 0 rfl _ _ hL1 _ Tryz.underlying23 rfl _ (lC_g0 _ _ _) ?_)
      | (refine wpList_alloc1 (op := ⟨some 4, _, _, _, _, _⟩) rfl _ rfl _ zI rfl ?_; intro w3 hw3 hu3; try simp only [Act.put, List.setIfInBounds_toArray, List.set_cons_zero, List.set_cons_succ])
      | (refine wpList_alloc1 (op := ⟨some 5, _, _, _, _, _⟩) rfl _ rfl _ zI rfl ?_; intro w4 hw4 ht4; have hu4 := hu3.belowSize hw4; have hz3 := hu3.lt; have hB3 := hB2.trans (hw3.mono hB2.size); have hB4 := hB3.trans (hw4.mono hB3.size); have hl4 := (hl2.belowSize hw3).belowSize hw4; try simp only [Act.put, List.setIfInBounds_toArray, List.set_cons_zero, List.set_cons_succ])
      | (refine wpList_storeCell (op := ⟨none, .store 3 (.tmp 4) (.tmp 18), _, _, _, _⟩) rfl _ _ _ rfl w2.heap.size 0 rfl (.int .i64 (U : Nat)) rfl _ _ hu4 iIntS rfl rfl (by decide) ?_; intro w5 hg5 hs5 hu5; clear hs5; rw [set1] at hu5; have ht5 := ht4.grown hg5 (fun e => by have := Option.some.inj e; omega); have hz2 := hl2.lt; have hl5 := hl4.grown hg5 (fun e => by have := Option.some.inj e; omega); have hB5 := below_loc hB4 hg5 hB2.size hB4.size; try simp only [Act.put])
      | (refine wpList_storeCell (op := ⟨none, .store 3 (.tmp 5) (.const (.int .i64 0)), _, _, _, _⟩) rfl _ _ _ rfl w3.heap.size 0 rfl (.int .i64 0) rfl _ _ ht5 iIntS rfl rfl (by decide) ?_; intro w6 hg6 hs6 ht6; clear hs6; rw [set1] at ht6; have hu6 := hu5.grown hg6 (fun e => by have := Option.some.inj e; omega); have hl6 := hl5.grown hg6 (fun e => by have := Option.some.inj e; omega); have hB6 := below_loc hB5 hg6 hB3.size hB5.size; have hlt := hB3.size; have hne : w2.heap.size ≠ w3.heap.size := by omega; try simp only [Act.put])))
  go_wp2_with (first
    | (go_at_call 37; refine HC.mono ?_; rintro e w9 ⟨rfl, b9, rb9, hW9, hK9, ht9⟩)
    | (with_reducible refine at_list ?_; first
      | (refine wpList_loadCell (op := ⟨some 19, _, _, _, _, _⟩) rfl _ _ rfl w.heap.size 0 rfl _ _ hl6 _ Tryz.underlying25 rfl _ rfl ?_; try simp only [Act.put, List.setIfInBounds_toArray, List.set_cons_zero, List.set_cons_succ])
      | (refine wpList_loadCell (op := ⟨some 21, _, _, _, _, _⟩) rfl _ _ rfl w.heap.size 0 rfl _ _ hl6 _ Tryz.underlying25 rfl _ rfl ?_; try simp only [Act.put, List.setIfInBounds_toArray, List.set_cons_zero, List.set_cons_succ])
      | (refine wpList_loadCell (op := ⟨some 24, _, _, _, _, _⟩) rfl _ _ rfl w.heap.size 0 rfl _ _ hl6 _ Tryz.underlying25 rfl _ rfl ?_; try simp only [Act.put, List.setIfInBounds_toArray, List.set_cons_zero, List.set_cons_succ])
      | (refine wpList_pure (op := ⟨some 20, _, _, _, _, _⟩) rfl (rbF q) (mk_rb _ rfl rfl) ?_; try simp only [Act.put, List.setIfInBounds_toArray, List.set_cons_zero, List.set_cons_succ])
      | (refine wpList_pure (op := ⟨some 22, _, _, _, _, _⟩) rfl (rsF q) (mk_rs _ rfl rfl) ?_; try simp only [Act.put, List.setIfInBounds_toArray, List.set_cons_zero, List.set_cons_succ])
      | (refine wpList_pure (op := ⟨some 23, _, _, _, _, _⟩) rfl (b1F w2.heap.size w.heap.size w3.heap.size) (mk_b1 _ _ _ rfl rfl rfl rfl) ?_; try simp only [Act.put, List.setIfInBounds_toArray, List.set_cons_zero, List.set_cons_succ])
      | (refine wpList_pure (op := ⟨some 25, _, _, _, _, _⟩) rfl (swq q) (mk_sw _ rfl rfl) ?_; try simp only [Act.put, List.setIfInBounds_toArray, List.set_cons_zero, List.set_cons_succ])
      | (refine wpList_fsl4 (op := ⟨some 26, _, _, _, _, _⟩) rfl _ _ _ _ rfl (rbF q) (rsF q) (b1F w2.heap.size w.heap.size w3.heap.size) (swq q) rfl rfl rfl rfl (fcl_rb _) (fcl_rs _) (fcl_b1 _ _ _) (fcl_sw _) ?_; intro w7 hw7 hb7; have hB7 := hB6.trans (hw7.mono hB6.size); have hl7 := hl6.belowSize hw7; have hu7 := hu6.belowSize hw7; have ht7 := ht6.belowSize hw7; have HC := HT w7 w.heap.size w2.heap.size w3.heap.size w6.heap.size hB7 hl7 hu7 ht7 hb7 hlt hne; try simp only [Act.put, List.setIfInBounds_toArray, List.set_cons_zero, List.set_cons_succ])
      | (refine wpList_loadCell (op := ⟨some 28, _, _, _, _, _⟩) rfl _ _ rfl w3.heap.size 0 rfl _ _ ht9 _ Tryz.underlying3 rfl _ rfl ?_)))
  go_ret2
  exact ⟨rfl, b9, rb9, hW9, hK9⟩
set_option maxRecDepth 100000 in
set_option maxHeartbeats 4000000 in
theorem begin0_any (q p : Nat) (b rb : Option Nat) (L : LG) (m : DN) (w : World) (hK : WK w q p b rb L m) (hG : Gw w) (hg : L.g = 0) (ho : Okr L m ((frs [[]]).length + (frs []).length)) :
    Calls Tryz.prog 35 #[.pointer (some ⟨q, 0, none⟩)] w (BgP w q p b rb (resetN L m [] []) 0) := by
  obtain ⟨rv, hL, hTR, hD⟩ := hK.out
  have hgz : (L.g : Int) = 0 := by omega
  have HR := fun w1 (hB : Below w.heap.size w w1) => reset_any q p b rb L m [] [] none 0 w1 (hK.below hB) (hG.below hB) ho (TA.nil w1 none) (fun _ e => by cases e) (by simp)
  change ∀ w1 (_ : Below w.heap.size w w1), Calls Tryz.prog 12 #[.pointer (some ⟨q, 0, none⟩), .string ⟨#[]⟩, .slice none 0 0] w1 (RsP w1 q p b rb (resetN L m [] [])) at HR
  generalize resetN L m [] [] = r at *
  clear hg
  go_enter Tryz.func35, Tryz.ntmps35
  go_wp2_with (first
    | (go_at_call 12; refine (HR _ hw1).mono ?_; rintro e w9 ⟨rfl, b9, rb9, hW9, hK9⟩)
    | (with_reducible refine at_list ?_; first
      | (refine wpList_box1 (op := ⟨some 1, _, _, _, _, _⟩) rfl _ _ rfl (.pointer (some ⟨q, 0, none⟩)) rfl rfl ?_; intro w1 hw1 hl1; have hL1 := hL.belowSize hw1)
      | (refine wpList_loadCell (op := ⟨some 7, _, _, _, _, _⟩) rfl _ _ rfl w.heap.size 0 rfl _ _ hl1 _ Tryz.underlying25 rfl _ rfl ?_)
      | (refine wpList_loadCell (op := ⟨some 10, _, _, _, _, _⟩) rfl _ _ rfl q 2 rfl _ _ hL1 _ Tryz.underlying3 rfl _ (lC_g2 _ _ _) ?_)
      | (refine wpList_loadCell (op := ⟨some 12, _, _, _, _, _⟩) rfl _ _ rfl w.heap.size 0 rfl _ _ hl1 _ Tryz.underlying25 rfl _ rfl ?_)))
  go_ret2
  exact ⟨rfl, b9, rb9, (Wch.below hw1).trans hW9, hK9⟩
end Go.Proofs.YtaiiojbakmminaaGreatDoor
namespace Go.Proofs.YtaiiojbakmminaaGreatDoor
open Go Go.RowKit
/-- What Open leaves. -/
def OpP (w : World) (p : Nat) (b : Option Nat) (r : LG × (DN × Nat)) (t : Int) (e : Ending) (w' : World) : Prop := ∃ q b' rb', e = .returned (.tuple #[if r.2.2 = 0 then .pointer (some ⟨q, 0, none⟩) else .pointer none, .int .i64 (if r.2.2 = 0 then t else 0), .int .i64 (r.2.2 : Nat)]) ∧ w.heap.size ≤ q ∧ Wch w w' q p b none b' rb' ∧ WK w' q p b' rb' r.1 r.2.1
set_option maxRecDepth 100000 in
set_option maxHeartbeats 1000000 in
theorem open_any (p g : Nat) (b : Option Nat) (m : DN) (z : Int) (r : LG × (DN × Nat)) (t : Int) (hz : 1 ≤ z) (w : World) (hD : DD w p b m) (hp : 2 ≤ p) (hb2 : ∀ k, b = some k → 2 ≤ k) (hG : Gw w) (hm : Okn m) (hd : m.dead = false) (hN : Nms preB (namesL m.l)) (hg : newP (namesL m.l) = (g : Int))
    (HB : ∀ q w', WK w' q p b none ⟨z, g, [], [], 0, 0⟩ m → Gw w' → Calls Tryz.prog 35 #[.pointer (some ⟨q, 0, none⟩)] w' (BgP w' q p b none r t)) :
    Calls Tryz.prog 10 #[.pointer (some ⟨p, 0, none⟩), .int .i64 z] w (OpP w p b r t) := by
  have hz1 : ¬ z < 1 := by omega
  obtain ⟨v, hK, _⟩ := hD.out
  obtain ⟨sl, hB, _⟩ := hK.out
  have HD := dead_any p sl (m.lo v) w hB
  rw [show (m.lo v).dead = false from hd] at HD
  have HNm := names_any p b (m.lo v) w hK (by have := hm.len; show m.l.length ≤ _; omega)
  change Calls Tryz.prog 29 #[.pointer (some ⟨p, 0, none⟩)] w (fun e w' => ∃ sl, e = .returned sl ∧ Below w.heap.size w w' ∧ XL w' w.heap.size sl (namesL m.l)) at HNm
  have HNw := fun ad cap w1 (hT : TA w1 ad (namesL m.l)) (hG1 : Gw w1) => newest_any (namesL m.l) ad cap w1 hT hG1 hN
  rw [hg] at HNw
  clear hN
  generalize namesL m.l = ns at *
  clear hB
  go_enter Tryz.func10, Tryz.ntmps10
  go_upto_region 6 with (first
    | (go_at_call 23; refine HD.mono ?_; rintro e wx ⟨rfl, hwx⟩; have hwx2 := hwx.symm; subst hwx2; clear hwx)
    | (go_at_call 29; refine HNm.mono ?_; rintro e w2 ⟨sl2, rfl, hw2, hX2⟩; obtain ⟨a2, c2, rfl, _, _⟩ := hX2.ts.1.sl; have hX2a := hX2.ta)
    | (go_at_call 34; refine (HNw a2 c2 _ hX2a (hG.below hw2)).mono ?_; rintro e w3 ⟨rfl, hw3⟩; have hB3 := hw2.trans (hw3.mono hw2.size))
    | (with_reducible refine at_list ?_; first
      | (refine wpList_boxRow (op := ⟨some 24, _, _, _, _, _⟩) rfl _ _ rfl (lC p ⟨z, g, [], [], 0, 0⟩ (.slice none 0 0)) rfl ?_; intro w4 hw4 hs4 hb4; clear hs4)))
  have hB4 := hB3.trans (hw4.mono hB3.size)
  have h2g := hG.two
  have hqs := hB3.size
  have hWK : WK w4 w3.heap.size p b none ⟨z, g, [], [], 0, 0⟩ m := WK.of hb4 (TS.nil _) (hD.below hB4) (by omega) hp hb2 (fun k e => by cases e)
  have HC := HB w3.heap.size w4 hWK (hG.below hB4)
  obtain ⟨L1, m1, c⟩ := r
  have fin : ∀ {w9 b9 rb9}, Wch w4 w9 w3.heap.size p b none b9 rb9 → Wch w w9 w3.heap.size p b none b9 rb9 := fun h => (Wch.below hB4).trans h
  by_cases hc : c = 0
  · subst hc
    go_wp2_with (go_at_call 35; refine HC.mono ?_; rintro e w9 ⟨rfl, b9, rb9, hW9, hK9⟩)
    go_ret3
    exact ⟨_, b9, rb9, rfl, hqs, fin hW9, hK9⟩
  · have hci : ¬ (c : Int) = 0 := by omega
    go_wp2_with (go_at_call 35; refine HC.mono ?_; rintro e w9 ⟨rfl, b9, rb9, hW9, hK9⟩)
    go_ret3
    exact ⟨w3.heap.size, b9, rb9, by simp only [hc, if_false]; rfl, hqs, fin hW9, hK9⟩
end Go.Proofs.YtaiiojbakmminaaGreatDoor
namespace Go.Proofs.YtaiiojbakmminaaGreatDoor
open Go Go.RowKit
set_option maxRecDepth 100000 in
theorem snapL_log (q p : Nat) (b rb : Option Nat) (L : LG) (m : DN) (w : World) (hK : WK w q p b rb L m) : Calls Tryz.prog 17 #[.pointer (some ⟨q, 0, none⟩)] w fun e w' => e = .returned (.string ⟨L.snap.toArray⟩) ∧ w' = w := by
  obtain ⟨rv, hL, _, _⟩ := hK.out
  go_enter Tryz.func17, Tryz.ntmps17
  go_wp2_with (with_reducible refine at_list ?_; refine wpList_loadCell (op := ⟨some 8, _, _, _, _, _⟩) rfl _ _ rfl q 3 rfl _ _ hL _ Tryz.underlying9 rfl _ (lC_g3 _ _ _) ?_)
  go_ret
  exact ⟨rfl, rfl⟩
set_option maxRecDepth 100000 in
theorem genL_log (q p : Nat) (b rb : Option Nat) (L : LG) (m : DN) (w : World) (hK : WK w q p b rb L m) : Calls Tryz.prog 28 #[.pointer (some ⟨q, 0, none⟩)] w fun e w' => e = .returned (.int .i64 (L.g : Nat)) ∧ w' = w := by
  obtain ⟨rv, hL, _, _⟩ := hK.out
  go_enter Tryz.func28, Tryz.ntmps28
  go_wp2_with (with_reducible refine at_list ?_; refine wpList_loadCell (op := ⟨some 8, _, _, _, _, _⟩) rfl _ _ rfl q 2 rfl _ _ hL _ Tryz.underlying3 rfl _ (lC_g2 _ _ _) ?_)
  go_ret
  exact ⟨rfl, rfl⟩
set_option maxRecDepth 100000 in
theorem lenL_log (q p : Nat) (b rb : Option Nat) (L : LG) (m : DN) (w : World) (hK : WK w q p b rb L m) : Calls Tryz.prog 18 #[.pointer (some ⟨q, 0, none⟩)] w fun e w' => e = .returned (.int .i64 (L.recs.length : Nat)) ∧ w' = w := by
  obtain ⟨rv, hL, hT, _⟩ := hK.out
  obtain ⟨a, cap, rfl, _⟩ := hT.sl
  go_enter Tryz.func18, Tryz.ntmps18
  go_wp2_with (with_reducible refine at_list ?_; refine wpList_loadCell (op := ⟨some 8, _, _, _, _, _⟩) rfl _ _ rfl q 4 rfl _ _ hL _ Tryz.underlying30 rfl _ (lC_g4 _ _ _) ?_)
  go_ret
  exact ⟨rfl, rfl⟩
set_option maxRecDepth 100000 in
theorem allL_log (q p : Nat) (b rb : Option Nat) (L : LG) (m : DN) (w : World) (hK : WK w q p b rb L m) (hl : L.recs.length ≤ 1000000) : Calls Tryz.prog 20 #[.pointer (some ⟨q, 0, none⟩)] w fun e w' => ∃ v rb2, e = .returned v ∧ Below w.heap.size w w' ∧ TS w' v rb2 L.recs ∧ ∀ k, rb2 = some k → w.heap.size ≤ k := by
  obtain ⟨rv, hL, hT, _⟩ := hK.out
  obtain ⟨a, cap, rfl, _⟩ := hT.sl
  have HC := clone_ta a cap L.recs w hT.ta hl
  go_enter Tryz.func20, Tryz.ntmps20
  go_wp2_with (first
    | (go_at_call 50; refine HC.mono ?_; rintro e w2 ⟨v2, rb2, rfl, hw2, hT2, hn2⟩)
    | (with_reducible refine at_list ?_; refine wpList_loadCell (op := ⟨some 8, _, _, _, _, _⟩) rfl _ _ rfl q 4 rfl _ _ hL _ Tryz.underlying30 rfl _ (lC_g4 _ _ _) ?_))
  go_ret
  exact ⟨v2, rb2, rfl, hw2, hT2, hn2⟩
end Go.Proofs.YtaiiojbakmminaaGreatDoor
namespace Go.Proofs.YtaiiojbakmminaaGreatDoor
open Go Go.RowKit
def cm (P : PP) (room : Int) (ch : Nat) : DN := ⟨mk P, false, false, room, ch, none⟩
theorem wri_cm (P : PP) (room : Int) (ch : Nat) (n s : B) : wriN (cm P room ch) n s = (⟨lay n (some s) 2 (mk P), false, false, room, ch + 1, none⟩, 0) := by
  simp [wriN, cm, fullN, chgN, hitN]
theorem app_cm {P : PP} (h : RisP P) (room : Int) (ch : Nat) (n s : B) : appN (cm P room ch) n s = (⟨lay n (some (kbyt (getP n P) ++ s)) 1 (mk P), false, false, room, ch + 1, none⟩, 0) := by
  simp [appN, cm, fullN, chgN, hitN, at_mk h]
theorem mov_cm {P : PP} (h : RisP P) (room : Int) (ch : Nat) (n t : B) : movN (cm P room ch) n t = (⟨lay t (getP n P) 3 (lay n none 3 (mk P)), false, false, room, ch + 1, none⟩, 0) := by
  simp [movN, cm, chgN, hitN, at_mk h]
theorem syn_cm (l : List F) (room : Int) (ch : Nat) : synN ⟨l, false, false, room, ch, none⟩ = (cm (nowL l) room ch, 0) := by
  simp [synN, cm, settle_mk]
theorem syn_wri {P : PP} (h : RisP P) (room : Int) (ch : Nat) (n s : B) : synN (wriN (cm P room ch) n s).1 = (cm (putP n (some s) P) room (ch + 1), 0) := by
  rw [wri_cm, syn_cm, lay_now n _ 2 _ (ris_mk.2 h), now_mk]
theorem syn_app {P : PP} (h : RisP P) (room : Int) (ch : Nat) (n s : B) : synN (appN (cm P room ch) n s).1 = (cm (putP n (some (kbyt (getP n P) ++ s)) P) room (ch + 1), 0) := by
  rw [app_cm h, syn_cm, lay_now n _ 1 _ (ris_mk.2 h), now_mk]
theorem lay_ris {n : B} {c : Option B} {k : Nat} {P : PP} (h : RisP P) (hP : ∀ x ∈ P, okN x.1 = true) (hn : okN n = true) : Ris (lay n c k (mk P)) := (lay_ok (mk_ok h hP) hn).ris
theorem syn_mov {P : PP} (h : RisP P) (hP : ∀ x ∈ P, okN x.1 = true) (room : Int) (ch : Nat) (n t : B) (hn : okN n = true) : synN (movN (cm P room ch) n t).1 = (cm (putP t (getP n P) (putP n none P)) room (ch + 1), 0) := by
  rw [mov_cm h, syn_cm, lay_now t _ 3 _ (lay_ris h hP hn), lay_now n _ 3 _ (ris_mk.2 h), now_mk]
theorem swp_cm : ∀ (xs : List B) (l : List F) (room : Int) (ch : Nat), Okl okN l → (∀ x ∈ xs, okN x = true) → ∃ l', swpN ⟨l, false, false, room, ch, none⟩ xs = (⟨l', false, false, room, ch + xs.length, none⟩, 0) ∧ RisP (nowL l') ∧ ∀ n, getP n (nowL l') = if n ∈ xs then none else getP n (nowL l)
  | [], l, room, ch, hl, _ => ⟨l, rfl, now_ris hl.ris, fun n => by simp⟩
  | x :: r, l, room, ch, hl, hx => by
    have h1 : remN ⟨l, false, false, room, ch, none⟩ x = (⟨lay x none 4 l, false, false, room, ch + 1, none⟩, 0) := by simp [remN, chgN, hitN]
    obtain ⟨l', h2, h3, h4⟩ := swp_cm r (lay x none 4 l) room (ch + 1) (lay_ok hl (hx x (by simp))) (fun y hy => hx y (by simp [hy]))
    refine ⟨l', ?_, h3, fun n => ?_⟩
    · unfold swpN
      rw [h1, if_pos rfl, h2]
      simp only [List.length_cons]
      rw [Nat.add_assoc, Nat.add_comm 1]
    · rw [h4, lay_now x none 4 l hl.ris, getP_put]
      by_cases e1 : n = x
      · simp [e1]
      · simp [e1]
/-- What sweep leaves of a synced disk. -/
theorem sweep_cm (g : Nat) {P : PP} (h : RisP P) (hP : ∀ x ∈ P, okN x.1 = true) (room : Int) (ch : Nat) : ∃ ch', ch' ≤ ch + P.length ∧ sweepN g (cm P room ch) = (cm (P.filter fun x => !othK g x.1) room ch', 0) := by
  have hnm : namesL (cm P room ch).l = P.map (·.1) := names_mk P
  have hall : ∀ x ∈ othL g (cm P room ch), okN x = true := fun x hx => by
    unfold othL at hx
    rw [hnm] at hx
    obtain ⟨h1, _⟩ := List.mem_filter.1 hx
    obtain ⟨y, h2, rfl⟩ := List.mem_map.1 h1
    exact hP y h2
  have hlen : (othL g (cm P room ch)).length ≤ P.length := by
    unfold othL
    rw [hnm]
    exact Nat.le_trans (List.length_filter_le ..) (by simp)
  have hmem : ∀ n, n ∈ othL g (cm P room ch) ↔ n ∈ P.map (·.1) ∧ othK g n = true := fun n => by
    unfold othL
    rw [hnm, List.mem_filter]
  by_cases h0 : othL g (cm P room ch) = []
  · refine ⟨ch, by omega, ?_⟩
    have : P.filter (fun x => !othK g x.1) = P := List.filter_eq_self.2 fun x hx => by
      cases ho : othK g x.1 with
      | false => rfl
      | true =>
        have := (hmem x.1).2 ⟨List.mem_map.2 ⟨x, hx, rfl⟩, ho⟩
        rw [h0] at this
        cases this
    rw [this]
    unfold sweepN
    rw [if_pos h0]
  · obtain ⟨l', h1, h2, h3⟩ := swp_cm (othL g (cm P room ch)) (mk P) room ch (mk_ok h hP) hall
    refine ⟨ch + (othL g (cm P room ch)).length, by omega, ?_⟩
    have e : nowL l' = P.filter fun x => !othK g x.1 := ext_P h2 (h.filter _) fun n => by
      rw [h3, now_mk]
      cases hq : getP n P with
      | none =>
        rw [show getP n (P.filter fun x => !othK g x.1) = none from ?_]
        · simp
        · cases hq2 : getP n (P.filter fun x => !othK g x.1) with
          | none => rfl
          | some s =>
            have := (getP_mem (h.filter _)).1 hq2
            rw [(getP_mem h).2 (List.mem_filter.1 this).1] at hq
            cases hq
      | some s =>
        have hin := (getP_mem h).1 hq
        have hn : n ∈ P.map (·.1) := List.mem_map.2 ⟨_, hin, rfl⟩
        cases ho : othK g n with
        | true =>
          rw [if_pos ((hmem n).2 ⟨hn, ho⟩)]
          cases hq2 : getP n (P.filter fun x => !othK g x.1) with
          | none => rfl
          | some s2 =>
            have := (List.mem_filter.1 ((getP_mem (h.filter _)).1 hq2)).2
            simp [ho] at this
        | false =>
          rw [if_neg (fun hh => by rw [((hmem n).1 hh).2] at ho; cases ho)]
          exact ((getP_mem (h.filter _)).2 (List.mem_filter.2 ⟨hin, by simp [ho]⟩)).symm
    unfold sweepN
    rw [if_neg h0]
    change (if (swpN ⟨mk P, false, false, room, ch, none⟩ (othL g (cm P room ch))).2 = 0 then synN (swpN ⟨mk P, false, false, room, ch, none⟩ (othL g (cm P room ch))).1 else _) = _
    rw [h1, if_pos rfl, syn_cm, e]
/-- Reset on a synced disk of which all is of generations up to the log's own. -/
theorem reset_cm (L : LG) {P : PP} (h : RisP P) (hP : ∀ x ∈ P, okN x.1 = true) (room : Int) (ch : Nat) (s : B) (l : List B) (hg : L.g < 99) (hoth : ∀ x ∈ P, othK (L.g + 1) x.1 = true) :
    ∃ ch', ch' ≤ ch + P.length + 4 ∧ resetN L (cm P room ch) s l = (becL L (L.g + 1) s l, (cm [(baseN (L.g + 1), frs [s] ++ frs l)] room ch', 0)) := by
  have w1 : (wriN (cm P room ch) (newN (L.g + 1)) (frs [s] ++ frs l)).2 = 0 := by rw [wri_cm]
  have s1 := syn_wri h room ch (newN (L.g + 1)) (frs [s] ++ frs l)
  have r1 : RisP (putP (newN (L.g + 1)) (some (frs [s] ++ frs l)) P) := putP_ris h
  have okn : okN (newN (L.g + 1)) = true := (WN.new _ (by omega)).ok
  have okb : okN (baseN (L.g + 1)) = true := (WN.base _ (by omega)).ok
  have p1 : ∀ x ∈ putP (newN (L.g + 1)) (some (frs [s] ++ frs l)) P, okN x.1 = true := putP_names (q := fun n => okN n = true) hP (fun _ => okn)
  have s2 := syn_mov r1 p1 room (ch + 1) (newN (L.g + 1)) (baseN (L.g + 1)) okn
  have w2 : (movN (cm (putP (newN (L.g + 1)) (some (frs [s] ++ frs l)) P) room (ch + 1)) (newN (L.g + 1)) (baseN (L.g + 1))).2 = 0 := by rw [mov_cm r1]
  have hget : getP (newN (L.g + 1)) (putP (newN (L.g + 1)) (some (frs [s] ++ frs l)) P) = some (frs [s] ++ frs l) := by rw [getP_put, if_pos rfl]
  rw [hget] at s2
  generalize hQ : putP (baseN (L.g + 1)) (some (frs [s] ++ frs l)) (putP (newN (L.g + 1)) none (putP (newN (L.g + 1)) (some (frs [s] ++ frs l)) P)) = Q at s2
  have rQ : RisP Q := by rw [← hQ]; exact putP_ris (putP_ris r1)
  have pQ : ∀ x ∈ Q, okN x.1 = true := by rw [← hQ]; exact putP_names (q := fun n => okN n = true) (putP_names (q := fun n => okN n = true) p1 (fun e => by cases e)) (fun _ => okb)
  have lQ : Q.length ≤ P.length + 2 := by
    rw [← hQ]
    have h1 := putP_len (n := baseN (L.g + 1)) (c := some (frs [s] ++ frs l)) (P := putP (newN (L.g + 1)) none (putP (newN (L.g + 1)) (some (frs [s] ++ frs l)) P))
    have h2 : (putP (newN (L.g + 1)) none (putP (newN (L.g + 1)) (some (frs [s] ++ frs l)) P)).length ≤ (putP (newN (L.g + 1)) (some (frs [s] ++ frs l)) P).length := List.length_filter_le ..
    have h3 := putP_len (n := newN (L.g + 1)) (c := some (frs [s] ++ frs l)) (P := P)
    omega
  obtain ⟨ch', hc, hs⟩ := sweep_cm (L.g + 1) rQ pQ room (ch + 1 + 1)
  refine ⟨ch', by omega, ?_⟩
  have eQ : (Q.filter fun x => !othK (L.g + 1) x.1) = [(baseN (L.g + 1), frs [s] ++ frs l)] := ext_P (rQ.filter _) (by simp [RisP]) fun n => by
    have hgq : getP n Q = if n = baseN (L.g + 1) then some (frs [s] ++ frs l) else if n = newN (L.g + 1) then none else getP n P := by
      rw [← hQ, getP_put, getP_put, getP_put]
      split
      · rfl
      · split <;> rfl
    rw [getP_cons, getP_nil]
    by_cases e1 : n = baseN (L.g + 1)
    · rw [if_pos e1.symm]
      refine (getP_mem (rQ.filter _)).2 (List.mem_filter.2 ⟨(getP_mem rQ).1 (by rw [hgq, if_pos e1]), ?_⟩)
      simp only [e1, oth_base (show L.g + 1 < 100 by omega) (show L.g + 1 < 100 by omega)]
      simp
    · rw [if_neg (fun e => e1 e.symm)]
      cases hq2 : getP n (Q.filter fun x => !othK (L.g + 1) x.1) with
      | none => rfl
      | some s2 =>
        obtain ⟨h1, h2⟩ := List.mem_filter.1 ((getP_mem (rQ.filter _)).1 hq2)
        have h3 := (getP_mem rQ).2 h1
        rw [hgq, if_neg e1] at h3
        split at h3
        · cases h3
        · have := hoth _ ((getP_mem h).1 h3)
          simp [this] at h2
  rw [eQ] at hs
  unfold resetN
  rw [if_neg (by simp [w1]), s1, if_neg (by simp), if_neg (by simp [w2]), s2, if_neg (by simp), hs]
end Go.Proofs.YtaiiojbakmminaaGreatDoor
