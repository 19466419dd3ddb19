/- What begin of a log does. What Open does. -/
import Derived.Test.YtaiiojbakmminabGreatDoorWbg
import Derived.Test.YtaiiojbakmminabGreatDoorWaf
namespace Go.Proofs.YtaiiojbakmminabGreatDoor
open Go Go.RowKit
/-- What begin leaves. -/
def BgP (w : World) (q p : Nat) (b rb : Option Nat) (r : LG × (DN × Nat)) (t : Int) (e : Ending) (w' : World) : Prop := e = .returned (.tuple #[.int .i64 t, .int .i64 (r.2.2 : Nat)]) ∧ ∃ b' rb', Wch w w' q p b rb b' rb' ∧ WK w' q p b' rb' r.1 r.2.1
theorem fcl_rb (q : Nat) : IsF (rbF q) := ⟨_, _, _, rfl⟩
theorem fcl_rs (q : Nat) : IsF (rsF q) := ⟨_, _, _, rfl⟩
theorem fcl_b1 (x y z : Nat) : IsF (b1F x y z) := ⟨_, _, _, rfl⟩
theorem range4 : Array.range 4 = #[0, 1, 2, 3] := by decide
theorem fsl4 (v1 v2 v3 v4 : Value) (h1 : IsF v1) (h2 : IsF v2) (h3 : IsF v3) (h4 : IsF v4) (w : World) : (Instr.buildSlice TFS 4 #[(0, v1), (1, v2), (2, v3), (3, v4)]).run Tryz.prog w = .ok (.slice (some ⟨w.heap.size, 0, none⟩) 4 4) (w.alloc (.cells #[v1, v2, v3, v4] TF)) := by
  obtain ⟨_, _, _, rfl⟩ := h1
  obtain ⟨_, _, _, rfl⟩ := h2
  obtain ⟨_, _, _, rfl⟩ := h3
  obtain ⟨_, _, _, rfl⟩ := h4
  simp [Instr.buildSlice, run_underlying Tryz.underlying74, sizeOf_run iFn, Sem.run_bind, Instr.fill, newRow, Value.cells, range4]
theorem wpList_fsl4 {ops : Array Oper} {rest : List Oper} {op : Oper} {a : Act} {w : World} {Q : Exit → Act → World → Prop} (hgd : op.guard = none) (x1 x2 x3 x4 : Operand) (ho : op.op = .buildSlice TFS 4 #[(0, x1), (1, x2), (2, x3), (3, x4)]) (v1 v2 v3 v4 : Value) (e1 : a.eval x1 = v1) (e2 : a.eval x2 = v2) (e3 : a.eval x3 = v3) (e4 : a.eval x4 = v4)
    (h1 : IsF v1) (h2 : IsF v2) (h3 : IsF v3) (h4 : IsF v4)
    (h : ∀ w1 : World, Below w.heap.size w w1 → Blk w1 w.heap.size #[v1, v2, v3, v4] TF → wpList Tryz.prog ops Q rest (a.put op.dst (.slice (some ⟨w.heap.size, 0, none⟩) 4 4)) w1) : wpList Tryz.prog ops Q (op :: rest) a w := by
  have e : (#[(0, x1), (1, x2), (2, x3), (3, x4)] : Array (Nat × Operand)).map (fun (i, x) => (i, a.eval x)) = #[(0, v1), (1, v2), (2, v3), (3, v4)] := by simp [e1, e2, e3, e4]
  refine wpList_run hgd _ _ ?_ (h _ ((Below.refl _ _).alloc (Nat.le_refl _) _) (Blk.new _ _ _))
  unfold execOp
  simp only [ho, Sem.run_bind, e, fsl4 v1 v2 v3 v4 h1 h2 h3 h4, Result.andThen_ok]
  rfl
section
variable {op : Oper} {a : Act} {w : World}
theorem mk_rb (x1 : Operand) {b1 : Nat} (ho : op.op = .makeFunc (.func 39) #[x1] #[]) (h1 : a.eval x1 = .pointer (some ⟨b1, 0, none⟩)) : (execOp a.eval op).run Tryz.prog w = .ok (.value (rbF b1)) w := run_mkF _ _ _ ho _ _ (args1 h1) args0
theorem mk_rs (x1 : Operand) {b1 : Nat} (ho : op.op = .makeFunc (.func 40) #[x1] #[]) (h1 : a.eval x1 = .pointer (some ⟨b1, 0, none⟩)) : (execOp a.eval op).run Tryz.prog w = .ok (.value (rsF b1)) w := run_mkF _ _ _ ho _ _ (args1 h1) args0
theorem mk_b1 (x1 x2 x3 : Operand) {b1 b2 b3 : Nat} (ho : op.op = .makeFunc (.func 41) #[] #[x1, x2, x3]) (h1 : a.eval x1 = .pointer (some ⟨b1, 0, none⟩)) (h2 : a.eval x2 = .pointer (some ⟨b2, 0, none⟩)) (h3 : a.eval x3 = .pointer (some ⟨b3, 0, none⟩)) : (execOp a.eval op).run Tryz.prog w = .ok (.value (b1F b1 b2 b3)) w := run_mkF _ _ _ ho _ _ args0 (args3 h1 h2 h3)
end
theorem below_loc {n i : Nat} {w w1 w2 : World} (h : Below n w w1) (hg : w1.grownBy w2 (some i)) (hi : n ≤ i) (hn : n ≤ w1.heap.size) : Below n w w2 := ⟨hg.os.trans h.os, hg.tape.trans h.tape, hg.output.trans h.output, Nat.le_trans h.size hg.size, fun k hk => (hg.block k (by omega) (fun e => by have := Option.some.inj e; omega)).trans (h.block k hk)⟩
theorem set1 (u v : Value) : (#[u] : Array Value).setIfInBounds 0 v = #[v] := rfl
set_option maxRecDepth 100000 in
set_option maxHeartbeats 1000000 in
theorem begin_any (q p : Nat) (b rb : Option Nat) (L : LG) (m : DN) (R1 R2 : LG × (DN × Nat)) (w : World) (hK : WK w q p b rb L m) (hG : Gw w) (hg : L.g ≠ 0) (hm : Okn m)
    (H1 : ∀ w' b' rb', WK w' q p b' rb' L m → Gw w' → Calls Tryz.prog 39 #[.pointer (some ⟨q, 0, none⟩)] w' (RsP w' q p b' rb' R1))
    (H2 : R1.2.2 = 0 → ∀ w' b' rb', WK w' q p b' rb' R1.1 R1.2.1 → Gw w' → Calls Tryz.prog 40 #[.pointer (some ⟨q, 0, none⟩)] w' (RsP w' q p b' rb' R2))
    (o : R1.2.2 = 0 → R2.2.2 = 0 → Okw R2.1 R2.2.1) :
    Calls Tryz.prog 18 #[.pointer (some ⟨q, 0, none⟩)] w (BgP w q p b rb (bgR R1 R2) (bgT (usedL m.l) R1 R2)) := by
  obtain ⟨rv, hL, hTR, hD⟩ := hK.out
  have hgz : ¬ (L.g : Int) = 0 := by omega
  have hU : usedL m.l ≤ 1000000000000 := by have := hm.used; omega
  have HU := fun w1 (hB : Below w.heap.size w w1) => usedN p b m w1 (hD.below hB) hm
  have HT : ∀ w8 bl bu bt g, Below w.heap.size w w8 → Blk w8 bl #[.pointer (some ⟨q, 0, none⟩)] 23 → Blk w8 bu #[.int .i64 (usedL m.l : Nat)] 3 → Blk w8 bt #[.int .i64 0] 3 → Blk w8 g #[rbF q, rsF q, b1F bu bl bt, swq q] TF → w.heap.size ≤ bt → bu ≠ bt → Calls Tryz.prog 24 #[.slice (some ⟨g, 0, none⟩) 4 4] w8 (TnP w q p bt b rb (bgR R1 R2) (bgT (usedL m.l) R1 R2)) := fun w8 bl bu bt g hB kl ku kt kg lb hne => begin_turn q p bl bu bt g (usedL m.l) 4 b rb L m R1 R2 w w8 hK hG hB hU kl ku kt kg lb hne H1 H2 o
  clear H1 H2 o hU
  generalize bgR R1 R2 = r at *
  generalize bgT (usedL m.l) R1 R2 = t at *
  generalize usedL m.l = U at *
  go_enter Tryz.func18, Tryz.ntmps18
  go_upto_region 4 with (first
    | (go_at_call 38; refine (HU _ hw1).mono ?_; rintro e w2 ⟨rfl, hw2⟩; have hB2 := hw1.trans (hw2.mono hw1.size); have hl2 := hl1.belowSize hw2)
    | (with_reducible refine at_list ?_; first
      | (refine wpList_box1 (op := ⟨some 1, _, _, _, _, _⟩) rfl _ _ rfl (.pointer (some ⟨q, 0, none⟩)) rfl rfl ?_; intro w1 hw1 hl1; have hL1 := hL.belowSize hw1)
      | (refine wpList_loadCell (op := ⟨some 7, _, _, _, _, _⟩) rfl _ _ rfl w.heap.size 0 rfl _ _ hl1 _ Tryz.underlying23 rfl _ rfl ?_)
      | (refine wpList_loadCell (op := ⟨some 10, _, _, _, _, _⟩) rfl _ _ rfl q 2 rfl _ _ hL1 _ Tryz.underlying3 rfl _ (lC_g2 _ _ _) ?_)
      | (refine wpList_loadCell (op := ⟨some 14, _, _, _, _, _⟩) rfl _ _ rfl w.heap.size 0 rfl _ _ hl1 _ Tryz.underlying23 rfl _ rfl ?_)
      | (refine wpList_loadCell (op := ⟨some 17, _, _, _, _, _⟩) rfl _ _ rfl q 0 rfl _ _ hL1 _ Tryz.underlying27 rfl _ (lC_g0 _ _ _) ?_)
      | (refine wpList_alloc1 (op := ⟨some 4, _, _, _, _, _⟩) rfl _ rfl _ zI rfl ?_; intro w3 hw3 hu3; try simp only [Act.put, List.setIfInBounds_toArray, List.set_cons_zero, List.set_cons_succ])
      | (refine wpList_alloc1 (op := ⟨some 5, _, _, _, _, _⟩) rfl _ rfl _ zI rfl ?_; intro w4 hw4 ht4; have hu4 := hu3.belowSize hw4; have hz3 := hu3.lt; have hB3 := hB2.trans (hw3.mono hB2.size); have hB4 := hB3.trans (hw4.mono hB3.size); have hl4 := (hl2.belowSize hw3).belowSize hw4; try simp only [Act.put, List.setIfInBounds_toArray, List.set_cons_zero, List.set_cons_succ])
      | (refine wpList_storeCell (op := ⟨none, .store 3 (.tmp 4) (.tmp 18), _, _, _, _⟩) rfl _ _ _ rfl w2.heap.size 0 rfl (.int .i64 (U : Nat)) rfl _ _ hu4 iIntS rfl rfl (by decide) ?_; intro w5 hg5 hs5 hu5; clear hs5; rw [set1] at hu5; have ht5 := ht4.grown hg5 (fun e => by have := Option.some.inj e; omega); have hz2 := hl2.lt; have hl5 := hl4.grown hg5 (fun e => by have := Option.some.inj e; omega); have hB5 := below_loc hB4 hg5 hB2.size hB4.size; try simp only [Act.put])
      | (refine wpList_storeCell (op := ⟨none, .store 3 (.tmp 5) (.const (.int .i64 0)), _, _, _, _⟩) rfl _ _ _ rfl w3.heap.size 0 rfl (.int .i64 0) rfl _ _ ht5 iIntS rfl rfl (by decide) ?_; intro w6 hg6 hs6 ht6; clear hs6; rw [set1] at ht6; have hu6 := hu5.grown hg6 (fun e => by have := Option.some.inj e; omega); have hl6 := hl5.grown hg6 (fun e => by have := Option.some.inj e; omega); have hB6 := below_loc hB5 hg6 hB3.size hB5.size; have hlt := hB3.size; have hne : w2.heap.size ≠ w3.heap.size := by omega; try simp only [Act.put])))
  go_wp2_with (first
    | (go_at_call 24; refine HC.mono ?_; rintro e w9 ⟨rfl, b9, rb9, hW9, hK9, ht9⟩)
    | (with_reducible refine at_list ?_; first
      | (refine wpList_loadCell (op := ⟨some 19, _, _, _, _, _⟩) rfl _ _ rfl w.heap.size 0 rfl _ _ hl6 _ Tryz.underlying23 rfl _ rfl ?_; try simp only [Act.put, List.setIfInBounds_toArray, List.set_cons_zero, List.set_cons_succ])
      | (refine wpList_loadCell (op := ⟨some 21, _, _, _, _, _⟩) rfl _ _ rfl w.heap.size 0 rfl _ _ hl6 _ Tryz.underlying23 rfl _ rfl ?_; try simp only [Act.put, List.setIfInBounds_toArray, List.set_cons_zero, List.set_cons_succ])
      | (refine wpList_loadCell (op := ⟨some 24, _, _, _, _, _⟩) rfl _ _ rfl w.heap.size 0 rfl _ _ hl6 _ Tryz.underlying23 rfl _ rfl ?_; try simp only [Act.put, List.setIfInBounds_toArray, List.set_cons_zero, List.set_cons_succ])
      | (refine wpList_pure (op := ⟨some 20, _, _, _, _, _⟩) rfl (rbF q) (mk_rb _ rfl rfl) ?_; try simp only [Act.put, List.setIfInBounds_toArray, List.set_cons_zero, List.set_cons_succ])
      | (refine wpList_pure (op := ⟨some 22, _, _, _, _, _⟩) rfl (rsF q) (mk_rs _ rfl rfl) ?_; try simp only [Act.put, List.setIfInBounds_toArray, List.set_cons_zero, List.set_cons_succ])
      | (refine wpList_pure (op := ⟨some 23, _, _, _, _, _⟩) rfl (b1F w2.heap.size w.heap.size w3.heap.size) (mk_b1 _ _ _ rfl rfl rfl rfl) ?_; try simp only [Act.put, List.setIfInBounds_toArray, List.set_cons_zero, List.set_cons_succ])
      | (refine wpList_pure (op := ⟨some 25, _, _, _, _, _⟩) rfl (swq q) (mk_sw _ rfl rfl) ?_; try simp only [Act.put, List.setIfInBounds_toArray, List.set_cons_zero, List.set_cons_succ])
      | (refine wpList_fsl4 (op := ⟨some 26, _, _, _, _, _⟩) rfl _ _ _ _ rfl (rbF q) (rsF q) (b1F w2.heap.size w.heap.size w3.heap.size) (swq q) rfl rfl rfl rfl (fcl_rb _) (fcl_rs _) (fcl_b1 _ _ _) (fcl_sw _) ?_; intro w7 hw7 hb7; have hB7 := hB6.trans (hw7.mono hB6.size); have hl7 := hl6.belowSize hw7; have hu7 := hu6.belowSize hw7; have ht7 := ht6.belowSize hw7; have HC := HT w7 w.heap.size w2.heap.size w3.heap.size w6.heap.size hB7 hl7 hu7 ht7 hb7 hlt hne; try simp only [Act.put, List.setIfInBounds_toArray, List.set_cons_zero, List.set_cons_succ])
      | (refine wpList_loadCell (op := ⟨some 28, _, _, _, _, _⟩) rfl _ _ rfl w3.heap.size 0 rfl _ _ ht9 _ Tryz.underlying3 rfl _ rfl ?_)))
  go_ret2
  exact ⟨rfl, b9, rb9, hW9, hK9⟩
set_option maxRecDepth 100000 in
set_option maxHeartbeats 4000000 in
theorem begin0_any (q p : Nat) (b rb : Option Nat) (L : LG) (m : DN) (w : World) (hK : WK w q p b rb L m) (hG : Gw w) (hg : L.g = 0) (ho : Okr L m ((frs [[]]).length + (frs []).length)) :
    Calls Tryz.prog 18 #[.pointer (some ⟨q, 0, none⟩)] w (BgP w q p b rb (resetN L m [] []) 0) := by
  obtain ⟨rv, hL, hTR, hD⟩ := hK.out
  have hgz : (L.g : Int) = 0 := by omega
  have HR := fun w1 (hB : Below w.heap.size w w1) => reset_any q p b rb L m [] [] none 0 w1 (hK.below hB) (hG.below hB) ho (TA.nil w1 none) (fun _ e => by cases e) (by simp)
  change ∀ w1 (_ : Below w.heap.size w w1), Calls Tryz.prog 9 #[.pointer (some ⟨q, 0, none⟩), .string ⟨#[]⟩, .slice none 0 0] w1 (RsP w1 q p b rb (resetN L m [] [])) at HR
  generalize resetN L m [] [] = r at *
  clear hg
  go_enter Tryz.func18, Tryz.ntmps18
  go_wp2_with (first
    | (go_at_call 9; refine (HR _ hw1).mono ?_; rintro e w9 ⟨rfl, b9, rb9, hW9, hK9⟩)
    | (with_reducible refine at_list ?_; first
      | (refine wpList_box1 (op := ⟨some 1, _, _, _, _, _⟩) rfl _ _ rfl (.pointer (some ⟨q, 0, none⟩)) rfl rfl ?_; intro w1 hw1 hl1; have hL1 := hL.belowSize hw1)
      | (refine wpList_loadCell (op := ⟨some 7, _, _, _, _, _⟩) rfl _ _ rfl w.heap.size 0 rfl _ _ hl1 _ Tryz.underlying23 rfl _ rfl ?_)
      | (refine wpList_loadCell (op := ⟨some 10, _, _, _, _, _⟩) rfl _ _ rfl q 2 rfl _ _ hL1 _ Tryz.underlying3 rfl _ (lC_g2 _ _ _) ?_)
      | (refine wpList_loadCell (op := ⟨some 12, _, _, _, _, _⟩) rfl _ _ rfl w.heap.size 0 rfl _ _ hl1 _ Tryz.underlying23 rfl _ rfl ?_)))
  go_ret2
  exact ⟨rfl, b9, rb9, (Wch.below hw1).trans hW9, hK9⟩
end Go.Proofs.YtaiiojbakmminabGreatDoor
namespace Go.Proofs.YtaiiojbakmminabGreatDoor
open Go Go.RowKit
set_option maxRecDepth 100000 in
theorem open_nil (z : Int) (w : World) : Calls Tryz.prog 4 #[.pointer none, .int .i64 z] w fun e w' => e = .returned (.tuple #[.pointer none, .int .i64 0, .int .i64 1]) ∧ w' = w := by
  go_enter Tryz.func4, Tryz.ntmps4
  go_wp2_with fail
  go_ret3
  exact ⟨rfl, rfl⟩
set_option maxRecDepth 100000 in
theorem open_few (p : Nat) (z : Int) (hz : z < 1) (w : World) : Calls Tryz.prog 4 #[.pointer (some ⟨p, 0, none⟩), .int .i64 z] w fun e w' => e = .returned (.tuple #[.pointer none, .int .i64 0, .int .i64 1]) ∧ w' = w := by
  go_enter Tryz.func4, Tryz.ntmps4
  go_wp2_with fail
  go_ret3
  exact ⟨rfl, rfl⟩
set_option maxRecDepth 100000 in
theorem open_dead (p : Nat) (b : Option Nat) (m : DN) (z : Int) (hz : 1 ≤ z) (w : World) (hD : DD w p b m) (hd : m.dead = true) : Calls Tryz.prog 4 #[.pointer (some ⟨p, 0, none⟩), .int .i64 z] w fun e w' => e = .returned (.tuple #[.pointer none, .int .i64 0, .int .i64 7]) ∧ w' = w := by
  have hz1 : ¬ z < 1 := by omega
  obtain ⟨v, hK, _⟩ := hD.out
  obtain ⟨sl, hB, _⟩ := hK.out
  have HD := dead_any p sl (m.lo v) w hB
  rw [show (m.lo v).dead = true from hd] at HD
  go_enter Tryz.func4, Tryz.ntmps4
  go_wp2_with (go_at_call 15; refine HD.mono ?_; rintro e w2 ⟨rfl, rfl⟩)
  go_ret3
  exact ⟨rfl, rfl⟩
/-- What Open leaves. -/
def OpP (w : World) (p : Nat) (b : Option Nat) (r : LG × (DN × Nat)) (t : Int) (e : Ending) (w' : World) : Prop := ∃ q b' rb', e = .returned (.tuple #[if r.2.2 = 0 then .pointer (some ⟨q, 0, none⟩) else .pointer none, .int .i64 (if r.2.2 = 0 then t else 0), .int .i64 (r.2.2 : Nat)]) ∧ w.heap.size ≤ q ∧ Wch w w' q p b none b' rb' ∧ WK w' q p b' rb' r.1 r.2.1
set_option maxRecDepth 100000 in
set_option maxHeartbeats 1000000 in
theorem open_any (p g : Nat) (b : Option Nat) (m : DN) (z : Int) (r : LG × (DN × Nat)) (t : Int) (hz : 1 ≤ z) (w : World) (hD : DD w p b m) (hp : 2 ≤ p) (hb2 : ∀ k, b = some k → 2 ≤ k) (hG : Gw w) (hm : Okn m) (hd : m.dead = false) (hN : Nms preB (namesL m.l)) (hg : newP (namesL m.l) = (g : Int))
    (HB : ∀ q w', WK w' q p b none ⟨z, g, [], [], 0, 0⟩ m → Gw w' → Calls Tryz.prog 18 #[.pointer (some ⟨q, 0, none⟩)] w' (BgP w' q p b none r t)) :
    Calls Tryz.prog 4 #[.pointer (some ⟨p, 0, none⟩), .int .i64 z] w (OpP w p b r t) := by
  have hz1 : ¬ z < 1 := by omega
  obtain ⟨v, hK, _⟩ := hD.out
  obtain ⟨sl, hB, _⟩ := hK.out
  have HD := dead_any p sl (m.lo v) w hB
  rw [show (m.lo v).dead = false from hd] at HD
  have HNm := names_any p b (m.lo v) w hK (by have := hm.len; show m.l.length ≤ _; omega)
  change Calls Tryz.prog 17 #[.pointer (some ⟨p, 0, none⟩)] w (fun e w' => ∃ sl, e = .returned sl ∧ Below w.heap.size w w' ∧ XL w' w.heap.size sl (namesL m.l)) at HNm
  have HNw := fun ad cap w1 (hT : TA w1 ad (namesL m.l)) (hG1 : Gw w1) => newest_any (namesL m.l) ad cap w1 hT hG1 hN
  rw [hg] at HNw
  clear hN
  generalize namesL m.l = ns at *
  clear hB
  go_enter Tryz.func4, Tryz.ntmps4
  go_upto_region 6 with (first
    | (go_at_call 15; refine HD.mono ?_; rintro e wx ⟨rfl, hwx⟩; have hwx2 := hwx.symm; subst hwx2; clear hwx)
    | (go_at_call 17; refine HNm.mono ?_; rintro e w2 ⟨sl2, rfl, hw2, hX2⟩; obtain ⟨a2, c2, rfl, _, _⟩ := hX2.ts.1.sl; have hX2a := hX2.ta)
    | (go_at_call 16; refine (HNw a2 c2 _ hX2a (hG.below hw2)).mono ?_; rintro e w3 ⟨rfl, hw3⟩; have hB3 := hw2.trans (hw3.mono hw2.size))
    | (with_reducible refine at_list ?_; first
      | (refine wpList_boxRow (op := ⟨some 24, _, _, _, _, _⟩) rfl _ _ rfl (lC p ⟨z, g, [], [], 0, 0⟩ (.slice none 0 0)) rfl ?_; intro w4 hw4 hs4 hb4; clear hs4)))
  have hB4 := hB3.trans (hw4.mono hB3.size)
  have h2g := hG.two
  have hqs := hB3.size
  have hWK : WK w4 w3.heap.size p b none ⟨z, g, [], [], 0, 0⟩ m := WK.of hb4 (TS.nil _) (hD.below hB4) (by omega) hp hb2 (fun k e => by cases e)
  have HC := HB w3.heap.size w4 hWK (hG.below hB4)
  obtain ⟨L1, m1, c⟩ := r
  have fin : ∀ {w9 b9 rb9}, Wch w4 w9 w3.heap.size p b none b9 rb9 → Wch w w9 w3.heap.size p b none b9 rb9 := fun h => (Wch.below hB4).trans h
  by_cases hc : c = 0
  · subst hc
    go_wp2_with (go_at_call 18; refine HC.mono ?_; rintro e w9 ⟨rfl, b9, rb9, hW9, hK9⟩)
    go_ret3
    exact ⟨_, b9, rb9, rfl, hqs, fin hW9, hK9⟩
  · have hci : ¬ (c : Int) = 0 := by omega
    go_wp2_with (go_at_call 18; refine HC.mono ?_; rintro e w9 ⟨rfl, b9, rb9, hW9, hK9⟩)
    go_ret3
    exact ⟨w3.heap.size, b9, rb9, by simp only [hc, if_false]; rfl, hqs, fin hW9, hK9⟩
end Go.Proofs.YtaiiojbakmminabGreatDoor
