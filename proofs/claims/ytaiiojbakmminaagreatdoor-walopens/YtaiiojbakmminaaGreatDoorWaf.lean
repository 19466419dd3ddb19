/- What Add of a log does, whole. -/
import Derived.Test.YtaiiojbakmminaaGreatDoorWae
namespace Go.Proofs.YtaiiojbakmminaaGreatDoor
open Go Go.RowKit
theorem wpAnyH_duo {P : Program} {ops : Array Oper} {Q : Exit → Act → World → Prop} {md : Region.Mode} {S : World → Prop} {i k : Nat} {o p : Oper} {fuel : Nat} {listed : Array Bool} {a : Act} {w : World} (ho : ops[i]? = some o) (hp : ops[k]? = some p) (hr : Region.ready md ops listed = [i, k])
    (h : ∀ K : Act → World → Prop, (∀ a w, S w → wpAnyH P md ops Q S fuel (listed.setIfInBounds i true) a w → K a w) → wpList P ops (QK Q K) [o] a w)
    (h2 : ∀ K : Act → World → Prop, (∀ a w, S w → wpAnyH P md ops Q S fuel (listed.setIfInBounds k true) a w → K a w) → wpList P ops (QK Q K) [p] a w) : wpAnyH P md ops Q S (fuel + 1) listed a w :=
  ⟨(fun h0 => absurd (hr ▸ h0) (List.cons_ne_nil _ _)), fun j hj => by
    rw [hr] at hj
    rcases List.mem_cons.1 hj with rfl | hj
    · exact wpOp_list ho (h _ (fun a w hS hW => ⟨hS, hW⟩))
    · obtain rfl := List.mem_singleton.1 hj
      exact wpOp_list hp (h2 _ (fun a w hS hW => ⟨hS, hW⟩))⟩
theorem wpAnyH_trio {P : Program} {ops : Array Oper} {Q : Exit → Act → World → Prop} {md : Region.Mode} {S : World → Prop} {i k n : Nat} {o p r : Oper} {fuel : Nat} {listed : Array Bool} {a : Act} {w : World} (ho : ops[i]? = some o) (hp : ops[k]? = some p) (hn : ops[n]? = some r) (hr : Region.ready md ops listed = [i, k, n])
    (h : ∀ K : Act → World → Prop, (∀ a w, S w → wpAnyH P md ops Q S fuel (listed.setIfInBounds i true) a w → K a w) → wpList P ops (QK Q K) [o] a w)
    (h2 : ∀ K : Act → World → Prop, (∀ a w, S w → wpAnyH P md ops Q S fuel (listed.setIfInBounds k true) a w → K a w) → wpList P ops (QK Q K) [p] a w)
    (h3 : ∀ K : Act → World → Prop, (∀ a w, S w → wpAnyH P md ops Q S fuel (listed.setIfInBounds n true) a w → K a w) → wpList P ops (QK Q K) [r] a w) : wpAnyH P md ops Q S (fuel + 1) listed a w :=
  ⟨(fun h0 => absurd (hr ▸ h0) (List.cons_ne_nil _ _)), fun j hj => by
    rw [hr] at hj
    rcases List.mem_cons.1 hj with rfl | hj
    · exact wpOp_list ho (h _ (fun a w hS hW => ⟨hS, hW⟩))
    · rcases List.mem_cons.1 hj with rfl | hj
      · exact wpOp_list hp (h2 _ (fun a w hS hW => ⟨hS, hW⟩))
      · obtain rfl := List.mem_singleton.1 hj
        exact wpOp_list hn (h3 _ (fun a w hS hW => ⟨hS, hW⟩))⟩
theorem zPt : ∀ w, (zeroValue 49).run Tryz.prog w = .ok .nilFunc w := Tryz.zeroValue49
theorem zI : ∀ w, (zeroValue 3).run Tryz.prog w = .ok (.int .i64 0) w := Tryz.zeroValue3
theorem iPt : (Tryz.prog.info? 49).map (·.size) = some 1 := by kernel_rfl
theorem mk_pt {op : Oper} {a : Act} {w : World} (f : Nat) (x1 : Operand) {b1 : Nat} (ho : op.op = .makeFunc (.func f) #[x1] #[]) (h1 : a.eval x1 = .pointer (some ⟨b1, 0, none⟩)) : (execOp a.eval op).run Tryz.prog w = .ok (.value (ptF f b1)) w := run_mkF _ _ _ ho _ _ (args1 h1) args0
theorem range3 : Array.range 3 = #[0, 1, 2] := by decide
theorem fsl3 (v1 v2 v3 : Value) (h1 : IsF v1) (h2 : IsF v2) (h3 : IsF v3) (w : World) : (Instr.buildSlice TFS 3 #[(0, v1), (1, v2), (2, v3)]).run Tryz.prog w = .ok (.slice (some ⟨w.heap.size, 0, none⟩) 3 3) (w.alloc (.cells #[v1, v2, v3] TF)) := by
  obtain ⟨_, _, _, rfl⟩ := h1
  obtain ⟨_, _, _, rfl⟩ := h2
  obtain ⟨_, _, _, rfl⟩ := h3
  simp [Instr.buildSlice, run_underlying Tryz.underlying97, sizeOf_run iFn, Sem.run_bind, Instr.fill, newRow, Value.cells, range3]
theorem wpList_fsl3 {ops : Array Oper} {rest : List Oper} {op : Oper} {a : Act} {w : World} {Q : Exit → Act → World → Prop} (hgd : op.guard = none) (x1 x2 x3 : Operand) (ho : op.op = .buildSlice TFS 3 #[(0, x1), (1, x2), (2, x3)]) (v1 v2 v3 : Value) (e1 : a.eval x1 = v1) (e2 : a.eval x2 = v2) (e3 : a.eval x3 = v3)
    (h1 : IsF v1) (h2 : IsF v2) (h3 : IsF v3)
    (h : ∀ w1 : World, Below w.heap.size w w1 → Blk w1 w.heap.size #[v1, v2, v3] TF → wpList Tryz.prog ops Q rest (a.put op.dst (.slice (some ⟨w.heap.size, 0, none⟩) 3 3)) w1) : wpList Tryz.prog ops Q (op :: rest) a w := by
  have e : (#[(0, x1), (1, x2), (2, x3)] : Array (Nat × Operand)).map (fun (i, x) => (i, a.eval x)) = #[(0, v1), (1, v2), (2, v3)] := by simp [e1, e2, e3]
  refine wpList_run hgd _ _ ?_ (h _ ((Below.refl _ _).alloc (Nat.le_refl _) _) (Blk.new _ _ _))
  unfold execOp
  simp only [ho, Sem.run_bind, e, fsl3 v1 v2 v3 h1 h2 h3, Result.andThen_ok]
  rfl
section
variable {op : Oper} {a : Act} {w : World}
theorem args5 {x y z t s : Operand} {u v r q o : Value} (hx : a.eval x = u) (hy : a.eval y = v) (hz : a.eval z = r) (ht : a.eval t = q) (hs : a.eval s = o) : #[x, y, z, t, s].map a.eval = #[u, v, r, q, o] := by simp [hx, hy, hz, ht, hs]
theorem mk_a1 (x1 x2 x3 x4 : Operand) {b1 b2 b3 b4 : Nat} (ho : op.op = .makeFunc (.func 47) #[] #[x1, x2, x3, x4]) (h1 : a.eval x1 = .pointer (some ⟨b1, 0, none⟩)) (h2 : a.eval x2 = .pointer (some ⟨b2, 0, none⟩)) (h3 : a.eval x3 = .pointer (some ⟨b3, 0, none⟩)) (h4 : a.eval x4 = .pointer (some ⟨b4, 0, none⟩)) : (execOp a.eval op).run Tryz.prog w = .ok (.value (a1F b1 b2 b3 b4)) w := run_mkF _ _ _ ho _ _ args0 (args4 h1 h2 h3 h4)
theorem mk_a2 (x1 x2 x3 x4 x5 : Operand) {b1 b2 b3 b4 b5 : Nat} (ho : op.op = .makeFunc (.func 49) #[] #[x1, x2, x3, x4, x5]) (h1 : a.eval x1 = .pointer (some ⟨b1, 0, none⟩)) (h2 : a.eval x2 = .pointer (some ⟨b2, 0, none⟩)) (h3 : a.eval x3 = .pointer (some ⟨b3, 0, none⟩)) (h4 : a.eval x4 = .pointer (some ⟨b4, 0, none⟩)) (h5 : a.eval x5 = .pointer (some ⟨b5, 0, none⟩)) : (execOp a.eval op).run Tryz.prog w = .ok (.value (a2F b1 b2 b3 b4 b5)) w := run_mkF _ _ _ ho _ _ args0 (args5 h1 h2 h3 h4 h5)
end
/-- The three variables of Add lie in blocks of their own. -/
structure Tri (w : World) (lo b5 b6 b7 : Nat) (f p k j : Nat) : Prop where
  x5 : Blk w b5 #[ptF f p] 49
  x6 : Blk w b6 #[.int .i64 (k : Nat)] 3
  x7 : Blk w b7 #[.int .i64 (j : Nat)] 3
  n67 : b6 ≠ b7
  l5 : lo ≤ b5
  l6 : lo ≤ b6
  l7 : lo ≤ b7
theorem Tri.below {w w' : World} {lo b5 b6 b7 f p k j : Nat} (h : Tri w lo b5 b6 b7 f p k j) (hb : Below w.heap.size w w') : Tri w' lo b5 b6 b7 f p k j := ⟨h.x5.belowSize hb, h.x6.belowSize hb, h.x7.belowSize hb, h.n67, h.l5, h.l6, h.l7⟩
theorem log_c1 {w : World} {q p : Nat} {L : LG} {rv : Value} (h : Blk w q (lC p L rv) 64) : w.cell? ⟨q, 1, none⟩ = some (.int .i64 L.most) := (h.cell 1).trans (lC_g1 _ _ _)
theorem below4 {w2 wd wx wy wz : World} {x y z : Nat} (h0 : Below w2.heap.size w2 wd) (g1 : wd.grownBy wx (some x)) (g2 : wx.grownBy wy (some y)) (g3 : wy.grownBy wz (some z)) (hx : w2.heap.size ≤ x) (hy : w2.heap.size ≤ y) (hz : w2.heap.size ≤ z) : Below w2.heap.size w2 wz := by
  have a4 := h0.trans (below_of_grown g1 hx h0.size)
  have a5 := a4.trans (below_of_grown g2 hy a4.size)
  exact a5.trans (below_of_grown g3 hz a5.size)
theorem step8 {wt w6 w7 w8 : World} (h6 : Below wt.heap.size wt w6) (h7 : Below w6.heap.size w6 w7) (g8 : w7.grownBy w8 (some w6.heap.size)) : Below wt.heap.size wt w8 := (h6.trans (h7.mono h6.size)).trans (below_of_grown g8 h6.size (Nat.le_trans h6.size h7.size))
theorem sep8 {rb : Option Nat} {n k : Nat} (h : ∀ k, rb = some k → k < n) (hk : n ≤ k) : some k ≠ rb := fun e => by have := h k e.symm; omega
theorem below3 {w2 wd0 wa wb wc wd we wf : World} {x y z : Nat} (h0 : Below w2.heap.size w2 wd0) (h1 : Below wd0.heap.size wd0 wa) (h2 : Below wa.heap.size wa wb) (h3 : Below wb.heap.size wb wc) (g1 : wc.grownBy wd (some x)) (g2 : wd.grownBy we (some y)) (g3 : we.grownBy wf (some z)) (hx : w2.heap.size ≤ x) (hy : w2.heap.size ≤ y) (hz : w2.heap.size ≤ z) : Below w2.heap.size w2 wf := by
  have a1 := h0.trans (h1.mono h0.size)
  have a2 := a1.trans (h2.mono a1.size)
  have a3 := a2.trans (h3.mono a2.size)
  have a4 := a3.trans (below_of_grown g1 hx a3.size)
  have a5 := a4.trans (below_of_grown g2 hy a4.size)
  exact a5.trans (below_of_grown g3 hz a5.size)
set_option maxRecDepth 100000 in
set_option maxHeartbeats 8000000 in
theorem add_any (q p : Nat) (b rb : Option Nat) (L : LG) (m : DN) (l : List B) (ad : Option Addr) (cap : Nat) (w : World) (hK : WK w q p b rb L m) (hG : Gw w) (ho : Oka L m l) (hT : TA w ad l) (hsep : ∀ a, ad = some a → some a.block ≠ rb) :
    Calls Tryz.prog 16 #[.pointer (some ⟨q, 0, none⟩), .slice ad l.length cap] w (RsP w q p b rb (addN L m l)) := by
  obtain ⟨rv, hL, hTR, hD⟩ := hK.out
  have hrl := hK.rlt
  have hur := ho.u
  have hll := ho.r
  have hks := ho.k
  have HF := fun w1 (hB : Below w.heap.size w w1) => frames_any l ad cap w1 (hT.below hB) (hG.below hB).g (by omega) (by omega)
  have HT := fun w8 bl br b5 b6 b7 b8 g (hB : Below w.heap.size w w8) => add_turn q p bl br b5 b6 b7 b8 g b rb L m l ad cap 3 w8 (hK.below hB) (hG.below hB) ho (hT.below hB) hsep
  generalize addN L m l = r at *
  have eK : Hid (addK L = if addC L = true then L.segs + 1 else L.segs) := rfl
  have eJ : Hid (addJ L = if addC L = true then 0 else L.last) := rfl
  have eC : Hid (addC L = (decide (L.segs = 0) || decide (L.most ≤ (L.last : Int)))) := rfl
  generalize addK L = ak at *
  generalize addJ L = aj at *
  generalize addC L = ac at *
  generalize frs l = fr at *
  go_enter Tryz.func16, Tryz.ntmps16
  go_upto_region 3 with (with_reducible refine at_list ?_; first
      | (refine wpList_box1 (op := ⟨some 2, _, _, _, _, _⟩) rfl _ _ rfl (.pointer (some ⟨q, 0, none⟩)) rfl rfl ?_; intro w1 hw1 hbl1)
      | (refine wpList_box1 (op := ⟨some 3, _, _, _, _, _⟩) rfl _ _ rfl (.slice ad l.length cap) rfl rfl ?_; intro w2 hw2 hbr2; have hbl2 := hbl1.belowSize hw2; have hB2 := hw1.trans (hw2.mono hw1.size); have hL2 := hL.belowSize hB2)
      | (refine wpList_loadCell (op := ⟨some 9, _, _, _, _, _⟩) rfl _ _ rfl w.heap.size 0 rfl _ _ hbl2 _ Tryz.underlying25 rfl _ rfl ?_))
  have hdr2 := Below.drewS w2
  have hdz : w2.drew.heap.size = w2.heap.size := rfl
  go_cut [5, 6, 7] from 11 to 23 (fun s5 s6 s7 wx => ∃ b5 b6 b7, s5 = .pointer (some ⟨b5, 0, none⟩) ∧ s6 = .pointer (some ⟨b6, 0, none⟩) ∧ s7 = .pointer (some ⟨b7, 0, none⟩) ∧ Tri wx w2.heap.size b5 b6 b7 46 p L.segs L.last ∧ Below w2.heap.size w2 wx)
  case first =>
    refine wp_region_held_drew (S := fun w' : World => Blk w' w.heap.size #[.pointer (some ⟨q, 0, none⟩)] 25 ∧ Blk w' q (lC p L rv) 64) (by kernel_rfl) (⟨hbl2.drew, hL2.drew⟩) (fun hH => ?_)
    try go_frame
    refine wpAnyH_take (i := 0) (oi := ⟨some 11, _, _, _, _, _⟩) (v := .pointer (some ⟨q, 0, none⟩)) rfl (by kernel_rfl) (by kernel_rfl) (by kernel_rfl) (fun _ _ _ h => h) (Or.inl ⟨by rfl, fun w hSw => run_loadCellB _ _ rfl _ 0 rfl _ _ hSw.1 _ Tryz.underlying25 rfl _ (rfl)⟩) hH ?_
    try simp only [Act.put, List.setIfInBounds_toArray, List.set_cons_zero, List.set_cons_succ]
    refine wpAnyH_take (i := 1) (oi := ⟨some 12, _, _, _, _, _⟩) (v := .pointer (some ⟨q, 0, none⟩)) rfl (by kernel_rfl) (by kernel_rfl) (by kernel_rfl) (fun _ _ _ h => h) (Or.inl ⟨by rfl, fun w hSw => by go_simp⟩) hH ?_
    try simp only [Act.put, List.setIfInBounds_toArray, List.set_cons_zero, List.set_cons_succ]
    refine wpAnyH_take (i := 2) (oi := ⟨some 13, _, _, _, _, _⟩) (v := .pointer (some ⟨q, 0, none⟩)) rfl (by kernel_rfl) (by kernel_rfl) (by kernel_rfl) (fun _ _ _ h => h) (Or.inl ⟨by rfl, fun w hSw => by go_simp⟩) hH ?_
    try simp only [Act.put, List.setIfInBounds_toArray, List.set_cons_zero, List.set_cons_succ]
    refine wpAnyH_take (i := 3) (oi := ⟨some 14, _, _, _, _, _⟩) (v := .pointer (some ⟨p, 0, none⟩)) rfl (by kernel_rfl) (by kernel_rfl) (by kernel_rfl) (fun _ _ _ h => h) (Or.inl ⟨by rfl, fun w hSw => run_loadCellB _ _ rfl _ 0 rfl _ _ hSw.2 _ Tryz.underlying23 rfl _ (lC_g0 _ _ _)⟩) hH ?_
    try simp only [Act.put, List.setIfInBounds_toArray, List.set_cons_zero, List.set_cons_succ]
    refine wpAnyH_take (i := 4) (oi := ⟨some 15, _, _, _, _, _⟩) (v := ptF 46 p) rfl (by kernel_rfl) (by kernel_rfl) (by kernel_rfl) (fun _ _ _ h => h) (Or.inl ⟨by rfl, fun w hSw => mk_pt _ _ rfl rfl⟩) hH ?_
    try simp only [Act.put, List.setIfInBounds_toArray, List.set_cons_zero, List.set_cons_succ]
    refine wpAnyH_take (i := 5) (oi := ⟨some 16, _, _, _, _, _⟩) (v := .pointer (some ⟨q, 0, none⟩)) rfl (by kernel_rfl) (by kernel_rfl) (by kernel_rfl) (fun _ _ _ h => h) (Or.inl ⟨by rfl, fun w hSw => run_loadCellB _ _ rfl _ 0 rfl _ _ hSw.1 _ Tryz.underlying25 rfl _ (rfl)⟩) hH ?_
    try simp only [Act.put, List.setIfInBounds_toArray, List.set_cons_zero, List.set_cons_succ]
    refine wpAnyH_take (i := 6) (oi := ⟨some 17, _, _, _, _, _⟩) (v := .pointer (some ⟨q, 0, none⟩)) rfl (by kernel_rfl) (by kernel_rfl) (by kernel_rfl) (fun _ _ _ h => h) (Or.inl ⟨by rfl, fun w hSw => by go_simp⟩) hH ?_
    try simp only [Act.put, List.setIfInBounds_toArray, List.set_cons_zero, List.set_cons_succ]
    refine wpAnyH_take (i := 7) (oi := ⟨some 18, _, _, _, _, _⟩) (v := .pointer (some ⟨q, 5, none⟩)) rfl (by kernel_rfl) (by kernel_rfl) (by kernel_rfl) (fun _ _ _ h => h) (Or.inl ⟨by rfl, fun w hSw => by go_simp⟩) hH ?_
    try simp only [Act.put, List.setIfInBounds_toArray, List.set_cons_zero, List.set_cons_succ]
    refine wpAnyH_take (i := 8) (oi := ⟨some 19, _, _, _, _, _⟩) (v := .int .i64 (L.segs : Nat)) rfl (by kernel_rfl) (by kernel_rfl) (by kernel_rfl) (fun _ _ _ h => h) (Or.inl ⟨by rfl, fun w hSw => run_loadCellB _ _ rfl _ 5 rfl _ _ hSw.2 _ Tryz.underlying3 rfl _ (lC_g5 _ _ _)⟩) hH ?_
    try simp only [Act.put, List.setIfInBounds_toArray, List.set_cons_zero, List.set_cons_succ]
    refine wpAnyH_take (i := 9) (oi := ⟨some 20, _, _, _, _, _⟩) (v := .pointer (some ⟨q, 0, none⟩)) rfl (by kernel_rfl) (by kernel_rfl) (by kernel_rfl) (fun _ _ _ h => h) (Or.inl ⟨by rfl, fun w hSw => run_loadCellB _ _ rfl _ 0 rfl _ _ hSw.1 _ Tryz.underlying25 rfl _ (rfl)⟩) hH ?_
    try simp only [Act.put, List.setIfInBounds_toArray, List.set_cons_zero, List.set_cons_succ]
    refine wpAnyH_take (i := 10) (oi := ⟨some 21, _, _, _, _, _⟩) (v := .pointer (some ⟨q, 0, none⟩)) rfl (by kernel_rfl) (by kernel_rfl) (by kernel_rfl) (fun _ _ _ h => h) (Or.inl ⟨by rfl, fun w hSw => by go_simp⟩) hH ?_
    try simp only [Act.put, List.setIfInBounds_toArray, List.set_cons_zero, List.set_cons_succ]
    refine wpAnyH_take (i := 11) (oi := ⟨some 22, _, _, _, _, _⟩) (v := .pointer (some ⟨q, 6, none⟩)) rfl (by kernel_rfl) (by kernel_rfl) (by kernel_rfl) (fun _ _ _ h => h) (Or.inl ⟨by rfl, fun w hSw => by go_simp⟩) hH ?_
    try simp only [Act.put, List.setIfInBounds_toArray, List.set_cons_zero, List.set_cons_succ]
    refine wpAnyH_take (i := 12) (oi := ⟨some 23, _, _, _, _, _⟩) (v := .int .i64 (L.last : Nat)) rfl (by kernel_rfl) (by kernel_rfl) (by kernel_rfl) (fun _ _ _ h => h) (Or.inl ⟨by rfl, fun w hSw => run_loadCellB _ _ rfl _ 6 rfl _ _ hSw.2 _ Tryz.underlying3 rfl _ (lC_g6 _ _ _)⟩) hH ?_
    try simp only [Act.put, List.setIfInBounds_toArray, List.set_cons_zero, List.set_cons_succ]
    refine wpAnyH_trio (i := 13) (k := 14) (n := 15) rfl rfl rfl (by kernel_rfl) (fun K hK9 => ?_) (fun K hK9 => ?_) (fun K hK9 => ?_)
    · refine wpList_alloc1 rfl _ rfl _ zPt rfl ?_
      intro wa hBwa h13
      have l13 := h13.lt
      have zwa := hBwa.size
      have hSwa := And.intro (hH.1.belowSize hBwa) (hH.2.belowSize hBwa)
      refine hK9 _ _ hSwa ?_
      clear hK9 K
      try simp only [Act.put]
      refine wpAnyH_duo (i := 14) (k := 15) rfl rfl (by kernel_rfl) (fun K hK9 => ?_) (fun K hK9 => ?_)
      · refine wpList_alloc1 rfl _ rfl _ zI rfl ?_
        intro wb hBwb h14
        replace h13 := h13.belowSize hBwb
        have l14 := h14.lt
        have zwb := hBwb.size
        have hSwb := And.intro (hSwa.1.belowSize hBwb) (hSwa.2.belowSize hBwb)
        refine hK9 _ _ hSwb ?_
        clear hK9 K
        try simp only [Act.put]
        refine wpAnyH_solo (i := 15) (o := ⟨some 7, _, _, _, _, _⟩) rfl (by kernel_rfl) (fun K hK9 => ?_)
        refine wpList_alloc1 rfl _ rfl _ zI rfl ?_
        intro wc hBwc h15
        replace h13 := h13.belowSize hBwc
        replace h14 := h14.belowSize hBwc
        have l15 := h15.lt
        have zwc := hBwc.size
        have hSwc := And.intro (hSwb.1.belowSize hBwc) (hSwb.2.belowSize hBwc)
        refine hK9 _ _ hSwc ?_
        clear hK9 K
        try simp only [Act.put]
        refine wpAnyH_solo (i := 16) (o := ⟨none, _, _, _, _, _⟩) rfl (by kernel_rfl) (fun K hK9 => ?_)
        refine wpList_storeCell rfl _ _ _ rfl (w2.drew.heap.size) 0 rfl (ptF 46 p) rfl _ _ h13 iPt rfl rfl (by decide) ?_
        intro wd hgwd hswd k13
        clear hswd
        have hSwd := And.intro (hSwc.1.grown hgwd (fun e => by have := Option.some.inj e; have := hbl2.lt; have := hdz; omega)) (hSwc.2.grown hgwd (fun e => by have := Option.some.inj e; have := hL2.lt; have := hdz; omega))
        replace h14 := h14.grown hgwd (fun e => by have := Option.some.inj e; omega)
        replace h15 := h15.grown hgwd (fun e => by have := Option.some.inj e; omega)
        refine hK9 _ _ hSwd ?_
        clear hK9 K
        try simp only [Act.put]
        refine wpAnyH_solo (i := 17) (o := ⟨none, _, _, _, _, _⟩) rfl (by kernel_rfl) (fun K hK9 => ?_)
        refine wpList_storeCell rfl _ _ _ rfl (wa.heap.size) 0 rfl (.int .i64 (L.segs : Nat)) rfl _ _ h14 iIntS rfl rfl (by decide) ?_
        intro we hgwe hswe k14
        clear hswe
        have hSwe := And.intro (hSwd.1.grown hgwe (fun e => by have := Option.some.inj e; have := hbl2.lt; have := hdz; omega)) (hSwd.2.grown hgwe (fun e => by have := Option.some.inj e; have := hL2.lt; have := hdz; omega))
        replace k13 := k13.grown hgwe (fun e => by have := Option.some.inj e; omega)
        replace h15 := h15.grown hgwe (fun e => by have := Option.some.inj e; omega)
        refine hK9 _ _ hSwe ?_
        clear hK9 K
        try simp only [Act.put]
        refine wpAnyH_solo (i := 18) (o := ⟨none, _, _, _, _, _⟩) rfl (by kernel_rfl) (fun K hK9 => ?_)
        refine wpList_storeCell rfl _ _ _ rfl (wb.heap.size) 0 rfl (.int .i64 (L.last : Nat)) rfl _ _ h15 iIntS rfl rfl (by decide) ?_
        intro wf hgwf hswf k15
        clear hswf
        have hSwf := And.intro (hSwe.1.grown hgwf (fun e => by have := Option.some.inj e; have := hbl2.lt; have := hdz; omega)) (hSwe.2.grown hgwf (fun e => by have := Option.some.inj e; have := hL2.lt; have := hdz; omega))
        replace k13 := k13.grown hgwf (fun e => by have := Option.some.inj e; omega)
        replace k14 := k14.grown hgwf (fun e => by have := Option.some.inj e; omega)
        refine hK9 _ _ hSwf ?_
        clear hK9 K
        try simp only [Act.put]
        refine wpAnyH_done (by kernel_rfl) ?_ _
        try simp only [Act.put]
        try go_simp
        go_wp2_with fail
        go_meet
        case rel => exact ⟨w2.drew.heap.size, wa.heap.size, wb.heap.size, rfl, rfl, rfl, ⟨k13, k14, k15, by omega, by omega, by omega, by omega⟩, below3 hdr2 hBwa hBwb hBwc hgwd hgwe hgwf (by omega) (by omega) (by omega)⟩
      · refine wpList_alloc1 rfl _ rfl _ zI rfl ?_
        intro wb hBwb h15
        replace h13 := h13.belowSize hBwb
        have l15 := h15.lt
        have zwb := hBwb.size
        have hSwb := And.intro (hSwa.1.belowSize hBwb) (hSwa.2.belowSize hBwb)
        refine hK9 _ _ hSwb ?_
        clear hK9 K
        try simp only [Act.put]
        refine wpAnyH_solo (i := 14) (o := ⟨some 6, _, _, _, _, _⟩) rfl (by kernel_rfl) (fun K hK9 => ?_)
        refine wpList_alloc1 rfl _ rfl _ zI rfl ?_
        intro wc hBwc h14
        replace h13 := h13.belowSize hBwc
        replace h15 := h15.belowSize hBwc
        have l14 := h14.lt
        have zwc := hBwc.size
        have hSwc := And.intro (hSwb.1.belowSize hBwc) (hSwb.2.belowSize hBwc)
        refine hK9 _ _ hSwc ?_
        clear hK9 K
        try simp only [Act.put]
        refine wpAnyH_solo (i := 16) (o := ⟨none, _, _, _, _, _⟩) rfl (by kernel_rfl) (fun K hK9 => ?_)
        refine wpList_storeCell rfl _ _ _ rfl (w2.drew.heap.size) 0 rfl (ptF 46 p) rfl _ _ h13 iPt rfl rfl (by decide) ?_
        intro wd hgwd hswd k13
        clear hswd
        have hSwd := And.intro (hSwc.1.grown hgwd (fun e => by have := Option.some.inj e; have := hbl2.lt; have := hdz; omega)) (hSwc.2.grown hgwd (fun e => by have := Option.some.inj e; have := hL2.lt; have := hdz; omega))
        replace h14 := h14.grown hgwd (fun e => by have := Option.some.inj e; omega)
        replace h15 := h15.grown hgwd (fun e => by have := Option.some.inj e; omega)
        refine hK9 _ _ hSwd ?_
        clear hK9 K
        try simp only [Act.put]
        refine wpAnyH_solo (i := 17) (o := ⟨none, _, _, _, _, _⟩) rfl (by kernel_rfl) (fun K hK9 => ?_)
        refine wpList_storeCell rfl _ _ _ rfl (wb.heap.size) 0 rfl (.int .i64 (L.segs : Nat)) rfl _ _ h14 iIntS rfl rfl (by decide) ?_
        intro we hgwe hswe k14
        clear hswe
        have hSwe := And.intro (hSwd.1.grown hgwe (fun e => by have := Option.some.inj e; have := hbl2.lt; have := hdz; omega)) (hSwd.2.grown hgwe (fun e => by have := Option.some.inj e; have := hL2.lt; have := hdz; omega))
        replace k13 := k13.grown hgwe (fun e => by have := Option.some.inj e; omega)
        replace h15 := h15.grown hgwe (fun e => by have := Option.some.inj e; omega)
        refine hK9 _ _ hSwe ?_
        clear hK9 K
        try simp only [Act.put]
        refine wpAnyH_solo (i := 18) (o := ⟨none, _, _, _, _, _⟩) rfl (by kernel_rfl) (fun K hK9 => ?_)
        refine wpList_storeCell rfl _ _ _ rfl (wa.heap.size) 0 rfl (.int .i64 (L.last : Nat)) rfl _ _ h15 iIntS rfl rfl (by decide) ?_
        intro wf hgwf hswf k15
        clear hswf
        have hSwf := And.intro (hSwe.1.grown hgwf (fun e => by have := Option.some.inj e; have := hbl2.lt; have := hdz; omega)) (hSwe.2.grown hgwf (fun e => by have := Option.some.inj e; have := hL2.lt; have := hdz; omega))
        replace k13 := k13.grown hgwf (fun e => by have := Option.some.inj e; omega)
        replace k14 := k14.grown hgwf (fun e => by have := Option.some.inj e; omega)
        refine hK9 _ _ hSwf ?_
        clear hK9 K
        try simp only [Act.put]
        refine wpAnyH_done (by kernel_rfl) ?_ _
        try simp only [Act.put]
        try go_simp
        go_wp2_with fail
        go_meet
        case rel => exact ⟨w2.drew.heap.size, wb.heap.size, wa.heap.size, rfl, rfl, rfl, ⟨k13, k14, k15, by omega, by omega, by omega, by omega⟩, below3 hdr2 hBwa hBwb hBwc hgwd hgwe hgwf (by omega) (by omega) (by omega)⟩
    · refine wpList_alloc1 rfl _ rfl _ zI rfl ?_
      intro wa hBwa h14
      have l14 := h14.lt
      have zwa := hBwa.size
      have hSwa := And.intro (hH.1.belowSize hBwa) (hH.2.belowSize hBwa)
      refine hK9 _ _ hSwa ?_
      clear hK9 K
      try simp only [Act.put]
      refine wpAnyH_duo (i := 13) (k := 15) rfl rfl (by kernel_rfl) (fun K hK9 => ?_) (fun K hK9 => ?_)
      · refine wpList_alloc1 rfl _ rfl _ zPt rfl ?_
        intro wb hBwb h13
        replace h14 := h14.belowSize hBwb
        have l13 := h13.lt
        have zwb := hBwb.size
        have hSwb := And.intro (hSwa.1.belowSize hBwb) (hSwa.2.belowSize hBwb)
        refine hK9 _ _ hSwb ?_
        clear hK9 K
        try simp only [Act.put]
        refine wpAnyH_solo (i := 15) (o := ⟨some 7, _, _, _, _, _⟩) rfl (by kernel_rfl) (fun K hK9 => ?_)
        refine wpList_alloc1 rfl _ rfl _ zI rfl ?_
        intro wc hBwc h15
        replace h14 := h14.belowSize hBwc
        replace h13 := h13.belowSize hBwc
        have l15 := h15.lt
        have zwc := hBwc.size
        have hSwc := And.intro (hSwb.1.belowSize hBwc) (hSwb.2.belowSize hBwc)
        refine hK9 _ _ hSwc ?_
        clear hK9 K
        try simp only [Act.put]
        refine wpAnyH_solo (i := 16) (o := ⟨none, _, _, _, _, _⟩) rfl (by kernel_rfl) (fun K hK9 => ?_)
        refine wpList_storeCell rfl _ _ _ rfl (wa.heap.size) 0 rfl (ptF 46 p) rfl _ _ h13 iPt rfl rfl (by decide) ?_
        intro wd hgwd hswd k13
        clear hswd
        have hSwd := And.intro (hSwc.1.grown hgwd (fun e => by have := Option.some.inj e; have := hbl2.lt; have := hdz; omega)) (hSwc.2.grown hgwd (fun e => by have := Option.some.inj e; have := hL2.lt; have := hdz; omega))
        replace h14 := h14.grown hgwd (fun e => by have := Option.some.inj e; omega)
        replace h15 := h15.grown hgwd (fun e => by have := Option.some.inj e; omega)
        refine hK9 _ _ hSwd ?_
        clear hK9 K
        try simp only [Act.put]
        refine wpAnyH_solo (i := 17) (o := ⟨none, _, _, _, _, _⟩) rfl (by kernel_rfl) (fun K hK9 => ?_)
        refine wpList_storeCell rfl _ _ _ rfl (w2.drew.heap.size) 0 rfl (.int .i64 (L.segs : Nat)) rfl _ _ h14 iIntS rfl rfl (by decide) ?_
        intro we hgwe hswe k14
        clear hswe
        have hSwe := And.intro (hSwd.1.grown hgwe (fun e => by have := Option.some.inj e; have := hbl2.lt; have := hdz; omega)) (hSwd.2.grown hgwe (fun e => by have := Option.some.inj e; have := hL2.lt; have := hdz; omega))
        replace k13 := k13.grown hgwe (fun e => by have := Option.some.inj e; omega)
        replace h15 := h15.grown hgwe (fun e => by have := Option.some.inj e; omega)
        refine hK9 _ _ hSwe ?_
        clear hK9 K
        try simp only [Act.put]
        refine wpAnyH_solo (i := 18) (o := ⟨none, _, _, _, _, _⟩) rfl (by kernel_rfl) (fun K hK9 => ?_)
        refine wpList_storeCell rfl _ _ _ rfl (wb.heap.size) 0 rfl (.int .i64 (L.last : Nat)) rfl _ _ h15 iIntS rfl rfl (by decide) ?_
        intro wf hgwf hswf k15
        clear hswf
        have hSwf := And.intro (hSwe.1.grown hgwf (fun e => by have := Option.some.inj e; have := hbl2.lt; have := hdz; omega)) (hSwe.2.grown hgwf (fun e => by have := Option.some.inj e; have := hL2.lt; have := hdz; omega))
        replace k13 := k13.grown hgwf (fun e => by have := Option.some.inj e; omega)
        replace k14 := k14.grown hgwf (fun e => by have := Option.some.inj e; omega)
        refine hK9 _ _ hSwf ?_
        clear hK9 K
        try simp only [Act.put]
        refine wpAnyH_done (by kernel_rfl) ?_ _
        try simp only [Act.put]
        try go_simp
        go_wp2_with fail
        go_meet
        case rel => exact ⟨wa.heap.size, w2.drew.heap.size, wb.heap.size, rfl, rfl, rfl, ⟨k13, k14, k15, by omega, by omega, by omega, by omega⟩, below3 hdr2 hBwa hBwb hBwc hgwd hgwe hgwf (by omega) (by omega) (by omega)⟩
      · refine wpList_alloc1 rfl _ rfl _ zI rfl ?_
        intro wb hBwb h15
        replace h14 := h14.belowSize hBwb
        have l15 := h15.lt
        have zwb := hBwb.size
        have hSwb := And.intro (hSwa.1.belowSize hBwb) (hSwa.2.belowSize hBwb)
        refine hK9 _ _ hSwb ?_
        clear hK9 K
        try simp only [Act.put]
        refine wpAnyH_solo (i := 13) (o := ⟨some 5, _, _, _, _, _⟩) rfl (by kernel_rfl) (fun K hK9 => ?_)
        refine wpList_alloc1 rfl _ rfl _ zPt rfl ?_
        intro wc hBwc h13
        replace h14 := h14.belowSize hBwc
        replace h15 := h15.belowSize hBwc
        have l13 := h13.lt
        have zwc := hBwc.size
        have hSwc := And.intro (hSwb.1.belowSize hBwc) (hSwb.2.belowSize hBwc)
        refine hK9 _ _ hSwc ?_
        clear hK9 K
        try simp only [Act.put]
        refine wpAnyH_solo (i := 16) (o := ⟨none, _, _, _, _, _⟩) rfl (by kernel_rfl) (fun K hK9 => ?_)
        refine wpList_storeCell rfl _ _ _ rfl (wb.heap.size) 0 rfl (ptF 46 p) rfl _ _ h13 iPt rfl rfl (by decide) ?_
        intro wd hgwd hswd k13
        clear hswd
        have hSwd := And.intro (hSwc.1.grown hgwd (fun e => by have := Option.some.inj e; have := hbl2.lt; have := hdz; omega)) (hSwc.2.grown hgwd (fun e => by have := Option.some.inj e; have := hL2.lt; have := hdz; omega))
        replace h14 := h14.grown hgwd (fun e => by have := Option.some.inj e; omega)
        replace h15 := h15.grown hgwd (fun e => by have := Option.some.inj e; omega)
        refine hK9 _ _ hSwd ?_
        clear hK9 K
        try simp only [Act.put]
        refine wpAnyH_solo (i := 17) (o := ⟨none, _, _, _, _, _⟩) rfl (by kernel_rfl) (fun K hK9 => ?_)
        refine wpList_storeCell rfl _ _ _ rfl (w2.drew.heap.size) 0 rfl (.int .i64 (L.segs : Nat)) rfl _ _ h14 iIntS rfl rfl (by decide) ?_
        intro we hgwe hswe k14
        clear hswe
        have hSwe := And.intro (hSwd.1.grown hgwe (fun e => by have := Option.some.inj e; have := hbl2.lt; have := hdz; omega)) (hSwd.2.grown hgwe (fun e => by have := Option.some.inj e; have := hL2.lt; have := hdz; omega))
        replace k13 := k13.grown hgwe (fun e => by have := Option.some.inj e; omega)
        replace h15 := h15.grown hgwe (fun e => by have := Option.some.inj e; omega)
        refine hK9 _ _ hSwe ?_
        clear hK9 K
        try simp only [Act.put]
        refine wpAnyH_solo (i := 18) (o := ⟨none, _, _, _, _, _⟩) rfl (by kernel_rfl) (fun K hK9 => ?_)
        refine wpList_storeCell rfl _ _ _ rfl (wa.heap.size) 0 rfl (.int .i64 (L.last : Nat)) rfl _ _ h15 iIntS rfl rfl (by decide) ?_
        intro wf hgwf hswf k15
        clear hswf
        have hSwf := And.intro (hSwe.1.grown hgwf (fun e => by have := Option.some.inj e; have := hbl2.lt; have := hdz; omega)) (hSwe.2.grown hgwf (fun e => by have := Option.some.inj e; have := hL2.lt; have := hdz; omega))
        replace k13 := k13.grown hgwf (fun e => by have := Option.some.inj e; omega)
        replace k14 := k14.grown hgwf (fun e => by have := Option.some.inj e; omega)
        refine hK9 _ _ hSwf ?_
        clear hK9 K
        try simp only [Act.put]
        refine wpAnyH_done (by kernel_rfl) ?_ _
        try simp only [Act.put]
        try go_simp
        go_wp2_with fail
        go_meet
        case rel => exact ⟨wb.heap.size, w2.drew.heap.size, wa.heap.size, rfl, rfl, rfl, ⟨k13, k14, k15, by omega, by omega, by omega, by omega⟩, below3 hdr2 hBwa hBwb hBwc hgwd hgwe hgwf (by omega) (by omega) (by omega)⟩
    · refine wpList_alloc1 rfl _ rfl _ zI rfl ?_
      intro wa hBwa h15
      have l15 := h15.lt
      have zwa := hBwa.size
      have hSwa := And.intro (hH.1.belowSize hBwa) (hH.2.belowSize hBwa)
      refine hK9 _ _ hSwa ?_
      clear hK9 K
      try simp only [Act.put]
      refine wpAnyH_duo (i := 13) (k := 14) rfl rfl (by kernel_rfl) (fun K hK9 => ?_) (fun K hK9 => ?_)
      · refine wpList_alloc1 rfl _ rfl _ zPt rfl ?_
        intro wb hBwb h13
        replace h15 := h15.belowSize hBwb
        have l13 := h13.lt
        have zwb := hBwb.size
        have hSwb := And.intro (hSwa.1.belowSize hBwb) (hSwa.2.belowSize hBwb)
        refine hK9 _ _ hSwb ?_
        clear hK9 K
        try simp only [Act.put]
        refine wpAnyH_solo (i := 14) (o := ⟨some 6, _, _, _, _, _⟩) rfl (by kernel_rfl) (fun K hK9 => ?_)
        refine wpList_alloc1 rfl _ rfl _ zI rfl ?_
        intro wc hBwc h14
        replace h15 := h15.belowSize hBwc
        replace h13 := h13.belowSize hBwc
        have l14 := h14.lt
        have zwc := hBwc.size
        have hSwc := And.intro (hSwb.1.belowSize hBwc) (hSwb.2.belowSize hBwc)
        refine hK9 _ _ hSwc ?_
        clear hK9 K
        try simp only [Act.put]
        refine wpAnyH_solo (i := 16) (o := ⟨none, _, _, _, _, _⟩) rfl (by kernel_rfl) (fun K hK9 => ?_)
        refine wpList_storeCell rfl _ _ _ rfl (wa.heap.size) 0 rfl (ptF 46 p) rfl _ _ h13 iPt rfl rfl (by decide) ?_
        intro wd hgwd hswd k13
        clear hswd
        have hSwd := And.intro (hSwc.1.grown hgwd (fun e => by have := Option.some.inj e; have := hbl2.lt; have := hdz; omega)) (hSwc.2.grown hgwd (fun e => by have := Option.some.inj e; have := hL2.lt; have := hdz; omega))
        replace h14 := h14.grown hgwd (fun e => by have := Option.some.inj e; omega)
        replace h15 := h15.grown hgwd (fun e => by have := Option.some.inj e; omega)
        refine hK9 _ _ hSwd ?_
        clear hK9 K
        try simp only [Act.put]
        refine wpAnyH_solo (i := 17) (o := ⟨none, _, _, _, _, _⟩) rfl (by kernel_rfl) (fun K hK9 => ?_)
        refine wpList_storeCell rfl _ _ _ rfl (wb.heap.size) 0 rfl (.int .i64 (L.segs : Nat)) rfl _ _ h14 iIntS rfl rfl (by decide) ?_
        intro we hgwe hswe k14
        clear hswe
        have hSwe := And.intro (hSwd.1.grown hgwe (fun e => by have := Option.some.inj e; have := hbl2.lt; have := hdz; omega)) (hSwd.2.grown hgwe (fun e => by have := Option.some.inj e; have := hL2.lt; have := hdz; omega))
        replace k13 := k13.grown hgwe (fun e => by have := Option.some.inj e; omega)
        replace h15 := h15.grown hgwe (fun e => by have := Option.some.inj e; omega)
        refine hK9 _ _ hSwe ?_
        clear hK9 K
        try simp only [Act.put]
        refine wpAnyH_solo (i := 18) (o := ⟨none, _, _, _, _, _⟩) rfl (by kernel_rfl) (fun K hK9 => ?_)
        refine wpList_storeCell rfl _ _ _ rfl (w2.drew.heap.size) 0 rfl (.int .i64 (L.last : Nat)) rfl _ _ h15 iIntS rfl rfl (by decide) ?_
        intro wf hgwf hswf k15
        clear hswf
        have hSwf := And.intro (hSwe.1.grown hgwf (fun e => by have := Option.some.inj e; have := hbl2.lt; have := hdz; omega)) (hSwe.2.grown hgwf (fun e => by have := Option.some.inj e; have := hL2.lt; have := hdz; omega))
        replace k13 := k13.grown hgwf (fun e => by have := Option.some.inj e; omega)
        replace k14 := k14.grown hgwf (fun e => by have := Option.some.inj e; omega)
        refine hK9 _ _ hSwf ?_
        clear hK9 K
        try simp only [Act.put]
        refine wpAnyH_done (by kernel_rfl) ?_ _
        try simp only [Act.put]
        try go_simp
        go_wp2_with fail
        go_meet
        case rel => exact ⟨wa.heap.size, wb.heap.size, w2.drew.heap.size, rfl, rfl, rfl, ⟨k13, k14, k15, by omega, by omega, by omega, by omega⟩, below3 hdr2 hBwa hBwb hBwc hgwd hgwe hgwf (by omega) (by omega) (by omega)⟩
      · refine wpList_alloc1 rfl _ rfl _ zI rfl ?_
        intro wb hBwb h14
        replace h15 := h15.belowSize hBwb
        have l14 := h14.lt
        have zwb := hBwb.size
        have hSwb := And.intro (hSwa.1.belowSize hBwb) (hSwa.2.belowSize hBwb)
        refine hK9 _ _ hSwb ?_
        clear hK9 K
        try simp only [Act.put]
        refine wpAnyH_solo (i := 13) (o := ⟨some 5, _, _, _, _, _⟩) rfl (by kernel_rfl) (fun K hK9 => ?_)
        refine wpList_alloc1 rfl _ rfl _ zPt rfl ?_
        intro wc hBwc h13
        replace h15 := h15.belowSize hBwc
        replace h14 := h14.belowSize hBwc
        have l13 := h13.lt
        have zwc := hBwc.size
        have hSwc := And.intro (hSwb.1.belowSize hBwc) (hSwb.2.belowSize hBwc)
        refine hK9 _ _ hSwc ?_
        clear hK9 K
        try simp only [Act.put]
        refine wpAnyH_solo (i := 16) (o := ⟨none, _, _, _, _, _⟩) rfl (by kernel_rfl) (fun K hK9 => ?_)
        refine wpList_storeCell rfl _ _ _ rfl (wb.heap.size) 0 rfl (ptF 46 p) rfl _ _ h13 iPt rfl rfl (by decide) ?_
        intro wd hgwd hswd k13
        clear hswd
        have hSwd := And.intro (hSwc.1.grown hgwd (fun e => by have := Option.some.inj e; have := hbl2.lt; have := hdz; omega)) (hSwc.2.grown hgwd (fun e => by have := Option.some.inj e; have := hL2.lt; have := hdz; omega))
        replace h14 := h14.grown hgwd (fun e => by have := Option.some.inj e; omega)
        replace h15 := h15.grown hgwd (fun e => by have := Option.some.inj e; omega)
        refine hK9 _ _ hSwd ?_
        clear hK9 K
        try simp only [Act.put]
        refine wpAnyH_solo (i := 17) (o := ⟨none, _, _, _, _, _⟩) rfl (by kernel_rfl) (fun K hK9 => ?_)
        refine wpList_storeCell rfl _ _ _ rfl (wa.heap.size) 0 rfl (.int .i64 (L.segs : Nat)) rfl _ _ h14 iIntS rfl rfl (by decide) ?_
        intro we hgwe hswe k14
        clear hswe
        have hSwe := And.intro (hSwd.1.grown hgwe (fun e => by have := Option.some.inj e; have := hbl2.lt; have := hdz; omega)) (hSwd.2.grown hgwe (fun e => by have := Option.some.inj e; have := hL2.lt; have := hdz; omega))
        replace k13 := k13.grown hgwe (fun e => by have := Option.some.inj e; omega)
        replace h15 := h15.grown hgwe (fun e => by have := Option.some.inj e; omega)
        refine hK9 _ _ hSwe ?_
        clear hK9 K
        try simp only [Act.put]
        refine wpAnyH_solo (i := 18) (o := ⟨none, _, _, _, _, _⟩) rfl (by kernel_rfl) (fun K hK9 => ?_)
        refine wpList_storeCell rfl _ _ _ rfl (w2.drew.heap.size) 0 rfl (.int .i64 (L.last : Nat)) rfl _ _ h15 iIntS rfl rfl (by decide) ?_
        intro wf hgwf hswf k15
        clear hswf
        have hSwf := And.intro (hSwe.1.grown hgwf (fun e => by have := Option.some.inj e; have := hbl2.lt; have := hdz; omega)) (hSwe.2.grown hgwf (fun e => by have := Option.some.inj e; have := hL2.lt; have := hdz; omega))
        replace k13 := k13.grown hgwf (fun e => by have := Option.some.inj e; omega)
        replace k14 := k14.grown hgwf (fun e => by have := Option.some.inj e; omega)
        refine hK9 _ _ hSwf ?_
        clear hK9 K
        try simp only [Act.put]
        refine wpAnyH_done (by kernel_rfl) ?_ _
        try simp only [Act.put]
        try go_simp
        go_wp2_with fail
        go_meet
        case rel => exact ⟨wb.heap.size, wa.heap.size, w2.drew.heap.size, rfl, rfl, rfl, ⟨k13, k14, k15, by omega, by omega, by omega, by omega⟩, below3 hdr2 hBwa hBwb hBwc hgwd hgwe hgwf (by omega) (by omega) (by omega)⟩
  case rest =>
    obtain ⟨b5, b6, b7, rfl, rfl, rfl, hX, hBc⟩ := hcut
    have hBx := hB2.trans (hBc.mono hB2.size)
    have hblx := hbl2.belowSize hBc
    have hbrx := hbr2.belowSize hBc
    have hLx := hL2.belowSize hBc
    have c6 := box_cell hX.x6
    have c7 := box_cell hX.x7
    have cl := box_cell hblx
    have c1 := log_c1 hLx
    go_upto_region 4 with fail
    go_cut [33] from 24 to 32 (fun s33 wx => s33 = .bool ac ∧ wx = wc.drew)
    case first =>
      by_cases h0 : L.segs = 0
      · have e1 : ac = true := by rw [eC.out, h0]; rfl
        subst e1
        have hz : ((L.segs : Int) == 0) = true := by rw [h0]; rfl
        clear eC eK eJ
        go_region
        go_wp2_with fail
        go_meet
        case rel => exact ⟨rfl, rfl⟩
      · have hz : ((L.segs : Int) == 0) = false := by simpa using h0
        have hz2 : ¬ (L.segs : Int) = 0 := by omega
        by_cases h1 : L.most ≤ (L.last : Int)
        · have e1 : ac = true := by rw [eC.out, decide_eq_true h1]; simp
          subst e1
          clear eC eK eJ
          go_region
          go_wp2_with fail
          go_meet
          case rel => exact ⟨rfl, rfl⟩
        · have e1 : ac = false := by rw [eC.out, decide_eq_false h1, decide_eq_false h0]; rfl
          subst e1
          clear eC eK eJ
          go_region
          go_wp2_with fail
          go_meet
          case rel => exact ⟨rfl, rfl⟩
    case rest =>
      obtain ⟨rfl, rfl⟩ := hcut
      cases ac with
      | false =>
        have ek : ak = L.segs := eK.out
        have ej : aj = L.last := eJ.out
        subst ek
        subst ej
        clear eK eJ eC
        rw [if_neg (by decide)] at HT
        have hd := Below.drewS wc
        have hBt := hBx.trans (hd.mono hBx.size)
        have hBd := hd
        have hbld := hblx.belowSize hd
        have hLd := hLx.belowSize hd
        have hXd := hX.below hd
        clear c6 c7 cl c1
        generalize wc.drew = wt at *
        have hbrd := hbrx.belowSize hBd
        have HT2 := fun w8 b8 g hB => HT w8 w.heap.size w1.heap.size b5 b6 b7 b8 g hB
        clear HT
        go_wp2_with (first
          | (go_at_call 39; refine (HF _ hBt).mono ?_; rintro e w6 ⟨rfl, hw6⟩)
          | (go_at_call 37; refine (HT2 w9 w6.heap.size w8.heap.size hB9 hbl9 hbr9 hX9.x5 hX9.x6 hX9.x7 (hb8.belowSize hw9) (sep8 hrl hlo8) hb9).mono ?_; rintro e wz ⟨rfl, bz, rbz, hWz, hKz⟩)
          | (with_reducible refine at_list ?_; first
            | (refine wpList_loadCell (op := ⟨some 41, _, _, _, _, _⟩) rfl _ _ rfl w1.heap.size 0 rfl _ _ hbrd _ Tryz.underlying30 rfl _ rfl ?_)
            | (refine wpList_alloc1 (op := ⟨some 8, _, _, _, _, _⟩) rfl _ rfl _ zStr1 rfl ?_; intro w7 hw7 hb7)
            | (refine wpList_storeCell (op := ⟨none, .store 9 (.tmp 8) (.tmp 42), _, _, _, _⟩) rfl _ _ _ rfl w6.heap.size 0 rfl (.string ⟨fr.toArray⟩) rfl _ _ hb7 iStrS rfl rfl (by decide) ?_; intro w8 hg8 hs8 hb8; clear hs8; have hE8 := step8 hw6 hw7 hg8; have hbl8 := hbld.belowSize hE8; have hL8 := hLd.belowSize hE8; have hX8 := hXd.below hE8; have hbr8 := hbrd.belowSize hE8; have hB8 := hBt.trans (hE8.mono hBt.size))
            | (refine wpList_run (op := ⟨some 43, _, _, _, _, _⟩) rfl _ _ (mk_a1 _ _ _ _ rfl rfl rfl rfl rfl) ?_)
            | (refine wpList_loadCell (op := ⟨some 44, _, _, _, _, _⟩) rfl _ _ rfl w.heap.size 0 rfl _ _ hbl8 _ Tryz.underlying25 rfl _ rfl ?_)
            | (refine wpList_loadCell (op := ⟨some 47, _, _, _, _, _⟩) rfl _ _ rfl q 0 rfl _ _ hL8 _ Tryz.underlying23 rfl _ (lC_g0 _ _ _) ?_)
            | (refine wpList_run (op := ⟨some 48, _, _, _, _, _⟩) rfl _ _ (mk_sy _ rfl rfl) ?_)
            | (refine wpList_run (op := ⟨some 49, _, _, _, _, _⟩) rfl _ _ (mk_a2 _ _ _ _ _ rfl rfl rfl rfl rfl rfl) ?_)
            | (refine wpList_fsl3 (op := ⟨some 50, _, _, _, _, _⟩) rfl _ _ _ rfl (a1F b5 w.heap.size b6 w6.heap.size) (syF p) (a2F w.heap.size w1.heap.size b6 b7 w6.heap.size) (by with_unfolding_all exact rfl) (by with_unfolding_all exact rfl) (by with_unfolding_all exact rfl) (fcl_a1 _ _ _ _) (fcl_sy _) (fcl_a2 _ _ _ _ _) ?_; intro w9 hw9 hb9; have hbl9 := hbl8.belowSize hw9; have hbr9 := hbr8.belowSize hw9; have hX9 := hX8.below hw9; have hB9 := hB8.trans (hw9.mono hB8.size); have hlo8 := Nat.le_trans hBt.size hw6.size)))
        go_ret
        exact ⟨rfl, bz, rbz, (Wch.below hB9).trans hWz, hKz⟩
      | true =>
        have ek : ak = L.segs + 1 := eK.out
        have ej : aj = 0 := eJ.out
        subst ek
        subst ej
        clear eK eJ eC
        rw [if_pos rfl] at HT
        have hd := Below.drewS wc
        have hdd : Below wc.heap.size wc wc.drew.drew := (Below.refl _ _).drew.drew
        have hBdd : Below w2.heap.size w2 wc.drew.drew := hBc.trans (hdd.mono hBc.size)
        have hw1' : IntKind.i64.wrap ((L.segs : Int) + 1) = ((L.segs + 1 : Nat) : Int) := by rw [IntKind.wrap_i64]; omega
        clear c6 c7 cl c1
        have q5 := hX.l5
        have q6 := hX.l6
        have q7 := hX.l7
        go_upto_region 5 with fail
        go_cut [5] from 34 to 40 (fun s5 wx => s5 = .pointer (some ⟨b5, 0, none⟩) ∧ Tri wx w2.heap.size b5 b6 b7 25 p (L.segs + 1) 0 ∧ Below w2.heap.size w2 wx)
        case first =>
          refine wp_region_held_drew (S := fun w' : World => Blk w' w.heap.size #[.pointer (some ⟨q, 0, none⟩)] 25 ∧ Blk w' q (lC p L rv) 64) (by kernel_rfl) (⟨hblx.drew.drew, hLx.drew.drew⟩) (fun hH => ?_)
          try go_frame
          refine wpAnyH_take (i := 0) (oi := ⟨some 34, _, _, _, _, _⟩) (v := .pointer (some ⟨q, 0, none⟩)) rfl (by kernel_rfl) (by kernel_rfl) (by kernel_rfl) (fun _ _ _ h => h) (Or.inl ⟨by rfl, fun w hSw => run_loadCellB _ _ rfl _ 0 rfl _ _ hSw.1 _ Tryz.underlying25 rfl _ (rfl)⟩) hH ?_
          try simp only [Act.put, List.setIfInBounds_toArray, List.set_cons_zero, List.set_cons_succ]
          refine wpAnyH_take (i := 1) (oi := ⟨some 35, _, _, _, _, _⟩) (v := .pointer (some ⟨q, 0, none⟩)) rfl (by kernel_rfl) (by kernel_rfl) (by kernel_rfl) (fun _ _ _ h => h) (Or.inl ⟨by rfl, fun w hSw => by go_simp⟩) hH ?_
          try simp only [Act.put, List.setIfInBounds_toArray, List.set_cons_zero, List.set_cons_succ]
          refine wpAnyH_take (i := 2) (oi := ⟨some 36, _, _, _, _, _⟩) (v := .pointer (some ⟨q, 0, none⟩)) rfl (by kernel_rfl) (by kernel_rfl) (by kernel_rfl) (fun _ _ _ h => h) (Or.inl ⟨by rfl, fun w hSw => by go_simp⟩) hH ?_
          try simp only [Act.put, List.setIfInBounds_toArray, List.set_cons_zero, List.set_cons_succ]
          refine wpAnyH_take (i := 3) (oi := ⟨some 37, _, _, _, _, _⟩) (v := .pointer (some ⟨p, 0, none⟩)) rfl (by kernel_rfl) (by kernel_rfl) (by kernel_rfl) (fun _ _ _ h => h) (Or.inl ⟨by rfl, fun w hSw => run_loadCellB _ _ rfl _ 0 rfl _ _ hSw.2 _ Tryz.underlying23 rfl _ (lC_g0 _ _ _)⟩) hH ?_
          try simp only [Act.put, List.setIfInBounds_toArray, List.set_cons_zero, List.set_cons_succ]
          refine wpAnyH_take (i := 4) (oi := ⟨some 38, _, _, _, _, _⟩) (v := ptF 25 p) rfl (by kernel_rfl) (by kernel_rfl) (by kernel_rfl) (fun _ _ _ h => h) (Or.inl ⟨by rfl, fun w hSw => mk_pt _ _ rfl rfl⟩) hH ?_
          try simp only [Act.put, List.setIfInBounds_toArray, List.set_cons_zero, List.set_cons_succ]
          refine wpAnyH_duo (i := 5) (k := 7) rfl rfl (by kernel_rfl) (fun K hK9 => ?_) (fun K hK9 => ?_)
          · refine wpList_loadCell rfl _ _ rfl b6 0 rfl _ _ hX.x6.drew.drew _ Tryz.underlying3 rfl _ rfl ?_
            refine hK9 _ _ hH ?_
            clear hK9 K
            try simp only [Act.put]
            refine wpAnyH_take (i := 6) (oi := ⟨some 40, _, _, _, _, _⟩) (v := .int .i64 ((L.segs + 1 : Nat) : Int)) rfl (by kernel_rfl) (by kernel_rfl) (by kernel_rfl) (fun _ _ _ h => h) (Or.inl ⟨by rfl, fun w hSw => by go_simp⟩) hH ?_
            try simp only [Act.put, List.setIfInBounds_toArray]
            refine wpAnyH_solo (i := 7) (o := ⟨none, _, _, _, _, _⟩) rfl (by kernel_rfl) (fun K hK9 => ?_)
            refine wpList_storeCell rfl _ _ _ rfl b5 0 rfl (ptF 25 p) rfl _ _ hX.x5.drew.drew iPt rfl rfl Nat.zero_lt_one ?_
            intro wx hgwx hswx k5
            clear hswx
            have hSwx := And.intro (hH.1.grown hgwx (fun e => by have := Option.some.inj e; have := hbl2.lt; omega)) (hH.2.grown hgwx (fun e => by have := Option.some.inj e; have := hL2.lt; omega))
            have y6 := hX.x6.drew.drew.grown hgwx (fun e => kind_ne hX.x6.out hX.x5.out (by decide) (Option.some.inj e))
            have y7x := hX.x7.drew.drew.grown hgwx (fun e => kind_ne hX.x7.out hX.x5.out (by decide) (Option.some.inj e))
            refine hK9 _ _ hSwx ?_
            clear hK9 K
            try simp only [Act.put]
            refine wpAnyH_solo (i := 8) (o := ⟨none, _, _, _, _, _⟩) rfl (by kernel_rfl) (fun K hK9 => ?_)
            refine wpList_storeCell rfl _ _ _ rfl b6 0 rfl (.int .i64 ((L.segs + 1 : Nat) : Int)) rfl _ _ y6 iIntS rfl rfl Nat.zero_lt_one ?_
            intro wy hgwy hswy k6
            clear hswy
            have hSwy := And.intro (hSwx.1.grown hgwy (fun e => by have := Option.some.inj e; have := hbl2.lt; omega)) (hSwx.2.grown hgwy (fun e => by have := Option.some.inj e; have := hL2.lt; omega))
            have k5y := k5.grown hgwy (fun e => kind_ne k5.out y6.out (by decide) (Option.some.inj e))
            have y7 := y7x.grown hgwy (fun e => hX.n67 (Option.some.inj e).symm)
            refine hK9 _ _ hSwy ?_
            clear hK9 K
            try simp only [Act.put]
            refine wpAnyH_solo (i := 9) (o := ⟨none, _, _, _, _, _⟩) rfl (by kernel_rfl) (fun K hK9 => ?_)
            refine wpList_storeCell rfl _ _ _ rfl b7 0 rfl (.int .i64 ((0 : Nat) : Int)) rfl _ _ y7 iIntS rfl rfl Nat.zero_lt_one ?_
            intro wz hgwz hswz k7
            clear hswz
            have hSwz := And.intro (hSwy.1.grown hgwz (fun e => by have := Option.some.inj e; have := hbl2.lt; omega)) (hSwy.2.grown hgwz (fun e => by have := Option.some.inj e; have := hL2.lt; omega))
            have k5z := k5y.grown hgwz (fun e => kind_ne k5y.out y7.out (by decide) (Option.some.inj e))
            have k6z := k6.grown hgwz (fun e => hX.n67 (Option.some.inj e))
            refine hK9 _ _ hSwz ?_
            clear hK9 K
            try simp only [Act.put]
            refine wpAnyH_done (by kernel_rfl) ?_ _
            try simp only [Act.put]
            try go_simp
            go_wp2_with fail
            go_meet
            case rel => exact ⟨rfl, ⟨k5z, k6z, k7, hX.n67, hX.l5, hX.l6, hX.l7⟩, below4 hBdd hgwx hgwy hgwz hX.l5 hX.l6 hX.l7⟩
          · refine wpList_storeCell rfl _ _ _ rfl b5 0 rfl (ptF 25 p) rfl _ _ hX.x5.drew.drew iPt rfl rfl Nat.zero_lt_one ?_
            intro wx hgwx hswx k5
            clear hswx
            have hSwx := And.intro (hH.1.grown hgwx (fun e => by have := Option.some.inj e; have := hbl2.lt; omega)) (hH.2.grown hgwx (fun e => by have := Option.some.inj e; have := hL2.lt; omega))
            have y6 := hX.x6.drew.drew.grown hgwx (fun e => kind_ne hX.x6.out hX.x5.out (by decide) (Option.some.inj e))
            have y7x := hX.x7.drew.drew.grown hgwx (fun e => kind_ne hX.x7.out hX.x5.out (by decide) (Option.some.inj e))
            refine hK9 _ _ hSwx ?_
            clear hK9 K
            try simp only [Act.put]
            refine wpAnyH_solo (i := 5) (o := ⟨some 39, _, _, _, _, _⟩) rfl (by kernel_rfl) (fun K hK9 => ?_)
            refine wpList_loadCell rfl _ _ rfl b6 0 rfl _ _ y6 _ Tryz.underlying3 rfl _ rfl ?_
            refine hK9 _ _ hSwx ?_
            clear hK9 K
            try simp only [Act.put]
            refine wpAnyH_solo (i := 6) (o := ⟨some 40, _, _, _, _, _⟩) rfl (by kernel_rfl) (fun K hK9 => ?_)
            refine wpList_pure rfl (.int .i64 ((L.segs + 1 : Nat) : Int)) (by go_simp) ?_
            refine hK9 _ _ hSwx ?_
            clear hK9 K
            try simp only [Act.put]
            refine wpAnyH_solo (i := 8) (o := ⟨none, _, _, _, _, _⟩) rfl (by kernel_rfl) (fun K hK9 => ?_)
            refine wpList_storeCell rfl _ _ _ rfl b6 0 rfl (.int .i64 ((L.segs + 1 : Nat) : Int)) rfl _ _ y6 iIntS rfl rfl Nat.zero_lt_one ?_
            intro wy hgwy hswy k6
            clear hswy
            have hSwy := And.intro (hSwx.1.grown hgwy (fun e => by have := Option.some.inj e; have := hbl2.lt; omega)) (hSwx.2.grown hgwy (fun e => by have := Option.some.inj e; have := hL2.lt; omega))
            have k5y := k5.grown hgwy (fun e => kind_ne k5.out y6.out (by decide) (Option.some.inj e))
            have y7 := y7x.grown hgwy (fun e => hX.n67 (Option.some.inj e).symm)
            refine hK9 _ _ hSwy ?_
            clear hK9 K
            try simp only [Act.put]
            refine wpAnyH_solo (i := 9) (o := ⟨none, _, _, _, _, _⟩) rfl (by kernel_rfl) (fun K hK9 => ?_)
            refine wpList_storeCell rfl _ _ _ rfl b7 0 rfl (.int .i64 ((0 : Nat) : Int)) rfl _ _ y7 iIntS rfl rfl Nat.zero_lt_one ?_
            intro wz hgwz hswz k7
            clear hswz
            have hSwz := And.intro (hSwy.1.grown hgwz (fun e => by have := Option.some.inj e; have := hbl2.lt; omega)) (hSwy.2.grown hgwz (fun e => by have := Option.some.inj e; have := hL2.lt; omega))
            have k5z := k5y.grown hgwz (fun e => kind_ne k5y.out y7.out (by decide) (Option.some.inj e))
            have k6z := k6.grown hgwz (fun e => hX.n67 (Option.some.inj e))
            refine hK9 _ _ hSwz ?_
            clear hK9 K
            try simp only [Act.put]
            refine wpAnyH_done (by kernel_rfl) ?_ _
            try simp only [Act.put]
            try go_simp
            go_wp2_with fail
            go_meet
            case rel => exact ⟨rfl, ⟨k5z, k6z, k7, hX.n67, hX.l5, hX.l6, hX.l7⟩, below4 hBdd hgwx hgwy hgwz hX.l5 hX.l6 hX.l7⟩
        case rest =>
        obtain ⟨rfl, hXd, hBd2⟩ := hcut
        have hBt := hB2.trans (hBd2.mono hB2.size)
        have hbld := hbl2.belowSize hBd2
        have hLd := hL2.belowSize hBd2
        have hbrx := hbr2
        have hBd := hBd2
        clear hdd hd hBdd
        have hbrd := hbrx.belowSize hBd
        have HT2 := fun w8 b8 g hB => HT w8 w.heap.size w1.heap.size b5 b6 b7 b8 g hB
        clear HT
        go_wp2_with (first
          | (go_at_call 39; refine (HF _ hBt).mono ?_; rintro e w6 ⟨rfl, hw6⟩)
          | (go_at_call 37; refine (HT2 w9 w6.heap.size w8.heap.size hB9 hbl9 hbr9 hX9.x5 hX9.x6 hX9.x7 (hb8.belowSize hw9) (sep8 hrl hlo8) hb9).mono ?_; rintro e wz ⟨rfl, bz, rbz, hWz, hKz⟩)
          | (with_reducible refine at_list ?_; first
            | (refine wpList_loadCell (op := ⟨some 41, _, _, _, _, _⟩) rfl _ _ rfl w1.heap.size 0 rfl _ _ hbrd _ Tryz.underlying30 rfl _ rfl ?_)
            | (refine wpList_alloc1 (op := ⟨some 8, _, _, _, _, _⟩) rfl _ rfl _ zStr1 rfl ?_; intro w7 hw7 hb7)
            | (refine wpList_storeCell (op := ⟨none, .store 9 (.tmp 8) (.tmp 42), _, _, _, _⟩) rfl _ _ _ rfl w6.heap.size 0 rfl (.string ⟨fr.toArray⟩) rfl _ _ hb7 iStrS rfl rfl (by decide) ?_; intro w8 hg8 hs8 hb8; clear hs8; have hE8 := step8 hw6 hw7 hg8; have hbl8 := hbld.belowSize hE8; have hL8 := hLd.belowSize hE8; have hX8 := hXd.below hE8; have hbr8 := hbrd.belowSize hE8; have hB8 := hBt.trans (hE8.mono hBt.size))
            | (refine wpList_run (op := ⟨some 43, _, _, _, _, _⟩) rfl _ _ (mk_a1 _ _ _ _ rfl rfl rfl rfl rfl) ?_)
            | (refine wpList_loadCell (op := ⟨some 44, _, _, _, _, _⟩) rfl _ _ rfl w.heap.size 0 rfl _ _ hbl8 _ Tryz.underlying25 rfl _ rfl ?_)
            | (refine wpList_loadCell (op := ⟨some 47, _, _, _, _, _⟩) rfl _ _ rfl q 0 rfl _ _ hL8 _ Tryz.underlying23 rfl _ (lC_g0 _ _ _) ?_)
            | (refine wpList_run (op := ⟨some 48, _, _, _, _, _⟩) rfl _ _ (mk_sy _ rfl rfl) ?_)
            | (refine wpList_run (op := ⟨some 49, _, _, _, _, _⟩) rfl _ _ (mk_a2 _ _ _ _ _ rfl rfl rfl rfl rfl rfl) ?_)
            | (refine wpList_fsl3 (op := ⟨some 50, _, _, _, _, _⟩) rfl _ _ _ rfl (a1F b5 w.heap.size b6 w6.heap.size) (syF p) (a2F w.heap.size w1.heap.size b6 b7 w6.heap.size) (by with_unfolding_all exact rfl) (by with_unfolding_all exact rfl) (by with_unfolding_all exact rfl) (fcl_a1 _ _ _ _) (fcl_sy _) (fcl_a2 _ _ _ _ _) ?_; intro w9 hw9 hb9; have hbl9 := hbl8.belowSize hw9; have hbr9 := hbr8.belowSize hw9; have hX9 := hX8.below hw9; have hB9 := hB8.trans (hw9.mono hB8.size); have hlo8 := Nat.le_trans hBt.size hw6.size)))
        go_ret
        exact ⟨rfl, bz, rbz, (Wch.below hB9).trans hWz, hKz⟩
end Go.Proofs.YtaiiojbakmminaaGreatDoor
