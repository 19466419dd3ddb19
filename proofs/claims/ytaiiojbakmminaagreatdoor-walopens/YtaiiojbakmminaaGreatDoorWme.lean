/- What mend does. -/
import Derived.Test.YtaiiojbakmminaaGreatDoorWaq
namespace Go.Proofs.YtaiiojbakmminaaGreatDoor
open Go Go.RowKit Go.Shelf
/-- The segments that go, after k numbers. -/
def dwK (nn s k : Nat) : List Nat := (List.range (min k (nn - s))).map fun i => nn - i
theorem dwK_zero (nn s : Nat) : dwK nn s 0 = [] := by simp [dwK]
theorem dwK_step {nn s k : Nat} (h : k < nn) : dwK nn s (k + 1) = dwK nn s k ++ (if s < nn - k then [nn - k] else []) := by
  unfold dwK
  by_cases hs : s < nn - k
  · rw [if_pos hs, show min (k + 1) (nn - s) = k + 1 by omega, show min k (nn - s) = k by omega, List.range_succ, List.map_append]
    rfl
  · rw [if_neg hs, show min (k + 1) (nn - s) = nn - s by omega, show min k (nn - s) = nn - s by omega, List.append_nil]
theorem dwK_mem {nn s n : Nat} (h : n ∈ dwK nn s nn) : s < n ∧ n ≤ nn := by
  obtain ⟨i, hi, rfl⟩ := List.mem_map.1 h
  have := List.mem_range.1 hi
  omega
theorem dwK_ne (nn s : Nat) : (dwK nn s nn).Pairwise (· ≠ ·) := by
  unfold dwK
  refine List.pairwise_map.2 ((List.pairwise_lt_range (n := min nn (nn - s))).imp_of_mem ?_)
  intro a b ha hb hab
  have := List.mem_range.1 ha
  have := List.mem_range.1 hb
  omega
theorem dwK_len (nn s : Nat) : (dwK nn s nn).length ≤ nn := by
  unfold dwK
  rw [List.length_map, List.length_range]
  omega
/-- The rounds so far are the first ones from the last place on. -/
def IsI (n : Nat) (pre : List (Fin n)) : Prop := pre = (revI n).take pre.length
theorem IsI.snoc {n : Nat} {pre : List (Fin n)} {x : Fin n} (h : IsI n (pre ++ [x])) (hl : pre.length < n) : IsI n pre ∧ x.1 = n - 1 - pre.length := by
  unfold IsI at h
  rw [List.length_append, List.length_singleton, revI_take hl] at h
  have h2 := List.append_inj' h rfl
  refine ⟨h2.1, ?_⟩
  rw [(List.cons.inj h2.2).1]
theorem IsI.all (n : Nat) : IsI n (revI n) := by unfold IsI; rw [List.take_length]
theorem upI_at {n : Nat} (x : Fin (upI n).length) : (upI n)[x.1] = ((x.1 + 1 : Nat) : Int) := upI_get x.2
theorem bm_of {w5 w6 : World} {a : Option Addr} {c : Nat} {cs : List Int} (h : ∀ j z, cs[j]? = some z → ∃ g, a = some ⟨g, 0, none⟩ ∧ g < w5.heap.size ∧ w5.cell? ⟨g, j, none⟩ = some (.int .i64 z)) (hw : Below w5.heap.size w5 w6) (hb : Blk w6 w5.heap.size #[.slice a cs.length c] 95) : BMi w5.heap.size a c cs w6 :=
  ⟨hb, fun i hi => by
    obtain ⟨g, h1, h2, h3⟩ := h i _ (List.getElem?_eq_getElem hi)
    exact ⟨g, h1, (hw.cell (p := ⟨g, i, none⟩) h2).trans h3⟩⟩
theorem DD.turn {w w' : World} {p : Nat} {b row : Option Nat} {m : DN} (h : DD w p b m) (hg : w.grownBy w' row) (hr : ∀ r, row = some r → ∃ o : Obj, w.heap[r]? = some o ∧ o.isCells = false) : DD w' p b m := by
  have ne : ∀ {k : Nat} {c : Array Value} {t : TypeId} {fr : Nat × Nat}, w.heap[k]? = some (.cells c t fr) → some k ≠ row := fun h1 e => by
    obtain ⟨o, h3, h4⟩ := hr _ e.symm
    rw [h1] at h3
    cases h3
    cases h4
  obtain ⟨v, hK, hP⟩ := h.out
  obtain ⟨sl, k1, k2, k3⟩ := hK.out
  refine ⟨v, ⟨sl, k1.grown hg (ne k1.out), k2.grown hg (fun r e => ?_), k3⟩, ?_⟩
  · rcases k2.2 with ⟨_, rfl⟩ | ⟨g, cap, _, rfl, h4⟩
    · cases e
    · cases e
      obtain ⟨cur, h5, _⟩ := h4.out
      exact ne h5
  · cases hp : m.pl with
    | none => rw [hp] at hP; exact hP
    | some f =>
      rw [hp] at hP
      obtain ⟨g, o, cap, cur, fr, e1, e2, e3, e4⟩ := (show PlA w v f from hP).out
      exact (⟨g, o, cap, cur, fr, e1, e2, (hg.block g (Array.getElem?_eq_some_iff.1 e3).1 (ne e3)).trans e3, e4⟩ : PlA w' v f)
theorem WK.turn {w w' : World} {q p : Nat} {b rb row : Option Nat} {L : LG} {m : DN} (h : WK w q p b rb L m) (hg : w.grownBy w' row) (hr : ∀ r, row = some r → ∃ o : Obj, w.heap[r]? = some o ∧ o.isCells = false) : WK w' q p b rb L m := by
  obtain ⟨rv, h1, h2, h3⟩ := h.out
  obtain ⟨_, _, _, k4⟩ := h.kinds
  refine ⟨⟨rv, h1.turn hg hr, h2.grown hg (fun k e e2 => ?_), h3.turn hg hr⟩, h.q2, h.p2, h.b2, h.r2⟩
  obtain ⟨c3, f3, k5⟩ := k4 k e
  obtain ⟨o, h5, h6⟩ := hr k e2.symm
  rw [k5] at h5
  cases h5
  cases h6
theorem Wch.dfr {w w' : World} {q p D : Nat} {b rb b' rb' : Option Nat} {L : LG} {m : DN} {o : Obj} (h : Wch w w' q p b rb b' rb') (hK : WK w q p b rb L m) (hD : w.heap[D]? = some o) (ho : o.isCells = false) : w'.heap[D]? = some o := by
  obtain ⟨⟨c1, f1, k1⟩, ⟨c2, f2, k2⟩, k3, k4⟩ := hK.kinds
  have ne : ∀ {k : Nat} {c : Array Value} {t : TypeId} {fr : Nat × Nat}, w.heap[k]? = some (.cells c t fr) → D ≠ k := fun h1 e => by
    subst e
    rw [h1] at hD
    cases hD
    cases ho
  refine (h.block D (Array.getElem?_eq_some_iff.1 hD).1 (ne k1) (ne k2) (fun e => ?_) (fun e => ?_)).trans hD
  · obtain ⟨c3, f3, k5⟩ := k3 D e.symm
    exact ne k5 rfl
  · obtain ⟨c3, f3, k5⟩ := k4 D e.symm
    exact ne k5 rfl
/-- The last two steps are put behind the others, and kept. -/
theorem MM.app2 {w : World} {q p lo2 bx : Nat} {a : Option Addr} {k : Nat} {cs : List Int} {ks bns : List Nat} {sl sl1 : Value} {W W1 : World} (h : MM w q p lo2 bx a k cs ks bns sl W) (L : ML w lo2 bx a cs) (hg : W.grownBy W1 (slBlk sl)) (hF : FNL W1 lo2 sl1 (mdV w.heap.size p bns ++ [md2 w.heap.size, syF p])) :
    Blk W1 (w.heap.size + 1) #[sl] TFS ∧ Blk W1 w.heap.size #[.pointer (some ⟨q, 0, none⟩)] 25 ∧ Below w.heap.size w W1 ∧ ∀ W2, W1.grownBy W2 (some (w.heap.size + 1)) → Blk W2 (w.heap.size + 1) #[sl1] TFS → Blk W2 w.heap.size #[.pointer (some ⟨q, 0, none⟩)] 25 ∧ Ibx W2 lo2 bns ks ∧ FNL W2 lo2 sl1 (mdV w.heap.size p bns ++ [md2 w.heap.size, syF p]) ∧ Below w.heap.size w W2 := by
  have hx := L.bx
  have hlt := h.fl.lt
  have hne : ∀ {i : Nat}, i < lo2 → some i ≠ slBlk sl := fun hi e => by have := (hlt _ e.symm).1; omega
  have hint : ∀ {i m : Nat}, Blk W i #[.int .i64 (m : Nat)] 3 → some i ≠ slBlk sl := fun h1 e => GL.ne h.fl h1 (.inl (by decide)) _ e.symm rfl
  have hne2 : ∀ {i : Nat}, i ≠ w.heap.size + 1 → some i ≠ some (w.heap.size + 1) := fun hi e => hi (Option.some.inj e)
  have hbs := h.bs.grown hg (hne (by omega))
  have hB9 : Below w.heap.size w W1 := h.below.grown hg h.below.size (fun k e => by have := (hlt k e).1; omega)
  have hib1 : Ibx W1 lo2 bns ks := h.ib.keep (fun _ _ _ _ h1 => h1.grown hg (hint h1))
  have hbl1 := h.bl.grown hg (hne (by omega))
  exact ⟨hbs, hbl1, hB9, fun W2 hg2 hb2 => ⟨hbl1.grown hg2 (hne2 (by omega)), hib1.keep (fun bn' _ _ hl' h1 => h1.grown hg2 (hne2 (by omega))), FNL.other hF hg2 hbs (by decide), hB9.grown hg2 hB9.size (fun k e => by cases e; omega)⟩⟩
theorem wp_calm {P : Program} {c : Code} {a : Act} {w : World} {K : Act → World → Prop} {R : Exit → Act → World → Prop} (h : c.wp P (Exit.then K (fun _ _ _ => False)) a w) : c.wp P (Exit.then K R) a w := wp_mono h (fun e a w h => by cases e <;> first | exact h | exact h.elim)
theorem fold2 (t : Array Value) (p q : Tmp) (u v : Value) : (((#[p, q] : Array Tmp).zip #[u, v]).foldl (fun t (p, v) => t.setIfInBounds p v) t) = (t.setIfInBounds p u).setIfInBounds q v := by simp
theorem iTFS : (Tryz.prog.info? TFS).map (·.size) = some 1 := by kernel_rfl
theorem hid_of {p : Prop} (h : p) : Hid p := h
theorem wpList_box1s {P : Program} {ops : Array Oper} {rest : List Oper} {op : Oper} {a : Act} {w : World} {Q : Exit → Act → World → Prop} (hgd : op.guard = none) (ty : TypeId) (x : Operand) (ho : op.op = .box ty x) (v : Value) (hx : a.eval x = v) (hv : v.cells = #[v])
    (h : ∀ w1 : World, Below w.heap.size w w1 → w.heap.size + 1 = w1.heap.size → Blk w1 w.heap.size #[v] ty → wpList P ops Q rest (a.put op.dst (.pointer (some ⟨w.heap.size, 0, none⟩))) w1) :
    wpList P ops Q (op :: rest) a w := by
  refine wpList_run hgd (.pointer (some ⟨w.heap.size, 0, none⟩)) (w.alloc (.cells #[v] ty)) ?_ (h _ ((Below.refl _ _).alloc (Nat.le_refl _) _) (by simp) (Blk.new _ _ _))
  unfold execOp
  simp only [ho, hx, Instr.box, newVar, hv]
  rfl
theorem zTFS : ∀ w, (zeroValue TFS).run Tryz.prog w = .ok (.slice none 0 0) w := Tryz.zeroValue97
set_option maxRecDepth 100000 in
set_option maxHeartbeats 4000000 in
theorem mend_any (q p nn : Nat) (b rb : Option Nat) (L : LG) (m : DN) (t : B) (w : World) (hK : WK w q p b rb L m) (hG : Gw w) (hm : Okn m) (hg : L.g < 100) (hs0 : L.segs < 100) (hN : Nms (segP L.g) (namesL m.l)) (hnn : numsP (segP L.g) (namesL m.l) = upI nn) (hn2 : nn < 100)
    (hks : ∀ n ∈ dwK nn L.segs nn, (atL (segN L.g n) m.l).isSome = true) (ht : atL (segN L.g L.segs) m.l = some t) (hlast : L.last ≤ t.length) (hus : usedL m.l ≤ 10000000000) (hch : m.ch ≤ 900000) (hml : m.l.length ≤ 1000) :
    Calls Tryz.prog 95 #[.pointer (some ⟨q, 0, none⟩)] w (StP w q p b rb L (menN L m (dwK nn L.segs nn))) := by
  obtain ⟨rv, hL, hTR, hD⟩ := hK.out
  obtain ⟨v, hDK, _⟩ := hD.out
  have HNm := fun w1 (hB : Below w.heap.size w w1) => names_any p b (m.lo v) w1 (hDK.below hB) (by show m.l.length ≤ _; omega)
  change ∀ w1, Below w.heap.size w w1 → Calls Tryz.prog 29 #[.pointer (some ⟨p, 0, none⟩)] w1 (fun e w' => ∃ sl, e = .returned sl ∧ Below w1.heap.size w1 w' ∧ XL w' w1.heap.size sl (namesL m.l)) at HNm
  have HPr := fun w1 (hB : Below w.heap.size w w1) => segPre_any q p L rv hg w1 (hL.belowSize hB)
  have HNu := fun w1 ad cap (hB : Below w.heap.size w w1) (hT : TA w1 ad (namesL m.l)) => numbers_any (namesL m.l) ad cap (segP L.g) w1 hT (hG.below hB) hN
  rw [hnn] at HNu
  refine (callsIn_wide (n := 6)).1 (callsIn_of_wp_marks Tryz.func95 rfl trivial ?_ rfl)
  refine wpIn_wide.2 ?_
  simp only [Tryz.ntmps95, List.size_toArray, List.length_cons, List.length_nil, Nat.reduceAdd, Nat.reduceSub, Array.replicate_succ, Array.replicate_zero, List.push_toArray, List.append_toArray, List.nil_append, List.cons_append]
  go_upto_region 2 with (with_reducible refine at_list ?_; first
      | (refine wpList_box1s (op := ⟨some 1, _, _, _, _, _⟩) rfl _ _ rfl (.pointer (some ⟨q, 0, none⟩)) rfl rfl ?_; intro w1 hw1 hz1 hl1; replace hz1 := hid_of hz1)
      | (refine wpList_alloc1 (op := ⟨some 3, _, _, _, _, _⟩) rfl _ rfl _ zTFS rfl ?_; intro w2 hw2 hs2))
  rename_i K0 hKK
  have hl9 := hl1.belowSize hw2
  have hB1 := hw1.trans (hw2.mono hw1.size)
  rw [← hz1.out] at hs2
  rw [← hz1.out]
  try go_frame
  refine wp_calm ?_
  refine wp_region_held_drew (S := fun w' : World => Blk w' w.heap.size #[.pointer (some ⟨q, 0, none⟩)] 25 ∧ Blk w' (w.heap.size + 1) #[.slice none 0 0] TFS ∧ Below w.heap.size w w') (by kernel_rfl) (⟨hl9.drew, hs2.drew, hB1.drew⟩) (fun hH => ?_)
  try go_frame
  refine wpAnyH_take (i := 0) (oi := ⟨some 6, _, _, _, _, _⟩) (v := .pointer (some ⟨q, 0, none⟩)) rfl (by kernel_rfl) (by kernel_rfl) (by kernel_rfl) (fun _ _ _ h => h) (Or.inl ⟨by rfl, fun w hSw => run_loadCellB _ _ rfl _ 0 rfl _ _ hSw.1 _ Tryz.underlying25 rfl _ (rfl)⟩) hH ?_
  try simp only [Act.put, List.setIfInBounds_toArray, List.set_cons_zero, List.set_cons_succ]
  refine wpAnyH_take (i := 1) (oi := ⟨some 7, _, _, _, _, _⟩) (v := .pointer (some ⟨q, 0, none⟩)) rfl (by kernel_rfl) (by kernel_rfl) (by kernel_rfl) (fun _ _ _ h => h) (Or.inl ⟨by rfl, fun w hSw => by go_simp⟩) hH ?_
  try simp only [Act.put, List.setIfInBounds_toArray, List.set_cons_zero, List.set_cons_succ]
  refine wpAnyH_take (i := 2) (oi := ⟨some 8, _, _, _, _, _⟩) (v := .pointer (some ⟨q, 0, none⟩)) rfl (by kernel_rfl) (by kernel_rfl) (by kernel_rfl) (fun _ _ _ h => h) (Or.inl ⟨by rfl, fun w hSw => by go_simp⟩) hH ?_
  try simp only [Act.put, List.setIfInBounds_toArray, List.set_cons_zero, List.set_cons_succ]
  refine wpAnyH_take (i := 3) (oi := ⟨some 9, _, _, _, _, _⟩) (v := .pointer (some ⟨p, 0, none⟩)) rfl (by kernel_rfl) (by kernel_rfl) (by kernel_rfl) (fun _ _ _ h => h) (Or.inl ⟨by rfl, fun w hSw => run_loadCellB _ _ rfl _ 0 rfl _ _ (hL.belowSize hSw.2.2) _ Tryz.underlying23 rfl _ (lC_g0 _ _ _)⟩) hH ?_
  try simp only [Act.put, List.setIfInBounds_toArray, List.set_cons_zero, List.set_cons_succ]
  refine wpAnyH_take (i := 5) (oi := ⟨some 11, _, _, _, _, _⟩) (v := .pointer (some ⟨q, 0, none⟩)) rfl (by kernel_rfl) (by kernel_rfl) (by kernel_rfl) (fun _ _ _ h => h) (Or.inl ⟨by rfl, fun w hSw => run_loadCellB _ _ rfl _ 0 rfl _ _ hSw.1 _ Tryz.underlying25 rfl _ (rfl)⟩) hH ?_
  try simp only [Act.put, List.setIfInBounds_toArray, List.set_cons_zero, List.set_cons_succ]
  refine wpAnyH_solo (i := 4) (o := ⟨some 10, _, _, _, _, _⟩) rfl (by kernel_rfl) (fun K hK9 => ?_)
  refine wpList_callR Tryz.func29 (by kernel_rfl) (by kernel_rfl) rfl _ _ rfl #[.pointer (some ⟨p, 0, none⟩)] (args1 rfl) _ (HNm _ hH.2.2) ?_
  rintro e w3 ⟨sl3, rfl, hw3, hX3⟩
  refine ⟨_, rfl, ?_⟩
  have hH3 := And.intro (hH.1.belowSize hw3) (And.intro (hH.2.1.belowSize hw3) (hH.2.2.trans (hw3.mono hH.2.2.size)))
  obtain ⟨a3, c3, rfl⟩ := hX3.sl
  have hT3 := hX3.ta
  refine hK9 _ _ hH3 ?_
  clear hK9 K
  try simp only [Act.put, List.setIfInBounds_toArray, List.set_cons_zero, List.set_cons_succ]
  refine wpAnyH_solo (i := 6) (o := ⟨some 12, _, _, _, _, _⟩) rfl (by kernel_rfl) (fun K hK9 => ?_)
  refine wpList_callR Tryz.func83 (by kernel_rfl) (by kernel_rfl) rfl _ _ rfl #[.pointer (some ⟨q, 0, none⟩)] (args1 rfl) _ (HPr _ hH3.2.2) ?_
  rintro e w4 ⟨rfl, hw4⟩
  replace hw4 := hw4.symm
  subst hw4
  refine ⟨_, rfl, ?_⟩
  refine hK9 _ _ hH3 ?_
  clear hK9 K
  try simp only [Act.put, List.setIfInBounds_toArray, List.set_cons_zero, List.set_cons_succ]
  refine wpAnyH_solo (i := 7) (o := ⟨some 13, _, _, _, _, _⟩) rfl (by kernel_rfl) (fun K hK9 => ?_)
  refine wpList_callR Tryz.func64 (by kernel_rfl) (by kernel_rfl) rfl _ _ rfl #[.slice a3 (namesL m.l).length c3, .string ⟨(segP L.g).toArray⟩] (args2p rfl rfl) _ (HNu _ _ _ hH3.2.2 hT3) ?_
  rintro e w5 ⟨sl5, rfl, hw5, hI5⟩
  refine ⟨_, rfl, ?_⟩
  have hH5 := And.intro (hH3.1.belowSize hw5) (And.intro (hH3.2.1.belowSize hw5) (hH3.2.2.trans (hw5.mono hH3.2.2.size)))
  obtain ⟨a5, c5, rfl, hlc5, hJ5⟩ := hI5.out
  refine hK9 _ _ hH5 ?_
  clear hK9 K
  try simp only [Act.put, List.setIfInBounds_toArray, List.set_cons_zero, List.set_cons_succ]
  refine wpAnyH_solo (i := 8) (o := ⟨some 14, _, _, _, _, _⟩) rfl (by kernel_rfl) (fun K hK9 => ?_)
  refine wpList_callR Tryz.func114 (by kernel_rfl) (by kernel_rfl) rfl _ _ rfl #[.slice a5 (upI nn).length c5] (args1 rfl) _ (bwI_any a5 _ c5 w5) ?_
  rintro e w6 ⟨rfl, hb6, hw6⟩
  refine ⟨_, rfl, ?_⟩
  have hH6 := And.intro (hH5.1.belowSize hw6) (And.intro (hH5.2.1.belowSize hw6) (hH5.2.2.trans (hw6.mono hH5.2.2.size)))
  refine hK9 _ _ hH6 ?_
  clear hK9 K
  try simp only [Act.put, List.setIfInBounds_toArray, List.set_cons_zero, List.set_cons_succ]
  refine wpAnyH_done (by kernel_rfl) ?_ _
  try simp only [Act.put]
  try go_simp
  refine hKK _ _ ?_
  clear hKK HNm HPr HNu
  clear hI5
  have hBM := bm_of hJ5 hw6 hb6
  have hIg : ∀ g, a5 = some ⟨g, 0, none⟩ → 0 < (upI nn).length → g ≠ w.heap.size + 1 ∧ g < w6.heap.size := fun g ha h0 => by
    obtain ⟨g2, h1, h2, h3⟩ := hJ5 0 _ (List.getElem?_eq_getElem h0)
    rw [ha] at h1
    simp only [Option.some.injEq, Addr.mk.injEq] at h1
    obtain ⟨rfl, _⟩ := h1
    have := hw6.size
    refine ⟨fun e => ?_, by omega⟩
    subst e
    rw [hH5.2.1.cell 0] at h3
    cases h3
  have hbxl : w.heap.size + 1 < w5.heap.size := hH5.2.1.lt
  obtain ⟨h6a, h6b, h6c⟩ := hH6
  obtain ⟨bx, hbx⟩ : ∃ bx, w5.heap.size = bx := ⟨_, rfl⟩
  rw [hbx] at hb6 hBM hbxl
  rw [hbx]
  have L2 : ML w w6.heap.size bx a5 (upI nn) := ⟨hIg, ⟨hbxl, hb6.lt⟩⟩
  have M6 : MM w q p w6.heap.size bx a5 c5 (upI nn) [] [] (.slice none 0 0) w6 := ⟨h6a, h6b, GL.nil _ _ _ _, hBM, Ibx.nil _ _, h6c, Nat.le_refl _⟩
  obtain ⟨lo2, hlo2⟩ : ∃ lo2, w6.heap.size = lo2 := ⟨_, rfl⟩
  rw [hlo2] at L2 M6
  have hul : Hid ((upI nn).length = nn) := upI_len nn
  clear hIg hbxl h6a h6b h6c hb6 hH5 hJ5 hw6 hbx hw5 hH3 hT3 hX3 hw3
  go_wp2_with fail
  refine (wpIn_wide (n := 6)).1 ?_
  refine wpIn_rangeFunc_ownH rfl (by omega) (gf := 151) (lb := #[.pointer (some ⟨bx, 0, none⟩)]) rfl trivial (enters_of Tryz.func151 (by kernel_rfl) rfl)
    (bwI_stops 5 (by omega) bx a5 c5 (upI nn) (Nat.le_trans (Nat.le_of_eq hul.out) (Nat.le_trans (Nat.le_of_lt hn2) (by decide))) w6 hBM) kpI_t (kpI_b (w := w6)) (Below.refl _ _) (fun _ => rfl)
    (fun pre W1 => ∃ ks bns sl, MM w q p lo2 bx a5 c5 (upI nn) ks bns sl W1 ∧ ks.length ≤ pre.length ∧ Hid (IsI (upI nn).length pre → ks = dwK nn L.segs pre.length))
    (fun _ _ _ => False)
    (fun s W1 W2 row hs hg hr => by
      obtain ⟨ks, bns, sl, hM, hrest⟩ := hs
      exact ⟨ks, bns, sl, hM.turn L2 hg (by rw [hlo2] at hr; exact hr), hrest⟩)
    (fun _ _ _ _ _ hs _ _ => hs)
    ⟨[], [], _, M6, Nat.zero_le _, fun _ => (dwK_zero _ _).symm⟩
    (fun x a' W1 => ∃ Bx, lo2 ≤ Bx ∧ Blk W1 Bx #[.int .i64 (upI nn)[x.1]] 3 ∧ a' = { tmps := #[.pointer (some ⟨q, 0, none⟩), .pointer (some ⟨w.heap.size, 0, none⟩), .int .i64 0, .pointer (some ⟨w.heap.size + 1, 0, none⟩), undef, .pointer (some ⟨Bx, 0, none⟩), .pointer (some ⟨q, 0, none⟩), .pointer (some ⟨q, 0, none⟩), .pointer (some ⟨q, 0, none⟩), .pointer (some ⟨p, 0, none⟩), .slice a3 (namesL m.l).length c3, .pointer (some ⟨q, 0, none⟩), .string ⟨(segP L.g).toArray⟩, .slice a5 (upI nn).length c5, .func (.func 151) #[] #[.pointer (some ⟨bx, 0, none⟩)], .int .i64 ((x.1 : Nat) : Int), .int .i64 (upI nn)[x.1], undef, undef, undef, undef, undef, undef, undef, undef, undef, undef, undef, undef, undef, undef, undef, undef, undef, undef, undef, undef, undef, undef, undef, undef, undef, undef], defers := [] })
    (fun x a' s W1 W2 row hs hg hr => by
      obtain ⟨Bx, h1, h2, h3⟩ := hs
      exact ⟨Bx, h1, h2.turn hg (fun r e => (hr r e).2), h3⟩) ?assign ?body ?done ?stop
  case assign =>
    rintro l pre x W1 K ⟨ks, bns, sl, M1, hkl, hFI⟩ hK
    rw [fold2]
    simp only [List.setIfInBounds_toArray, List.set_cons_zero, List.set_cons_succ]
    refine region_in (by kernel_rfl) (by rintro ⟨_, _, h⟩; exact h) ?_
    go_wp2_with (with_reducible refine at_list ?_; first
      | (refine wpList_alloc1 (op := ⟨some 5, _, _, _, _, _⟩) rfl _ rfl _ zI rfl ?_; intro w4 hw4 hz4; have M4 := M1.below' hw4)
      | (refine wpList_storeCell (op := ⟨none, .store 3 (.tmp 5) (.tmp 16), _, _, _, _⟩) rfl _ _ _ rfl W1.heap.size 0 rfl (.int .i64 (upI nn)[x.1]) rfl _ _ hz4 iIntS rfl rfl (by decide) ?_; intro w5 hg5 hs5 hb5))
    have M5 := M4.own L2 hg5 hz4 M1.size (fun hm => absurd (M1.ib.lt _ hm) (Nat.lt_irrefl _))
    exact hK _ _ (((NC.below hw4).trans (NC.blk hg5 hz4)).from _) (fun _ => M5.bm) ⟨ks, bns, sl, M5, hkl, hFI⟩ ⟨W1.heap.size, M1.size, hb5, rfl⟩
  case body =>
    rintro l pre x a' W1 hl9 ⟨r9, hr9⟩ ⟨ks, bns, sl, M1, hkl, hFI⟩ ⟨Bx, hBx, bX, rfl⟩ hlt2
    have hux := upI_at x
    generalize (upI nn)[x.1] = ux at *
    subst hux
    have hLr := hL.belowSize M1.below
    dsimp only
    by_cases hgt : L.segs < x.1 + 1
    · have hgt2 : Hid ((L.segs : Int) < (x.1 : Int) + 1) := by show (L.segs : Int) < _; omega
      gi_upto_region 4 with fail
      refine region_in_held (S := fun w' : World => Blk w' Bx #[.int .i64 ((x.1 + 1 : Nat) : Int)] 3 ∧ Blk w' w.heap.size #[.pointer (some ⟨q, 0, none⟩)] 25 ∧ Blk w' q (lC p L rv) 64) (by kernel_rfl) (by rintro ⟨_, _, h⟩; exact h) (by kernel_rfl) ⟨bX.drew, M1.bl.drew, hLr.drew⟩ (fun hH => ?_)
      refine wpAnyH_take (i := 0) (oi := ⟨some 17, _, _, _, _, _⟩) (v := .int .i64 ((x.1 + 1 : Nat) : Int)) rfl (by kernel_rfl) (by kernel_rfl) (by kernel_rfl) (fun _ _ _ h => h) (Or.inl ⟨by rfl, fun w hSw => run_loadCellB _ _ rfl _ 0 rfl _ _ hSw.1 _ Tryz.underlying3 rfl _ (rfl)⟩) hH ?_
      try simp only [Act.put, List.setIfInBounds_toArray, List.set_cons_zero, List.set_cons_succ]
      refine wpAnyH_take (i := 1) (oi := ⟨some 18, _, _, _, _, _⟩) (v := .pointer (some ⟨q, 0, none⟩)) rfl (by kernel_rfl) (by kernel_rfl) (by kernel_rfl) (fun _ _ _ h => h) (Or.inl ⟨by rfl, fun w hSw => run_loadCellB _ _ rfl _ 0 rfl _ _ hSw.2.1 _ Tryz.underlying25 rfl _ (rfl)⟩) hH ?_
      try simp only [Act.put, List.setIfInBounds_toArray, List.set_cons_zero, List.set_cons_succ]
      refine wpAnyH_take (i := 2) (oi := ⟨some 19, _, _, _, _, _⟩) (v := .pointer (some ⟨q, 0, none⟩)) rfl (by kernel_rfl) (by kernel_rfl) (by kernel_rfl) (fun _ _ _ h => h) (Or.inl ⟨by rfl, fun w hSw => by go_simp⟩) hH ?_
      try simp only [Act.put, List.setIfInBounds_toArray, List.set_cons_zero, List.set_cons_succ]
      refine wpAnyH_take (i := 3) (oi := ⟨some 20, _, _, _, _, _⟩) (v := .pointer (some ⟨q, 5, none⟩)) rfl (by kernel_rfl) (by kernel_rfl) (by kernel_rfl) (fun _ _ _ h => h) (Or.inl ⟨by rfl, fun w hSw => by go_simp⟩) hH ?_
      try simp only [Act.put, List.setIfInBounds_toArray, List.set_cons_zero, List.set_cons_succ]
      refine wpAnyH_take (i := 4) (oi := ⟨some 21, _, _, _, _, _⟩) (v := .int .i64 (L.segs : Nat)) rfl (by kernel_rfl) (by kernel_rfl) (by kernel_rfl) (fun _ _ _ h => h) (Or.inl ⟨by rfl, fun w hSw => run_loadCellB _ _ rfl _ 5 rfl _ _ hSw.2.2 _ Tryz.underlying3 rfl _ (lC_g5 _ _ _)⟩) hH ?_
      try simp only [Act.put, List.setIfInBounds_toArray, List.set_cons_zero, List.set_cons_succ]
      refine wpAnyH_take (i := 5) (oi := ⟨some 22, _, _, _, _, _⟩) (v := .bool true) rfl (by kernel_rfl) (by kernel_rfl) (by kernel_rfl) (fun _ _ _ h => h) (Or.inl ⟨by rfl, fun w hSw => by (have hz9 := hgt2.out; go_simp)⟩) hH ?_
      try simp only [Act.put, List.setIfInBounds_toArray, List.set_cons_zero, List.set_cons_succ]
      refine wpAnyH_done (by kernel_rfl) ?_ _
      try simp only [Act.put]
      try go_simp
      gi_upto_region 5 with fail
      have M5 := M1.below' ((Below.refl _ _).drew.drew)
      have bX5 := bX.belowSize ((Below.refl _ _).drew.drew)
      have N5 : NC W1 W1.drew.drew := NC.below ((Below.refl _ _).drew.drew)
      have hS5 := And.intro M5.bl (And.intro M5.bs (hL.belowSize M5.below))
      have hlen : (mdV w.heap.size p bns).length ≤ 1000000 := by rw [mdV_len, M1.ib.len]; have := x.2; have := hul.out; omega
      refine region_in_L (S := fun w' : World => Blk w' w.heap.size #[.pointer (some ⟨q, 0, none⟩)] 25 ∧ Blk w' (w.heap.size + 1) #[sl] TFS ∧ Blk w' q (lC p L rv) 64) (z := 9) (by kernel_rfl) (by rintro ⟨_, _, h⟩; exact h) (by kernel_rfl) ?_
      obtain ⟨w5, hw5⟩ : ∃ w5, W1.drew.drew = w5 := ⟨_, rfl⟩
      rw [hw5] at M5 bX5 hS5 N5
      rw [hw5]
      refine wpAnyL_take (i := 0) (oi := ⟨some 23, _, _, _, _, _⟩) (v := sl) rfl (by kernel_rfl) (by kernel_rfl) (by kernel_rfl) (by kernel_rfl) (fun _ _ _ h => h) (Or.inl ⟨by rfl, fun w hSw => run_loadCellB _ _ rfl _ 0 rfl _ _ hSw.2.1 _ Tryz.underlying97 rfl _ (rfl)⟩) hS5 ?_
      try simp only [Act.put, List.setIfInBounds_toArray, List.set_cons_zero, List.set_cons_succ]
      refine wpAnyL_take (i := 1) (oi := ⟨some 24, _, _, _, _, _⟩) (v := md1 w.heap.size Bx) rfl (by kernel_rfl) (by kernel_rfl) (by kernel_rfl) (by kernel_rfl) (fun _ _ _ h => h) (Or.inl ⟨by rfl, fun w hSw => mk_md1 _ _ rfl rfl rfl⟩) hS5 ?_
      try simp only [Act.put, List.setIfInBounds_toArray, List.set_cons_zero, List.set_cons_succ]
      refine wpAnyL_take (i := 2) (oi := ⟨some 25, _, _, _, _, _⟩) (v := .pointer (some ⟨q, 0, none⟩)) rfl (by kernel_rfl) (by kernel_rfl) (by kernel_rfl) (by kernel_rfl) (fun _ _ _ h => h) (Or.inl ⟨by rfl, fun w hSw => run_loadCellB _ _ rfl _ 0 rfl _ _ hSw.1 _ Tryz.underlying25 rfl _ (rfl)⟩) hS5 ?_
      try simp only [Act.put, List.setIfInBounds_toArray, List.set_cons_zero, List.set_cons_succ]
      refine wpAnyL_take (i := 3) (oi := ⟨some 26, _, _, _, _, _⟩) (v := .pointer (some ⟨q, 0, none⟩)) rfl (by kernel_rfl) (by kernel_rfl) (by kernel_rfl) (by kernel_rfl) (fun _ _ _ h => h) (Or.inl ⟨by rfl, fun w hSw => by go_simp⟩) hS5 ?_
      try simp only [Act.put, List.setIfInBounds_toArray, List.set_cons_zero, List.set_cons_succ]
      refine wpAnyL_take (i := 4) (oi := ⟨some 27, _, _, _, _, _⟩) (v := .pointer (some ⟨q, 0, none⟩)) rfl (by kernel_rfl) (by kernel_rfl) (by kernel_rfl) (by kernel_rfl) (fun _ _ _ h => h) (Or.inl ⟨by rfl, fun w hSw => by go_simp⟩) hS5 ?_
      try simp only [Act.put, List.setIfInBounds_toArray, List.set_cons_zero, List.set_cons_succ]
      refine wpAnyL_take (i := 5) (oi := ⟨some 28, _, _, _, _, _⟩) (v := .pointer (some ⟨p, 0, none⟩)) rfl (by kernel_rfl) (by kernel_rfl) (by kernel_rfl) (by kernel_rfl) (fun _ _ _ h => h) (Or.inl ⟨by rfl, fun w hSw => run_loadCellB _ _ rfl _ 0 rfl _ _ hSw.2.2 _ Tryz.underlying23 rfl _ (lC_g0 _ _ _)⟩) hS5 ?_
      try simp only [Act.put, List.setIfInBounds_toArray, List.set_cons_zero, List.set_cons_succ]
      refine wpAnyL_take (i := 6) (oi := ⟨some 29, _, _, _, _, _⟩) (v := syF p) rfl (by kernel_rfl) (by kernel_rfl) (by kernel_rfl) (by kernel_rfl) (fun _ _ _ h => h) (Or.inl ⟨by rfl, fun w hSw => mk_syp _ rfl rfl⟩) hS5 ?_
      try simp only [Act.put, List.setIfInBounds_toArray, List.set_cons_zero, List.set_cons_succ]
      refine wpAnyL_solo (i := 7) (o := ⟨some 30, _, _, _, _, _⟩) rfl (by kernel_rfl) (fun K hK9 => ?_)
      refine wpList_fsl2 rfl _ _ rfl (.func 115) (.func 27) #[] #[.pointer (some ⟨w.heap.size, 0, none⟩), .pointer (some ⟨Bx, 0, none⟩)] #[.pointer (some ⟨p, 0, none⟩)] #[] rfl rfl ?_
      intro w6 hw6 hs6 hb6
      clear hs6
      have M6b := M5.below' hw6
      have hL6 := hL.belowSize M6b.below
      have bX6 := bX5.belowSize hw6
      refine hK9 _ _ (fun _ => ⟨M6b.bl, M6b.bs, hL6⟩) ?_
      clear hK9 K
      try simp only [Act.put, List.setIfInBounds_toArray, List.set_cons_zero, List.set_cons_succ]
      refine wpAnyL_solo (i := 8) (o := ⟨some 31, _, _, _, _, _⟩) rfl (by kernel_rfl) (fun K hK9 => ?_)
      refine wpList_appF2 rfl _ _ rfl lo2 sl (mdV w.heap.size p bns) M6b.size rfl M6b.fl w5.heap.size rfl (md1 w.heap.size Bx) (syF p) rfl rfl hb6 hlen ?_
      intro w7 sl7 hg7 hF7
      obtain ⟨b7, c7, d7, M7⟩ := M6b.app L2 hg7 hF7 hBx bX6
      refine hK9 _ _ (fun _ => ⟨c7, b7, hL.belowSize d7⟩) ?_
      clear hK9 K
      try simp only [Act.put, List.setIfInBounds_toArray, List.set_cons_zero, List.set_cons_succ]
      refine wpAnyL_solo (i := 9) (o := ⟨none, _, _, _, _, _⟩) rfl (by kernel_rfl) (fun K hK9 => ?_)
      refine wpList_storeCell rfl _ _ _ rfl (w.heap.size + 1) 0 rfl sl7 rfl _ _ b7 iTFS (GL.cells hF7).1 (GL.cells hF7).2 (show 0 < 1 from Nat.zero_lt_one) ?_
      intro w8 hg8 hs8 hb8
      clear hs8
      have M8 := M7 w8 hg8 hb8
      refine hK9 _ _ (fun e => absurd rfl e) ?_
      clear hK9 K
      refine wpAnyL_done (by kernel_rfl) ?_ _
      try simp only [Act.put]
      try go_simp
      refine ⟨(((N5.trans (NC.below hw6)).trans (NC.app hg7 M6b.fl)).trans (NC.blk hg8 b7)).from _, fun _ => M8.bm, ks ++ [x.1 + 1], bns ++ [Bx], sl7, M8, by simp; omega, fun hR => ?_⟩
      have h9 := hR.snoc hlt2
      have h10 := hul.out
      rw [List.length_append, List.length_singleton, dwK_step (by omega), ← hFI.out h9.1, if_pos (by omega), show nn - pre.length = x.1 + 1 by omega]
    · have hgt2 : Hid (¬ (L.segs : Int) < (x.1 : Int) + 1) := by show ¬ (L.segs : Int) < _; omega
      gi_upto_region 4 with fail
      refine region_in_held (S := fun w' : World => Blk w' Bx #[.int .i64 ((x.1 + 1 : Nat) : Int)] 3 ∧ Blk w' w.heap.size #[.pointer (some ⟨q, 0, none⟩)] 25 ∧ Blk w' q (lC p L rv) 64) (by kernel_rfl) (by rintro ⟨_, _, h⟩; exact h) (by kernel_rfl) ⟨bX.drew, M1.bl.drew, hLr.drew⟩ (fun hH => ?_)
      refine wpAnyH_take (i := 0) (oi := ⟨some 17, _, _, _, _, _⟩) (v := .int .i64 ((x.1 + 1 : Nat) : Int)) rfl (by kernel_rfl) (by kernel_rfl) (by kernel_rfl) (fun _ _ _ h => h) (Or.inl ⟨by rfl, fun w hSw => run_loadCellB _ _ rfl _ 0 rfl _ _ hSw.1 _ Tryz.underlying3 rfl _ (rfl)⟩) hH ?_
      try simp only [Act.put, List.setIfInBounds_toArray, List.set_cons_zero, List.set_cons_succ]
      refine wpAnyH_take (i := 1) (oi := ⟨some 18, _, _, _, _, _⟩) (v := .pointer (some ⟨q, 0, none⟩)) rfl (by kernel_rfl) (by kernel_rfl) (by kernel_rfl) (fun _ _ _ h => h) (Or.inl ⟨by rfl, fun w hSw => run_loadCellB _ _ rfl _ 0 rfl _ _ hSw.2.1 _ Tryz.underlying25 rfl _ (rfl)⟩) hH ?_
      try simp only [Act.put, List.setIfInBounds_toArray, List.set_cons_zero, List.set_cons_succ]
      refine wpAnyH_take (i := 2) (oi := ⟨some 19, _, _, _, _, _⟩) (v := .pointer (some ⟨q, 0, none⟩)) rfl (by kernel_rfl) (by kernel_rfl) (by kernel_rfl) (fun _ _ _ h => h) (Or.inl ⟨by rfl, fun w hSw => by go_simp⟩) hH ?_
      try simp only [Act.put, List.setIfInBounds_toArray, List.set_cons_zero, List.set_cons_succ]
      refine wpAnyH_take (i := 3) (oi := ⟨some 20, _, _, _, _, _⟩) (v := .pointer (some ⟨q, 5, none⟩)) rfl (by kernel_rfl) (by kernel_rfl) (by kernel_rfl) (fun _ _ _ h => h) (Or.inl ⟨by rfl, fun w hSw => by go_simp⟩) hH ?_
      try simp only [Act.put, List.setIfInBounds_toArray, List.set_cons_zero, List.set_cons_succ]
      refine wpAnyH_take (i := 4) (oi := ⟨some 21, _, _, _, _, _⟩) (v := .int .i64 (L.segs : Nat)) rfl (by kernel_rfl) (by kernel_rfl) (by kernel_rfl) (fun _ _ _ h => h) (Or.inl ⟨by rfl, fun w hSw => run_loadCellB _ _ rfl _ 5 rfl _ _ hSw.2.2 _ Tryz.underlying3 rfl _ (lC_g5 _ _ _)⟩) hH ?_
      try simp only [Act.put, List.setIfInBounds_toArray, List.set_cons_zero, List.set_cons_succ]
      refine wpAnyH_take (i := 5) (oi := ⟨some 22, _, _, _, _, _⟩) (v := .bool false) rfl (by kernel_rfl) (by kernel_rfl) (by kernel_rfl) (fun _ _ _ h => h) (Or.inl ⟨by rfl, fun w hSw => by (have hz9 := hgt2.out; go_simp)⟩) hH ?_
      try simp only [Act.put, List.setIfInBounds_toArray, List.set_cons_zero, List.set_cons_succ]
      refine wpAnyH_done (by kernel_rfl) ?_ _
      try simp only [Act.put]
      try go_simp
      gi_wp2
      have M5 := M1.below' ((Below.refl _ _).drew)
      have N5 : NC W1 W1.drew := NC.below ((Below.refl _ _).drew)
      refine ⟨N5.from _, fun _ => M5.bm, ks, ⟨bns, sl, M5⟩, by simp; omega, fun hR => ?_⟩
      have h9 := hR.snoc hlt2
      have h10 := hul.out
      rw [List.length_append, List.length_singleton, dwK_step (by omega), ← hFI.out h9.1, if_neg (by omega), List.append_nil]
  case done =>
    rintro D2 ys W1 hD2 rfl ⟨ks, bns, sl, M1, hkl, hFI⟩ hK2
    have hfin := hFI.out (IsI.all _)
    rw [revI_len, hul.out] at hfin
    subst hfin
    go_upto_region 6 with fail
    rename_i K6 hK6
    have M5 := M1.below' (Below.refl _ _).drew
    have N5 : NC W1 W1.drew := NC.below (Below.refl _ _).drew
    have hS5 := And.intro M5.bl (And.intro M5.bs (hL.belowSize M5.below))
    have hlen : (mdV w.heap.size p bns).length ≤ 1000000 := by rw [mdV_len, M1.ib.len]; have := dwK_len nn L.segs; omega
    refine wp_calm ?_
    refine wp_region_L (S := fun w' : World => Blk w' w.heap.size #[.pointer (some ⟨q, 0, none⟩)] 25 ∧ Blk w' (w.heap.size + 1) #[sl] TFS ∧ Blk w' q (lC p L rv) 64) (z := 9) (by kernel_rfl) ?_
    try go_frame
    obtain ⟨w5, hw5⟩ : ∃ w5, W1.drew = w5 := ⟨_, rfl⟩
    rw [hw5] at M5 hS5 N5
    rw [hw5]
    refine wpAnyL_take (i := 0) (oi := ⟨some 32, _, _, _, _, _⟩) (v := sl) rfl (by kernel_rfl) (by kernel_rfl) (by kernel_rfl) (by kernel_rfl) (fun _ _ _ h => h) (Or.inl ⟨by rfl, fun w hSw => run_loadCellB _ _ rfl _ 0 rfl _ _ hSw.2.1 _ Tryz.underlying97 rfl _ (rfl)⟩) hS5 ?_
    try simp only [Act.put, List.setIfInBounds_toArray, List.set_cons_zero, List.set_cons_succ]
    refine wpAnyL_take (i := 1) (oi := ⟨some 33, _, _, _, _, _⟩) (v := md2 w.heap.size) rfl (by kernel_rfl) (by kernel_rfl) (by kernel_rfl) (by kernel_rfl) (fun _ _ _ h => h) (Or.inl ⟨by rfl, fun w hSw => mk_md2 _ rfl rfl⟩) hS5 ?_
    try simp only [Act.put, List.setIfInBounds_toArray, List.set_cons_zero, List.set_cons_succ]
    refine wpAnyL_take (i := 2) (oi := ⟨some 34, _, _, _, _, _⟩) (v := .pointer (some ⟨q, 0, none⟩)) rfl (by kernel_rfl) (by kernel_rfl) (by kernel_rfl) (by kernel_rfl) (fun _ _ _ h => h) (Or.inl ⟨by rfl, fun w hSw => run_loadCellB _ _ rfl _ 0 rfl _ _ hSw.1 _ Tryz.underlying25 rfl _ (rfl)⟩) hS5 ?_
    try simp only [Act.put, List.setIfInBounds_toArray, List.set_cons_zero, List.set_cons_succ]
    refine wpAnyL_take (i := 3) (oi := ⟨some 35, _, _, _, _, _⟩) (v := .pointer (some ⟨q, 0, none⟩)) rfl (by kernel_rfl) (by kernel_rfl) (by kernel_rfl) (by kernel_rfl) (fun _ _ _ h => h) (Or.inl ⟨by rfl, fun w hSw => by go_simp⟩) hS5 ?_
    try simp only [Act.put, List.setIfInBounds_toArray, List.set_cons_zero, List.set_cons_succ]
    refine wpAnyL_take (i := 4) (oi := ⟨some 36, _, _, _, _, _⟩) (v := .pointer (some ⟨q, 0, none⟩)) rfl (by kernel_rfl) (by kernel_rfl) (by kernel_rfl) (by kernel_rfl) (fun _ _ _ h => h) (Or.inl ⟨by rfl, fun w hSw => by go_simp⟩) hS5 ?_
    try simp only [Act.put, List.setIfInBounds_toArray, List.set_cons_zero, List.set_cons_succ]
    refine wpAnyL_take (i := 5) (oi := ⟨some 37, _, _, _, _, _⟩) (v := .pointer (some ⟨p, 0, none⟩)) rfl (by kernel_rfl) (by kernel_rfl) (by kernel_rfl) (by kernel_rfl) (fun _ _ _ h => h) (Or.inl ⟨by rfl, fun w hSw => run_loadCellB _ _ rfl _ 0 rfl _ _ hSw.2.2 _ Tryz.underlying23 rfl _ (lC_g0 _ _ _)⟩) hS5 ?_
    try simp only [Act.put, List.setIfInBounds_toArray, List.set_cons_zero, List.set_cons_succ]
    refine wpAnyL_take (i := 6) (oi := ⟨some 38, _, _, _, _, _⟩) (v := syF p) rfl (by kernel_rfl) (by kernel_rfl) (by kernel_rfl) (by kernel_rfl) (fun _ _ _ h => h) (Or.inl ⟨by rfl, fun w hSw => mk_syp _ rfl rfl⟩) hS5 ?_
    try simp only [Act.put, List.setIfInBounds_toArray, List.set_cons_zero, List.set_cons_succ]
    refine wpAnyL_solo (i := 7) (o := ⟨some 39, _, _, _, _, _⟩) rfl (by kernel_rfl) (fun K hK9 => ?_)
    refine wpList_fsl2 rfl _ _ rfl (.func 116) (.func 27) #[] #[.pointer (some ⟨w.heap.size, 0, none⟩)] #[.pointer (some ⟨p, 0, none⟩)] #[] rfl rfl ?_
    intro w6 hw6 hs6 hb6
    clear hs6
    have M6b := M5.below' hw6
    have hL6 := hL.belowSize M6b.below
    refine hK9 _ _ (fun _ => ⟨M6b.bl, M6b.bs, hL6⟩) ?_
    clear hK9 K
    try simp only [Act.put, List.setIfInBounds_toArray, List.set_cons_zero, List.set_cons_succ]
    refine wpAnyL_solo (i := 8) (o := ⟨some 40, _, _, _, _, _⟩) rfl (by kernel_rfl) (fun K hK9 => ?_)
    refine wpList_appF2 rfl _ _ rfl lo2 sl (mdV w.heap.size p bns) M6b.size rfl M6b.fl w5.heap.size rfl (md2 w.heap.size) (syF p) rfl rfl hb6 hlen ?_
    intro w7 sl7 hg7 hF7
    obtain ⟨b7, c7, d7, M7⟩ := M6b.app2 L2 hg7 hF7
    refine hK9 _ _ (fun _ => ⟨c7, b7, hL.belowSize d7⟩) ?_
    clear hK9 K
    try simp only [Act.put, List.setIfInBounds_toArray, List.set_cons_zero, List.set_cons_succ]
    refine wpAnyL_solo (i := 9) (o := ⟨none, _, _, _, _, _⟩) rfl (by kernel_rfl) (fun K hK9 => ?_)
    refine wpList_storeCell rfl _ _ _ rfl (w.heap.size + 1) 0 rfl sl7 rfl _ _ b7 iTFS (GL.cells hF7).1 (GL.cells hF7).2 (show 0 < 1 from Nat.zero_lt_one) ?_
    intro w8 hg8 hs8 hb8
    clear hs8
    obtain ⟨bl8, ib8, hF8, hB8⟩ := M7 w8 hg8 hb8
    refine hK9 _ _ (fun e => absurd rfl e) ?_
    clear hK9 K
    refine wpAnyL_done (by kernel_rfl) ?_ _
    try simp only [Act.put]
    try go_simp
    refine hK6 _ _ ?_
    clear hK6
    obtain ⟨a9, c9, e9⟩ := hF8.sl
    have hbl9 : (mdV w.heap.size p bns ++ [md2 w.heap.size, syF p]).length = 2 * (dwK nn L.segs nn).length + 2 := by rw [List.length_append, mdV_len, ← M1.ib.len]; rfl
    rw [hbl9] at e9
    subst e9
    have N8 := ((N5.trans (NC.below hw6)).trans (NC.app hg7 M6b.fl)).trans (NC.blk hg8 b7)
    have hD8 := N8.all D2 _ hK2 rfl
    have hK8 := hK.below hB8
    have hdl := dwK_len nn L.segs
    have HT := mend_turn q p w.heap.size lo2 _ c9 b rb L m (dwK nn L.segs nn) bns t a9 w8 hK8 (hG.below hB8) hm hg hs0 (dwK_ne nn L.segs) (fun n hn => ⟨by have := dwK_mem hn; omega, by have := dwK_mem hn; omega, hks n hn⟩) ht hlast hus (by omega) (by omega) bl8 ib8.len (fun j n bn h1 h2 => (ib8.box j n bn h1 h2).2) hF8 rfl
    obtain ⟨nn9, hnn9⟩ : ∃ z, Hid (2 * (dwK nn L.segs nn).length + 2 = z) := ⟨_, rfl⟩
    rw [hnn9.out] at HT hb8
    rw [hnn9.out]
    obtain ⟨R9, hR9⟩ : ∃ r, Hid (menN L m (dwK nn L.segs nn) = r) := ⟨_, rfl⟩
    rw [hR9.out] at HT
    rw [hR9.out]
    clear hbl9 hdl hS5 hFI
    go_wp2_with (first
      | (go_at_call 37; refine HT.mono ?_; rintro e w9 ⟨rfl, b9, hW9, hK9⟩)
      | (with_reducible refine at_list ?_; first
        | (refine wpList_loadCell (op := ⟨some 41, _, _, _, _, _⟩) rfl _ _ rfl (w.heap.size + 1) 0 rfl _ _ hb8 _ Tryz.underlying97 rfl (.slice a9 nn9 c9) rfl ?_)))
    have hD9 := hW9.dfr hK8 hD8 rfl
    refine ⟨by simp, .inl ⟨_, _, rfl, run_takeDeferred hD9, ?_⟩⟩
    have hg9 := grownBy_putObj' w9 D2 (.deferred none)
    have hDl : w.heap.size ≤ D2 := by have := L2.bx; omega
    exact ⟨_, results_tmp rfl _ _ _, rfl, b9, ((Wch.below hB8).trans hW9).loc hg9 hDl, hK9.turn hg9 (fun r e => by cases e; exact ⟨_, hD9, rfl⟩)⟩
  case stop =>
    rintro D2 c pre W1 _ _ h _
    exact h.elim
end Go.Proofs.YtaiiojbakmminaaGreatDoor
