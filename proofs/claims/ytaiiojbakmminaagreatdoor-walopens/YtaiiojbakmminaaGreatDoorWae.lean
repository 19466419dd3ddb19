/- What the closures of Add do. What Add of a log does. -/
import Derived.Test.YtaiiojbakmminaaGreatDoorWrs
import Derived.Deep.CutRange
namespace Go.Proofs.YtaiiojbakmminaaGreatDoor
open Go Go.RowKit
theorem run_callV2 {P : Program} {g : FuncId} {op : Oper} {a : Act} {w : World} (hf : Fn1 P g) (x y z : Operand) (tys : Array TypeId) (ho : op.op = .call { callee := .value x, args := #[y, z], argTypes := tys }) (u vy vz : Value) (hx : a.eval x = .func (.func g) #[u] #[]) (hy : a.eval y = vy) (hz : a.eval z = vz) :
    (execOp a.eval op).run P w = .ok (.enter g #[u, vy, vz]) w := by
  obtain ⟨fn, h1, h2, h3⟩ := hf.out
  unfold execOp
  simp only [ho]
  have hn' : ¬ fn.name = "runtime.NumGoroutine" := by simpa using h2
  have hb' : ¬ fn.body = none := fun e => by rw [e] at h3; cases h3
  simp [resolve, invoke, Deferred.ofValue, callFunc, hx, hy, hz, h1, hn', hb']
theorem wpList_callV2 {P : Program} {ops : Array Oper} {Q : Exit → Act → World → Prop} {rest : List Oper} {op : Oper} {a : Act} {w : World} {g : FuncId} (hf : Fn1 P g) (hgd : op.guard = none) (x y z : Operand) (tys : Array TypeId) (ho : op.op = .call { callee := .value x, args := #[y, z], argTypes := tys }) (u vy vz : Value) (hx : a.eval x = .func (.func g) #[u] #[]) (hy : a.eval y = vy) (hz : a.eval z = vz)
    (R : Ending → World → Prop) (hc : Calls P g #[u, vy, vz] w R) (h : ∀ e w', R e w' → ∃ v, e = .returned v ∧ wpList P ops Q rest (a.put op.dst v) w') : wpList P ops Q (op :: rest) a w := by
  refine wpList_plain hgd fun K hK => ?_
  unfold Oper.wp
  rw [run_callV2 hf x y z tys ho u vy vz hx hy hz, Oper.upon_enter]
  refine hc.mono fun e w'' hh => ?_
  obtain ⟨v, rfl, h2⟩ := h e w'' hh
  exact hK _ _ h2
/-- A method of the disk that is kept. -/
abbrev ptF (f p : Nat) : Value := .func (.func f) #[.pointer (some ⟨p, 0, none⟩)] #[]
set_option maxRecDepth 100000 in
set_option maxHeartbeats 2000000 in
theorem add1_any (q p bl b5 b6 b8 f k : Nat) (b rb : Option Nat) (L : LG) (m : DN) (s : B) (r : DN × Nat) (w : World) (hK : WK w q p b rb L m) (hG : Gw w) (hg : L.g < 100) (hk : k < 100) (hfn : Fn1 Tryz.prog f)
    (HC0 : ∀ w1, DD w1 p b m → Calls Tryz.prog f #[.pointer (some ⟨p, 0, none⟩), .string ⟨(segN L.g k).toArray⟩, .string ⟨s.toArray⟩] w1 (ChN w1 p b r))
    (hl : Blk w bl #[.pointer (some ⟨q, 0, none⟩)] 25) (h5 : Blk w b5 #[ptF f p] 49) (h6 : Blk w b6 #[.int .i64 (k : Nat)] 3) (h8 : Blk w b8 #[.string ⟨s.toArray⟩] 9) (h8r : some b8 ≠ rb) :
    Calls Tryz.prog 47 #[.pointer (some ⟨b5, 0, none⟩), .pointer (some ⟨bl, 0, none⟩), .pointer (some ⟨b6, 0, none⟩), .pointer (some ⟨b8, 0, none⟩)] w (StP w q p b rb L r) := by
  obtain ⟨rv, hL, hTR, hD⟩ := hK.out
  have hdr := Below.drewS w
  have HN := segName_any q p L rv k hg hk w.drew hL.drew
  have HC := HC0 w.drew (hD.below hdr)
  have hKd := hK.below hdr
  have hG2 : 2 ≤ w.drew.heap.size := hG.two
  clear HC0
  generalize segN L.g k = nm at *
  go_enter Tryz.func47, Tryz.ntmps47
  go_wp2_with fail
  refine wp_region_held_drew (S := fun w' : World => Blk w' b5 #[ptF f p] 49 ∧ Blk w' bl #[.pointer (some ⟨q, 0, none⟩)] 25 ∧ Blk w' b6 #[.int .i64 (k : Nat)] 3 ∧ Blk w' b8 #[.string ⟨s.toArray⟩] 9) (by kernel_rfl) (⟨h5.drew, hl.drew, h6.drew, h8.drew⟩) (fun hH => ?_)
  try go_frame
  refine wpAnyH_take (i := 0) (oi := ⟨some 5, _, _, _, _, _⟩) (v := ptF f p) rfl (by kernel_rfl) (by kernel_rfl) (by kernel_rfl) (fun _ _ _ h => h) (Or.inl ⟨by rfl, fun w hSw => run_loadCellB _ _ rfl _ 0 rfl _ _ hSw.1 _ Tryz.underlying49 rfl _ (rfl)⟩) hH ?_
  try simp only [Act.put, List.setIfInBounds_toArray, List.set_cons_zero, List.set_cons_succ]
  refine wpAnyH_take (i := 1) (oi := ⟨some 6, _, _, _, _, _⟩) (v := .pointer (some ⟨q, 0, none⟩)) rfl (by kernel_rfl) (by kernel_rfl) (by kernel_rfl) (fun _ _ _ h => h) (Or.inl ⟨by rfl, fun w hSw => run_loadCellB _ _ rfl _ 0 rfl _ _ hSw.2.1 _ Tryz.underlying25 rfl _ (rfl)⟩) hH ?_
  try simp only [Act.put, List.setIfInBounds_toArray, List.set_cons_zero, List.set_cons_succ]
  refine wpAnyH_take (i := 2) (oi := ⟨some 7, _, _, _, _, _⟩) (v := .int .i64 (k : Nat)) rfl (by kernel_rfl) (by kernel_rfl) (by kernel_rfl) (fun _ _ _ h => h) (Or.inl ⟨by rfl, fun w hSw => run_loadCellB _ _ rfl _ 0 rfl _ _ hSw.2.2.1 _ Tryz.underlying3 rfl _ (rfl)⟩) hH ?_
  try simp only [Act.put, List.setIfInBounds_toArray, List.set_cons_zero, List.set_cons_succ]
  refine wpAnyH_take (i := 4) (oi := ⟨some 9, _, _, _, _, _⟩) (v := .string ⟨s.toArray⟩) rfl (by kernel_rfl) (by kernel_rfl) (by kernel_rfl) (fun _ _ _ h => h) (Or.inl ⟨by rfl, fun w hSw => run_loadCellB _ _ rfl _ 0 rfl _ _ hSw.2.2.2 _ Tryz.underlying9 rfl _ (rfl)⟩) hH ?_
  try simp only [Act.put, List.setIfInBounds_toArray, List.set_cons_zero, List.set_cons_succ]
  refine wpAnyH_solo (i := 3) (o := ⟨some 8, _, _, _, _, _⟩) rfl (by kernel_rfl) (fun K hK => ?_)
  refine wpList_callR Tryz.func48 (by kernel_rfl) (by kernel_rfl) rfl _ _ rfl #[.pointer (some ⟨q, 0, none⟩), .int .i64 (k : Nat)] (args2 rfl rfl) _ (HN) ?_
  rintro e w' ⟨rfl, hw'⟩
  have hw2' := hw'.symm
  subst hw2'
  clear hw'
  refine ⟨_, rfl, ?_⟩
  refine hK _ _ hH ?_
  clear hK K
  try simp only [Act.put, List.setIfInBounds_toArray, List.set_cons_zero, List.set_cons_succ]
  refine wpAnyH_solo (i := 5) (o := ⟨some 10, _, _, _, _, _⟩) rfl (by kernel_rfl) (fun K hK => ?_)
  refine wpList_callV2 hfn rfl _ _ _ _ rfl _ _ _ rfl rfl rfl _ HC ?_
  rintro e w5 ⟨rfl, b5', hC5, hD5⟩
  refine ⟨_, rfl, ?_⟩
  have hK5 := hKd.disk hG2 hC5 hD5
  have hw5 : Wch w.drew w5 q p b rb b5' rb := Wch.chg hC5
  have hS5 := And.intro (hw5.blk hKd hH.1 (by decide) (by decide) (by decide) (.inl (by decide))) (And.intro (hw5.blk hKd hH.2.1 (by decide) (by decide) (by decide) (.inl (by decide))) (And.intro (hw5.blk hKd hH.2.2.1 (by decide) (by decide) (by decide) (.inl (by decide))) (hw5.blk hKd hH.2.2.2 (by decide) (by decide) (by decide) (.inr h8r))))
  refine hK _ _ hS5 ?_
  clear hK K
  try simp only [Act.put, List.setIfInBounds_toArray, List.set_cons_zero, List.set_cons_succ]
  refine wpAnyH_solo (i := 6) (o := ⟨some 4, _, _, _, _, _⟩) rfl (by kernel_rfl) (fun K hK => ?_)
  refine wpList_pure rfl (.int .i64 (r.2 : Nat)) (by go_simp) ?_
  refine hK _ _ hS5 ?_
  clear hK K
  try simp only [Act.put, List.setIfInBounds_toArray, List.set_cons_zero, List.set_cons_succ]
  refine wpAnyH_done (by kernel_rfl) ?_ _
  try simp only [Act.put]
  try go_simp
  go_wp2_with fail
  go_ret
  exact ⟨rfl, b5', (Wch.below hdr).trans hw5, hK5⟩
theorem DD.row {w w' : World} {p : Nat} {b rb : Option Nat} {m : DN} (h : DD w p b m) (hg : w.grownBy w' rb) (hk : ∀ k, rb = some k → ∃ c fr, w.heap[k]? = some (.cells c 9 fr)) : DD w' p b m := by
  have ne : ∀ {k : Nat} {c : Array Value} {t : TypeId} {fr : Nat × Nat}, w.heap[k]? = some (.cells c t fr) → t ≠ 9 → some k ≠ rb := fun h1 h2 e => by
    obtain ⟨c2, f2, h3⟩ := hk _ e.symm
    exact kind_ne h1 h3 h2 rfl
  obtain ⟨v, hK, hP⟩ := h.out
  obtain ⟨sl, k1, k2, k3⟩ := hK.out
  refine ⟨v, ⟨sl, k1.grown hg (ne k1.out (by decide)), k2.grown hg (fun r e => ?_), k3⟩, ?_⟩
  · rcases k2.2 with ⟨_, rfl⟩ | ⟨g, cap, _, rfl, h4⟩
    · cases e
    · cases e
      obtain ⟨cur, h5, _⟩ := h4.out
      exact ne h5 (by decide)
  · cases hp : m.pl with
    | none => rw [hp] at hP; exact hP
    | some f =>
      rw [hp] at hP
      obtain ⟨g, o, cap, cur, fr, e1, e2, e3, e4⟩ := (show PlA w v f from hP).out
      exact (⟨g, o, cap, cur, fr, e1, e2, (hg.block g (Array.getElem?_eq_some_iff.1 e3).1 (ne e3 (by decide))).trans e3, e4⟩ : PlA w' v f)
section
variable {ops : Array Oper} {rest : List Oper} {op : Oper} {a : Act} {w : World} {Q : Exit → Act → World → Prop}
/-- Texts are put behind a slice of texts. -/
theorem wpList_appTS (hgd : op.guard = none) (x y : Operand) (ho : op.op = .call { callee := .builtin .append, args := #[x, y], argTypes := #[30, 30] })
    (v : Value) (b : Option Nat) (l : List B) (hv : TS w v b l) (hx : a.eval x = v) (ad : Option Addr) (c : Nat) (m : List B) (hm : TA w ad m) (hy : a.eval y = .slice ad m.length c) (hlen : l.length + m.length ≤ 1000000)
    (h : ∀ (w1 : World) (v1 : Value) (b1 : Option Nat), w.grownBy w1 b → (∀ k, b1 = some k → b = some k ∨ w.heap.size ≤ k) → TS w1 v1 b1 (l ++ m) → wpList Tryz.prog ops Q rest (a.put op.dst v1) w1) : wpList Tryz.prog ops Q (op :: rest) a w := by
  obtain ⟨i, hi, hz, hs, hby⟩ := infoStr
  obtain ⟨w1, v1, b1, hr, h1, h2, h3⟩ := run_appendTS (P := Tryz.prog) (w := w) 30 op.type v b l hv ad c m hm i Tryz.underlying30 hi hz hs hby hlen
  refine wpList_run hgd _ _ ?_ (h w1 v1 b1 h1 h2 h3)
  unfold execOp
  simp only [ho]
  simp [resolve, invoke, builtin, hx, hy, hr, Result.andThen]
end
set_option maxRecDepth 100000 in
set_option maxHeartbeats 2000000 in
theorem add2_any (q p bl br b6 b7 b8 k j : Nat) (b rb : Option Nat) (L : LG) (m : DN) (s : B) (l : List B) (ad : Option Addr) (cap : Nat) (w : World) (hK : WK w q p b rb L m) (hG : Gw w) (hT : TA w ad l) (hlen : L.recs.length + l.length ≤ 1000000) (hj : j + s.length ≤ 1000000000000)
    (hl : Blk w bl #[.pointer (some ⟨q, 0, none⟩)] 25) (hr : Blk w br #[.slice ad l.length cap] 30) (h6 : Blk w b6 #[.int .i64 (k : Nat)] 3) (h7 : Blk w b7 #[.int .i64 (j : Nat)] 3) (h8 : Blk w b8 #[.string ⟨s.toArray⟩] 9) (h8r : some b8 ≠ rb) :
    Calls Tryz.prog 49 #[.pointer (some ⟨bl, 0, none⟩), .pointer (some ⟨br, 0, none⟩), .pointer (some ⟨b6, 0, none⟩), .pointer (some ⟨b7, 0, none⟩), .pointer (some ⟨b8, 0, none⟩)] w (LtP w q p b rb { L with recs := L.recs ++ l, segs := k, last := j + s.length } m) := by
  obtain ⟨rv, hL, hTR, hD⟩ := hK.out
  have hdr := Below.drewS w
  have hKd := hK.below hdr
  have hTd := hT.below hdr
  have hTRd := hTR.below hdr
  have hDd := hD.below hdr
  have hqr : some q ≠ rb := fun e => by
    obtain ⟨⟨c1, f1, k1⟩, _, _, k4⟩ := hK.kinds
    obtain ⟨c2, f2, k5⟩ := k4 q e.symm
    exact kind_ne k1 k5 (by decide) rfl
  have hw1 : IntKind.i64.wrap ((j : Int) + (s.length : Int)) = ((j + s.length : Nat) : Int) := by rw [IntKind.wrap_i64]; omega
  have grow5 : ∀ {w1 w2 : World} {c : Array Value}, w1.grownBy w2 (some q) → Blk w1 q c 64 → (Blk w1 bl #[.pointer (some ⟨q, 0, none⟩)] 25 ∧ Blk w1 br #[.slice ad l.length cap] 30 ∧ Blk w1 b6 #[.int .i64 (k : Nat)] 3 ∧ Blk w1 b7 #[.int .i64 (j : Nat)] 3 ∧ Blk w1 b8 #[.string ⟨s.toArray⟩] 9) → (Blk w2 bl #[.pointer (some ⟨q, 0, none⟩)] 25 ∧ Blk w2 br #[.slice ad l.length cap] 30 ∧ Blk w2 b6 #[.int .i64 (k : Nat)] 3 ∧ Blk w2 b7 #[.int .i64 (j : Nat)] 3 ∧ Blk w2 b8 #[.string ⟨s.toArray⟩] 9) := fun hg hB h =>
    ⟨h.1.grown hg (fun e => kind_ne h.1.out hB.out (by decide) (Option.some.inj e)), h.2.1.grown hg (fun e => kind_ne h.2.1.out hB.out (by decide) (Option.some.inj e)), h.2.2.1.grown hg (fun e => kind_ne h.2.2.1.out hB.out (by decide) (Option.some.inj e)), h.2.2.2.1.grown hg (fun e => kind_ne h.2.2.2.1.out hB.out (by decide) (Option.some.inj e)), h.2.2.2.2.grown hg (fun e => kind_ne h.2.2.2.2.out hB.out (by decide) (Option.some.inj e))⟩
  go_enter Tryz.func49, Tryz.ntmps49
  go_wp2_with fail
  refine wp_region_held_drew (S := fun w' : World => Blk w' bl #[.pointer (some ⟨q, 0, none⟩)] 25 ∧ Blk w' br #[.slice ad l.length cap] 30 ∧ Blk w' b6 #[.int .i64 (k : Nat)] 3 ∧ Blk w' b7 #[.int .i64 (j : Nat)] 3 ∧ Blk w' b8 #[.string ⟨s.toArray⟩] 9) (by kernel_rfl) (⟨hl.drew, hr.drew, h6.drew, h7.drew, h8.drew⟩) (fun hH => ?_)
  try go_frame
  refine wpAnyH_take (i := 0) (oi := ⟨some 6, _, _, _, _, _⟩) (v := .pointer (some ⟨q, 0, none⟩)) rfl (by kernel_rfl) (by kernel_rfl) (by kernel_rfl) (fun _ _ _ h => h) (Or.inl ⟨by rfl, fun w hSw => run_loadCellB _ _ rfl _ 0 rfl _ _ hSw.1 _ Tryz.underlying25 rfl _ (rfl)⟩) hH ?_
  try simp only [Act.put, List.setIfInBounds_toArray, List.set_cons_zero, List.set_cons_succ]
  refine wpAnyH_take (i := 1) (oi := ⟨some 7, _, _, _, _, _⟩) (v := .pointer (some ⟨q, 0, none⟩)) rfl (by kernel_rfl) (by kernel_rfl) (by kernel_rfl) (fun _ _ _ h => h) (Or.inl ⟨by rfl, fun w hSw => run_loadCellB _ _ rfl _ 0 rfl _ _ hSw.1 _ Tryz.underlying25 rfl _ (rfl)⟩) hH ?_
  try simp only [Act.put, List.setIfInBounds_toArray, List.set_cons_zero, List.set_cons_succ]
  refine wpAnyH_take (i := 2) (oi := ⟨some 8, _, _, _, _, _⟩) (v := .pointer (some ⟨q, 0, none⟩)) rfl (by kernel_rfl) (by kernel_rfl) (by kernel_rfl) (fun _ _ _ h => h) (Or.inl ⟨by rfl, fun w hSw => run_loadCellB _ _ rfl _ 0 rfl _ _ hSw.1 _ Tryz.underlying25 rfl _ (rfl)⟩) hH ?_
  try simp only [Act.put, List.setIfInBounds_toArray, List.set_cons_zero, List.set_cons_succ]
  refine wpAnyH_take (i := 3) (oi := ⟨some 9, _, _, _, _, _⟩) (v := .pointer (some ⟨q, 0, none⟩)) rfl (by kernel_rfl) (by kernel_rfl) (by kernel_rfl) (fun _ _ _ h => h) (Or.inl ⟨by rfl, fun w hSw => run_loadCellB _ _ rfl _ 0 rfl _ _ hSw.1 _ Tryz.underlying25 rfl _ (rfl)⟩) hH ?_
  try simp only [Act.put, List.setIfInBounds_toArray, List.set_cons_zero, List.set_cons_succ]
  refine wpAnyH_take (i := 4) (oi := ⟨some 10, _, _, _, _, _⟩) (v := .pointer (some ⟨q, 0, none⟩)) rfl (by kernel_rfl) (by kernel_rfl) (by kernel_rfl) (fun _ _ _ h => h) (Or.inl ⟨by rfl, fun w hSw => by go_simp⟩) hH ?_
  try simp only [Act.put, List.setIfInBounds_toArray, List.set_cons_zero, List.set_cons_succ]
  refine wpAnyH_take (i := 5) (oi := ⟨some 11, _, _, _, _, _⟩) (v := .pointer (some ⟨q, 4, none⟩)) rfl (by kernel_rfl) (by kernel_rfl) (by kernel_rfl) (fun _ _ _ h => h) (Or.inl ⟨by rfl, fun w hSw => by go_simp⟩) hH ?_
  try simp only [Act.put, List.setIfInBounds_toArray, List.set_cons_zero, List.set_cons_succ]
  refine wpAnyH_take (i := 7) (oi := ⟨some 13, _, _, _, _, _⟩) (v := .slice ad l.length cap) rfl (by kernel_rfl) (by kernel_rfl) (by kernel_rfl) (fun _ _ _ h => h) (Or.inl ⟨by rfl, fun w hSw => run_loadCellB _ _ rfl _ 0 rfl _ _ hSw.2.1 _ Tryz.underlying30 rfl _ (rfl)⟩) hH ?_
  try simp only [Act.put, List.setIfInBounds_toArray, List.set_cons_zero, List.set_cons_succ]
  refine wpAnyH_take (i := 9) (oi := ⟨some 15, _, _, _, _, _⟩) (v := .int .i64 (k : Nat)) rfl (by kernel_rfl) (by kernel_rfl) (by kernel_rfl) (fun _ _ _ h => h) (Or.inl ⟨by rfl, fun w hSw => run_loadCellB _ _ rfl _ 0 rfl _ _ hSw.2.2.1 _ Tryz.underlying3 rfl _ (rfl)⟩) hH ?_
  try simp only [Act.put, List.setIfInBounds_toArray, List.set_cons_zero, List.set_cons_succ]
  refine wpAnyH_take (i := 10) (oi := ⟨some 16, _, _, _, _, _⟩) (v := .int .i64 (j : Nat)) rfl (by kernel_rfl) (by kernel_rfl) (by kernel_rfl) (fun _ _ _ h => h) (Or.inl ⟨by rfl, fun w hSw => run_loadCellB _ _ rfl _ 0 rfl _ _ hSw.2.2.2.1 _ Tryz.underlying3 rfl _ (rfl)⟩) hH ?_
  try simp only [Act.put, List.setIfInBounds_toArray, List.set_cons_zero, List.set_cons_succ]
  refine wpAnyH_take (i := 11) (oi := ⟨some 17, _, _, _, _, _⟩) (v := .string ⟨s.toArray⟩) rfl (by kernel_rfl) (by kernel_rfl) (by kernel_rfl) (fun _ _ _ h => h) (Or.inl ⟨by rfl, fun w hSw => run_loadCellB _ _ rfl _ 0 rfl _ _ hSw.2.2.2.2 _ Tryz.underlying9 rfl _ (rfl)⟩) hH ?_
  try simp only [Act.put, List.setIfInBounds_toArray, List.set_cons_zero, List.set_cons_succ]
  refine wpAnyH_take (i := 12) (oi := ⟨some 18, _, _, _, _, _⟩) (v := .int .i64 (s.length : Nat)) rfl (by kernel_rfl) (by kernel_rfl) (by kernel_rfl) (fun _ _ _ h => h) (Or.inl ⟨by rfl, fun w hSw => by go_simp⟩) hH ?_
  try simp only [Act.put, List.setIfInBounds_toArray, List.set_cons_zero, List.set_cons_succ]
  refine wpAnyH_take (i := 13) (oi := ⟨some 19, _, _, _, _, _⟩) (v := .int .i64 ((j + s.length : Nat) : Int)) rfl (by kernel_rfl) (by kernel_rfl) (by kernel_rfl) (fun _ _ _ h => h) (Or.inl ⟨by rfl, fun w hSw => by go_simp⟩) hH ?_
  try simp only [Act.put, List.setIfInBounds_toArray, List.set_cons_zero, List.set_cons_succ]
  refine wpAnyH_solo (i := 6) (o := ⟨some 12, _, _, _, _, _⟩) rfl (by kernel_rfl) (fun K hK9 => ?_)
  refine wpList_loadCell rfl _ _ rfl q 4 rfl _ _ hL.drew _ Tryz.underlying30 rfl _ (lC_g4 _ _ _) ?_
  refine hK9 _ _ hH ?_
  clear hK9 K
  try simp only [Act.put, List.setIfInBounds_toArray, List.set_cons_zero, List.set_cons_succ]
  refine wpAnyH_solo (i := 8) (o := ⟨some 14, _, _, _, _, _⟩) rfl (by kernel_rfl) (fun K hK9 => ?_)
  refine wpList_appTS rfl _ _ rfl rv rb L.recs hTRd rfl ad cap l hTd rfl hlen ?_
  intro w2 v2 rb2 hg2 hn2 hT2
  have hW2 : Wch w.drew w2 q p b rb b rb2 := Wch.row hg2 hn2
  have hS2 := And.intro (hW2.blk hKd hH.1 (by decide) (by decide) (by decide) (.inl (by decide))) (And.intro (hW2.blk hKd hH.2.1 (by decide) (by decide) (by decide) (.inl (by decide))) (And.intro (hW2.blk hKd hH.2.2.1 (by decide) (by decide) (by decide) (.inl (by decide))) (And.intro (hW2.blk hKd hH.2.2.2.1 (by decide) (by decide) (by decide) (.inl (by decide))) (hW2.blk hKd hH.2.2.2.2 (by decide) (by decide) (by decide) (.inr h8r)))))
  have hv := hT2.sl.choose_spec.choose_spec.2.2
  have hL2 : Blk w2 q (lC p L rv) 64 := hL.drew.grown hg2 hqr
  refine hK9 _ _ hS2 ?_
  clear hK9 K
  try simp only [Act.put, List.setIfInBounds_toArray, List.set_cons_zero, List.set_cons_succ]
  refine wpAnyH_take (i := 14) (oi := ⟨some 20, _, _, _, _, _⟩) (v := .pointer (some ⟨q, 0, none⟩)) rfl (by kernel_rfl) (by kernel_rfl) (by kernel_rfl) (fun _ _ _ h => h) (Or.inl ⟨by rfl, fun w hSw => by go_simp⟩) hS2 ?_
  try simp only [Act.put, List.setIfInBounds_toArray, List.set_cons_zero, List.set_cons_succ]
  refine wpAnyH_take (i := 15) (oi := ⟨some 21, _, _, _, _, _⟩) (v := .pointer (some ⟨q, 4, none⟩)) rfl (by kernel_rfl) (by kernel_rfl) (by kernel_rfl) (fun _ _ _ h => h) (Or.inl ⟨by rfl, fun w hSw => by go_simp⟩) hS2 ?_
  try simp only [Act.put, List.setIfInBounds_toArray, List.set_cons_zero, List.set_cons_succ]
  refine wpAnyH_solo (i := 16) (o := ⟨none, _, _, _, _, _⟩) rfl (by kernel_rfl) (fun K hK9 => ?_)
  refine wpList_storeCell rfl _ _ _ rfl q 4 rfl (v2) (by with_unfolding_all exact rfl) _ _ hL2 iSlS hv.1 hv.2 (by rw [lC_size]; decide) ?_
  intro w3 hg3 hs3 hL3
  clear hs3
  rw [lC_s4 _ _ _ _ (L.recs ++ l)] at hL3
  have hS3 := grow5 hg3 hL2 hS2
  refine hK9 _ _ hS3 ?_
  clear hK9 K
  try simp only [Act.put]
  refine wpAnyH_take (i := 17) (oi := ⟨some 22, _, _, _, _, _⟩) (v := .pointer (some ⟨q, 0, none⟩)) rfl (by kernel_rfl) (by kernel_rfl) (by kernel_rfl) (fun _ _ _ h => h) (Or.inl ⟨by rfl, fun w hSw => by go_simp⟩) hS3 ?_
  try simp only [Act.put, List.setIfInBounds_toArray, List.set_cons_zero, List.set_cons_succ]
  refine wpAnyH_take (i := 18) (oi := ⟨some 23, _, _, _, _, _⟩) (v := .pointer (some ⟨q, 5, none⟩)) rfl (by kernel_rfl) (by kernel_rfl) (by kernel_rfl) (fun _ _ _ h => h) (Or.inl ⟨by rfl, fun w hSw => by go_simp⟩) hS3 ?_
  try simp only [Act.put, List.setIfInBounds_toArray, List.set_cons_zero, List.set_cons_succ]
  refine wpAnyH_solo (i := 19) (o := ⟨none, _, _, _, _, _⟩) rfl (by kernel_rfl) (fun K hK9 => ?_)
  refine wpList_storeCell rfl _ _ _ rfl q 5 rfl (.int .i64 (k : Nat)) (by with_unfolding_all exact rfl) _ _ hL3 iIntS rfl rfl (by rw [lC_size]; decide) ?_
  intro w4 hg4 hs4 hL4
  clear hs4
  rw [lC_s5] at hL4
  have hS4 := grow5 hg4 hL3 hS3
  refine hK9 _ _ hS4 ?_
  clear hK9 K
  try simp only [Act.put]
  refine wpAnyH_take (i := 20) (oi := ⟨some 24, _, _, _, _, _⟩) (v := .pointer (some ⟨q, 0, none⟩)) rfl (by kernel_rfl) (by kernel_rfl) (by kernel_rfl) (fun _ _ _ h => h) (Or.inl ⟨by rfl, fun w hSw => by go_simp⟩) hS4 ?_
  try simp only [Act.put, List.setIfInBounds_toArray, List.set_cons_zero, List.set_cons_succ]
  refine wpAnyH_take (i := 21) (oi := ⟨some 25, _, _, _, _, _⟩) (v := .pointer (some ⟨q, 6, none⟩)) rfl (by kernel_rfl) (by kernel_rfl) (by kernel_rfl) (fun _ _ _ h => h) (Or.inl ⟨by rfl, fun w hSw => by go_simp⟩) hS4 ?_
  try simp only [Act.put, List.setIfInBounds_toArray, List.set_cons_zero, List.set_cons_succ]
  refine wpAnyH_solo (i := 22) (o := ⟨none, _, _, _, _, _⟩) rfl (by kernel_rfl) (fun K hK9 => ?_)
  refine wpList_storeCell rfl _ _ _ rfl q 6 rfl (.int .i64 ((j + s.length : Nat) : Int)) (by with_unfolding_all exact rfl) _ _ hL4 iIntS rfl rfl (by rw [lC_size]; decide) ?_
  intro w5 hg5 hs5 hL5
  clear hs5
  rw [lC_s6] at hL5
  have hS5 := grow5 hg5 hL4 hS4
  refine hK9 _ _ hS5 ?_
  clear hK9 K
  try simp only [Act.put]
  refine wpAnyH_done (by kernel_rfl) ?_ _
  try simp only [Act.put]
  try go_simp
  go_wp2_with fail
  go_ret
  have hgq := grown_trans (grown_trans hg3 hg4) hg5
  have h2 := hG.two
  have hD2 : DD w2 p b m := hDd.row hg2 hKd.kinds.2.2.2
  have hql := hK.qlt
  refine ⟨rfl, rb2, ((Wch.below hdr).trans hW2).trans (Wch.own hgq), ⟨⟨v2, hL5, hT2.grown hgq (fun e1 e2 e3 => ?_), hD2.grown hgq hL2 (by decide) (by decide) (by decide)⟩, hK.q2, hK.p2, hK.b2, fun e1 e2 => ?_⟩⟩
  · have e4 := Option.some.inj e3
    subst e4
    rcases hn2 e1 e2 with e5 | e5
    · exact hqr e5.symm
    · have e6 : w.heap.size ≤ e1 := e5
      omega
  · rcases hn2 e1 e2 with e5 | e5
    · exact hK.r2 e1 e5
    · have e6 : w.heap.size ≤ e1 := e5
      omega
end Go.Proofs.YtaiiojbakmminaaGreatDoor
namespace Go.Proofs.YtaiiojbakmminaaGreatDoor
open Go Go.RowKit
/-- Does Add begin a segment? -/
def addC (L : LG) : Bool := decide (L.segs = 0) || decide (L.most ≤ (L.last : Int))
def addK (L : LG) : Nat := if addC L = true then L.segs + 1 else L.segs
def addJ (L : LG) : Nat := if addC L = true then 0 else L.last
def addR (L : LG) (m : DN) (tx : B) : DN × Nat := if addC L = true then wriN m (segN L.g (addK L)) tx else appN m (segN L.g (addK L)) tx
def addL (L : LG) (l : List B) : LG := { L with recs := L.recs ++ l, segs := addK L, last := addJ L + (frs l).length }
def addN (L : LG) (m : DN) (l : List B) : LG × (DN × Nat) := if (addR L m (frs l)).2 ≠ 0 then (L, addR L m (frs l)) else if (synN (addR L m (frs l)).1).2 ≠ 0 then (L, synN (addR L m (frs l)).1) else (addL L l, synN (addR L m (frs l)).1)
def a1F (b5 bl b6 b8 : Nat) : Value := .func (.func 47) #[] #[.pointer (some ⟨b5, 0, none⟩), .pointer (some ⟨bl, 0, none⟩), .pointer (some ⟨b6, 0, none⟩), .pointer (some ⟨b8, 0, none⟩)]
def a2F (bl br b6 b7 b8 : Nat) : Value := .func (.func 49) #[] #[.pointer (some ⟨bl, 0, none⟩), .pointer (some ⟨br, 0, none⟩), .pointer (some ⟨b6, 0, none⟩), .pointer (some ⟨b7, 0, none⟩), .pointer (some ⟨b8, 0, none⟩)]
theorem a1_stp (b5 bl b6 b8 : Nat) : Stp Tryz.prog (a1F b5 bl b6 b8) 47 #[.pointer (some ⟨b5, 0, none⟩), .pointer (some ⟨bl, 0, none⟩), .pointer (some ⟨b6, 0, none⟩), .pointer (some ⟨b8, 0, none⟩)] := ⟨fn1_of Tryz.func47 (by kernel_rfl) (by kernel_rfl), #[], _, rfl, by simp⟩
theorem a2_stp (bl br b6 b7 b8 : Nat) : Stp Tryz.prog (a2F bl br b6 b7 b8) 49 #[.pointer (some ⟨bl, 0, none⟩), .pointer (some ⟨br, 0, none⟩), .pointer (some ⟨b6, 0, none⟩), .pointer (some ⟨b7, 0, none⟩), .pointer (some ⟨b8, 0, none⟩)] := ⟨fn1_of Tryz.func49 (by kernel_rfl) (by kernel_rfl), #[], _, rfl, by simp⟩
theorem fcl_a1 (b1 b2 b3 b4 : Nat) : IsF (a1F b1 b2 b3 b4) := ⟨_, _, _, rfl⟩
theorem fcl_a2 (b1 b2 b3 b4 b5 : Nat) : IsF (a2F b1 b2 b3 b4 b5) := ⟨_, _, _, rfl⟩
/-- What is asked of a log to which something is added. -/
structure Oka (L : LG) (m : DN) (l : List B) : Prop where
  g : L.g < 100
  k : L.segs < 99
  n : m.l.length ≤ 990000
  c : m.ch ≤ 990000
  u : usedL m.l + (frs l).length ≤ 10000000000
  j : L.last ≤ 10000000000
  r : L.recs.length + l.length ≤ 1000000
  m : Okn m
theorem add_okn {L : LG} {m : DN} {l : List B} (h : Oka L m l) (h0 : (addR L m (frs l)).2 = 0) : Okn (addR L m (frs l)).1 := by
  have h1 := h.n
  have h2 := h.c
  have h3 := h.u
  have h5 := h.k
  have hs : okN (segN L.g (addK L)) = true := (WN.seg _ _ h.g (by unfold addK; split <;> omega)).ok
  unfold addR at *
  split at h0
  · rename_i hc
    rw [if_pos hc]
    obtain ⟨d1, d2, d3⟩ := wri_ok h0
    rw [d3]
    exact okn_chg h.m d2 hs (by omega) (by omega) (by show usedL m.l + (frs l).length ≤ _; omega)
  · rename_i hc
    rw [if_neg hc]
    obtain ⟨d1, d2, d3⟩ := app_ok h0
    rw [d3]
    have h4 : (kbyt (atL (segN L.g (addK L)) m.l)).length ≤ usedL m.l := by rw [at_now _ m.l h.m.l.ris, used_now]; exact used_get
    exact okn_chg h.m d2 hs (by omega) (by omega) (by show usedL m.l + (kbyt (atL (segN L.g (addK L)) m.l) ++ frs l).length ≤ _; rw [List.length_append]; omega)
theorem add_turn (q p bl br b5 b6 b7 b8 g : Nat) (b rb : Option Nat) (L : LG) (m : DN) (l : List B) (ad : Option Addr) (cap cp : Nat) (w : World) (hK : WK w q p b rb L m) (hG : Gw w) (ho : Oka L m l) (hT : TA w ad l) (hsep : ∀ a, ad = some a → some a.block ≠ rb)
    (kl : Blk w bl #[.pointer (some ⟨q, 0, none⟩)] 25) (kr : Blk w br #[.slice ad l.length cap] 30) (k5 : Blk w b5 #[ptF (if addC L = true then 25 else 46) p] 49) (k6 : Blk w b6 #[.int .i64 (addK L : Nat)] 3) (k7 : Blk w b7 #[.int .i64 (addJ L : Nat)] 3) (k8 : Blk w b8 #[.string ⟨(frs l).toArray⟩] 9) (n8 : some b8 ≠ rb)
    (kg : Blk w g #[a1F b5 bl b6 b8, syF p, a2F bl br b6 b7 b8] TF) :
    Calls Tryz.prog 37 #[.slice (some ⟨g, 0, none⟩) 3 cp] w (RsP w q p b rb (addN L m l)) := by
  have hu := ho.u
  have hj := ho.j
  have hks : addK L < 100 := by have := ho.k; unfold addK; split <;> omega
  have hjs : addJ L + (frs l).length ≤ 1000000000000 := by unfold addJ; split <;> omega
  have hso : okN (segN L.g (addK L)) = true := (WN.seg _ _ ho.g hks).ok
  have hsl : (segN L.g (addK L)).length ≤ 9223372036854775807 := by have := (WN.seg _ _ ho.g hks).len; omega
  have hfn : Fn1 Tryz.prog (if addC L = true then 25 else 46) := by
    split
    · exact fn1_of Tryz.func25 (by kernel_rfl) (by kernel_rfl)
    · exact fn1_of Tryz.func46 (by kernel_rfl) (by kernel_rfl)
  have HC0 : ∀ b' w1, DD w1 p b' m → Calls Tryz.prog (if addC L = true then 25 else 46) #[.pointer (some ⟨p, 0, none⟩), .string ⟨(segN L.g (addK L)).toArray⟩, .string ⟨(frs l).toArray⟩] w1 (ChN w1 p b' (addR L m (frs l))) := fun b' w1 hD => by
    unfold addR
    split
    · exact writeN p b' m _ _ w1 hD ho.m hso hsl (by omega)
    · exact appendN p b' m _ _ w1 hD ho.m hso hsl (by omega)
  have keep : ∀ {w' b' rb'}, Wch w w' q p b rb b' rb' → Gw w' ∧ TA w' ad l ∧ Blk w' bl #[.pointer (some ⟨q, 0, none⟩)] 25 ∧ Blk w' br #[.slice ad l.length cap] 30 ∧ Blk w' b5 #[ptF (if addC L = true then 25 else 46) p] 49 ∧ Blk w' b6 #[.int .i64 (addK L : Nat)] 3 ∧ Blk w' b7 #[.int .i64 (addJ L : Nat)] 3 ∧ Blk w' b8 #[.string ⟨(frs l).toArray⟩] 9 ∧ Blk w' g #[a1F b5 bl b6 b8, syF p, a2F bl br b6 b7 b8] TF ∧ some b8 ≠ rb' := fun hW =>
    ⟨hW.gw hK hG, hW.ta hK hT hsep, hW.blk hK kl (by decide) (by decide) (by decide) (.inl (by decide)), hW.blk hK kr (by decide) (by decide) (by decide) (.inl (by decide)), hW.blk hK k5 (by decide) (by decide) (by decide) (.inl (by decide)), hW.blk hK k6 (by decide) (by decide) (by decide) (.inl (by decide)), hW.blk hK k7 (by decide) (by decide) (by decide) (.inl (by decide)), hW.blk hK k8 (by decide) (by decide) (by decide) (.inr n8), hW.blk hK kg (by decide) (by decide) (by decide) (.inl (by decide)), hW.sep k8.lt n8⟩
  have ho1 := add_okn ho
  have eN : addN L m l = if (addR L m (frs l)).2 ≠ 0 then (L, addR L m (frs l)) else if (synN (addR L m (frs l)).1).2 ≠ 0 then (L, synN (addR L m (frs l)).1) else (addL L l, synN (addR L m (frs l)).1) := rfl
  rw [eN]
  have eL : addL L l = { L with recs := L.recs ++ l, segs := addK L, last := addJ L + (frs l).length } := rfl
  generalize addR L m (frs l) = R1 at *
  refine (inTurn_rule (some ⟨g, 0, none⟩) 3 cp (fun i => (#[a1F b5 bl b6 b8, syF p, a2F bl br b6 b7 b8][i]?).getD .nilFunc)
    (fun i w' => (∃ b' rb', Wch w w' q p b rb b' rb') ∧ match i with
      | 0 => St w q p b rb L m w'
      | 1 => R1.2 = 0 ∧ St w q p b rb L R1.1 w'
      | 2 => R1.2 = 0 ∧ (synN R1.1).2 = 0 ∧ St w q p b rb L (synN R1.1).1 w'
      | _ => R1.2 = 0 ∧ (synN R1.1).2 = 0 ∧ St w q p b rb (addL L l) (synN R1.1).1 w')
    (fun c w' => RsP w q p b rb (if R1.2 ≠ 0 then (L, R1) else if (synN R1.1).2 ≠ 0 then (L, synN R1.1) else (addL L l, synN R1.1)) (.returned (.int .i64 (c : Nat))) w') w (by omega) ?_ ?_ ?_ ?_).mono ?_
  · rintro i w' ⟨⟨b', rb', hW⟩, _⟩ hi
    have k := (keep hW).2.2.2.2.2.2.2.2.1
    obtain ⟨v, hv⟩ : ∃ v, #[a1F b5 bl b6 b8, syF p, a2F bl br b6 b7 b8][i]? = some v := ⟨_, Array.getElem?_eq_getElem (by simpa using hi)⟩
    refine ⟨g, 0, rfl, ?_⟩
    rw [Nat.zero_add, hv, k.cell i, hv]
    rfl
  · intro i w' hR hi
    match i, hR, hi with
    | 0, ⟨_, b', rb', hW, hK'⟩, _ =>
      obtain ⟨G, Ta, Kl, Kr, K5, K6, K7, K8, _, N8⟩ := keep hW
      refine ⟨_, _, a1_stp b5 bl b6 b8, (add1_any q p bl b5 b6 b8 _ (addK L) b' rb' L m (frs l) R1 w' hK' G ho.g hks hfn (HC0 b') Kl K5 K6 K8 N8).mono ?_⟩
      rintro e w2 ⟨rfl, b2, hW2, hK2⟩
      refine ⟨_, rfl, fun hc => ⟨⟨_, _, hW.trans hW2⟩, hc, _, _, hW.trans hW2, hK2⟩, fun hc => ?_⟩
      rw [if_pos hc]
      exact ⟨rfl, _, _, hW.trans hW2, hK2⟩
    | 1, ⟨_, z1, b', rb', hW, hK'⟩, _ =>
      obtain ⟨G, Ta, Kl, Kr, K5, K6, K7, K8, _, N8⟩ := keep hW
      refine ⟨_, _, sy_stp p, (syncS q p b' rb' L R1.1 w' hK' G (ho1 z1)).mono ?_⟩
      rintro e w2 ⟨rfl, b2, hW2, hK2⟩
      refine ⟨_, rfl, fun hc => ⟨⟨_, _, hW.trans hW2⟩, z1, hc, _, _, hW.trans hW2, hK2⟩, fun hc => ?_⟩
      rw [if_neg (by simp [z1]), if_pos hc]
      exact ⟨rfl, _, _, hW.trans hW2, hK2⟩
    | 2, ⟨_, z1, z2, b', rb', hW, hK'⟩, _ =>
      obtain ⟨G, Ta, Kl, Kr, K5, K6, K7, K8, _, N8⟩ := keep hW
      refine ⟨_, _, a2_stp bl br b6 b7 b8, (add2_any q p bl br b6 b7 b8 (addK L) (addJ L) b' rb' L (synN R1.1).1 (frs l) l ad cap w' hK' G Ta ho.r hjs Kl Kr K6 K7 K8 N8).mono ?_⟩
      rintro e w2 ⟨rfl, rb2, hW2, hK2⟩
      rw [← eL] at hK2
      exact ⟨0, rfl, fun _ => ⟨⟨_, _, hW.trans hW2⟩, z1, z2, _, _, hW.trans hW2, hK2⟩, fun hc => absurd rfl hc⟩
    | i + 3, _, hi => exact absurd hi (by omega)
  · rintro w' ⟨_, z1, z2, b', rb', hW, hK'⟩
    rw [if_neg (by simp [z1]), if_neg (by simp [z2])]
    exact ⟨by rw [z2], b', rb', hW, hK'⟩
  · exact ⟨⟨b, rb, Wch.refl _ _ _ _ _⟩, b, rb, Wch.refl _ _ _ _ _, hK⟩
  · rintro e w' ⟨c, rfl, h⟩
    exact h
end Go.Proofs.YtaiiojbakmminaaGreatDoor
