/- What readBase and the other small functions of a log do. -/
import Derived.Test.YtaiiojbakmminaaGreatDoorWaf
namespace Go.Proofs.YtaiiojbakmminaaGreatDoor
open Go Go.RowKit
theorem run_loadC {op : Oper} {a : Act} {w : World} (ty : TypeId) (x : Operand) (ho : op.op = .load ty x) (b o : Nat) (hx : a.eval x = .pointer (some ⟨b, o, none⟩)) (d : TypeDesc) (hu : Tryz.prog.underlying ty = some d) (hd : d.isRow = false) (v : Value) (hc : w.cell? ⟨b, o, none⟩ = some v) :
    (execOp a.eval op).run Tryz.prog w = .ok (.value v) w := by
  unfold execOp
  simp only [ho, hx]
  simp [Instr.loadAt, Instr.sureAddr, Sem.run_bind, loadVar, isAgg_run hu hd, hc, go_sem]
/-- Reading a file that may be there. -/
theorem readN (p : Nat) (b : Option Nat) (m : DN) (n : B) (w : World) (hD : DD w p b m) (hm : Okn m) (hn : okN n = true) (hnl : n.length ≤ 9223372036854775807) (hd : m.dead = false) :
    Calls Tryz.prog 93 #[.pointer (some ⟨p, 0, none⟩), .string ⟨n.toArray⟩] w fun e w' => e = .returned (.tuple #[.string ⟨(kbyt (atL n m.l)).toArray⟩, .int .i64 ((if (atL n m.l).isSome = true then 0 else 2 : Nat) : Int)]) ∧ Below w.heap.size w w' := by
  obtain ⟨v, hK, _⟩ := hD.out
  have hl := hm.len
  refine (read_any p b (m.lo v) n w hK hm.l.ris (by show m.l.length ≤ _; omega) hnl).mono ?_
  rintro e w' ⟨rfl, hB⟩
  have e1 : theC (m.lo v) n = atL n m.l := theC_ok hn (by rw [hd]; decide)
  have e2 : theE (m.lo v) n = if (atL n m.l).isSome = true then 0 else 2 := by
    have e0 : namE (m.lo v) n = 0 := by rw [nam_ok hn, if_neg (by rw [hd]; decide)]
    unfold theE
    rw [if_pos e0]
    rfl
  rw [e1, e2]
  exact ⟨rfl, hB⟩
theorem kcell {w w' : World} {q g : Nat} {v : Value} (hg : w.grownBy w' (some q)) (hne : g ≠ q) (h : w.cell? ⟨g, 0, none⟩ = some v) : w'.cell? ⟨g, 0, none⟩ = some v := by
  have hl : g < w.heap.size := World.block_lt_of_cell? w ⟨g, 0, none⟩ h
  simp only [World.cell?, hg.block g hl (fun e => hne (Option.some.inj e))] at h ⊢
  exact h
/-- A slice of texts without its first. -/
theorem ts_tail {w : World} {g cp : Nat} {t0 : B} {tl : List B} (h : TS w (.slice (some ⟨g, 0, none⟩) (tl.length + 1) cp) (some g) (t0 :: tl)) : (cp = 1 → TS w (.slice (some ⟨g, 0, none⟩) 0 0) (some g) tl) ∧ (cp ≠ 1 → TS w (.slice (some ⟨g, 1, none⟩) tl.length (cp - 1)) (some g) tl) := by
  rcases h.out with ⟨h1, _⟩ | ⟨g', o, cap, cur, h1, h2, h3, h4, h5, h6⟩
  · cases h1
  · simp only [Value.slice.injEq, Option.some.injEq, Addr.mk.injEq] at h1
    obtain ⟨⟨rfl, rfl, _⟩, _, rfl⟩ := h1
    rw [List.length_cons] at h4
    refine ⟨fun e => ?_, fun e => ?_⟩
    · subst e
      have : tl = [] := List.length_eq_zero_iff.1 (by omega)
      subst this
      exact ⟨.inr ⟨g, 0, 0, cur, rfl, rfl, h3, by simp, by omega, fun j x hx => by simp at hx⟩⟩
    · exact ⟨.inr ⟨g, 1, cp - 1, cur, rfl, rfl, h3, by omega, by omega, fun j x hx => by
        have := h6 (j + 1) x (by simpa using hx)
        rwa [Nat.zero_add, Nat.add_comm] at this⟩⟩
theorem xl_head {w : World} {lo : Nat} {sl : Value} {t0 : B} {tl : List B} (h : XL w lo sl (t0 :: tl)) : ∃ g cp, sl = .slice (some ⟨g, 0, none⟩) (tl.length + 1) cp ∧ lo ≤ g ∧ tl.length + 1 ≤ cp ∧ w.cell? ⟨g, 0, none⟩ = some (.string ⟨t0.toArray⟩) ∧ TS w sl (some g) (t0 :: tl) := by
  have h1 := h.ts
  rcases h.2 with ⟨h2, _⟩ | ⟨g, cap, h3, rfl, h4⟩
  · simp at h2
  · obtain ⟨g', e1, e2⟩ := XL.at h 0 t0 rfl
    simp only [Option.some.injEq, Addr.mk.injEq] at e1
    obtain ⟨rfl, _⟩ := e1
    obtain ⟨cur, h5, h6, _⟩ := h4.out
    refine ⟨g, cap, by simp, h3, by simpa using h6, e2, h1.1⟩
set_option maxRecDepth 100000 in
set_option maxHeartbeats 4000000 in
theorem readBase_ok (q p : Nat) (b rb : Option Nat) (L : LG) (m : DN) (bt t0 : B) (tl : List B) (w : World) (hK : WK w q p b rb L m) (hG : Gw w) (hg : L.g < 100) (hm : Okn m) (hd : m.dead = false) (ha : atL (baseN L.g) m.l = some bt) (hl : bt.length ≤ 4000000) (hu : unfT bt = (t0 :: tl, bt.length)) :
    Calls Tryz.prog 65 #[.pointer (some ⟨q, 0, none⟩)] w (LtP w q p b rb { L with snap := t0, recs := tl } m) := by
  obtain ⟨rv, hL, hTR, hD⟩ := hK.out
  have hdr := Below.drewS w
  have HB := baseName_any L.g hg w.drew
  have HR := readN p b m (baseN L.g) w.drew (hD.below hdr) hm (WN.base _ hg).ok (by have := (WN.base _ hg).len; omega) hd
  rw [ha] at HR
  change Calls Tryz.prog 93 #[.pointer (some ⟨p, 0, none⟩), .string ⟨(baseN L.g).toArray⟩] w.drew (fun e w' => e = .returned (.tuple #[.string ⟨bt.toArray⟩, .int .i64 0]) ∧ Below w.drew.heap.size w.drew w') at HR
  have HU := fun w1 (hB : Below w.heap.size w w1) => wunframe_any bt w1 (hG.below hB).g hl
  rw [hu] at HU
  generalize baseN L.g = bN at *
  have hbl : ¬ (bt.length : Int) < (bt.length : Int) := by omega
  go_enter Tryz.func65, Tryz.ntmps65
  go_wp2_with fail
  refine wp_region_held_drew (S := fun w' : World => Blk w' q (lC p L rv) 64) (by kernel_rfl) (hL.drew) (fun hH => ?_)
  try go_frame
  refine wpAnyH_take (i := 0) (oi := ⟨some 8, _, _, _, _, _⟩) (v := .pointer (some ⟨q, 0, none⟩)) rfl (by kernel_rfl) (by kernel_rfl) (by kernel_rfl) (fun _ _ _ h => h) (Or.inl ⟨by rfl, fun w hSw => by go_simp⟩) hH ?_
  try simp only [Act.put, List.setIfInBounds_toArray, List.set_cons_zero, List.set_cons_succ]
  refine wpAnyH_take (i := 1) (oi := ⟨some 9, _, _, _, _, _⟩) (v := .pointer (some ⟨q, 0, none⟩)) rfl (by kernel_rfl) (by kernel_rfl) (by kernel_rfl) (fun _ _ _ h => h) (Or.inl ⟨by rfl, fun w hSw => by go_simp⟩) hH ?_
  try simp only [Act.put, List.setIfInBounds_toArray, List.set_cons_zero, List.set_cons_succ]
  refine wpAnyH_take (i := 2) (oi := ⟨some 10, _, _, _, _, _⟩) (v := .pointer (some ⟨q, 0, none⟩)) rfl (by kernel_rfl) (by kernel_rfl) (by kernel_rfl) (fun _ _ _ h => h) (Or.inl ⟨by rfl, fun w hSw => by go_simp⟩) hH ?_
  try simp only [Act.put, List.setIfInBounds_toArray, List.set_cons_zero, List.set_cons_succ]
  refine wpAnyH_take (i := 3) (oi := ⟨some 11, _, _, _, _, _⟩) (v := .pointer (some ⟨p, 0, none⟩)) rfl (by kernel_rfl) (by kernel_rfl) (by kernel_rfl) (fun _ _ _ h => h) (Or.inl ⟨by rfl, fun w hSw => run_loadCellB _ _ rfl _ 0 rfl _ _ hSw _ Tryz.underlying23 rfl _ (lC_g0 _ _ _)⟩) hH ?_
  try simp only [Act.put, List.setIfInBounds_toArray, List.set_cons_zero, List.set_cons_succ]
  refine wpAnyH_take (i := 4) (oi := ⟨some 12, _, _, _, _, _⟩) (v := .pointer (some ⟨q, 0, none⟩)) rfl (by kernel_rfl) (by kernel_rfl) (by kernel_rfl) (fun _ _ _ h => h) (Or.inl ⟨by rfl, fun w hSw => by go_simp⟩) hH ?_
  try simp only [Act.put, List.setIfInBounds_toArray, List.set_cons_zero, List.set_cons_succ]
  refine wpAnyH_take (i := 5) (oi := ⟨some 13, _, _, _, _, _⟩) (v := .pointer (some ⟨q, 0, none⟩)) rfl (by kernel_rfl) (by kernel_rfl) (by kernel_rfl) (fun _ _ _ h => h) (Or.inl ⟨by rfl, fun w hSw => by go_simp⟩) hH ?_
  try simp only [Act.put, List.setIfInBounds_toArray, List.set_cons_zero, List.set_cons_succ]
  refine wpAnyH_take (i := 6) (oi := ⟨some 14, _, _, _, _, _⟩) (v := .pointer (some ⟨q, 2, none⟩)) rfl (by kernel_rfl) (by kernel_rfl) (by kernel_rfl) (fun _ _ _ h => h) (Or.inl ⟨by rfl, fun w hSw => by go_simp⟩) hH ?_
  try simp only [Act.put, List.setIfInBounds_toArray, List.set_cons_zero, List.set_cons_succ]
  refine wpAnyH_take (i := 7) (oi := ⟨some 15, _, _, _, _, _⟩) (v := .int .i64 (L.g : Nat)) rfl (by kernel_rfl) (by kernel_rfl) (by kernel_rfl) (fun _ _ _ h => h) (Or.inl ⟨by rfl, fun w hSw => run_loadCellB _ _ rfl _ 2 rfl _ _ hSw _ Tryz.underlying3 rfl _ (lC_g2 _ _ _)⟩) hH ?_
  try simp only [Act.put, List.setIfInBounds_toArray, List.set_cons_zero, List.set_cons_succ]
  refine wpAnyH_solo (i := 8) (o := ⟨some 16, _, _, _, _, _⟩) rfl (by kernel_rfl) (fun K hK => ?_)
  refine wpList_callR Tryz.func36 (by kernel_rfl) (by kernel_rfl) rfl _ _ rfl #[.int .i64 (L.g : Nat)] (args1 rfl) _ (HB) ?_
  rintro e w' ⟨rfl, hw'⟩
  have hw2' := hw'.symm
  subst hw2'
  clear hw'
  refine ⟨_, rfl, ?_⟩
  refine hK _ _ hH ?_
  clear hK K
  try simp only [Act.put, List.setIfInBounds_toArray, List.set_cons_zero, List.set_cons_succ]
  refine wpAnyH_solo (i := 9) (o := ⟨some 17, _, _, _, _, _⟩) rfl (by kernel_rfl) (fun K hK => ?_)
  refine wpList_callR Tryz.func93 (by kernel_rfl) (by kernel_rfl) rfl _ _ rfl #[.pointer (some ⟨p, 0, none⟩), .string ⟨bN.toArray⟩] (args2 rfl rfl) _ (HR) ?_
  rintro e w2 ⟨rfl, hw2⟩
  have hH2 := hH.belowSize hw2
  refine ⟨_, rfl, ?_⟩
  refine hK _ _ hH2 ?_
  clear hK K
  try simp only [Act.put, List.setIfInBounds_toArray, List.set_cons_zero, List.set_cons_succ]
  refine wpAnyH_solo (i := 10) (o := ⟨some 7, _, _, _, _, _⟩) rfl (by kernel_rfl) (fun K hK => ?_)
  refine wpList_pure rfl (.tuple #[.string ⟨bt.toArray⟩, .int .i64 0]) (by go_simp) ?_
  refine hK _ _ hH2 ?_
  clear hK K
  try simp only [Act.put, List.setIfInBounds_toArray, List.set_cons_zero, List.set_cons_succ]
  refine wpAnyH_take (i := 11) (oi := ⟨some 18, _, _, _, _, _⟩) (v := .string ⟨bt.toArray⟩) rfl (by kernel_rfl) (by kernel_rfl) (by kernel_rfl) (fun _ _ _ h => h) (Or.inl ⟨by rfl, fun w hSw => run_extract _ _ rfl _ rfl _ rfl⟩) hH2 ?_
  try simp only [Act.put, List.setIfInBounds_toArray, List.set_cons_zero, List.set_cons_succ]
  refine wpAnyH_take (i := 12) (oi := ⟨some 19, _, _, _, _, _⟩) (v := .int .i64 0) rfl (by kernel_rfl) (by kernel_rfl) (by kernel_rfl) (fun _ _ _ h => h) (Or.inl ⟨by rfl, fun w hSw => run_extract _ _ rfl _ rfl _ rfl⟩) hH2 ?_
  try simp only [Act.put, List.setIfInBounds_toArray, List.set_cons_zero, List.set_cons_succ]
  refine wpAnyH_take (i := 13) (oi := ⟨some 3, _, _, _, _, _⟩) (v := .string ⟨bt.toArray⟩) rfl (by kernel_rfl) (by kernel_rfl) (by kernel_rfl) (fun _ _ _ h => h) (Or.inl ⟨by rfl, fun w hSw => by go_simp⟩) hH2 ?_
  try simp only [Act.put, List.setIfInBounds_toArray, List.set_cons_zero, List.set_cons_succ]
  refine wpAnyH_take (i := 14) (oi := ⟨some 4, _, _, _, _, _⟩) (v := .int .i64 0) rfl (by kernel_rfl) (by kernel_rfl) (by kernel_rfl) (fun _ _ _ h => h) (Or.inl ⟨by rfl, fun w hSw => by go_simp⟩) hH2 ?_
  try simp only [Act.put, List.setIfInBounds_toArray, List.set_cons_zero, List.set_cons_succ]
  refine wpAnyH_done (by kernel_rfl) ?_ _
  try simp only [Act.put]
  try go_simp
  have hB2 := hdr.trans (hw2.mono hdr.size)
  go_upto_region 7 with (go_at_call 94; refine (HU _ hB2).mono ?_; rintro e w3 ⟨sl3, rfl, hw3, hX3⟩; obtain ⟨g, cp, rfl, hgl, hcp, hc0, hTS⟩ := xl_head hX3; clear hX3)
  have hL3 := hH2.belowSize hw3
  have hB3 := hB2.trans (hw3.mono hB2.size)
  have hgq : g ≠ q := by have := hL.lt; have := hB2.size; omega
  have hgw : w.heap.size ≤ g := Nat.le_trans hB2.size hgl
  obtain ⟨hta, htb⟩ := ts_tail hTS
  have hwd : Below w3.heap.size w3 w3.drew := Below.drewS w3
  replace hL3 := hL3.drew
  have hB3d := hB3.trans (hwd.mono hB3.size)
  have h2 := hG.two
  have fin : ∀ {w4 w5 : World} {v : Value}, TS w3 v (some g) tl → w3.drew.grownBy w4 (some q) → w4.grownBy w5 (some q) → Blk w5 q (lC p { L with snap := t0, recs := tl } v) 64 → LtP w q p b rb { L with snap := t0, recs := tl } m (.returned (.int .i64 0)) w5 := fun hv g4 g5 hB5 => by
    have hgg := grown_trans g4 g5
    refine ⟨rfl, some g, ⟨hgg.os.trans hB3d.os, hgg.tape.trans hB3d.tape, hgg.output.trans hB3d.output, Nat.le_trans hB3d.size hgg.size, fun k hk h1 _ _ _ => (hgg.block k (Nat.lt_of_lt_of_le hk hB3d.size) (fun e => h1 (Option.some.inj e))).trans (hB3d.block k hk), fun _ e => .inl e, fun k e => by cases e; exact .inr hgw⟩, ⟨⟨_, hB5, (hv.below hwd).grown hgg (fun k e e2 => by cases e; exact hgq (Option.some.inj e2)), (hD.below hB3d).grown hgg hL3 (by decide) (by decide) (by decide)⟩, hK.q2, hK.p2, hK.b2, fun k e => by cases e; omega⟩⟩
  clear hwd hTS
  by_cases hc1 : cp = 1
  · have hv := hta hc1
    subst hc1
    have htl0 : tl = [] := List.length_eq_zero_iff.1 (by omega)
    subst htl0
    refine wp_region_held_drew (S := fun w' : World => w'.cell? ⟨g, 0, none⟩ = some (.string ⟨t0.toArray⟩)) (by kernel_rfl) (hc0) (fun hH => ?_)
    try go_frame
    refine wpAnyH_take (i := 0) (oi := ⟨some 37, _, _, _, _, _⟩) (v := .pointer (some ⟨q, 0, none⟩)) rfl (by kernel_rfl) (by kernel_rfl) (by kernel_rfl) (fun _ _ _ h => h) (Or.inl ⟨by rfl, fun w hSw => by go_simp⟩) hH ?_
    try simp only [Act.put, List.setIfInBounds_toArray, List.set_cons_zero, List.set_cons_succ]
    refine wpAnyH_take (i := 1) (oi := ⟨some 38, _, _, _, _, _⟩) (v := .pointer (some ⟨q, 0, none⟩)) rfl (by kernel_rfl) (by kernel_rfl) (by kernel_rfl) (fun _ _ _ h => h) (Or.inl ⟨by rfl, fun w hSw => by go_simp⟩) hH ?_
    try simp only [Act.put, List.setIfInBounds_toArray, List.set_cons_zero, List.set_cons_succ]
    refine wpAnyH_take (i := 2) (oi := ⟨some 39, _, _, _, _, _⟩) (v := .slice (some ⟨g, 0, none⟩) 1 1) rfl (by kernel_rfl) (by kernel_rfl) (by kernel_rfl) (fun _ _ _ h => h) (Or.inl ⟨by rfl, fun w hSw => by go_simp⟩) hH ?_
    try simp only [Act.put, List.setIfInBounds_toArray, List.set_cons_zero, List.set_cons_succ]
    refine wpAnyH_take (i := 3) (oi := ⟨some 40, _, _, _, _, _⟩) (v := .pointer (some ⟨g, 0, none⟩)) rfl (by kernel_rfl) (by kernel_rfl) (by kernel_rfl) (fun _ _ _ h => h) (Or.inl ⟨by rfl, fun w hSw => by go_simp⟩) hH ?_
    try simp only [Act.put, List.setIfInBounds_toArray, List.set_cons_zero, List.set_cons_succ]
    refine wpAnyH_take (i := 4) (oi := ⟨some 41, _, _, _, _, _⟩) (v := .string ⟨t0.toArray⟩) rfl (by kernel_rfl) (by kernel_rfl) (by kernel_rfl) (fun _ _ _ h => h) (Or.inl ⟨by rfl, fun w hSw => run_loadC _ _ rfl _ _ rfl _ Tryz.underlying9 rfl _ hSw⟩) hH ?_
    try simp only [Act.put, List.setIfInBounds_toArray, List.set_cons_zero, List.set_cons_succ]
    refine wpAnyH_take (i := 5) (oi := ⟨some 42, _, _, _, _, _⟩) (v := .slice (some ⟨g, 0, none⟩) 1 1) rfl (by kernel_rfl) (by kernel_rfl) (by kernel_rfl) (fun _ _ _ h => h) (Or.inl ⟨by rfl, fun w hSw => by go_simp⟩) hH ?_
    try simp only [Act.put, List.setIfInBounds_toArray, List.set_cons_zero, List.set_cons_succ]
    refine wpAnyH_take (i := 6) (oi := ⟨some 43, _, _, _, _, _⟩) (v := .slice (some ⟨g, 0, none⟩) 0 0) rfl (by kernel_rfl) (by kernel_rfl) (by kernel_rfl) (fun _ _ _ h => h) (Or.inl ⟨by rfl, fun w hSw => by go_simp⟩) hH ?_
    try simp only [Act.put, List.setIfInBounds_toArray, List.set_cons_zero, List.set_cons_succ]
    refine wpAnyH_take (i := 7) (oi := ⟨some 44, _, _, _, _, _⟩) (v := .pointer (some ⟨q, 0, none⟩)) rfl (by kernel_rfl) (by kernel_rfl) (by kernel_rfl) (fun _ _ _ h => h) (Or.inl ⟨by rfl, fun w hSw => by go_simp⟩) hH ?_
    try simp only [Act.put, List.setIfInBounds_toArray, List.set_cons_zero, List.set_cons_succ]
    refine wpAnyH_take (i := 8) (oi := ⟨some 45, _, _, _, _, _⟩) (v := .pointer (some ⟨q, 3, none⟩)) rfl (by kernel_rfl) (by kernel_rfl) (by kernel_rfl) (fun _ _ _ h => h) (Or.inl ⟨by rfl, fun w hSw => by go_simp⟩) hH ?_
    try simp only [Act.put, List.setIfInBounds_toArray, List.set_cons_zero, List.set_cons_succ]
    refine wpAnyH_solo (i := 9) (o := ⟨none, _, _, _, _, _⟩) rfl (by kernel_rfl) (fun K hK9 => ?_)
    refine wpList_storeCell rfl _ _ _ rfl q 3 rfl (.string ⟨t0.toArray⟩) rfl _ _ hL3 iStrS rfl rfl (by rw [lC_size]; decide) ?_
    intro w4 hg4 hs4 hL4
    clear hs4
    rw [lC_s3] at hL4
    have hS4 := kcell hg4 hgq hH
    refine hK9 _ _ hS4 ?_
    clear hK9 K
    try simp only [Act.put]
    refine wpAnyH_take (i := 10) (oi := ⟨some 46, _, _, _, _, _⟩) (v := .pointer (some ⟨q, 0, none⟩)) rfl (by kernel_rfl) (by kernel_rfl) (by kernel_rfl) (fun _ _ _ h => h) (Or.inl ⟨by rfl, fun w hSw => by go_simp⟩) hS4 ?_
    try simp only [Act.put, List.setIfInBounds_toArray, List.set_cons_zero, List.set_cons_succ]
    refine wpAnyH_take (i := 11) (oi := ⟨some 47, _, _, _, _, _⟩) (v := .pointer (some ⟨q, 4, none⟩)) rfl (by kernel_rfl) (by kernel_rfl) (by kernel_rfl) (fun _ _ _ h => h) (Or.inl ⟨by rfl, fun w hSw => by go_simp⟩) hS4 ?_
    try simp only [Act.put, List.setIfInBounds_toArray, List.set_cons_zero, List.set_cons_succ]
    refine wpAnyH_solo (i := 12) (o := ⟨none, _, _, _, _, _⟩) rfl (by kernel_rfl) (fun K hK9 => ?_)
    refine wpList_storeCell rfl _ _ _ rfl q 4 rfl (.slice (some ⟨g, 0, none⟩) 0 0) rfl _ _ hL4 iSlS rfl rfl (by rw [lC_size]; decide) ?_
    intro w5 hg5 hs5 hL5
    clear hs5
    rw [lC_s4 _ _ _ _ []] at hL5
    have hS5 := kcell hg5 hgq hS4
    refine hK9 _ _ hS5 ?_
    clear hK9 K
    try simp only [Act.put]
    refine wpAnyH_done (by kernel_rfl) ?_ _
    try simp only [Act.put]
    try go_simp
    go_wp2_with fail
    go_ret
    exact fin hv hg4 hg5 hL5
  · have hv := htb hc1
    have hc2 : ¬ (1 : Nat) = cp := fun e => hc1 e.symm
    refine wp_region_held_drew (S := fun w' : World => w'.cell? ⟨g, 0, none⟩ = some (.string ⟨t0.toArray⟩)) (by kernel_rfl) (hc0) (fun hH => ?_)
    try go_frame
    refine wpAnyH_take (i := 0) (oi := ⟨some 37, _, _, _, _, _⟩) (v := .pointer (some ⟨q, 0, none⟩)) rfl (by kernel_rfl) (by kernel_rfl) (by kernel_rfl) (fun _ _ _ h => h) (Or.inl ⟨by rfl, fun w hSw => by go_simp⟩) hH ?_
    try simp only [Act.put, List.setIfInBounds_toArray, List.set_cons_zero, List.set_cons_succ]
    refine wpAnyH_take (i := 1) (oi := ⟨some 38, _, _, _, _, _⟩) (v := .pointer (some ⟨q, 0, none⟩)) rfl (by kernel_rfl) (by kernel_rfl) (by kernel_rfl) (fun _ _ _ h => h) (Or.inl ⟨by rfl, fun w hSw => by go_simp⟩) hH ?_
    try simp only [Act.put, List.setIfInBounds_toArray, List.set_cons_zero, List.set_cons_succ]
    refine wpAnyH_take (i := 2) (oi := ⟨some 39, _, _, _, _, _⟩) (v := .slice (some ⟨g, 0, none⟩) (tl.length + 1) cp) rfl (by kernel_rfl) (by kernel_rfl) (by kernel_rfl) (fun _ _ _ h => h) (Or.inl ⟨by rfl, fun w hSw => by go_simp⟩) hH ?_
    try simp only [Act.put, List.setIfInBounds_toArray, List.set_cons_zero, List.set_cons_succ]
    refine wpAnyH_take (i := 3) (oi := ⟨some 40, _, _, _, _, _⟩) (v := .pointer (some ⟨g, 0, none⟩)) rfl (by kernel_rfl) (by kernel_rfl) (by kernel_rfl) (fun _ _ _ h => h) (Or.inl ⟨by rfl, fun w hSw => by go_simp⟩) hH ?_
    try simp only [Act.put, List.setIfInBounds_toArray, List.set_cons_zero, List.set_cons_succ]
    refine wpAnyH_take (i := 4) (oi := ⟨some 41, _, _, _, _, _⟩) (v := .string ⟨t0.toArray⟩) rfl (by kernel_rfl) (by kernel_rfl) (by kernel_rfl) (fun _ _ _ h => h) (Or.inl ⟨by rfl, fun w hSw => run_loadC _ _ rfl _ _ rfl _ Tryz.underlying9 rfl _ hSw⟩) hH ?_
    try simp only [Act.put, List.setIfInBounds_toArray, List.set_cons_zero, List.set_cons_succ]
    refine wpAnyH_take (i := 5) (oi := ⟨some 42, _, _, _, _, _⟩) (v := .slice (some ⟨g, 0, none⟩) (tl.length + 1) cp) rfl (by kernel_rfl) (by kernel_rfl) (by kernel_rfl) (fun _ _ _ h => h) (Or.inl ⟨by rfl, fun w hSw => by go_simp⟩) hH ?_
    try simp only [Act.put, List.setIfInBounds_toArray, List.set_cons_zero, List.set_cons_succ]
    refine wpAnyH_take (i := 6) (oi := ⟨some 43, _, _, _, _, _⟩) (v := .slice (some ⟨g, 1, none⟩) tl.length (cp - 1)) rfl (by kernel_rfl) (by kernel_rfl) (by kernel_rfl) (fun _ _ _ h => h) (Or.inl ⟨by rfl, fun w hSw => by go_simp; intro h; omega⟩) hH ?_
    try simp only [Act.put, List.setIfInBounds_toArray, List.set_cons_zero, List.set_cons_succ]
    refine wpAnyH_take (i := 7) (oi := ⟨some 44, _, _, _, _, _⟩) (v := .pointer (some ⟨q, 0, none⟩)) rfl (by kernel_rfl) (by kernel_rfl) (by kernel_rfl) (fun _ _ _ h => h) (Or.inl ⟨by rfl, fun w hSw => by go_simp⟩) hH ?_
    try simp only [Act.put, List.setIfInBounds_toArray, List.set_cons_zero, List.set_cons_succ]
    refine wpAnyH_take (i := 8) (oi := ⟨some 45, _, _, _, _, _⟩) (v := .pointer (some ⟨q, 3, none⟩)) rfl (by kernel_rfl) (by kernel_rfl) (by kernel_rfl) (fun _ _ _ h => h) (Or.inl ⟨by rfl, fun w hSw => by go_simp⟩) hH ?_
    try simp only [Act.put, List.setIfInBounds_toArray, List.set_cons_zero, List.set_cons_succ]
    refine wpAnyH_solo (i := 9) (o := ⟨none, _, _, _, _, _⟩) rfl (by kernel_rfl) (fun K hK9 => ?_)
    refine wpList_storeCell rfl _ _ _ rfl q 3 rfl (.string ⟨t0.toArray⟩) rfl _ _ hL3 iStrS rfl rfl (by rw [lC_size]; decide) ?_
    intro w4 hg4 hs4 hL4
    clear hs4
    rw [lC_s3] at hL4
    have hS4 := kcell hg4 hgq hH
    refine hK9 _ _ hS4 ?_
    clear hK9 K
    try simp only [Act.put]
    refine wpAnyH_take (i := 10) (oi := ⟨some 46, _, _, _, _, _⟩) (v := .pointer (some ⟨q, 0, none⟩)) rfl (by kernel_rfl) (by kernel_rfl) (by kernel_rfl) (fun _ _ _ h => h) (Or.inl ⟨by rfl, fun w hSw => by go_simp⟩) hS4 ?_
    try simp only [Act.put, List.setIfInBounds_toArray, List.set_cons_zero, List.set_cons_succ]
    refine wpAnyH_take (i := 11) (oi := ⟨some 47, _, _, _, _, _⟩) (v := .pointer (some ⟨q, 4, none⟩)) rfl (by kernel_rfl) (by kernel_rfl) (by kernel_rfl) (fun _ _ _ h => h) (Or.inl ⟨by rfl, fun w hSw => by go_simp⟩) hS4 ?_
    try simp only [Act.put, List.setIfInBounds_toArray, List.set_cons_zero, List.set_cons_succ]
    refine wpAnyH_solo (i := 12) (o := ⟨none, _, _, _, _, _⟩) rfl (by kernel_rfl) (fun K hK9 => ?_)
    refine wpList_storeCell rfl _ _ _ rfl q 4 rfl (.slice (some ⟨g, 1, none⟩) tl.length (cp - 1)) rfl _ _ hL4 iSlS rfl rfl (by rw [lC_size]; decide) ?_
    intro w5 hg5 hs5 hL5
    clear hs5
    rw [lC_s4 _ _ _ _ tl] at hL5
    have hS5 := kcell hg5 hgq hS4
    refine hK9 _ _ hS5 ?_
    clear hK9 K
    try simp only [Act.put]
    refine wpAnyH_done (by kernel_rfl) ?_ _
    try simp only [Act.put]
    try go_simp
    go_wp2_with fail
    go_ret
    exact fin hv hg4 hg5 hL5
end Go.Proofs.YtaiiojbakmminaaGreatDoor
