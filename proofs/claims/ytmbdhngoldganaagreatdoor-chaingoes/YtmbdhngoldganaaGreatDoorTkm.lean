/- What isNew of a chain does. What TakeMembers does, whatever the bytes. -/
import Derived.Test.YtmbdhngoldganaaGreatDoorCcu
import Derived.Test.YtmbdhngoldganaaGreatDoorHcl
namespace Go.Proofs.YtmbdhngoldganaaGreatDoor
open Go Go.RowKit
/-- Is all but the height as it is ahead of the first block? -/
def nwP (c : CN) : Bool := decide (c.hash = gD c.name c.first) && (decide (c.m.length = 0) && decide (c.mem = c.first))
section
attribute [local go_sem] Oper.semAt_some
set_option maxRecDepth 100000 in
set_option maxHeartbeats 4000000 in
theorem isNew_any (N cb bs bt : Nat) (sl : Value) (c : CN) (w : World) (hc : CH w N cb bs bt sl c) (hok : OkC c) :
    Calls Tryz.prog 46 #[.pointer (some ⟨cb, 0, none⟩)] w fun e w' => e = .returned (.bool (nwP c)) ∧ Below w.heap.size w w' := by
  obtain ⟨gf, cf, gm, cm, hC, hCf, hCm⟩ := hc.blk
  obtain ⟨ka, kc, rfl⟩ := hc.nkept
  have HGn := fun w1 (hb : Below w.heap.size w w1) => genC_any N cb bs bt _ c w1 (hc.below hb) hok
  have HLn := fun w1 (hb : Below w.heap.size w w1) => len_st bs c.m w1 (hc.below hb).ex.st
  have m16 := (okM_iff.1 hok.mem).len
  have HEq := fun w1 (hb : Below w.heap.size w w1) => equalI_any (some ⟨gm, 0, none⟩) (some ⟨gf, 0, none⟩) c.mem c.first cm cf w1 (hCm.below hb).ia (hCf.below hb).ia (by omega)
  unfold EqP at HEq
  have hN1 : Hid (¬ c.hash = gD c.name c.first → Ending.returned (.bool false) = .returned (.bool (nwP c))) := fun h => by unfold nwP; rw [decide_eq_false h, Bool.false_and]
  have hN2 : Hid (c.hash = gD c.name c.first → ¬ c.m.length = 0 → Ending.returned (.bool false) = .returned (.bool (nwP c))) := fun h h2 => by unfold nwP; rw [decide_eq_true h, decide_eq_false h2, Bool.false_and, Bool.and_false]
  have hN3 : Hid (c.hash = gD c.name c.first → c.m.length = 0 → ∀ y : Bool, (y = true ↔ c.mem = c.first) → Ending.returned (.bool y) = .returned (.bool (nwP c))) := fun h h2 y hy => by
    unfold nwP
    rw [decide_eq_true h, decide_eq_true h2, Bool.true_and, Bool.true_and]
    congr 2
    rw [Bool.eq_iff_iff, hy, decide_eq_true_eq]
  have hH := hC.drew
  have hB0 : Below w.heap.size w w.drew := (Below.refl _ _).drew
  go_enter Tryz.func46, Tryz.ntmps46
  go_upto_region 1 with fail
  refine wp_region_held_drew (S := fun w' : World => Blk w' cb (chC c.name (.slice (some ⟨gf, 0, none⟩) c.first.length cf) c.ht c.hash (.slice (some ⟨gm, 0, none⟩) c.mem.length cm) bs bt (.slice ka c.kept.length kc)) 103) (by kernel_rfl) hH (fun _ => ?_)
  refine wpAnyH_take (i := 0) (oi := ⟨some 3, _, _, _, _, _⟩) (v := .pointer (some ⟨cb, 0, none⟩)) rfl (by kernel_rfl) (by kernel_rfl) (by kernel_rfl) (fun _ _ _ h => h) (Or.inl ⟨by rfl, fun w hSw => by go_simp⟩) hH ?_
  try simp only [Act.put, List.setIfInBounds_toArray, List.set_cons_zero, List.set_cons_succ]
  refine wpAnyH_take (i := 1) (oi := ⟨some 4, _, _, _, _, _⟩) (v := .pointer (some ⟨cb, 0, none⟩)) rfl (by kernel_rfl) (by kernel_rfl) (by kernel_rfl) (fun _ _ _ h => h) (Or.inl ⟨by rfl, fun w hSw => by go_simp⟩) hH ?_
  try simp only [Act.put, List.setIfInBounds_toArray, List.set_cons_zero, List.set_cons_succ]
  refine wpAnyH_take (i := 2) (oi := ⟨some 5, _, _, _, _, _⟩) (v := .pointer (some ⟨cb, 2, none⟩)) rfl (by kernel_rfl) (by kernel_rfl) (by kernel_rfl) (fun _ _ _ h => h) (Or.inl ⟨by rfl, fun w hSw => by go_simp⟩) hH ?_
  try simp only [Act.put, List.setIfInBounds_toArray, List.set_cons_zero, List.set_cons_succ]
  refine wpAnyH_take (i := 3) (oi := ⟨some 6, _, _, _, _, _⟩) (v := .pointer (some ⟨cb, 3, none⟩)) rfl (by kernel_rfl) (by kernel_rfl) (by kernel_rfl) (fun _ _ _ h => h) (Or.inl ⟨by rfl, fun w hSw => by go_simp⟩) hH ?_
  try simp only [Act.put, List.setIfInBounds_toArray, List.set_cons_zero, List.set_cons_succ]
  refine wpAnyH_take (i := 4) (oi := ⟨some 7, _, _, _, _, _⟩) (v := .string ⟨c.hash.toArray⟩) rfl (by kernel_rfl) (by kernel_rfl) (by kernel_rfl) (fun _ _ _ h => h) (Or.inl ⟨by rfl, fun w hSw => run_loadCellB _ _ rfl _ 3 rfl _ _ hSw _ Tryz.underlying9 rfl _ (chC_g3 _ _ _ _ _ _ _ _)⟩) hH ?_
  try simp only [Act.put, List.setIfInBounds_toArray, List.set_cons_zero, List.set_cons_succ]
  refine wpAnyH_take (i := 5) (oi := ⟨some 8, _, _, _, _, _⟩) (v := .pointer (some ⟨cb, 0, none⟩)) rfl (by kernel_rfl) (by kernel_rfl) (by kernel_rfl) (fun _ _ _ h => h) (Or.inl ⟨by rfl, fun w hSw => by go_simp⟩) hH ?_
  try simp only [Act.put, List.setIfInBounds_toArray, List.set_cons_zero, List.set_cons_succ]
  refine wpAnyH_solo (i := 6) (o := ⟨some 9, _, _, _, _, _⟩) rfl (by kernel_rfl) (fun K hK => ?_)
  refine wpList_callR Tryz.func27 (by kernel_rfl) (by kernel_rfl) rfl _ _ rfl #[.pointer (some ⟨cb, 0, none⟩)] (args1 rfl) _ (HGn _ hB0) ?_
  rintro e wE ⟨rfl, hwE⟩
  have hHE := hH.belowSize hwE
  have hBE := hB0.trans (hwE.mono hB0.size)
  refine ⟨_, rfl, ?_⟩
  refine hK _ _ hHE ?_
  clear hK K
  try simp only [Act.put, List.setIfInBounds_toArray, List.set_cons_zero, List.set_cons_succ]
  by_cases h10 : c.hash = gD c.name c.first
  · have h1 : Hid (c.hash = gD c.name c.first) := h10
    clear h10
    replace hN2 := hN2.out h1.out
    replace hN3 := hN3.out h1.out
    replace hN2 : Hid (¬ c.m.length = 0 → _ = _) := hN2
    replace hN3 : Hid (c.m.length = 0 → ∀ y : Bool, (y = true ↔ c.mem = c.first) → _ = _) := hN3
    refine wpAnyH_take (i := 7) (oi := ⟨some 10, _, _, _, _, _⟩) (v := .bool true) rfl (by kernel_rfl) (by kernel_rfl) (by kernel_rfl) (fun _ _ _ h => h) (Or.inl ⟨by rfl, fun w hSw => run_eqS rfl rfl rfl (decide_eq_true h1.out)⟩) hHE ?_
    try simp only [Act.put, List.setIfInBounds_toArray, List.set_cons_zero, List.set_cons_succ]
    refine wpAnyH_take (i := 8) (oi := ⟨some 11, _, _, _, _, _⟩) (v := .bool true) rfl (by kernel_rfl) (by kernel_rfl) (by kernel_rfl) (fun _ _ _ h => h) (Or.inl ⟨by rfl, fun w hSw => by go_simp⟩) hHE ?_
    try simp only [Act.put, List.setIfInBounds_toArray, List.set_cons_zero, List.set_cons_succ]
    refine wpAnyH_take (i := 9) (oi := ⟨some 12, _, _, _, _, _⟩) (v := .pointer (some ⟨cb, 0, none⟩)) rfl (by kernel_rfl) (by kernel_rfl) (by kernel_rfl) (fun _ _ _ h => h) (Or.inl ⟨by rfl, fun w hSw => by go_simp⟩) hHE ?_
    try simp only [Act.put, List.setIfInBounds_toArray, List.set_cons_zero, List.set_cons_succ]
    refine wpAnyH_take (i := 10) (oi := ⟨some 13, _, _, _, _, _⟩) (v := .pointer (some ⟨cb, 0, none⟩)) rfl (by kernel_rfl) (by kernel_rfl) (by kernel_rfl) (fun _ _ _ h => h) (Or.inl ⟨by rfl, fun w hSw => by go_simp⟩) hHE ?_
    try simp only [Act.put, List.setIfInBounds_toArray, List.set_cons_zero, List.set_cons_succ]
    refine wpAnyH_take (i := 11) (oi := ⟨some 14, _, _, _, _, _⟩) (v := .pointer (some ⟨cb, 5, none⟩)) rfl (by kernel_rfl) (by kernel_rfl) (by kernel_rfl) (fun _ _ _ h => h) (Or.inl ⟨by rfl, fun w hSw => by go_simp⟩) hHE ?_
    try simp only [Act.put, List.setIfInBounds_toArray, List.set_cons_zero, List.set_cons_succ]
    refine wpAnyH_take (i := 12) (oi := ⟨some 15, _, _, _, _, _⟩) (v := .pointer (some ⟨bs, 0, none⟩)) rfl (by kernel_rfl) (by kernel_rfl) (by kernel_rfl) (fun _ _ _ h => h) (Or.inl ⟨by rfl, fun w hSw => run_loadCellB _ _ rfl _ 5 rfl _ _ hSw _ Tryz.underlying72 rfl _ (chC_g5 _ _ _ _ _ _ _ _)⟩) hHE ?_
    try simp only [Act.put, List.setIfInBounds_toArray, List.set_cons_zero, List.set_cons_succ]
    refine wpAnyH_solo (i := 13) (o := ⟨some 16, _, _, _, _, _⟩) rfl (by kernel_rfl) (fun K hK => ?_)
    refine wpList_callG Tryz.func76 (by kernel_rfl) (by kernel_rfl) (by rfl) _ _ rfl #[.pointer (some ⟨bs, 0, none⟩)] (args1 rfl) _ (HLn _ hBE) ?_
    rintro e wF ⟨rfl, hwF⟩
    have hwF := hwF.symm
    subst hwF
    refine ⟨_, rfl, ?_⟩
    refine hK _ _ hHE ?_
    clear hK K
    try simp only [Act.put, List.setIfInBounds_toArray, List.set_cons_zero, List.set_cons_succ]
    by_cases h20 : c.m.length = 0
    · have hl0 : ((c.m.length : Int) == 0) = true := by rw [beq_iff_eq]; omega
      have h2 : Hid (c.m.length = 0) := h20
      clear h20
      refine wpAnyH_take (i := 14) (oi := ⟨some 17, _, _, _, _, _⟩) (v := .bool true) rfl (by kernel_rfl) (by kernel_rfl) (by kernel_rfl) (fun _ _ _ h => h) (Or.inl ⟨by rfl, fun w hSw => by go_simp⟩) hHE ?_
      try simp only [Act.put, List.setIfInBounds_toArray, List.set_cons_zero, List.set_cons_succ]
      refine wpAnyH_take (i := 15) (oi := ⟨some 18, _, _, _, _, _⟩) (v := .bool true) rfl (by kernel_rfl) (by kernel_rfl) (by kernel_rfl) (fun _ _ _ h => h) (Or.inl ⟨by rfl, fun w hSw => by go_simp⟩) hHE ?_
      try simp only [Act.put, List.setIfInBounds_toArray, List.set_cons_zero, List.set_cons_succ]
      refine wpAnyH_take (i := 16) (oi := ⟨some 19, _, _, _, _, _⟩) (v := .bool true) rfl (by kernel_rfl) (by kernel_rfl) (by kernel_rfl) (fun _ _ _ h => h) (Or.inl ⟨by rfl, fun w hSw => by go_simp⟩) hHE ?_
      try simp only [Act.put, List.setIfInBounds_toArray, List.set_cons_zero, List.set_cons_succ]
      refine wpAnyH_take (i := 17) (oi := ⟨some 20, _, _, _, _, _⟩) (v := .pointer (some ⟨cb, 0, none⟩)) rfl (by kernel_rfl) (by kernel_rfl) (by kernel_rfl) (fun _ _ _ h => h) (Or.inl ⟨by rfl, fun w hSw => by go_simp⟩) hHE ?_
      try simp only [Act.put, List.setIfInBounds_toArray, List.set_cons_zero, List.set_cons_succ]
      refine wpAnyH_take (i := 18) (oi := ⟨some 21, _, _, _, _, _⟩) (v := .pointer (some ⟨cb, 0, none⟩)) rfl (by kernel_rfl) (by kernel_rfl) (by kernel_rfl) (fun _ _ _ h => h) (Or.inl ⟨by rfl, fun w hSw => by go_simp⟩) hHE ?_
      try simp only [Act.put, List.setIfInBounds_toArray, List.set_cons_zero, List.set_cons_succ]
      refine wpAnyH_take (i := 19) (oi := ⟨some 22, _, _, _, _, _⟩) (v := .pointer (some ⟨cb, 2, none⟩)) rfl (by kernel_rfl) (by kernel_rfl) (by kernel_rfl) (fun _ _ _ h => h) (Or.inl ⟨by rfl, fun w hSw => by go_simp⟩) hHE ?_
      try simp only [Act.put, List.setIfInBounds_toArray, List.set_cons_zero, List.set_cons_succ]
      refine wpAnyH_take (i := 20) (oi := ⟨some 23, _, _, _, _, _⟩) (v := .pointer (some ⟨cb, 4, none⟩)) rfl (by kernel_rfl) (by kernel_rfl) (by kernel_rfl) (fun _ _ _ h => h) (Or.inl ⟨by rfl, fun w hSw => by go_simp⟩) hHE ?_
      try simp only [Act.put, List.setIfInBounds_toArray, List.set_cons_zero, List.set_cons_succ]
      refine wpAnyH_take (i := 21) (oi := ⟨some 24, _, _, _, _, _⟩) (v := .slice (some ⟨gm, 0, none⟩) c.mem.length cm) rfl (by kernel_rfl) (by kernel_rfl) (by kernel_rfl) (fun _ _ _ h => h) (Or.inl ⟨by rfl, fun w hSw => run_loadCellB _ _ rfl _ 4 rfl _ _ hSw _ Tryz.underlying22 rfl _ (chC_g4 _ _ _ _ _ _ _ _)⟩) hHE ?_
      try simp only [Act.put, List.setIfInBounds_toArray, List.set_cons_zero, List.set_cons_succ]
      refine wpAnyH_take (i := 22) (oi := ⟨some 25, _, _, _, _, _⟩) (v := .pointer (some ⟨cb, 0, none⟩)) rfl (by kernel_rfl) (by kernel_rfl) (by kernel_rfl) (fun _ _ _ h => h) (Or.inl ⟨by rfl, fun w hSw => by go_simp⟩) hHE ?_
      try simp only [Act.put, List.setIfInBounds_toArray, List.set_cons_zero, List.set_cons_succ]
      refine wpAnyH_take (i := 23) (oi := ⟨some 26, _, _, _, _, _⟩) (v := .pointer (some ⟨cb, 0, none⟩)) rfl (by kernel_rfl) (by kernel_rfl) (by kernel_rfl) (fun _ _ _ h => h) (Or.inl ⟨by rfl, fun w hSw => by go_simp⟩) hHE ?_
      try simp only [Act.put, List.setIfInBounds_toArray, List.set_cons_zero, List.set_cons_succ]
      refine wpAnyH_take (i := 24) (oi := ⟨some 27, _, _, _, _, _⟩) (v := .pointer (some ⟨cb, 1, none⟩)) rfl (by kernel_rfl) (by kernel_rfl) (by kernel_rfl) (fun _ _ _ h => h) (Or.inl ⟨by rfl, fun w hSw => by go_simp⟩) hHE ?_
      try simp only [Act.put, List.setIfInBounds_toArray, List.set_cons_zero, List.set_cons_succ]
      refine wpAnyH_take (i := 25) (oi := ⟨some 28, _, _, _, _, _⟩) (v := .slice (some ⟨gf, 0, none⟩) c.first.length cf) rfl (by kernel_rfl) (by kernel_rfl) (by kernel_rfl) (fun _ _ _ h => h) (Or.inl ⟨by rfl, fun w hSw => run_loadCellB _ _ rfl _ 1 rfl _ _ hSw _ Tryz.underlying22 rfl _ (chC_g1 _ _ _ _ _ _ _ _)⟩) hHE ?_
      try simp only [Act.put, List.setIfInBounds_toArray, List.set_cons_zero, List.set_cons_succ]
      refine wpAnyH_solo (i := 26) (o := ⟨some 29, _, _, _, _, _⟩) rfl (by kernel_rfl) (fun K hK => ?_)
      refine wpList_callG Tryz.func100 (by kernel_rfl) (by kernel_rfl) (by rfl) _ _ rfl #[.slice (some ⟨gm, 0, none⟩) c.mem.length cm, .slice (some ⟨gf, 0, none⟩) c.first.length cf] (args2 rfl rfl) _ (HEq _ hBE) ?_
      rintro e wG ⟨y, rfl, hy, hwG⟩
      have hHG := hHE.belowSize hwG
      have hBG := hBE.trans (hwG.mono hBE.size)
      refine ⟨_, rfl, ?_⟩
      refine hK _ _ hHG ?_
      clear hK K
      try simp only [Act.put, List.setIfInBounds_toArray, List.set_cons_zero, List.set_cons_succ]
      refine wpAnyH_take (i := 27) (oi := ⟨some 30, _, _, _, _, _⟩) (v := .bool y) rfl (by kernel_rfl) (by kernel_rfl) (by kernel_rfl) (fun _ _ _ h => h) (Or.inl ⟨by rfl, fun w hSw => by go_simp⟩) hHG ?_
      try simp only [Act.put, List.setIfInBounds_toArray, List.set_cons_zero, List.set_cons_succ]
      refine wpAnyH_solo (i := 28) (o := ⟨some 2, _, _, _, _, _⟩) rfl (by kernel_rfl) (fun K hK => ?_)
      refine wpList_pure rfl (.bool y) (by go_simp) ?_
      refine hK _ _ hHG ?_
      clear hK K
      refine wpAnyH_done (by kernel_rfl) ?_ _
      simp only [Act.put]
      go_simp
      go_wp2_with fail
      go_ret
      exact ⟨hN3.out h2.out y hy, hBG⟩
    · have hl0 : ((c.m.length : Int) == 0) = false := by rw [beq_eq_false_iff_ne]; omega
      have h2 : Hid (¬ c.m.length = 0) := h20
      clear h20
      refine wpAnyH_take (i := 14) (oi := ⟨some 17, _, _, _, _, _⟩) (v := .bool false) rfl (by kernel_rfl) (by kernel_rfl) (by kernel_rfl) (fun _ _ _ h => h) (Or.inl ⟨by rfl, fun w hSw => by go_simp⟩) hHE ?_
      try simp only [Act.put, List.setIfInBounds_toArray, List.set_cons_zero, List.set_cons_succ]
      refine wpAnyH_take (i := 15) (oi := ⟨some 18, _, _, _, _, _⟩) (v := .bool false) rfl (by kernel_rfl) (by kernel_rfl) (by kernel_rfl) (fun _ _ _ h => h) (Or.inl ⟨by rfl, fun w hSw => by go_simp⟩) hHE ?_
      try simp only [Act.put, List.setIfInBounds_toArray, List.set_cons_zero, List.set_cons_succ]
      refine wpAnyH_take (i := 16) (oi := ⟨some 19, _, _, _, _, _⟩) (v := .bool false) rfl (by kernel_rfl) (by kernel_rfl) (by kernel_rfl) (fun _ _ _ h => h) (Or.inl ⟨by rfl, fun w hSw => by go_simp⟩) hHE ?_
      try simp only [Act.put, List.setIfInBounds_toArray, List.set_cons_zero, List.set_cons_succ]
      refine wpAnyH_take (i := 17) (oi := ⟨some 20, _, _, _, _, _⟩) (v := undef) rfl (by kernel_rfl) (by kernel_rfl) (by kernel_rfl) (fun _ _ _ h => h) (Or.inr ⟨by rfl, rfl⟩) hHE ?_
      try simp only [Act.put, List.setIfInBounds_toArray, List.set_cons_zero, List.set_cons_succ]
      refine wpAnyH_take (i := 18) (oi := ⟨some 21, _, _, _, _, _⟩) (v := undef) rfl (by kernel_rfl) (by kernel_rfl) (by kernel_rfl) (fun _ _ _ h => h) (Or.inr ⟨by rfl, rfl⟩) hHE ?_
      try simp only [Act.put, List.setIfInBounds_toArray, List.set_cons_zero, List.set_cons_succ]
      refine wpAnyH_take (i := 19) (oi := ⟨some 22, _, _, _, _, _⟩) (v := undef) rfl (by kernel_rfl) (by kernel_rfl) (by kernel_rfl) (fun _ _ _ h => h) (Or.inr ⟨by rfl, rfl⟩) hHE ?_
      try simp only [Act.put, List.setIfInBounds_toArray, List.set_cons_zero, List.set_cons_succ]
      refine wpAnyH_take (i := 20) (oi := ⟨some 23, _, _, _, _, _⟩) (v := undef) rfl (by kernel_rfl) (by kernel_rfl) (by kernel_rfl) (fun _ _ _ h => h) (Or.inr ⟨by rfl, rfl⟩) hHE ?_
      try simp only [Act.put, List.setIfInBounds_toArray, List.set_cons_zero, List.set_cons_succ]
      refine wpAnyH_take (i := 21) (oi := ⟨some 24, _, _, _, _, _⟩) (v := undef) rfl (by kernel_rfl) (by kernel_rfl) (by kernel_rfl) (fun _ _ _ h => h) (Or.inr ⟨by rfl, rfl⟩) hHE ?_
      try simp only [Act.put, List.setIfInBounds_toArray, List.set_cons_zero, List.set_cons_succ]
      refine wpAnyH_take (i := 22) (oi := ⟨some 25, _, _, _, _, _⟩) (v := undef) rfl (by kernel_rfl) (by kernel_rfl) (by kernel_rfl) (fun _ _ _ h => h) (Or.inr ⟨by rfl, rfl⟩) hHE ?_
      try simp only [Act.put, List.setIfInBounds_toArray, List.set_cons_zero, List.set_cons_succ]
      refine wpAnyH_take (i := 23) (oi := ⟨some 26, _, _, _, _, _⟩) (v := undef) rfl (by kernel_rfl) (by kernel_rfl) (by kernel_rfl) (fun _ _ _ h => h) (Or.inr ⟨by rfl, rfl⟩) hHE ?_
      try simp only [Act.put, List.setIfInBounds_toArray, List.set_cons_zero, List.set_cons_succ]
      refine wpAnyH_take (i := 24) (oi := ⟨some 27, _, _, _, _, _⟩) (v := undef) rfl (by kernel_rfl) (by kernel_rfl) (by kernel_rfl) (fun _ _ _ h => h) (Or.inr ⟨by rfl, rfl⟩) hHE ?_
      try simp only [Act.put, List.setIfInBounds_toArray, List.set_cons_zero, List.set_cons_succ]
      refine wpAnyH_take (i := 25) (oi := ⟨some 28, _, _, _, _, _⟩) (v := undef) rfl (by kernel_rfl) (by kernel_rfl) (by kernel_rfl) (fun _ _ _ h => h) (Or.inr ⟨by rfl, rfl⟩) hHE ?_
      try simp only [Act.put, List.setIfInBounds_toArray, List.set_cons_zero, List.set_cons_succ]
      refine wpAnyH_take (i := 26) (oi := ⟨some 29, _, _, _, _, _⟩) (v := undef) rfl (by kernel_rfl) (by kernel_rfl) (by kernel_rfl) (fun _ _ _ h => h) (Or.inr ⟨by rfl, rfl⟩) hHE ?_
      try simp only [Act.put, List.setIfInBounds_toArray, List.set_cons_zero, List.set_cons_succ]
      refine wpAnyH_take (i := 27) (oi := ⟨some 30, _, _, _, _, _⟩) (v := .bool false) rfl (by kernel_rfl) (by kernel_rfl) (by kernel_rfl) (fun _ _ _ h => h) (Or.inl ⟨by rfl, fun w hSw => by go_simp⟩) hHE ?_
      try simp only [Act.put, List.setIfInBounds_toArray, List.set_cons_zero, List.set_cons_succ]
      refine wpAnyH_solo (i := 28) (o := ⟨some 2, _, _, _, _, _⟩) rfl (by kernel_rfl) (fun K hK => ?_)
      refine wpList_pure rfl (.bool false) (by go_simp) ?_
      refine hK _ _ hHE ?_
      clear hK K
      refine wpAnyH_done (by kernel_rfl) ?_ _
      simp only [Act.put]
      go_simp
      go_wp2_with fail
      go_ret
      exact ⟨hN2.out h2.out, hBE⟩
  · have h1 := h10
    replace hN1 := hN1.out h1
    replace hN1 : Hid (_ = _) := hN1
    refine wpAnyH_take (i := 7) (oi := ⟨some 10, _, _, _, _, _⟩) (v := .bool false) rfl (by kernel_rfl) (by kernel_rfl) (by kernel_rfl) (fun _ _ _ h => h) (Or.inl ⟨by rfl, fun w hSw => run_eqS rfl rfl rfl (decide_eq_false h1)⟩) hHE ?_
    try simp only [Act.put, List.setIfInBounds_toArray, List.set_cons_zero, List.set_cons_succ]
    refine wpAnyH_take (i := 8) (oi := ⟨some 11, _, _, _, _, _⟩) (v := .bool false) rfl (by kernel_rfl) (by kernel_rfl) (by kernel_rfl) (fun _ _ _ h => h) (Or.inl ⟨by rfl, fun w hSw => by go_simp⟩) hHE ?_
    try simp only [Act.put, List.setIfInBounds_toArray, List.set_cons_zero, List.set_cons_succ]
    refine wpAnyH_take (i := 9) (oi := ⟨some 12, _, _, _, _, _⟩) (v := undef) rfl (by kernel_rfl) (by kernel_rfl) (by kernel_rfl) (fun _ _ _ h => h) (Or.inr ⟨by rfl, rfl⟩) hHE ?_
    try simp only [Act.put, List.setIfInBounds_toArray, List.set_cons_zero, List.set_cons_succ]
    refine wpAnyH_take (i := 10) (oi := ⟨some 13, _, _, _, _, _⟩) (v := undef) rfl (by kernel_rfl) (by kernel_rfl) (by kernel_rfl) (fun _ _ _ h => h) (Or.inr ⟨by rfl, rfl⟩) hHE ?_
    try simp only [Act.put, List.setIfInBounds_toArray, List.set_cons_zero, List.set_cons_succ]
    refine wpAnyH_take (i := 11) (oi := ⟨some 14, _, _, _, _, _⟩) (v := undef) rfl (by kernel_rfl) (by kernel_rfl) (by kernel_rfl) (fun _ _ _ h => h) (Or.inr ⟨by rfl, rfl⟩) hHE ?_
    try simp only [Act.put, List.setIfInBounds_toArray, List.set_cons_zero, List.set_cons_succ]
    refine wpAnyH_take (i := 12) (oi := ⟨some 15, _, _, _, _, _⟩) (v := undef) rfl (by kernel_rfl) (by kernel_rfl) (by kernel_rfl) (fun _ _ _ h => h) (Or.inr ⟨by rfl, rfl⟩) hHE ?_
    try simp only [Act.put, List.setIfInBounds_toArray, List.set_cons_zero, List.set_cons_succ]
    refine wpAnyH_take (i := 13) (oi := ⟨some 16, _, _, _, _, _⟩) (v := undef) rfl (by kernel_rfl) (by kernel_rfl) (by kernel_rfl) (fun _ _ _ h => h) (Or.inr ⟨by rfl, rfl⟩) hHE ?_
    try simp only [Act.put, List.setIfInBounds_toArray, List.set_cons_zero, List.set_cons_succ]
    refine wpAnyH_take (i := 14) (oi := ⟨some 17, _, _, _, _, _⟩) (v := undef) rfl (by kernel_rfl) (by kernel_rfl) (by kernel_rfl) (fun _ _ _ h => h) (Or.inr ⟨by rfl, rfl⟩) hHE ?_
    try simp only [Act.put, List.setIfInBounds_toArray, List.set_cons_zero, List.set_cons_succ]
    refine wpAnyH_take (i := 15) (oi := ⟨some 18, _, _, _, _, _⟩) (v := .bool false) rfl (by kernel_rfl) (by kernel_rfl) (by kernel_rfl) (fun _ _ _ h => h) (Or.inl ⟨by rfl, fun w hSw => by go_simp⟩) hHE ?_
    try simp only [Act.put, List.setIfInBounds_toArray, List.set_cons_zero, List.set_cons_succ]
    refine wpAnyH_take (i := 16) (oi := ⟨some 19, _, _, _, _, _⟩) (v := .bool false) rfl (by kernel_rfl) (by kernel_rfl) (by kernel_rfl) (fun _ _ _ h => h) (Or.inl ⟨by rfl, fun w hSw => by go_simp⟩) hHE ?_
    try simp only [Act.put, List.setIfInBounds_toArray, List.set_cons_zero, List.set_cons_succ]
    refine wpAnyH_take (i := 17) (oi := ⟨some 20, _, _, _, _, _⟩) (v := undef) rfl (by kernel_rfl) (by kernel_rfl) (by kernel_rfl) (fun _ _ _ h => h) (Or.inr ⟨by rfl, rfl⟩) hHE ?_
    try simp only [Act.put, List.setIfInBounds_toArray, List.set_cons_zero, List.set_cons_succ]
    refine wpAnyH_take (i := 18) (oi := ⟨some 21, _, _, _, _, _⟩) (v := undef) rfl (by kernel_rfl) (by kernel_rfl) (by kernel_rfl) (fun _ _ _ h => h) (Or.inr ⟨by rfl, rfl⟩) hHE ?_
    try simp only [Act.put, List.setIfInBounds_toArray, List.set_cons_zero, List.set_cons_succ]
    refine wpAnyH_take (i := 19) (oi := ⟨some 22, _, _, _, _, _⟩) (v := undef) rfl (by kernel_rfl) (by kernel_rfl) (by kernel_rfl) (fun _ _ _ h => h) (Or.inr ⟨by rfl, rfl⟩) hHE ?_
    try simp only [Act.put, List.setIfInBounds_toArray, List.set_cons_zero, List.set_cons_succ]
    refine wpAnyH_take (i := 20) (oi := ⟨some 23, _, _, _, _, _⟩) (v := undef) rfl (by kernel_rfl) (by kernel_rfl) (by kernel_rfl) (fun _ _ _ h => h) (Or.inr ⟨by rfl, rfl⟩) hHE ?_
    try simp only [Act.put, List.setIfInBounds_toArray, List.set_cons_zero, List.set_cons_succ]
    refine wpAnyH_take (i := 21) (oi := ⟨some 24, _, _, _, _, _⟩) (v := undef) rfl (by kernel_rfl) (by kernel_rfl) (by kernel_rfl) (fun _ _ _ h => h) (Or.inr ⟨by rfl, rfl⟩) hHE ?_
    try simp only [Act.put, List.setIfInBounds_toArray, List.set_cons_zero, List.set_cons_succ]
    refine wpAnyH_take (i := 22) (oi := ⟨some 25, _, _, _, _, _⟩) (v := undef) rfl (by kernel_rfl) (by kernel_rfl) (by kernel_rfl) (fun _ _ _ h => h) (Or.inr ⟨by rfl, rfl⟩) hHE ?_
    try simp only [Act.put, List.setIfInBounds_toArray, List.set_cons_zero, List.set_cons_succ]
    refine wpAnyH_take (i := 23) (oi := ⟨some 26, _, _, _, _, _⟩) (v := undef) rfl (by kernel_rfl) (by kernel_rfl) (by kernel_rfl) (fun _ _ _ h => h) (Or.inr ⟨by rfl, rfl⟩) hHE ?_
    try simp only [Act.put, List.setIfInBounds_toArray, List.set_cons_zero, List.set_cons_succ]
    refine wpAnyH_take (i := 24) (oi := ⟨some 27, _, _, _, _, _⟩) (v := undef) rfl (by kernel_rfl) (by kernel_rfl) (by kernel_rfl) (fun _ _ _ h => h) (Or.inr ⟨by rfl, rfl⟩) hHE ?_
    try simp only [Act.put, List.setIfInBounds_toArray, List.set_cons_zero, List.set_cons_succ]
    refine wpAnyH_take (i := 25) (oi := ⟨some 28, _, _, _, _, _⟩) (v := undef) rfl (by kernel_rfl) (by kernel_rfl) (by kernel_rfl) (fun _ _ _ h => h) (Or.inr ⟨by rfl, rfl⟩) hHE ?_
    try simp only [Act.put, List.setIfInBounds_toArray, List.set_cons_zero, List.set_cons_succ]
    refine wpAnyH_take (i := 26) (oi := ⟨some 29, _, _, _, _, _⟩) (v := undef) rfl (by kernel_rfl) (by kernel_rfl) (by kernel_rfl) (fun _ _ _ h => h) (Or.inr ⟨by rfl, rfl⟩) hHE ?_
    try simp only [Act.put, List.setIfInBounds_toArray, List.set_cons_zero, List.set_cons_succ]
    refine wpAnyH_take (i := 27) (oi := ⟨some 30, _, _, _, _, _⟩) (v := .bool false) rfl (by kernel_rfl) (by kernel_rfl) (by kernel_rfl) (fun _ _ _ h => h) (Or.inl ⟨by rfl, fun w hSw => by go_simp⟩) hHE ?_
    try simp only [Act.put, List.setIfInBounds_toArray, List.set_cons_zero, List.set_cons_succ]
    refine wpAnyH_solo (i := 28) (o := ⟨some 2, _, _, _, _, _⟩) rfl (by kernel_rfl) (fun K hK => ?_)
    refine wpList_pure rfl (.bool false) (by go_simp) ?_
    refine hK _ _ hHE ?_
    clear hK K
    refine wpAnyH_done (by kernel_rfl) ?_ _
    simp only [Act.put]
    go_simp
    go_wp2_with fail
    go_ret
    exact ⟨hN1.out, hBE⟩
end
end Go.Proofs.YtmbdhngoldganaaGreatDoor
namespace Go.Proofs.YtmbdhngoldganaaGreatDoor
open Go Go.RowKit
/-- The reader, and who was read, behind so many rounds. -/
def tkS (r : R) : Nat → R × List Int
  | 0 => (r, [])
  | n + 1 => (bif okM ((tkS r n).2 ++ [(((tkS r n).1.number 1).2 : Int)]) then ((tkS r n).1.number 1).1 else ((tkS r n).1.number 1).1.fail 6, (tkS r n).2 ++ [(((tkS r n).1.number 1).2 : Int)])
/-- The reader behind, and who was read. -/
def tkM (r : R) : R × List Int :=
  bif decide ((r.number 1).2 = 0 ∨ 16 < (r.number 1).2) then ((r.number 1).1.fail 6, [])
  else ((tkS (r.number 1).1 (r.number 1).2).1, if (tkS (r.number 1).1 (r.number 1).2).1.err = 0 then (tkS (r.number 1).1 (r.number 1).2).2 else [])
theorem tkS_len (r : R) : ∀ n, (tkS r n).2.length = n
  | 0 => rfl
  | n + 1 => by simp [tkS, tkS_len r n]
theorem tkS_ok {r : R} (h : r.ok) : ∀ n, (tkS r n).1.ok
  | 0 => h
  | n + 1 => by
    have h2 := R.ok_number (tkS_ok h n) 1
    unfold tkS
    cases okM ((tkS r n).2 ++ [(((tkS r n).1.number 1).2 : Int)])
    · exact R.ok_fail h2 6
    · exact h2
theorem tkS_s (r : R) : ∀ n, (tkS r n).1.s = r.s
  | 0 => rfl
  | n + 1 => by
    have h2 := tkS_s r n
    unfold tkS
    cases okM ((tkS r n).2 ++ [(((tkS r n).1.number 1).2 : Int)])
    · simp only [cond_false, R.fail_s, R.number_s, h2]
    · simp only [cond_true, R.number_s, h2]
theorem tkM_ok {r : R} (h : r.ok) : (tkM r).1.ok := by
  unfold tkM
  cases decide ((r.number 1).2 = 0 ∨ 16 < (r.number 1).2)
  · exact tkS_ok (R.ok_number h 1) _
  · exact R.ok_fail (R.ok_number h 1) 6
theorem tkM_s (r : R) : (tkM r).1.s = r.s := by
  unfold tkM
  cases decide ((r.number 1).2 = 0 ∨ 16 < (r.number 1).2)
  · rw [cond_false]
    exact (tkS_s _ _).trans (R.number_s _ _)
  · rw [cond_true]
    exact (R.fail_s _ _).trans (R.number_s _ _)
theorem tkS_goes {r : R} (hk : r.ok) : ∀ n, (tkS r n).1.err = 0 → Goes r (tkS r n).1 (memsB (tkS r n).2) ∧ (0 < n → OkM (tkS r n).2)
  | 0, h => ⟨⟨h, h, rfl, by rw [show (tkS r 0).2 = [] from rfl, memsB_nil, List.append_nil]; rfl⟩, fun e => absurd e (by decide)⟩
  | n + 1, h => by
    have e : tkS r (n + 1) = (bif okM ((tkS r n).2 ++ [(((tkS r n).1.number 1).2 : Int)]) then ((tkS r n).1.number 1).1 else ((tkS r n).1.number 1).1.fail 6, (tkS r n).2 ++ [(((tkS r n).1.number 1).2 : Int)]) := rfl
    rw [e] at h ⊢
    cases hb : okM ((tkS r n).2 ++ [(((tkS r n).1.number 1).2 : Int)])
    · rw [hb, cond_false] at h
      exact absurd (R.fail_zero h).2 (by decide)
    · rw [hb, cond_true] at h
      rw [cond_true]
      have h1 := number_goes (k := 1) (tkS_ok hk n) (by omega) h
      refine ⟨?_, fun _ => okM_iff.1 hb⟩
      rw [memsB_snoc, Int.toNat_natCast]
      exact (tkS_goes hk n h1.e0).1.trans h1
theorem tkM_goes {r : R} (hk : r.ok) (h : (tkM r).1.err = 0) : Goes r (tkM r).1 (memB (tkM r).2) ∧ OkM (tkM r).2 := by
  unfold tkM at h ⊢
  cases hd : decide ((r.number 1).2 = 0 ∨ 16 < (r.number 1).2)
  · rw [hd, cond_false] at h
    rw [cond_false]
    have hn := of_decide_eq_false hd
    simp only at h ⊢
    rw [if_pos h]
    obtain ⟨g2, h2⟩ := tkS_goes (R.ok_number hk 1) _ h
    have g1 := number_goes (k := 1) hk (by omega) g2.e0
    refine ⟨?_, h2 (by omega)⟩
    rw [memB, tkS_len]
    exact g1.trans g2
  · rw [hd, cond_true] at h
    exact absurd (R.fail_zero h).2 (by decide)
set_option maxRecDepth 100000 in
set_option maxHeartbeats 4000000 in
theorem takeMem_any (b : Nat) (r : R) (w : World) (h : RD w b r) (hk : r.ok) (hs : r.s.length ≤ 140737488355328) :
    Calls Tryz.prog 40 #[.pointer (some ⟨b, 0, none⟩)] w (TakeMP b w (tkM r).1 (tkM r).2) := by
  have hbl := h.lt
  obtain ⟨ii, hi, hz, hsz, hby⟩ := infoI
  have H1 := fun w (h : RD w b r) => number_r b r 1 w h hk hs
  have hn2 := number1_lt r
  have hqk := R.ok_number hk 1
  have hqs := R.number_s r 1
  unfold tkM
  generalize r.number 1 = q0 at *
  obtain ⟨q, n⟩ := q0
  dsimp only at *
  by_cases hd : n = 0 ∨ 16 < n
  · rw [decide_eq_true hd, cond_true]
    have HF := fun w (h : RD w b q) => fail_any b q 6 w h
    dsimp only
    generalize q.fail 6 = u at *
    by_cases h0 : n = 0
    · subst h0
      go_enter Tryz.func40, Tryz.ntmps40
      go_wp2_with (first
        | (go_at_call 41; refine (H1 _ h).mono ?_; rintro e w1 ⟨rfl, hT1⟩; clear H1)
        | (go_at_call 92; refine (HF _ hT1.rd).mono ?_; rintro e w2 ⟨rfl, hT2⟩; clear HF))
      go_ret
      exact ⟨_, rfl, VL.nil _ _ _, hT1.trans hT2⟩
    · have hd0 : ((n : Int) == 0) = false := by rw [beq_eq_false_iff_ne]; omega
      have hd1 : decide (16 < (n : Int)) = true := decide_eq_true (by omega)
      have h0 : Hid (¬ n = 0) := h0
      have hd : Hid (n = 0 ∨ 16 < n) := hd
      go_enter Tryz.func40, Tryz.ntmps40
      go_wp2_with (first
        | (go_at_call 41; refine (H1 _ h).mono ?_; rintro e w1 ⟨rfl, hT1⟩; clear H1)
        | (go_at_call 92; refine (HF _ hT1.rd).mono ?_; rintro e w2 ⟨rfl, hT2⟩; clear HF))
      go_ret
      exact ⟨_, rfl, VL.nil _ _ _, hT1.trans hT2⟩
  · rw [decide_eq_false hd, cond_false]
    dsimp only
    have hd0 : ((n : Int) == 0) = false := by rw [beq_eq_false_iff_ne]; omega
    have hd1 : decide (16 < (n : Int)) = false := decide_eq_false (by omega)
    have h16 : n ≤ 16 := by omega
    replace hd : Hid (¬ (n = 0 ∨ 16 < n)) := hd
    clear hn2
    obtain ⟨LL, hLL⟩ : ∃ LL, Hid (LL = if (tkS q n).1.err = 0 then (tkS q n).2 else []) := ⟨_, rfl⟩
    rw [← hLL.out]
    go_enter Tryz.func40, Tryz.ntmps40
    go_wp2_with (go_at_call 41; refine (H1 _ h).mono ?_; rintro e w1 ⟨rfl, hT1⟩; clear H1)
    clear hd0 hd1
    go_loopw [4, 16] (fun v4 v16 wl => ∃ i : Nat, i ≤ n ∧ v16 = .int .u64 i ∧ VL wl 3 w.heap.size v4 ((tkS q i).2.map fun x => .int .i64 x) ∧ To w wl b (tkS q i).1) (fun _ v16 _ => n - (intOf v16).toNat)
    case atStart => exact ⟨0, by omega, rfl, by exact VL.nil _ _ _, hT1⟩
    case round =>
      obtain ⟨i, hil, rfl, hV, hT⟩ := hrel
      clear hT1 h
      by_cases hlt : i < n
      · have hok := tkS_ok hqk i
        have hss := (tkS_s q i).trans hqs
        have hlen := tkS_len q i
        have HN := fun w (h : RD w b (tkS q i).1) => number_r b _ 1 w h hok (by rw [hss]; exact hs)
        have hm256 := number1_lt (tkS q i).1
        have HS : Hid (tkS q (i + 1) = (bif okM ((tkS q i).2 ++ [(((tkS q i).1.number 1).2 : Int)]) then ((tkS q i).1.number 1).1 else ((tkS q i).1.number 1).1.fail 6, (tkS q i).2 ++ [(((tkS q i).1.number 1).2 : Int)])) := rfl
        generalize tkS q i = x at *
        obtain ⟨r1, L⟩ := x
        dsimp only at *
        generalize r1.number 1 = y at *
        obtain ⟨r2, k⟩ := y
        dsimp only at *
        obtain ⟨L1, hE1⟩ : ∃ L1, Hid (L1 = L ++ [(k : Int)]) := ⟨_, rfl⟩
        rw [← hE1.out] at HS
        have hL : Hid (L1.map (fun x => Value.int .i64 x) = L.map (fun x => Value.int .i64 x) ++ [.int .i64 (k : Int)]) := by show L1.map _ = _; rw [hE1.out, List.map_append]; rfl
        have hll : (L.map (fun x => Value.int .i64 x)).length ≤ 16 := by rw [List.length_map]; omega
        have HM := fun B (hB : Hid (okM L1 = B)) a cap w (hA : IA w a L1) => members_any L1 a cap w hA B hB
        have HF := fun w (h : RD w b r2) => fail_any b r2 6 w h
        have hwr : IntKind.i64.wrap (k : Int) = (k : Int) := by rw [IntKind.wrap_i64]; omega
        have hz2 : (i : Int) < (n : Int) := by omega
        have hgl : Hid (w.heap.size ≤ wr.heap.size) := hT.grown.size
        generalize hLi : L.map (fun x => Value.int .i64 x) = Li at *
        clear hLi hm256 hlen hok hss
        cases hB : okM L1
        · have hB' : Hid (okM L1 = false) := hB
          replace HM := HM false hB'
          rw [hB, cond_false] at HS
          clear hB
          go_wp2_with (first
            | (go_at_call 41; refine (HN _ hT.rd).mono ?_; rintro e w2 ⟨rfl, hT2⟩; clear HN; have hV2 := hV.grown7 hT2.grown hbl; have hT3 := hT.trans hT2)
            | (go_at_call 93; refine (HM _ _ _ hIA).mono ?_; rintro e w5 ⟨rfl, hw5⟩; have hw5 := hw5.symm; subst hw5; clear HM hIA)
            | (go_at_call 92; refine (HF _ hT5.rd).mono ?_; rintro e w6 ⟨rfl, hT6⟩; clear HF; have hV6 := hV4.grown7 hT6.grown hbl; have hT7 := hT5.trans hT6)
            | (with_reducible refine at_list ?_; first
              | (refine wpList_bsl1I (op := ⟨some 22, _, _, _, _, _⟩) rfl _ rfl (k : Int) rfl ?_; intro w3 hw3 hs3 hb3; replace hs3 := hs3.symm; have hV3 := hV2.below hw3; have hT4 : To w w3 b _ := ⟨grown_trans hT3.grown (grown_of_below hw3), hT3.rd.below hw3⟩)
              | (refine wpList_appendVL (op := ⟨some 23, _, _, _, _, _⟩) rfl _ _ _ _ rfl w.heap.size u4 Li hT4.grown.size rfl hV3 w2.heap.size 1 rfl (.int .i64 (k : Int)) 3 rfl hb3 ii (.int .i64 0) rfl Tryz.underlying22 hi hz hsz hby (Nat.le_trans hll (by decide)) ?_; intro w4 sl4 hw4 hV4; have hT5 := hT4.low hw4 (hT4.rd.lowB hw4 hbl); rw [← hL.out] at hV4; obtain ⟨a4, cap4, rfl, hIA⟩ := hV4.ia)))
          go_roundw
          case rel => exact ⟨i + 1, by omega, by go_num, by rw [HS.out]; exact hV6, by rw [HS.out]; exact hT7⟩
          case measure => simp [intOf]; omega
        · have hB' : Hid (okM L1 = true) := hB
          replace HM := HM true hB'
          rw [hB, cond_true] at HS
          clear hB HF
          go_wp2_with (first
            | (go_at_call 41; refine (HN _ hT.rd).mono ?_; rintro e w2 ⟨rfl, hT2⟩; clear HN; have hV2 := hV.grown7 hT2.grown hbl; have hT3 := hT.trans hT2)
            | (go_at_call 93; refine (HM _ _ _ hIA).mono ?_; rintro e w5 ⟨rfl, hw5⟩; have hw5 := hw5.symm; subst hw5; clear HM hIA)
            | (with_reducible refine at_list ?_; first
              | (refine wpList_bsl1I (op := ⟨some 22, _, _, _, _, _⟩) rfl _ rfl (k : Int) rfl ?_; intro w3 hw3 hs3 hb3; replace hs3 := hs3.symm; have hV3 := hV2.below hw3; have hT4 : To w w3 b _ := ⟨grown_trans hT3.grown (grown_of_below hw3), hT3.rd.below hw3⟩)
              | (refine wpList_appendVL (op := ⟨some 23, _, _, _, _, _⟩) rfl _ _ _ _ rfl w.heap.size u4 Li hT4.grown.size rfl hV3 w2.heap.size 1 rfl (.int .i64 (k : Int)) 3 rfl hb3 ii (.int .i64 0) rfl Tryz.underlying22 hi hz hsz hby (Nat.le_trans hll (by decide)) ?_; intro w4 sl4 hw4 hV4; have hT5 := hT4.low hw4 (hT4.rd.lowB hw4 hbl); rw [← hL.out] at hV4; obtain ⟨a4, cap4, rfl, hIA⟩ := hV4.ia)))
          go_roundw
          case rel => exact ⟨i + 1, by omega, by go_num, by rw [HS.out]; exact hV4, by rw [HS.out]; exact hT5⟩
          case measure => simp [intOf]; omega
      · have hz2 : ¬ (i : Int) < (n : Int) := by omega
        have hie : i = n := by omega
        subst hie
        have HE := fun w (h : RD w b (tkS q i).1) => err_any b (tkS q i).1 w h
        generalize tkS q i = x at *
        obtain ⟨r1, L⟩ := x
        dsimp only at *
        by_cases he : r1.err = 0
        · replace hLL := hLL.out.trans (if_pos he)
          subst hLL
          rw [he] at HE
          go_wp2_with (go_at_call 90; refine (HE _ hT.rd).mono ?_; rintro e w2 ⟨rfl, hw2⟩; have hw2 := hw2.symm; subst hw2)
          go_ret
          exact ⟨u4, rfl, hV, hT⟩
        · replace hLL := hLL.out.trans (if_neg he)
          subst hLL
          have he2 : (r1.err != 0) = true := by simpa using he
          have he3 : (r1.err == 0) = false := by simpa using he
          replace he : Hid (¬ r1.err = 0) := he
          generalize hy : r1.err = y at *
          go_wp2_with (go_at_call 90; refine (HE _ hT.rd).mono ?_; rintro e w2 ⟨rfl, hw2⟩; have hw2 := hw2.symm; subst hw2)
          go_ret
          exact ⟨_, rfl, VL.nil _ _ _, hT⟩
end Go.Proofs.YtmbdhngoldganaaGreatDoor
