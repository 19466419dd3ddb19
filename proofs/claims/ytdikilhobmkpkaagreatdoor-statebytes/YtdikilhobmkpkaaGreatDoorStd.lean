/- What agrees and do do. -/
import Derived.Test.YtdikilhobmkpkaaGreatDoorStc
import Derived.Test.YtdikilhobmkpkaaGreatDoorChk
import Derived.Deep.RegionHeld3
import Derived.WalkSpells
import Derived.StillTactics
namespace Go.Proofs.YtdikilhobmkpkaaGreatDoor
open Go Go.RowKit Go.Maps
theorem run_putM {w : World} {b : Nat} {m : List KV} (hown : MB w b m) (hn : m.length < maxLen) {s v : List UInt8} (hs : s.length ≤ maxLen) (hv1 : v.length ≤ maxLen) :
    ∃ w', (Instr.mapUpdate 55 (.map (some b)) (.string ⟨s.toArray⟩) (.agg #[.string ⟨v.toArray⟩])).run Tryz.prog w = .ok () w' ∧ MB w' b (putM s v m) ∧ w.grownBy w' (some b) := by
  obtain ⟨w', hrun, r1, r2⟩ := World.ownsMap.store hown K9 Tryz.underlying55 hn (key9 hs) (hld_mk hv1)
  rw [dm_put] at r1
  exact ⟨w', hrun, MP.of r1 rfl, r2.grown⟩
section
variable {ops : Array Oper} {o : Oper} {a : Act} {w : World} {K : Act → World → Prop} {Q : Exit → Act → World → Prop} {E : Prop}
theorem wp_putM (x y z : Operand) (hop : o.op = Op.mapUpdate 55 x y z) (b : Nat) (m : List KV) (hx : a.eval x = .map (some b)) (hown : MB w b m) (hn : m.length < maxLen) (s v : List UInt8) (hy : a.eval y = .string ⟨s.toArray⟩) (hs : s.length ≤ maxLen)
    (hz : a.eval z = hv v) (hv1 : v.length ≤ maxLen) (h : ∀ w', MB w' b (putM s v m) → w.grownBy w' (some b) → K (a.put o.dst undef) w') : o.wp Tryz.prog a w K Q := by
  obtain ⟨w', hrun, r1, r2⟩ := World.ownsMap.store hown K9 Tryz.underlying55 hn (key9 hs) (hld_mk hv1)
  rw [dm_put] at r1
  unfold Oper.wp
  simp [execOp, hop, hx, hy, hz, hrun, Result.andThen]
  exact h w' (MP.of r1 rfl) r2.grown
theorem step_putM (hg : o.guard = none) (x y z : Operand) (hop : o.op = Op.mapUpdate 55 x y z) (b : Nat) (m : List KV) (hx : a.eval x = .map (some b)) (hown : MB w b m) (hn : m.length < maxLen) (s v : List UInt8) (hy : a.eval y = .string ⟨s.toArray⟩) (hs : s.length ≤ maxLen)
    (hz : a.eval z = hv v) (hv1 : v.length ≤ maxLen) (h : ∀ w', MB w' b (putM s v m) → w.grownBy w' (some b) → K (a.put o.dst undef) w') : if Region.wanted o (yielded ops a.tmps) = true then Oper.wp Tryz.prog o a w K Q else E := by
  have hw : Region.wanted o (yielded ops a.tmps) = true := by simp [Region.wanted, hg]
  rw [if_pos hw]
  exact wp_putM x y z hop b m hx hown hn s v hy hs hz hv1 h
theorem wp_delM (x y : Operand) (hop : o.op = Op.call { callee := .builtin .delete, args := #[x, y], argTypes := #[55, 9] }) (b : Nat) (m : List KV) (hx : a.eval x = .map (some b)) (hown : MB w b m) (s : List UInt8) (hy : a.eval y = .string ⟨s.toArray⟩) (hs : s.length ≤ maxLen)
    (h : ∀ w', MB w' b (delM s m) → w.grownBy w' (some b) → K (a.put o.dst (.tuple #[])) w') : o.wp Tryz.prog a w K Q := by
  obtain ⟨w', hrun, r1, r2⟩ := World.ownsMap.drop hown K9 Tryz.underlying55 (key9 hs) o.type
  rw [dm_del] at r1
  unfold Oper.wp
  simp [execOp, hop, resolve, invoke, builtin, hx, hy, hrun, Result.andThen]
  exact h w' (MP.of r1 rfl) r2.grown
theorem step_delM (hg : o.guard = none) (x y : Operand) (hop : o.op = Op.call { callee := .builtin .delete, args := #[x, y], argTypes := #[55, 9] }) (b : Nat) (m : List KV) (hx : a.eval x = .map (some b)) (hown : MB w b m) (s : List UInt8) (hy : a.eval y = .string ⟨s.toArray⟩) (hs : s.length ≤ maxLen)
    (h : ∀ w', MB w' b (delM s m) → w.grownBy w' (some b) → K (a.put o.dst (.tuple #[])) w') : if Region.wanted o (yielded ops a.tmps) = true then Oper.wp Tryz.prog o a w K Q else E := by
  have hw : Region.wanted o (yielded ops a.tmps) = true := by simp [Region.wanted, hg]
  rw [if_pos hw]
  exact wp_delM x y hop b m hx hown s hy hs h
end
theorem grown_drew (w : World) (row : Option Nat) : w.grownBy w.drew row := ⟨rfl, rfl, rfl, Nat.le_refl _, fun _ _ _ => rfl⟩
theorem cell_gr {w w' : World} {mb b : Nat} {o : Nat} {v : Value} (h : w.cell? ⟨b, o, none⟩ = some v) (hg : w.grownBy w' (some mb)) (hne : b ≠ mb) : w'.cell? ⟨b, o, none⟩ = some v := by
  have hlt := World.block_lt_of_cell? w _ h
  have := hg.block b hlt (fun e => hne (Option.some.inj e))
  rw [← h]
  unfold World.cell?
  rw [this]
/-- Does a key have what an operation says that it must have? -/
def agM (m : List KV) (o : O) : Bool := if o.kind = 3 then hasM m (kOf o.key) && (valM m (kOf o.key) == o.val) else if o.kind = 4 then !hasM m (kOf o.key) else true
/-- What an operation does. -/
def doM (m : List KV) (o : O) : List KV := if o.kind = 1 then putM (kOf o.key) o.val m else if o.kind = 2 then delM (kOf o.key) m else m
def tch (o : O) : Bool := decide (o.kind = 1 ∨ o.kind = 2)
theorem ba_eq (x y : List UInt8) : (ByteArray.mk x.toArray = ByteArray.mk y.toArray) = (x = y) := by simp
set_option maxRecDepth 100000 in
set_option maxHeartbeats 400000 in
theorem agrees_any (b : Nat) (m : List KV) (o : O) (w : World) (h : ST w b m) (hk : o.key.length ≤ 1000) : Calls Tryz.prog 24 #[.pointer (some ⟨b, 0, none⟩), .agg (opc o)] w fun e w' => e = .returned (.bool (agM m o)) ∧ Below w.heap.size w w' := by
  obtain ⟨k, key, vv⟩ := o
  have HG := fun w (h : ST w b m) => get_st b m key w h (by dsimp only at hk; omega)
  unfold agM
  dsimp only
  clear hk
  generalize valM m (kOf key) = v1 at *
  generalize hasM m (kOf key) = b1 at *
  by_cases h3 : k = 3
  · subst h3
    cases b1
    · go_enter Tryz.func24, Tryz.ntmps24
      go_wp2_with (first
        | (go_at_call 13; refine (HG _ (h.below hw1)).mono ?_; rintro e w2 ⟨rfl, hw2⟩; have c0 := (hw2.cell (p := ⟨w.heap.size, 0, none⟩) hb1.lt).trans c0; have c2 := (hw2.cell (p := ⟨w.heap.size, 2, none⟩) hb1.lt).trans c2)
        | (with_reducible refine at_list ?_; refine wpList_boxRow (op := ⟨some 3, _, _, _, _, _⟩) rfl _ _ rfl _ rfl ?_; intro w1 hw1 hs1 hb1; replace hs1 := hs1.symm; have c0 := (hb1.cell 0).trans (opc_g0 _); have c1 := (hb1.cell 1).trans (opc_g1 _); have c2 := (hb1.cell 2).trans (opc_g2 _)))
      go_ret
      exact ⟨rfl, hw1.trans (hw2.mono hw1.size)⟩
    · go_enter Tryz.func24, Tryz.ntmps24
      go_wp2_with (first
        | (go_at_call 13; refine (HG _ (h.below hw1)).mono ?_; rintro e w2 ⟨rfl, hw2⟩; have c0 := (hw2.cell (p := ⟨w.heap.size, 0, none⟩) hb1.lt).trans c0; have c2 := (hw2.cell (p := ⟨w.heap.size, 2, none⟩) hb1.lt).trans c2)
        | (with_reducible refine at_list ?_; refine wpList_boxRow (op := ⟨some 3, _, _, _, _, _⟩) rfl _ _ rfl _ rfl ?_; intro w1 hw1 hs1 hb1; replace hs1 := hs1.symm; have c0 := (hb1.cell 0).trans (opc_g0 _); have c1 := (hb1.cell 1).trans (opc_g1 _); have c2 := (hb1.cell 2).trans (opc_g2 _)))
      go_ret
      exact ⟨rfl, hw1.trans (hw2.mono hw1.size)⟩
  · have hb3 : (k == 3) = false := by rw [beq_eq_false_iff_ne]; exact h3
    rw [if_neg h3]
    by_cases h4 : k = 4
    · subst h4
      rw [if_pos rfl]
      go_enter Tryz.func24, Tryz.ntmps24
      go_wp2_with (first
        | (go_at_call 13; refine (HG _ (h.below hw1)).mono ?_; rintro e w2 ⟨rfl, hw2⟩; have c0 := (hw2.cell (p := ⟨w.heap.size, 0, none⟩) hb1.lt).trans c0; have c2 := (hw2.cell (p := ⟨w.heap.size, 2, none⟩) hb1.lt).trans c2)
        | (with_reducible refine at_list ?_; refine wpList_boxRow (op := ⟨some 3, _, _, _, _, _⟩) rfl _ _ rfl _ rfl ?_; intro w1 hw1 hs1 hb1; replace hs1 := hs1.symm; have c0 := (hb1.cell 0).trans (opc_g0 _); have c1 := (hb1.cell 1).trans (opc_g1 _); have c2 := (hb1.cell 2).trans (opc_g2 _)))
      go_ret
      exact ⟨rfl, hw1.trans (hw2.mono hw1.size)⟩
    · have hb4 : (k == 4) = false := by rw [beq_eq_false_iff_ne]; exact h4
      rw [if_neg h4]
      go_enter Tryz.func24, Tryz.ntmps24
      go_wp2_with (first
        | (go_at_call 13; refine (HG _ (h.below hw1)).mono ?_; rintro e w2 ⟨rfl, hw2⟩; have c0 := (hw2.cell (p := ⟨w.heap.size, 0, none⟩) hb1.lt).trans c0; have c2 := (hw2.cell (p := ⟨w.heap.size, 2, none⟩) hb1.lt).trans c2)
        | (with_reducible refine at_list ?_; refine wpList_boxRow (op := ⟨some 3, _, _, _, _, _⟩) rfl _ _ rfl _ rfl ?_; intro w1 hw1 hs1 hb1; replace hs1 := hs1.symm; have c0 := (hb1.cell 0).trans (opc_g0 _); have c1 := (hb1.cell 1).trans (opc_g1 _); have c2 := (hb1.cell 2).trans (opc_g2 _)))
      go_ret
      exact ⟨rfl, hw1.trans (hw2.mono hw1.size)⟩
theorem MP.blk_ne {P : Program} {k : TypeId} {w : World} {mb b : Nat} {m : List KV} {c : Array Value} {t : TypeId} (h : MP P k w mb m) (hb : Blk w b c t) : b ≠ mb := by
  intro e
  subst e
  obtain ⟨es, clock, h3, _⟩ := h
  rw [hb.out] at h3
  cases h3
set_option maxRecDepth 100000 in
set_option maxHeartbeats 400000 in
theorem do_any (b mb : Nat) (m : List KV) (o : O) (w : World) (hB : Blk w b #[.map (some mb)] 57) (hM : MB w mb m) (hm : m.length ≤ 100000) (hk : o.key.length ≤ 1000) (hv1 : o.val.length ≤ 1000) :
    Calls Tryz.prog 25 #[.pointer (some ⟨b, 0, none⟩), .agg (opc o)] w fun e w' => e = .returned (.bool (tch o)) ∧ MB w' mb (doM m o) ∧ w.grownBy w' (some mb) := by
  obtain ⟨k, key, vv⟩ := o
  dsimp only at hk hv1
  have HK := fun w => keyOf_any key w (by omega)
  have hkl := kOf_length key
  unfold tch doM
  dsimp only
  have cb : w.cell? ⟨b, 0, none⟩ = some (.map (some mb)) := hB.cell 0
  have hbl := hB.lt
  by_cases h1 : k = 1
  · subst h1
    rw [if_pos rfl, show decide ((1 : Int) = 1 ∨ (1 : Int) = 2) = true from rfl]
    generalize kOf key = kk at *
    go_enter Tryz.func25, Tryz.ntmps25
    go_wp2_with (with_reducible refine at_list ?_; refine wpList_boxRow (op := ⟨some 3, _, _, _, _, _⟩) rfl _ _ rfl _ rfl ?_; intro w1 hw1 hs1 hb1; replace hs1 := hs1.symm; have c0 := (hb1.cell 0).trans (opc_g0 _); have c1 := (hb1.cell 1).trans (opc_g1 _); have c2 := (hb1.cell 2).trans (opc_g2 _); have cb1 := (hw1.cell (p := ⟨b, 0, none⟩) hbl).trans cb)
    obtain ⟨w3, hrun, hM3, hg3⟩ := run_putM (hM.below hw1).drew (by unfold maxLen; omega) (s := kk) (v := vv) (by unfold maxLen; omega) (by unfold maxLen; omega)
    have d0 : w3.cell? ⟨b, 0, none⟩ = some (.map (some mb)) := cell_gr (w := w1.drew) cb1 hg3 (hM.blk_ne hB)
    have d1 : w3.cell? ⟨w.heap.size, 1, none⟩ = some (.string ⟨key.toArray⟩) := cell_gr (w := w1.drew) c1 hg3 (by have := hM.lt; omega)
    have d2 : w3.cell? ⟨w.heap.size, 2, none⟩ = some (.string ⟨vv.toArray⟩) := cell_gr (w := w1.drew) c2 hg3 (by have := hM.lt; omega)
    go_region_held3 (fun w' => w'.cell? ⟨b, 0, none⟩ = some (.map (some mb)) ∧ w'.cell? ⟨w.heap.size, 1, none⟩ = some (.string ⟨key.toArray⟩) ∧ w'.cell? ⟨w.heap.size, 2, none⟩ = some (.string ⟨vv.toArray⟩)) ((go_split_ands; exact ⟨by assumption, by assumption, by assumption⟩)) ((go_at_call 19; refine (HK _).mono ?_; rintro e w2 ⟨rfl, hw2⟩; have hw2 := hw2.symm; subst hw2))
    go_wp2_with fail
    go_ret
    exact ⟨rfl, hM3, grown_trans (grown_of_below hw1) (grown_trans (grown_drew _ _) hg3)⟩
  · have hb1' : (k == 1) = false := by rw [beq_eq_false_iff_ne]; exact h1
    rw [if_neg h1]
    by_cases h2 : k = 2
    · subst h2
      rw [if_pos rfl, show decide ((2 : Int) = 1 ∨ (2 : Int) = 2) = true from rfl]
      generalize kOf key = kk at *
      go_enter Tryz.func25, Tryz.ntmps25
      go_wp2_with (with_reducible refine at_list ?_; refine wpList_boxRow (op := ⟨some 3, _, _, _, _, _⟩) rfl _ _ rfl _ rfl ?_; intro w1 hw1 hs1 hb1; replace hs1 := hs1.symm; have c0 := (hb1.cell 0).trans (opc_g0 _); have c1 := (hb1.cell 1).trans (opc_g1 _); have c2 := (hb1.cell 2).trans (opc_g2 _); have cb1 := (hw1.cell (p := ⟨b, 0, none⟩) hbl).trans cb)
      go_region_held3 (fun w' => w'.cell? ⟨b, 0, none⟩ = some (.map (some mb)) ∧ w'.cell? ⟨w.heap.size, 1, none⟩ = some (.string ⟨key.toArray⟩)) ((go_split_ands; exact ⟨by assumption, by assumption⟩)) (first
        | (go_at_call 19; refine (HK _).mono ?_; rintro e w2 ⟨rfl, hw2⟩; have hw2 := hw2.symm; subst hw2)
        | (refine step_delM (by rfl) _ _ (by rfl) mb m (by rfl) (hM.below hw1).drew kk (by rfl) (by unfold maxLen; omega) ?_; intro w3 hM3 hg3; have d0 : w3.cell? ⟨b, 0, none⟩ = some (.map (some mb)) := cell_gr (w := w1.drew) cb1 hg3 (hM.blk_ne hB); have d1 : w3.cell? ⟨w.heap.size, 1, none⟩ = some (.string ⟨key.toArray⟩) := cell_gr (w := w1.drew) c1 hg3 (by have := hM.lt; omega)))
      go_wp2_with fail
      go_ret
      exact ⟨rfl, hM3, grown_trans (grown_of_below hw1) (grown_trans (grown_drew _ _) hg3)⟩
    · have hb2' : (k == 2) = false := by rw [beq_eq_false_iff_ne]; exact h2
      rw [if_neg h2, show decide (k = 1 ∨ k = 2) = false from decide_eq_false (by omega)]
      go_enter Tryz.func25, Tryz.ntmps25
      go_wp2_with (with_reducible refine at_list ?_; refine wpList_boxRow (op := ⟨some 3, _, _, _, _, _⟩) rfl _ _ rfl _ rfl ?_; intro w1 hw1 hs1 hb1; replace hs1 := hs1.symm; have c0 := (hb1.cell 0).trans (opc_g0 _); have c1 := (hb1.cell 1).trans (opc_g1 _); have c2 := (hb1.cell 2).trans (opc_g2 _); have cb1 := (hw1.cell (p := ⟨b, 0, none⟩) hbl).trans cb)
      go_ret
      exact ⟨rfl, hM.below hw1, grown_of_below hw1⟩
end Go.Proofs.YtdikilhobmkpkaaGreatDoor
