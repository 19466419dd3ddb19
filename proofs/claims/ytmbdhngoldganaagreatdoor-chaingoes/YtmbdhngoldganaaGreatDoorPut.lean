/- What agrees and do do. What Put, bytesOf and Encode do. -/
import Derived.Test.YtmbdhngoldganaaGreatDoorChk
import Derived.Deep.RegionHeld3
import Derived.WalkSpells
import Derived.StillTactics
namespace Go.Proofs.YtmbdhngoldganaaGreatDoor
open Go Go.RowKit Go.Maps
theorem run_putM {w : World} {b : Nat} {m : List KV} (hown : MB w b m) (hn : m.length < maxLen) {s v : List UInt8} (hs : s.length ≤ maxLen) (hv1 : v.length ≤ maxLen) :
    ∃ w', (Instr.mapUpdate 165 (.map (some b)) (.string ⟨s.toArray⟩) (.agg #[.string ⟨v.toArray⟩])).run Tryz.prog w = .ok () w' ∧ MB w' b (putM s v m) ∧ w.grownBy w' (some b) := by
  obtain ⟨w', hrun, r1, r2⟩ := World.ownsMap.store hown K9 Tryz.underlying165 hn (key9 hs) (hld_mk hv1)
  rw [dm_put] at r1
  exact ⟨w', hrun, MP.of r1 rfl, r2.grown⟩
section
variable {ops : Array Oper} {o : Oper} {a : Act} {w : World} {K : Act → World → Prop} {Q : Exit → Act → World → Prop} {E : Prop}
theorem wp_delM (x y : Operand) (hop : o.op = Op.call { callee := .builtin .delete, args := #[x, y], argTypes := #[165, 9] }) (b : Nat) (m : List KV) (hx : a.eval x = .map (some b)) (hown : MB w b m) (s : List UInt8) (hy : a.eval y = .string ⟨s.toArray⟩) (hs : s.length ≤ maxLen)
    (h : ∀ w', MB w' b (delM s m) → w.grownBy w' (some b) → K (a.put o.dst (.tuple #[])) w') : o.wp Tryz.prog a w K Q := by
  obtain ⟨w', hrun, r1, r2⟩ := World.ownsMap.drop hown K9 Tryz.underlying165 (key9 hs) o.type
  rw [dm_del] at r1
  unfold Oper.wp
  simp [execOp, hop, resolve, invoke, builtin, hx, hy, hrun, Result.andThen]
  exact h w' (MP.of r1 rfl) r2.grown
theorem step_delM (hg : o.guard = none) (x y : Operand) (hop : o.op = Op.call { callee := .builtin .delete, args := #[x, y], argTypes := #[165, 9] }) (b : Nat) (m : List KV) (hx : a.eval x = .map (some b)) (hown : MB w b m) (s : List UInt8) (hy : a.eval y = .string ⟨s.toArray⟩) (hs : s.length ≤ maxLen)
    (h : ∀ w', MB w' b (delM s m) → w.grownBy w' (some b) → K (a.put o.dst (.tuple #[])) w') : if Region.wanted o (yielded ops a.tmps) = true then Oper.wp Tryz.prog o a w K Q else E := by
  have hw : Region.wanted o (yielded ops a.tmps) = true := by simp [Region.wanted, hg]
  rw [if_pos hw]
  exact wp_delM x y hop b m hx hown s hy hs h
end
theorem grown_drew (w : World) (row : Option Nat) : w.grownBy w.drew row := ⟨rfl, rfl, rfl, Nat.le_refl _, fun _ _ _ => rfl⟩
theorem cell_gr {w w' : World} {mb b : Nat} {o : Nat} {v : Value} (h : w.cell? ⟨b, o, none⟩ = some v) (hg : w.grownBy w' (some mb)) (hne : b ≠ mb) : w'.cell? ⟨b, o, none⟩ = some v := by
  have hlt := World.block_lt_of_cell? w _ h
  have := hg.block b hlt (fun e => hne (Option.some.inj e))
  rw [← h]
  unfold World.cell?
  rw [this]
/-- Does a key have what an operation says that it must have? -/
def agM (m : List KV) (o : O) : Bool := if o.kind = 3 then hasM m (kOf o.key) && (valM m (kOf o.key) == o.val) else if o.kind = 4 then !hasM m (kOf o.key) else true
/-- What an operation does. -/
def doM (m : List KV) (o : O) : List KV := if o.kind = 1 then putM (kOf o.key) o.val m else if o.kind = 2 then delM (kOf o.key) m else m
def tch (o : O) : Bool := decide (o.kind = 1 ∨ o.kind = 2)
set_option maxRecDepth 100000 in
set_option maxHeartbeats 400000 in
theorem agrees_any (b : Nat) (m : List KV) (o : O) (w : World) (h : ST w b m) (hk : o.key.length ≤ 1000) : Calls Tryz.prog 173 #[.pointer (some ⟨b, 0, none⟩), .agg (opc o)] w fun e w' => e = .returned (.bool (agM m o)) ∧ Below w.heap.size w w' := by
  obtain ⟨k, key, vv⟩ := o
  have HG := fun w (h : ST w b m) => get_st b m key w h (by dsimp only at hk; omega)
  unfold agM
  dsimp only
  clear hk
  generalize valM m (kOf key) = v1 at *
  generalize hasM m (kOf key) = b1 at *
  by_cases h3 : k = 3
  · subst h3
    cases b1
    · go_enter Tryz.func173, Tryz.ntmps173
      go_wp2_with (first
        | (go_at_call 66; refine (HG _ (h.below hw1)).mono ?_; rintro e w2 ⟨rfl, hw2⟩; have c0 := (hw2.cell (p := ⟨w.heap.size, 0, none⟩) hb1.lt).trans c0; have c2 := (hw2.cell (p := ⟨w.heap.size, 2, none⟩) hb1.lt).trans c2)
        | (with_reducible refine at_list ?_; refine wpList_boxRow (op := ⟨some 3, _, _, _, _, _⟩) rfl _ _ rfl _ rfl ?_; intro w1 hw1 hs1 hb1; replace hs1 := hs1.symm; have c0 := (hb1.cell 0).trans (opc_g0 _); have c1 := (hb1.cell 1).trans (opc_g1 _); have c2 := (hb1.cell 2).trans (opc_g2 _)))
      go_ret
      exact ⟨rfl, hw1.trans (hw2.mono hw1.size)⟩
    · go_enter Tryz.func173, Tryz.ntmps173
      go_wp2_with (first
        | (go_at_call 66; refine (HG _ (h.below hw1)).mono ?_; rintro e w2 ⟨rfl, hw2⟩; have c0 := (hw2.cell (p := ⟨w.heap.size, 0, none⟩) hb1.lt).trans c0; have c2 := (hw2.cell (p := ⟨w.heap.size, 2, none⟩) hb1.lt).trans c2)
        | (with_reducible refine at_list ?_; refine wpList_boxRow (op := ⟨some 3, _, _, _, _, _⟩) rfl _ _ rfl _ rfl ?_; intro w1 hw1 hs1 hb1; replace hs1 := hs1.symm; have c0 := (hb1.cell 0).trans (opc_g0 _); have c1 := (hb1.cell 1).trans (opc_g1 _); have c2 := (hb1.cell 2).trans (opc_g2 _)))
      go_ret
      exact ⟨rfl, hw1.trans (hw2.mono hw1.size)⟩
  · have hb3 : (k == 3) = false := by rw [beq_eq_false_iff_ne]; exact h3
    rw [if_neg h3]
    by_cases h4 : k = 4
    · subst h4
      rw [if_pos rfl]
      go_enter Tryz.func173, Tryz.ntmps173
      go_wp2_with (first
        | (go_at_call 66; refine (HG _ (h.below hw1)).mono ?_; rintro e w2 ⟨rfl, hw2⟩; have c0 := (hw2.cell (p := ⟨w.heap.size, 0, none⟩) hb1.lt).trans c0; have c2 := (hw2.cell (p := ⟨w.heap.size, 2, none⟩) hb1.lt).trans c2)
        | (with_reducible refine at_list ?_; refine wpList_boxRow (op := ⟨some 3, _, _, _, _, _⟩) rfl _ _ rfl _ rfl ?_; intro w1 hw1 hs1 hb1; replace hs1 := hs1.symm; have c0 := (hb1.cell 0).trans (opc_g0 _); have c1 := (hb1.cell 1).trans (opc_g1 _); have c2 := (hb1.cell 2).trans (opc_g2 _)))
      go_ret
      exact ⟨rfl, hw1.trans (hw2.mono hw1.size)⟩
    · have hb4 : (k == 4) = false := by rw [beq_eq_false_iff_ne]; exact h4
      rw [if_neg h4]
      go_enter Tryz.func173, Tryz.ntmps173
      go_wp2_with (first
        | (go_at_call 66; refine (HG _ (h.below hw1)).mono ?_; rintro e w2 ⟨rfl, hw2⟩; have c0 := (hw2.cell (p := ⟨w.heap.size, 0, none⟩) hb1.lt).trans c0; have c2 := (hw2.cell (p := ⟨w.heap.size, 2, none⟩) hb1.lt).trans c2)
        | (with_reducible refine at_list ?_; refine wpList_boxRow (op := ⟨some 3, _, _, _, _, _⟩) rfl _ _ rfl _ rfl ?_; intro w1 hw1 hs1 hb1; replace hs1 := hs1.symm; have c0 := (hb1.cell 0).trans (opc_g0 _); have c1 := (hb1.cell 1).trans (opc_g1 _); have c2 := (hb1.cell 2).trans (opc_g2 _)))
      go_ret
      exact ⟨rfl, hw1.trans (hw2.mono hw1.size)⟩
theorem MP.blk_ne {P : Program} {k : TypeId} {w : World} {mb b : Nat} {m : List KV} {c : Array Value} {t : TypeId} (h : MP P k w mb m) (hb : Blk w b c t) : b ≠ mb := by
  intro e
  subst e
  obtain ⟨es, clock, h3, _⟩ := h
  rw [hb.out] at h3
  cases h3
set_option maxRecDepth 100000 in
set_option maxHeartbeats 400000 in
theorem do_any (b mb : Nat) (m : List KV) (o : O) (w : World) (hB : Blk w b #[.map (some mb)] 167) (hM : MB w mb m) (hm : m.length ≤ 100000) (hk : o.key.length ≤ 1000) (hv1 : o.val.length ≤ 1000) :
    Calls Tryz.prog 174 #[.pointer (some ⟨b, 0, none⟩), .agg (opc o)] w fun e w' => e = .returned (.bool (tch o)) ∧ MB w' mb (doM m o) ∧ w.grownBy w' (some mb) := by
  obtain ⟨k, key, vv⟩ := o
  dsimp only at hk hv1
  have HK := fun w => keyOf_any key w (by omega)
  have hkl := kOf_length key
  unfold tch doM
  dsimp only
  have cb : w.cell? ⟨b, 0, none⟩ = some (.map (some mb)) := hB.cell 0
  have hbl := hB.lt
  by_cases h1 : k = 1
  · subst h1
    rw [if_pos rfl, show decide ((1 : Int) = 1 ∨ (1 : Int) = 2) = true from rfl]
    generalize kOf key = kk at *
    go_enter Tryz.func174, Tryz.ntmps174
    go_wp2_with (with_reducible refine at_list ?_; refine wpList_boxRow (op := ⟨some 3, _, _, _, _, _⟩) rfl _ _ rfl _ rfl ?_; intro w1 hw1 hs1 hb1; replace hs1 := hs1.symm; have c0 := (hb1.cell 0).trans (opc_g0 _); have c1 := (hb1.cell 1).trans (opc_g1 _); have c2 := (hb1.cell 2).trans (opc_g2 _); have cb1 := (hw1.cell (p := ⟨b, 0, none⟩) hbl).trans cb)
    obtain ⟨w3, hrun, hM3, hg3⟩ := run_putM (hM.below hw1).drew (by unfold maxLen; omega) (s := kk) (v := vv) (by unfold maxLen; omega) (by unfold maxLen; omega)
    have d0 : w3.cell? ⟨b, 0, none⟩ = some (.map (some mb)) := cell_gr (w := w1.drew) cb1 hg3 (hM.blk_ne hB)
    have d1 : w3.cell? ⟨w.heap.size, 1, none⟩ = some (.string ⟨key.toArray⟩) := cell_gr (w := w1.drew) c1 hg3 (by have := hM.lt; omega)
    have d2 : w3.cell? ⟨w.heap.size, 2, none⟩ = some (.string ⟨vv.toArray⟩) := cell_gr (w := w1.drew) c2 hg3 (by have := hM.lt; omega)
    go_region_held3 (fun w' => w'.cell? ⟨b, 0, none⟩ = some (.map (some mb)) ∧ w'.cell? ⟨w.heap.size, 1, none⟩ = some (.string ⟨key.toArray⟩) ∧ w'.cell? ⟨w.heap.size, 2, none⟩ = some (.string ⟨vv.toArray⟩)) ((go_split_ands; exact ⟨by assumption, by assumption, by assumption⟩)) ((go_at_call 114; refine (HK _).mono ?_; rintro e w2 ⟨rfl, hw2⟩; have hw2 := hw2.symm; subst hw2))
    go_wp2_with fail
    go_ret
    exact ⟨rfl, hM3, grown_trans (grown_of_below hw1) (grown_trans (grown_drew _ _) hg3)⟩
  · have hb1' : (k == 1) = false := by rw [beq_eq_false_iff_ne]; exact h1
    rw [if_neg h1]
    by_cases h2 : k = 2
    · subst h2
      rw [if_pos rfl, show decide ((2 : Int) = 1 ∨ (2 : Int) = 2) = true from rfl]
      generalize kOf key = kk at *
      go_enter Tryz.func174, Tryz.ntmps174
      go_wp2_with (with_reducible refine at_list ?_; refine wpList_boxRow (op := ⟨some 3, _, _, _, _, _⟩) rfl _ _ rfl _ rfl ?_; intro w1 hw1 hs1 hb1; replace hs1 := hs1.symm; have c0 := (hb1.cell 0).trans (opc_g0 _); have c1 := (hb1.cell 1).trans (opc_g1 _); have c2 := (hb1.cell 2).trans (opc_g2 _); have cb1 := (hw1.cell (p := ⟨b, 0, none⟩) hbl).trans cb)
      go_region_held3 (fun w' => w'.cell? ⟨b, 0, none⟩ = some (.map (some mb)) ∧ w'.cell? ⟨w.heap.size, 1, none⟩ = some (.string ⟨key.toArray⟩)) ((go_split_ands; exact ⟨by assumption, by assumption⟩)) (first
        | (go_at_call 114; refine (HK _).mono ?_; rintro e w2 ⟨rfl, hw2⟩; have hw2 := hw2.symm; subst hw2)
        | (refine step_delM (by rfl) _ _ (by rfl) mb m (by rfl) (hM.below hw1).drew kk (by rfl) (by unfold maxLen; omega) ?_; intro w3 hM3 hg3; have d0 : w3.cell? ⟨b, 0, none⟩ = some (.map (some mb)) := cell_gr (w := w1.drew) cb1 hg3 (hM.blk_ne hB); have d1 : w3.cell? ⟨w.heap.size, 1, none⟩ = some (.string ⟨key.toArray⟩) := cell_gr (w := w1.drew) c1 hg3 (by have := hM.lt; omega)))
      go_wp2_with fail
      go_ret
      exact ⟨rfl, hM3, grown_trans (grown_of_below hw1) (grown_trans (grown_drew _ _) hg3)⟩
    · have hb2' : (k == 2) = false := by rw [beq_eq_false_iff_ne]; exact h2
      rw [if_neg h2, show decide (k = 1 ∨ k = 2) = false from decide_eq_false (by omega)]
      go_enter Tryz.func174, Tryz.ntmps174
      go_wp2_with (with_reducible refine at_list ?_; refine wpList_boxRow (op := ⟨some 3, _, _, _, _, _⟩) rfl _ _ rfl _ rfl ?_; intro w1 hw1 hs1 hb1; replace hs1 := hs1.symm; have c0 := (hb1.cell 0).trans (opc_g0 _); have c1 := (hb1.cell 1).trans (opc_g1 _); have c2 := (hb1.cell 2).trans (opc_g2 _); have cb1 := (hw1.cell (p := ⟨b, 0, none⟩) hbl).trans cb)
      go_ret
      exact ⟨rfl, hM.below hw1, grown_of_below hw1⟩
end Go.Proofs.YtmbdhngoldganaaGreatDoor
namespace Go.Proofs.YtmbdhngoldganaaGreatDoor
open Go Go.RowKit
theorem Blk.puts {w w' : World} {b i : Nat} {l t : List UInt8} {c : Array Value} {ty : TypeId} (h : Blk w i c ty) (hP : Puts w w' b l t) (h1 : ty ≠ 173) (h2 : ty ≠ 5) : Blk w' i c ty := hP.keeps.out i c ty h h1 h2
theorem Puts.behind {w w1 w2 : World} {b : Nat} {x t : List UInt8} (h : Below w.heap.size w w1) (hb : b ≤ w.heap.size) (k : Puts w1 w2 b x t) : Puts w w2 b x t := ⟨(h.mono hb).trans k.below, (Keeps.of_below h).trans k.keeps, k.wr⟩
theorem Puts.trans {w w1 w2 : World} {b : Nat} {x t u : List UInt8} (h : Puts w w1 b x t) (k : Puts w1 w2 b (x ++ t) u) : Puts w w2 b x (t ++ u) := ⟨h.below.trans k.below, h.keeps.trans k.keeps, by rw [← List.append_assoc]; exact k.wr⟩
set_option maxRecDepth 100000 in
set_option maxHeartbeats 400000 in
/-- A transaction that may be is put into a writer that lies beyond it. -/
theorem put_any (t : TX) (ht : OkT t) (a : Option Addr) (cap b : Nat) (x : List UInt8) (w w0 : World) (hB : Below w0.heap.size w0 w) (hb : w0.heap.size ≤ b) (h : SL w0 a t.ops) (hW : WR w b x) (hx : x.length ≤ 1000) :
    Calls Tryz.prog 183 #[.pointer (some ⟨b, 0, none⟩), .agg (txc t.client t.nonce (.slice a t.ops.length cap))] w fun e w' => e = .returned (.tuple #[]) ∧ Puts w w' b x (txB t) := by
  obtain ⟨c, n, l⟩ := t
  have hl8 := ht.len1
  have hall : ∀ o ∈ l, OkO o := fun o ho => ht.okO ho
  have HT : Hid (txB ⟨c, n, l⟩ = hdB c n l.length ++ opsB l) := by exact rfl
  rw [HT.out]
  clear HT ht
  dsimp only at h hl8 ⊢
  have hbw : b ≤ w.heap.size := Nat.le_of_lt hW.lt
  have H1 := fun w x (h : WR w b x) (hx : x.length ≤ 1000) => wnumber_any b x c 8 w h (by omega)
  have H2 := fun w x (h : WR w b x) (hx : x.length ≤ 1100) => wnumber_any b x n 8 w h (by omega)
  have H3 := fun w x (h : WR w b x) (hx : x.length ≤ 1200) => wcount_any b x l.length w h (by omega) (by omega)
  rw [Int.toNat_natCast] at H3
  rw [show cut8 8 = 8 from rfl] at H1 H2
  go_enter Tryz.func183, Tryz.ntmps183
  go_wp2_with (first
    | (go_at_call 75; refine (H3 _ _ hP2.wr (by simp [num_length]; omega)).mono ?_; rintro e w4 ⟨rfl, hP3⟩; clear H3 c2; have hb4 := hb3.puts hP3 (by decide) (by decide); have c2 := (hb4.cell 2).trans (txc_g2 _ _ _))
    | (with_reducible refine at_list ?_; first
      | (refine wpList_boxRow (op := ⟨some 3, _, _, _, _, _⟩) rfl _ _ rfl _ rfl ?_; intro w1 hw1 hs1 hb1; replace hs1 := hs1.symm; have c0 := (hb1.cell 0).trans (txc_g0 _ _ _); have c1 := (hb1.cell 1).trans (txc_g1 _ _ _); have c2 := (hb1.cell 2).trans (txc_g2 _ _ _)))
    | (go_at_call 51; refine (H1 _ x (hW.below hw1) hx).mono ?_; rintro e w2 ⟨rfl, hP1⟩; clear H1 c0 c1 c2; have hb2 := hb1.puts hP1 (by decide) (by decide); have c1 := (hb2.cell 1).trans (txc_g1 _ _ _); have c2 := (hb2.cell 2).trans (txc_g2 _ _ _))
    | (go_at_call 51; refine (H2 _ _ hP1.wr (by simp [num_length]; omega)).mono ?_; rintro e w3 ⟨rfl, hP2⟩; clear H2 c1 c2; have hb3 := hb2.puts hP2 (by decide) (by decide); have c2 := (hb3.cell 2).trans (txc_g2 _ _ _)))
  have hP0 : Puts w w4 b x (hdB c n l.length) := (hP1.behind hw1 hbw).trans (hP2.trans hP3)
  clear hP1 hP2 hP3 hb1 hb2 hb3 hb4 c2 hw1 hs1
  have hhd := hdB_length c n l.length
  go_loopw [22] (fun v22 wl => ∃ i : Nat, i ≤ l.length ∧ v22 = .int .i64 i ∧ Puts w wl b x (hdB c n l.length ++ opsB (l.take i))) (fun v22 _ => l.length - (intOf v22).toNat)
  case atStart => exact ⟨0, by omega, rfl, by rw [List.take_zero, opsB_nil, List.append_nil]; exact hP0⟩
  case round =>
    obtain ⟨i, hi, rfl, hP⟩ := hrel
    clear hP0
    by_cases hlt : i < l.length
    · obtain ⟨g, o, rfl⟩ := h.ex (by omega)
      have hr := (h.below (hB.trans (hP.below.mono hb))).at i hlt
      have hO := hall _ (List.getElem_mem hlt)
      have hT : Hid (opsB (l.take (i + 1)) = opsB (l.take i) ++ opB l[i]) := by
        rw [List.take_succ_eq_append_getElem hlt, opsB_snoc]
        exact rfl
      have hlen := opsB_le (l.take i) (fun o ho => hall o (List.mem_of_mem_take ho))
      rw [List.length_take] at hlen
      generalize l[i] = y at *
      obtain ⟨k, key, vv⟩ := y
      obtain ⟨hk0, hk1, hy0, hy1, hv1⟩ := hO
      dsimp only at hk0 hk1 hy0 hy1 hv1
      obtain ⟨m, rfl⟩ : ∃ m : Nat, k = m := ⟨k.toNat, by omega⟩
      have HT2 : Hid (opB ⟨(m : Nat), key, vv⟩ = num m 1 ++ ((num key.length 4 ++ key) ++ (num vv.length 4 ++ vv))) := by exact rfl
      rw [HT2.out] at hT
      clear HT2
      generalize opsB (l.take i) = ob at *
      have hm64 := wrap_u64_nat m (by omega)
      have G1 := fun w x (h : WR w b x) (hx : x.length ≤ 5000) => wnumber_any b x m 1 w h (by omega)
      rw [show cut8 1 = 1 from rfl] at G1
      have G2 := fun w x (h : WR w b x) (hx : x.length ≤ 5100) => wtext_any b x key w h (by omega)
      have G3 := fun w x (h : WR w b x) (hx : x.length ≤ 5200) => wtext_any b x vv w h (by omega)
      have hn1 := num_length 1 m
      have hn2 : (num key.length 4 ++ key).length = 4 + key.length := by rw [List.length_append, num_length]
      generalize num key.length 4 ++ key = tk at *
      generalize num vv.length 4 ++ vv = tv at *
      generalize num m 1 = tm at *
      go_wp2_with (first
        | (with_reducible refine at_list ?_; first
          | (refine wpList_loadOp (op := ⟨some 25, _, _, _, _, _⟩) rfl _ _ rfl g (o + i * 3) rfl (opc ⟨(m : Nat), key, vv⟩) hr _ Tryz.underlying97 rfl (by rw [opc_size]; exact zOp.2) ?_)
          | (refine wpList_allocRow (op := ⟨some 5, _, _, _, _, _⟩) rfl _ rfl _ zOp.1 ?_; intro w5 hw5 hs5 hz5; replace hs5 := hs5.symm)
          | (refine wpList_storeRow (op := ⟨none, .store 97 (.tmp 5) (.tmp 25), _, _, _, _⟩) rfl _ _ _ rfl wr.heap.size (opc ⟨(m : Nat), key, vv⟩) rfl rfl _ _ hz5 (by rw [opc_size, opc_size]) (by rw [opc_size]; exact zOp.2) (opc_one _) ?_; intro w6 hg6 hs6 hz6; have hB6 : Below wr.heap.size wr w6 := hw5.trans (below_of_grown hg6 (Nat.le_refl _) hw5.size); have d0 := (hz6.cell 0).trans (opc_g0 _); have d1 := (hz6.cell 1).trans (opc_g1 _); have d2 := (hz6.cell 2).trans (opc_g2 _); dsimp only at d0 d1 d2))
        | (go_at_call 51; refine (G1 _ _ (hP.wr.below hB6) (by simp only [List.length_append]; omega)).mono ?_; rintro e w7 ⟨rfl, hP1⟩; clear G1 d0 d1 d2; have hz7 := hz6.puts hP1 (by decide) (by decide); have d1 := (hz7.cell 1).trans (opc_g1 _); have d2 := (hz7.cell 2).trans (opc_g2 _); dsimp only at d1 d2)
        | (go_at_call 49; refine (G2 _ _ hP1.wr (by simp only [List.length_append]; omega)).mono ?_; rintro e w8 ⟨rfl, hP2⟩; clear G2 d1 d2; have hz8 := hz7.puts hP2 (by decide) (by decide); have d2 := (hz8.cell 2).trans (opc_g2 _); dsimp only at d2)
        | (go_at_call 49; refine (G3 _ _ hP2.wr (by simp only [List.length_append]; omega)).mono ?_; rintro e w9 ⟨rfl, hP3⟩; clear G3 d2))
      go_roundw
      case rel =>
        refine ⟨i + 1, by omega, by go_num, ?_⟩
        rw [hT.out, ← List.append_assoc]
        exact hP.trans (Puts.behind hB6 (Nat.le_of_lt hP.wr.lt) (hP1.trans (hP2.trans hP3)))
      case measure => simp [intOf]; omega
    · have hT : Hid (l.take i = l) := List.take_of_length_le (by omega)
      rw [hT.out] at hP
      clear hT
      go_wp2_with fail
      refine bodyPost_end (results_none rfl _ _ _) rfl ⟨rfl, hP⟩
set_option maxRecDepth 100000 in
set_option maxHeartbeats 400000 in
theorem bytesOf_any (t : TX) (ht : OkT t) (a : Option Addr) (cap : Nat) (w : World) (h : SL w a t.ops) :
    Calls Tryz.prog 199 #[.agg (txc t.client t.nonce (.slice a t.ops.length cap))] w fun e w' => e = .returned (.string ⟨(txB t).toArray⟩) ∧ Below w.heap.size w w' := by
  have HP := fun b w' (hB : Below w.heap.size w w') (hb : w.heap.size ≤ b) (hW : WR w' b []) => put_any t ht a cap b [] w' w hB hb h hW (by simp)
  have HN := fun w => neww_any w
  have HA := fun b w l (h : WR w b l) => wall_any b l w h
  generalize txB t = tb at *
  generalize (Value.slice a t.ops.length cap) = sl at *
  go_enter Tryz.func199, Tryz.ntmps199
  go_wp2_with (first
    | (go_at_call 48; refine (HN _).mono ?_; rintro e w2 ⟨rfl, hw2, hW2⟩; replace hb1 := hb1.belowSize hw2)
    | (go_at_call 183; refine (HP _ _ (hw1.trans (hw2.mono hw1.size)) hw1.size hW2).mono ?_; rintro e w3 ⟨rfl, hP3⟩)
    | (go_at_call 53; refine (HA _ _ _ hP3.wr).mono ?_; rintro e w' ⟨rfl, hw'⟩; have hw4 := hw'.symm; subst hw4; clear hw')
    | (with_reducible refine at_list ?_; first
      | (refine wpList_boxRow (op := ⟨some 1, _, _, _, _, _⟩) rfl _ _ rfl _ rfl ?_; intro w1 hw1 hs1 hb1; replace hs1 := hs1.symm)
      | (refine wpList_loadRow (op := ⟨some 6, _, _, _, _, _⟩) rfl _ _ rfl w.heap.size rfl _ _ hb1 _ Tryz.underlying95 rfl (by rw [txc_size]; exact zTx.2) ?_)))
  go_ret
  exact ⟨rfl, (hw1.trans (hw2.mono hw1.size)).trans (hP3.below.mono hw1.size)⟩
end Go.Proofs.YtmbdhngoldganaaGreatDoor
