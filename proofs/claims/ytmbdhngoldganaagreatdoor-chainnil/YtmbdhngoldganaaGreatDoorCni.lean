/- What ChainNil does. -/
import Derived.Test.YtmbdhngoldganaaGreatDoorCnl
namespace Go.Proofs.YtmbdhngoldganaaGreatDoor
open Go Go.RowKit Go.Maps Go.Shelf
def pf0 : Array Value := #[.slice none 0 0, .bool false, .string ⟨#[]⟩, .string ⟨#[]⟩]
theorem zPf0 : (∀ w, (zeroValue 77).run Tryz.prog w = .ok (.agg pf0) w) ∧ (Tryz.prog.info? 77).map (·.size) = some 4 := zero_of_info (by kernel_rfl)
theorem builtPf0 : Tryz.prog.built 77 [] = some pf0 := by kernel_rfl
theorem pf0_info : (Tryz.prog.info? 77).map (·.size) = some pf0.size := zPf0.2
theorem pf0_one : pf0.all (·.oneCell') = true := by simp [pf0, Value.oneCell']
theorem run_fieldP0 (w : World) : (Instr.field 77 (.agg pf0) 0).run Tryz.prog w = .ok (.slice none 0 0) w := by
  simp [pf0, Instr.field, run_underlying Tryz.underlying77, Sem.run_bind, asAgg, Go.part, isAgg_run Tryz.underlying28 rfl]
set_option maxRecDepth 100000 in
set_option maxHeartbeats 1000000 in
theorem proveN (k : ByteArray) (w : World) : Calls Tryz.prog 29 #[.pointer none, .string k] w fun e w' => e = .returned (.agg pf0) ∧ Below w.heap.size w w' := by
  go_enter Tryz.func29, Tryz.ntmps29
  go_wp2_with (with_reducible refine at_list ?_; first
      | (refine wpList_allocRow (op := ⟨some 4, _, _, _, _, _⟩) rfl _ rfl _ zPf0.1 ?_; intro w2 hw2 hs2 h4; clear hs2)
      | (refine wpList_build (o := ⟨some 7, _, _, _, _, _⟩) rfl _ _ rfl builtPf0 ?_)
      | (refine wpList_storeRow (op := ⟨none, .store 77 (.tmp 4) (.tmp 7), _, _, _, _⟩) rfl _ _ _ rfl w.heap.size pf0 rfl rfl _ _ h4 rfl pf0_info pf0_one ?_; intro w3 hg3 hs3 h4b; clear hs3))
  refine bodyPost_ret (v := .agg pf0) ?_ rfl ⟨rfl, hw2.trans (below_of_grown hg3 (Nat.le_refl _) hw2.size)⟩
  exact results_cell_row rfl _ _ w.heap.size _ _ _ _ rfl h4b.out Tryz.underlying77 rfl pf0_info
set_option maxRecDepth 100000 in
theorem allNc (w : World) : Calls Tryz.prog 25 #[.pointer none] w fun e w' => e = .returned (.func (.func 68) #[] #[.pointer (some ⟨w.heap.size, 0, none⟩)]) ∧ Blk w' w.heap.size #[.slice none 0 0] 101 ∧ Below w.heap.size w w' := by
  go_enter Tryz.func25, Tryz.ntmps25
  go_wp2_with fail
  go_ret
  exact ⟨rfl, Blk.new _ _ _, (Below.refl _ _).alloc (Nat.le_refl _) _⟩
set_option maxRecDepth 100000 in
set_option maxHeartbeats 1000000 in
theorem allN_in (n : Nat) (l Bt : Nat) (J Jx : List Empty → World → Prop) (W : World) (hI : Blk W Bt #[.slice none 0 0] 101) (h0 : J [] W) :
    CallsIn Fence.wide n Tryz.prog 68 #[.func (.yield l) #[] #[], .pointer (some ⟨Bt, 0, none⟩)] W fun e W' => (∃ v, e = .returned v) ∧ ((∃ ys, ys = [] ∧ J ys W') ∨ (∃ pre, False ∧ Jx pre W')) := by
  have hbt : W.cell? ⟨Bt, 0, none⟩ = some (.slice none 0 0) := hI.cell 0
  refine callsIn_of_wp Tryz.func68 rfl trivial ?_ rfl
  simp only [Tryz.ntmps68, List.size_toArray, List.length_cons, List.length_nil, Nat.reduceAdd, Nat.reduceSub, Array.replicate_succ, Array.replicate_zero, List.push_toArray, List.append_toArray, List.nil_append, List.cons_append]
  gi_wp2
  gi_loopw [7] (fun i wr => i = .int .i64 0 ∧ wr = W) (fun _ _ => 0)
  case atStart => exact ⟨rfl, rfl⟩
  case round =>
    obtain ⟨rfl, rfl⟩ := hrel
    gi_wp2
    go_end0
    exact ⟨⟨_, rfl⟩, .inl ⟨_, rfl, h0⟩⟩
theorem allN_stops (n : Nat) (Bt : Nat) (w : World) (hI : Blk w Bt #[.slice none 0 0] 101) :
    SeqStopsK Fence.wide n Tryz.prog 68 #[.pointer (some ⟨Bt, 0, none⟩)] (fun x : Empty => x.elim) (fun _ _ => True) (fun ys => ys = []) (fun _ => False) 0 w :=
  fun l J Jx W hW _ _ _ h0 => allN_in n l Bt J Jx W (hI.belowSize hW) h0
theorem run_built0 {P : Program} {op : Oper} {a : Act} {w : World} (t : TypeId) (ho : op.op = .build t #[]) (c : Array Value) (h : P.built t [] = some c) : (execOp a.eval op).run P w = .ok (.value (.agg c)) w := by
  unfold execOp
  simp only [ho, Sem.run_bind, Array.map_empty, run_build w t _ c h, Result.andThen_ok]
  rfl
attribute [local go_sem] Oper.semAt_some
set_option maxRecDepth 100000 in
set_option maxHeartbeats 4000000 in
theorem chainNil_any (x0 b0 : Array Value) (ht : Nat) (w : World) (hG : Sh.Glob w) (hb0 : b0.size = 3) :
    Calls Tryz.prog 6 #[.agg x0, .agg b0, .int .u64 (ht : Nat)] w fun e w' => e = .returned (.bool true) ∧ Below w.heap.size w w' := by
  have HW := fun w1 (hB : Below w.heap.size w w1) => awakeC_any w1 (hG.belowSize hB)
  have HA := fun w1 => applyN b0 w1
  have HB := fun w1 => blockN (ht : Nat) w1
  have HG := fun w1 => getN ⟨#[97]⟩ w1
  have HL := fun w1 => lastNc 1 w1
  have HAl := fun w1 => allNc w1
  have hbi : (Tryz.prog.info? 58).map (·.size) = some b0.size := by rw [hb0]; exact zB.2
  have hk0 : (Tryz.prog.info? 53).map (·.size) = some bk0.size := bk_info _ _ _ _ _ _
  have hk1 : bk0.all (·.oneCell') = true := bk_one _ _ _ _ _ _ _ _ _ _
  have hk6 : bk0.size = 6 := rfl
  have hkz : ∀ w, (zeroValue 53).run Tryz.prog w = .ok (.agg bk0) w := zBlk.1
  have hkb : Tryz.prog.built 53 [] = some bk0 := builtBk0
  generalize bk0 = k0 at *
  refine (callsIn_wide (n := 6)).1 (callsIn_of_wp_marks Tryz.func6 rfl trivial ?_ rfl)
  refine wpIn_wide.2 ?_
  simp only [Tryz.ntmps6, List.size_toArray, List.length_cons, List.length_nil, Nat.reduceAdd, Nat.reduceSub, Array.replicate_succ, Array.replicate_zero, List.push_toArray, List.append_toArray, List.nil_append, List.cons_append]
  go_wp2_with (first
    | (go_at_call 13; refine (HW _ hB2).mono ?_; rintro e w3 ⟨rfl, hw3⟩; clear HW; replace h4 := h4.belowSize hw3; have hB3 := hB2.trans (hw3.mono hB2.size))
    | (go_at_call 19; refine (HA _).mono ?_; rintro e w4 ⟨rfl, hw4⟩; clear HA; have hB4 := hB3.trans (hw4.mono hB3.size))
    | (go_at_call 21; refine (HB _).mono ?_; rintro e w7 ⟨rfl, hw7⟩; clear HB; have hB7 := hB6.trans (hw7.mono hB6.size))
    | (go_at_call 23; refine (HG _).mono ?_; rintro e w' ⟨rfl, hw'⟩; have hw8 := hw'.symm; subst hw8; clear hw' HG)
    | (go_at_call 24; refine (HL _).mono ?_; rintro e w' ⟨rfl, hw'⟩; have hw8 := hw'.symm; subst hw8; clear hw' HL)
    | (go_at_call 25; refine (HAl _).mono ?_; rintro e wA ⟨rfl, hI, hwA⟩; clear HAl)
    | (with_reducible refine at_list ?_; first
      | (refine wpList_boxRow (op := ⟨some 3, _, _, _, _, _⟩) rfl _ _ rfl _ rfl ?_; intro w1 hw1 hs1 h3; clear hs1 h3)
      | (refine wpList_boxRow (op := ⟨some 4, _, _, _, _, _⟩) rfl _ _ rfl _ rfl ?_; intro w2 hw2 hs2 h4; clear hs2; have hB2 := hw1.trans (hw2.mono hw1.size))
      | (refine wpList_loadRow (op := ⟨some 22, _, _, _, _, _⟩) rfl _ _ rfl w1.heap.size rfl _ _ h4 _ Tryz.underlying58 rfl hbi ?_)
      | (refine wpList_allocRow (op := ⟨some 8, _, _, _, _, _⟩) rfl _ rfl _ hkz ?_; intro w5 hw5 hs5 h8; clear hs5; have hB5 := hB4.trans (hw5.mono hB4.size))
      | (refine wpList_storeRow (op := ⟨none, .store 53 (.tmp 8) (.tmp 24), _, _, _, _⟩) rfl _ _ _ rfl w4.heap.size k0 rfl rfl _ _ h8 rfl hk0 hk1 ?_; intro w6 hg6 hs6 h8b; clear hs6; have hB6 := hB5.trans (below_of_grown hg6 hB4.size hB5.size); clear h8 h8b hg6)
      | (refine wpList_allocRow (op := ⟨some 11, _, _, _, _, _⟩) rfl _ rfl _ hkz ?_; intro w8 hw8 hs8 h11; clear hs8; have hB8 := hB7.trans (hw8.mono hB7.size))
      | (refine wpList_storeRow (op := ⟨none, .store 53 (.tmp 11) (.tmp 31), _, _, _, _⟩) rfl _ _ _ rfl w7.heap.size k0 rfl rfl _ _ h11 rfl hk0 hk1 ?_; intro w9 hg9 hs9 h11b; clear hs9; have hB9 := hB8.trans (below_of_grown hg9 hB7.size hB8.size); clear h11 h11b hg9)))
  have hk7 := Blk.new w9 #[.int .i64 0] 3
  have hB67 : Below w9.heap.size w9 (w9.alloc (.cells #[.int .i64 0] 3)) := (Below.refl _ _).alloc (Nat.le_refl _) _
  have hk8 := hk7.belowSize hwA
  have hB10 := hB9.trans (hB67.mono hB9.size)
  have hBA := hB10.trans (hwA.mono hB10.size)
  clear hwA hB67 hB10 hk7 hB8 hB7 hB6 hB5 hB4 hB3 hB2 hw1 hw2 hw3 hw4 hw5 hw7 hw8
  have l6 := hB9.size
  replace hI : Blk wA (w9.heap.size + 1) #[.slice none 0 0] 101 := (by simpa using hI)
  generalize w9.heap.size = Bk at *
  have hBt : ∃ y, y = Bk + 1 := ⟨_, rfl⟩
  obtain ⟨Bt, hBt⟩ := hBt
  rw [← hBt] at hI ⊢
  clear hBt
  clear hB9 h4
  refine (wpIn_wide (n := 6)).1 ?_
  refine wpIn_rangeFunc_ownG rfl (by omega) (gf := 68) (lb := #[.pointer (some ⟨Bt, 0, none⟩)]) rfl trivial (enters_of Tryz.func68 (by kernel_rfl) rfl)
    (allN_stops 5 Bt wA hI) (fun _ _ => trivial) (fun _ _ _ _ _ _ _ _ => trivial) (Below.refl _ _) (fun x => x.elim)
    (fun _ W => Blk W Bk #[.int .i64 0] 3 ∧ Below w.heap.size w W)
    (fun _ _ _ => False)
    (fun s W W' row h hg hr => ⟨h.1.turn hg (fun r e => (hr r e).2), h.2.grown hg h.2.size (fun k e => Nat.le_trans hBA.size (hr k e).1)⟩)
    (fun _ _ _ _ _ h _ _ => h)
    ⟨hk8, hBA⟩
    ?a1 ?assign ?body ?done ?stop
  case a1 => exact fun x => x.elim
  case assign =>
    intro l x
    exact x.elim
  case body =>
    rintro l pre x
    exact x.elim
  case done =>
    rintro D ys W hD rfl ⟨hkW, hBW⟩ hK
    have ck := hkW.one
    have HAd := fun w1 => addN k0 w1
    have HT := fun w1 => tipN w1
    have HGn := fun w1 => genN w1
    have HS := fun w1 => stateN w1
    have HP := fun w1 => proveN ⟨#[97]⟩ w1
    have HBs := fun w1 => baseN w1
    have HE := fun w1 => encN w1
    have HC := fun w1 => cutNc (ht : Nat) w1
    have hf0 := run_fieldT0 0 [] (.slice none 0 0)
    have hfp := run_fieldP0
    generalize tpC 0 [] (.slice none 0 0) = tp at *
    generalize pf0 = pf at *
    go_wp2_with (first
      | (go_at_call 26; refine (HAd _).mono ?_; rintro e w13 ⟨rfl, hw13⟩; clear HAd)
      | (go_at_call 16; refine (HT _).mono ?_; rintro e w14 ⟨rfl, hw14⟩; clear HT)
      | (go_at_call 27; refine (HGn _).mono ?_; rintro e w' ⟨rfl, hw'⟩; have hw' := hw'.symm; subst hw'; clear HGn)
      | (go_at_call 28; refine (HS _).mono ?_; rintro e w' ⟨rfl, hw'⟩; have hw' := hw'.symm; subst hw'; clear HS)
      | (go_at_call 29; refine (HP _).mono ?_; rintro e w15 ⟨rfl, hw15⟩; clear HP)
      | (go_at_call 15; refine (HBs _).mono ?_; rintro e w' ⟨rfl, hw'⟩; have hw' := hw'.symm; subst hw'; clear HBs)
      | (go_at_call 14; refine (HE _).mono ?_; rintro e w' ⟨rfl, hw'⟩; have hw' := hw'.symm; subst hw'; clear HE)
      | (go_at_call 20; refine (HC _).mono ?_; rintro e w' ⟨rfl, hw'⟩; have hw' := hw'.symm; subst hw'; clear HC)
      | (with_reducible refine at_list ?_; first
        | (refine wpList_runG (op := ⟨some 72, _, _, _, _, _⟩) (by rfl) _ _ (run_built0 _ rfl _ hkb) ?_)))
    have hB14 := hw13.trans (hw14.mono hw13.size)
    have hB15 := hB14.trans (hw15.mono hB14.size)
    have hK15 := (hB15.block D (Array.getElem?_eq_some_iff.1 hK).1).trans hK
    have hBw15 := hBW.trans (hB15.mono hBW.size)
    refine ⟨by simp, .inl ⟨_, _, rfl, run_takeDeferred hK15, ?_⟩⟩
    exact ⟨_, results_tmp rfl _ _ _, rfl, hBw15.trans (belowK_b (w := w) (Nat.le_refl _) w15 D _ _ (by have := hBA.size; omega) hK15 rfl rfl)⟩
  case stop =>
    rintro D c pre W _ _ h _
    exact h.elim
end Go.Proofs.YtmbdhngoldganaaGreatDoor
