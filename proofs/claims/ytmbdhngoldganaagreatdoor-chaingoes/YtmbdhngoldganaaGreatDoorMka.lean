/- What Texts and TxRoot do (at a stand-in's form). What the plain bytes of a block do. What Block of the blocks' law does. What agrees, CheckBatch and checkPlace do. What Make does: nothing is made. -/
import Derived.Test.YtmbdhngoldganaaGreatDoorExb
import Derived.Test.YtmbdhngoldganaaGreatDoorRta
import Derived.Deep.RegionHeld3
import Derived.Test.YtmbdhngoldganaaGreatDoorBcb
namespace Go.Proofs.YtmbdhngoldganaaGreatDoor
open Go Go.RowKit
theorem wpList_bslS1 {ops : Array Oper} {rest : List Oper} {op : Oper} {a : Act} {w : World} {Q : Exit → Act → World → Prop} (hgd : op.guard = none) (x : Operand) (ho : op.op = .buildSlice 28 1 #[(0, x)]) (s : List UInt8) (hx : a.eval x = .string ⟨s.toArray⟩)
    (h : ∀ w1 : World, Below w.heap.size w w1 → Blk w1 w.heap.size #[.string ⟨s.toArray⟩] 9 → wpList Tryz.prog ops Q rest (a.put op.dst (.slice (some ⟨w.heap.size, 0, none⟩) 1 1)) w1) : wpList Tryz.prog ops Q (op :: rest) a w := by
  refine wpList_run hgd _ _ ?_ (h _ ((Below.refl _ _).alloc (Nat.le_refl _) (.cells #[.string ⟨s.toArray⟩] 9)) (Blk.new _ _ _))
  unfold execOp
  have e : (#[(0, x)] : Array (Nat × Operand)).map (fun (i, x) => (i, a.eval x)) = #[(0, .string ⟨s.toArray⟩)] := by simp [hx]
  have hr := bslS s w
  rw [← e] at hr
  simp only [ho, Sem.run_bind, hr, Result.andThen_ok]
  rfl
def stC (l : List (List UInt8)) : List Value := l.map fun s => .string ⟨s.toArray⟩
theorem VL.xa {w : World} {t : TypeId} {lo : Nat} {sl : Value} {l : List (List UInt8)} (h : VL w t lo sl (stC l)) : ∃ a cap, sl = .slice a l.length cap ∧ Sh.XA w a l ∧ l.length ≤ cap := by
  rcases h with ⟨h1, h2⟩ | ⟨g, cap, h1, h2, h3⟩
  · obtain rfl : l = [] := List.map_eq_nil_iff.1 h1
    exact ⟨none, 0, h2, fun i hi => by simp at hi, Nat.le_refl _⟩
  · have hl : (stC l).length = l.length := List.length_map ..
    refine ⟨some ⟨g, 0, none⟩, cap, by rw [h2, hl], fun i hi => ⟨g, 0, rfl, ?_⟩, ?_⟩
    · rw [Nat.zero_add]
      exact h3.cell i _ (by unfold stC; rw [List.getElem?_map, List.getElem?_eq_getElem hi]; rfl)
    · obtain ⟨_, _, _, h4, _⟩ := h3.out
      omega
/-- What Texts leaves. -/
def TtP (w : World) (l : List (List UInt8)) (e : Ending) (w' : World) : Prop := ∃ a cap, e = .returned (.slice a l.length cap) ∧ Sh.XA w' a l ∧ l.length ≤ cap ∧ Below w.heap.size w w'
def bys (l : List TX) : List (List UInt8) := l.map txB
set_option maxRecDepth 100000 in
set_option maxHeartbeats 2000000 in
theorem btexts_any (l : List TX) (hok : ∀ x ∈ l, okTx x = true) (hl : l.length ≤ 16) (a : Option Addr) (cap : Nat) (w : World) (hT : TA w a l) :
    Calls Tryz.prog 147 #[.slice a l.length cap] w (TtP w (bys l)) := by
  obtain ⟨i9', hi, hz, hs, hby⟩ := info9
  go_enter Tryz.func147, Tryz.ntmps147
  go_wp2_with fail
  go_loopw [3, 9] (fun v3 v9 wl => ∃ i : Nat, i ≤ l.length ∧ v9 = .int .i64 i ∧ VL wl 9 w.heap.size v3 (stC (bys (l.take i))) ∧ Below w.heap.size w wl) (fun _ v9 _ => l.length - (intOf v9).toNat)
  case atStart => exact ⟨0, by omega, rfl, by rw [List.take_zero]; exact VL.nil _ _ _, Below.refl _ _⟩
  case round =>
    obtain ⟨i, hil, rfl, hV, hB⟩ := hrel
    by_cases hlt : i < l.length
    · obtain ⟨g, o, rfl⟩ := hT.ex (by omega)
      obtain ⟨sa, sc, hr0, hs0, hx1, hx2⟩ := hT.at i hlt
      have hop := okTx_of (hok _ (List.getElem_mem hlt))
      have hle := txB_le hop
      have hrw := range_low hB (World.block_lt_of_cell? _ _ (hr0 0 _ rfl)) hr0
      have hsn : Hid (stC (bys (l.take (i + 1))) = stC (bys (l.take i)) ++ [.string ⟨(txB l[i]).toArray⟩]) := by
        show _ = _
        rw [List.take_succ_eq_append_getElem hlt]
        unfold stC bys
        rw [List.map_append, List.map_append]
        rfl
      have hln : Hid ((stC (bys (l.take i))).length ≤ 1000000) := by
        show _ ≤ _
        simp only [stC, bys, List.length_map, List.length_take]
        omega
      have HN := fun w => neww_any w
      have HP := fun b w' (k : Below w.heap.size w w') (hb : w.heap.size ≤ b) (hW : WR w' b []) => put_any l[i] hop sa sc b [] w' w k hb hs0 hW (by simp)
      have HAll := fun b w (hW : WR w b (txB l[i])) => wall_any b (txB l[i]) w hW
      have hz1 : (0 : Int) ≤ (i : Int) := by omega
      have hz2 : (i : Int) < (l.length : Int) := by omega
      generalize hxx : l[i] = x at *
      clear hxx hle
      generalize txB x = tb at *
      generalize stC (bys (l.take i)) = Li at *
      go_wp2_with (first
        | (go_at_call 48; refine (HN _).mono ?_; rintro e w4 ⟨rfl, hw4, hW⟩; clear HN; have hB3 := hB.size; replace h5 := h5.belowSize hw4; replace hB := hB.trans (hw4.mono hB.size))
        | (go_at_call 183; refine (HP _ _ hB hB3 hW).mono ?_; rintro e w5 ⟨rfl, hPt⟩; clear HP; replace hW := hPt.wr; replace hV := hV.below (hw4.trans hPt.below); replace hB := hB.trans (hPt.below.mono hB3); clear hPt hw4 h5)
        | (go_at_call 53; refine (HAll _ _ hW).mono ?_; rintro e w' ⟨rfl, hw'⟩; have hw6 := hw'.symm; subst hw6; clear hw' HAll hW)
        | (with_reducible refine at_list ?_; first
          | (refine wpList_loadOp (op := ⟨some 12, _, _, _, _, _⟩) rfl _ _ rfl g (o + i * 3) rfl (txc x.client x.nonce (.slice sa x.ops.length sc)) hrw _ Tryz.underlying95 rfl (by rw [txc_size]; exact zTx.2) ?_)
          | (refine wpList_allocRow (op := ⟨some 5, _, _, _, _, _⟩) rfl _ rfl _ zTx.1 ?_; intro w2 hw2 hs2 h5; replace hs2 := hs2.symm; clear hrw)
          | (refine wpList_storeRow (op := ⟨none, .store 95 (.tmp 5) (.tmp 12), _, _, _, _⟩) rfl _ _ _ rfl wr.heap.size (txc x.client x.nonce (.slice sa x.ops.length sc)) rfl rfl _ _ h5 (by simp only [txc_size]) (by rw [txc_size]; exact zTx.2) (txc_one _ _ _ _ _) ?_; intro w3 hg3 hs3 hb3; clear hs3; have hx3 := hw2.trans (below_of_grown hg3 (Nat.le_refl _) hw2.size); replace hV := hV.below hx3; replace hB := hB.trans (hx3.mono hB.size); replace h5 := hb3; clear hg3 hb3 hx3 hw2)
          | (refine wpList_loadRow (op := ⟨some 15, _, _, _, _, _⟩) rfl _ _ rfl wr.heap.size rfl _ _ h5 _ Tryz.underlying95 rfl (by rw [txc_size]; exact zTx.2) ?_)
          | (refine wpList_bslS1 (op := ⟨some 20, _, _, _, _, _⟩) rfl _ rfl tb rfl ?_; intro w7 hw7 hb7; replace hV := hV.below hw7; replace hB := hB.trans (hw7.mono hB.size); clear hw7)
          | (refine wpList_appendVL (op := ⟨some 21, _, _, _, _, _⟩) rfl _ _ 28 9 rfl w.heap.size u3 Li hB.size rfl hV w5.heap.size 1 rfl (.string ⟨tb.toArray⟩) 9 rfl hb7 i9' (.string ⟨#[]⟩) rfl Tryz.underlying28 hi hz hs (by rw [hby]; decide) hln.out ?_; intro w8 sl8 hw8 hV8; replace hB := hB.trans hw8; clear hw8 hb7 hV)))
      go_roundw
      case rel => exact ⟨i + 1, by omega, by go_num, by rw [hsn.out]; exact hV8, hB⟩
      case measure => simp [intOf]; omega
    · have hz2 : ¬ (i : Int) < (l.length : Int) := by omega
      rw [List.take_of_length_le (by omega)] at hV
      obtain ⟨xa, xc, rfl, hX, hc⟩ := hV.xa
      go_wp2_with fail
      go_ret
      exact ⟨xa, xc, rfl, hX, hc, hB⟩
set_option maxRecDepth 100000 in
theorem txRoot_any (l : List TX) (hok : ∀ x ∈ l, okTx x = true) (hl : l.length ≤ 16) (a : Option Addr) (cap : Nat) (w : World) (hT : TA w a l) (hG : Sh.Glob w) :
    Calls Tryz.prog 107 #[.slice a l.length cap] w fun e w' => e = .returned (.string ⟨(rootD Sh.digest (bys l)).toArray⟩) ∧ Below w.heap.size w w' := by
  have HT := btexts_any l hok hl a cap w hT
  have hbl : (bys l).length ≤ 100 := by unfold bys; rw [List.length_map]; omega
  have hbx : ∀ x ∈ bys l, x.length ≤ 1000 := fun x hx => by
    obtain ⟨t, ht, rfl⟩ := List.mem_map.1 hx
    have := txB_le (okTx_of (hok t ht))
    omega
  have HR := fun a cap w1 (h1 : Sh.XA w1 a (bys l)) (h2 : (bys l).length ≤ cap) (h3 : Sh.Glob w1) => Sh.troot_of _ (bys l) a cap w1 rfl h1 h2 hbl hbx h3
  unfold TtP at HT
  clear hbl hbx hT hok hl
  generalize bys l = L at *
  go_enter Tryz.func107, Tryz.ntmps107
  go_wp2_with (first
    | (go_at_call 147; refine HT.mono ?_; rintro e w1 ⟨xa, xc, rfl, hX, hc, hw1⟩)
    | (go_at_call 146; refine (HR _ _ _ hX hc (hG.belowSize hw1)).mono ?_; rintro e w2 ⟨rfl, hw2⟩))
  go_ret
  exact ⟨rfl, hw1.trans (hw2.mono hw1.size)⟩
end Go.Proofs.YtmbdhngoldganaaGreatDoor
namespace Go.Proofs.YtmbdhngoldganaaGreatDoor
open Go Go.RowKit
/-- The cells of a block. -/
def bk (ht : Nat) (p t s : List UInt8) (sm st : Value) : Array Value := #[.int .u64 ht, .string ⟨p.toArray⟩, .string ⟨t.toArray⟩, .string ⟨s.toArray⟩, sm, st]
theorem bk_size (ht : Nat) (p t s : List UInt8) (sm st : Value) : (bk ht p t s sm st).size = 6 := rfl
theorem bk_g5 (ht : Nat) (p t s : List UInt8) (sm st : Value) : (bk ht p t s sm st)[5]? = some st := rfl
theorem bk_head {w : World} {b ht : Nat} {p t s : List UInt8} {sm st : Value} {ty : TypeId} (h : Blk w b (bk ht p t s sm st) ty) : w.rangeAt b 0 (hA ht p t s sm).toList := fun j v hv => by
  rw [Nat.zero_add, h.cell]
  have hj : j < 5 := (List.getElem?_eq_some_iff.1 hv).1
  rw [← hv]
  rcases (show j = 0 ∨ j = 1 ∨ j = 2 ∨ j = 3 ∨ j = 4 by omega) with rfl | rfl | rfl | rfl | rfl <;> rfl
theorem run_built1 {P : Program} {op : Oper} {a : Act} {w : World} (t : TypeId) (k : Nat) (x : Operand) (ho : op.op = .build t #[(k, x)]) (v : Value) (hx : a.eval x = v) (c : Array Value) (h : P.built t [(k, v)] = some c) :
    (execOp a.eval op).run P w = .ok (.value (.agg c)) w := by
  subst hx
  have e : (#[(k, x)] : Array (Nat × Operand)).map (fun (i, x) => (i, a.eval x)) = #[(k, a.eval x)] := by simp
  unfold execOp
  simp only [ho, Sem.run_bind, e, run_build w t _ c h, Result.andThen_ok]
  rfl
end Go.Proofs.YtmbdhngoldganaaGreatDoor
namespace Go.Proofs.YtmbdhngoldganaaGreatDoor
open Go Go.RowKit
theorem bk_one (ht : Nat) (p t s : List UInt8) (a a2 : Option Addr) (n cap n2 cap2 : Nat) : (bk ht p t s (.slice a n cap) (.slice a2 n2 cap2)).all (·.oneCell') = true := by simp [bk, Value.oneCell']
theorem rangeAt_grown {w w' : World} {g o b : Nat} {l : List Value} (hr : w.rangeAt g o l) (hg : w.grownBy w' (some b)) (hne : g ≠ b) : w'.rangeAt g o l := fun j v hv => by
  have h3 := hr j v hv
  exact hg.cell h3 (fun e => hne (Option.some.inj e))
theorem builtB (a : Option Addr) (n cap : Nat) : Tryz.prog.built 58 [(0, .slice a n cap)] = some (bc (.slice a n cap) false (.slice none 0 0)) := by kernel_rfl
theorem run_built2 {P : Program} {op : Oper} {a : Act} {w : World} (t : TypeId) (k l : Nat) (x y : Operand) (ho : op.op = .build t #[(k, x), (l, y)]) (v u : Value) (hx : a.eval x = v) (hy : a.eval y = u) (c : Array Value) (h : P.built t [(k, v), (l, u)] = some c) :
    (execOp a.eval op).run P w = .ok (.value (.agg c)) w := by
  subst hx hy
  have e : (#[(k, x), (l, y)] : Array (Nat × Operand)).map (fun (i, x) => (i, a.eval x)) = #[(k, a.eval x), (l, a.eval y)] := by simp
  unfold execOp
  simp only [ho, Sem.run_bind, e, run_build w t _ c h, Result.andThen_ok]
  rfl
end Go.Proofs.YtmbdhngoldganaaGreatDoor
namespace Go.Proofs.YtmbdhngoldganaaGreatDoor
open Go Go.RowKit
/-- Has a batch what its kind has, and nothing of the other kind? -/
def agB (b : BT) : Bool := if b.conf = true then b.txs.isEmpty && okM b.mem else b.mem.isEmpty
theorem chkB_ag (b : BT) : chkB b = if agB b = true then (if 16 < b.txs.length then 3 else if b.txs.all okTx = true then 0 else 40) else 6 := by
  obtain ⟨l, c, m⟩ := b
  unfold chkB agB
  dsimp only
  cases c
  · cases m with
    | nil => simp
    | cons x r => simp
  · cases l with
    | nil => cases hm : okM m <;> simp
    | cons x r => simp
section
attribute [local go_sem] Oper.semAt_some
set_option maxRecDepth 100000 in
set_option maxHeartbeats 2000000 in
theorem agreesB_any (b : BT) (a a2 : Option Addr) (cap cap2 : Nat) (w : World) (hI : IA w a2 b.mem) :
    Calls Tryz.prog 142 #[.agg (bc (.slice a b.txs.length cap) b.conf (.slice a2 b.mem.length cap2))] w fun e w' => e = .returned (.bool (agB b)) ∧ Below w.heap.size w w' := by
  obtain ⟨l, c, m⟩ := b
  dsimp only at *
  obtain ⟨B, hB0⟩ : ∃ B, okM m = B := ⟨_, rfl⟩
  have HM := fun w1 (k : IA w1 a2 m) => members_any m a2 cap2 w1 k B hB0
  cases c
  · have HE : Hid (agB ⟨l, false, m⟩ = m.isEmpty) := rfl
    rw [HE.out]
    clear HM hB0 HE
    by_cases hm : m = []
    · subst hm
      rw [show ([] : List Int).isEmpty = true from rfl]
      go_enter Tryz.func142, Tryz.ntmps142
      go_wp2_with (with_reducible refine at_list ?_; refine wpList_boxRow (op := ⟨some 1, _, _, _, _, _⟩) rfl _ _ rfl _ rfl ?_; intro w1 hw1 hs1 hb1; replace hs1 := hs1.symm; have c0 := (hb1.cell 0).trans (bc_g0 _ _ _); have c1 := (hb1.cell 1).trans (bc_g1 _ _ _); have c2 := (hb1.cell 2).trans (bc_g2 _ _ _))
      go_ret
      exact ⟨rfl, hw1⟩
    · rw [show m.isEmpty = false by simpa using hm]
      have hm0 : 0 < m.length := List.length_pos_iff.2 hm
      have d1 : ((m.length : Int) == 0) = false := by rw [beq_eq_false_iff_ne]; omega
      clear hm hI
      go_enter Tryz.func142, Tryz.ntmps142
      go_wp2_with (with_reducible refine at_list ?_; refine wpList_boxRow (op := ⟨some 1, _, _, _, _, _⟩) rfl _ _ rfl _ rfl ?_; intro w1 hw1 hs1 hb1; replace hs1 := hs1.symm; have c0 := (hb1.cell 0).trans (bc_g0 _ _ _); have c1 := (hb1.cell 1).trans (bc_g1 _ _ _); have c2 := (hb1.cell 2).trans (bc_g2 _ _ _))
      go_ret
      exact ⟨rfl, hw1⟩
  · by_cases hl : l = []
    · subst hl
      have HE : Hid (agB ⟨[], true, m⟩ = B) := by
        show agB _ = B
        unfold agB
        rw [if_pos rfl, hB0]
        rfl
      rw [HE.out]
      clear HE hB0
      go_enter Tryz.func142, Tryz.ntmps142
      go_wp2_with (first
        | (go_at_call 93; refine (HM _ (hI.below hw1)).mono ?_; rintro e w' ⟨rfl, hw'⟩; have hw6 := hw'.symm; subst hw6; clear HM hw')
        | (with_reducible refine at_list ?_; refine wpList_boxRow (op := ⟨some 1, _, _, _, _, _⟩) rfl _ _ rfl _ rfl ?_; intro w1 hw1 hs1 hb1; replace hs1 := hs1.symm; have c0 := (hb1.cell 0).trans (bc_g0 _ _ _); have c1 := (hb1.cell 1).trans (bc_g1 _ _ _); have c2 := (hb1.cell 2).trans (bc_g2 _ _ _)))
      go_ret
      exact ⟨rfl, hw1⟩
    · have HE : Hid (agB ⟨l, true, m⟩ = false) := by
        show agB _ = false
        unfold agB
        rw [if_pos rfl]
        cases l with
        | nil => exact absurd rfl hl
        | cons x r => rfl
      rw [HE.out]
      have hm0 : 0 < l.length := List.length_pos_iff.2 hl
      have d1 : ((l.length : Int) == 0) = false := by rw [beq_eq_false_iff_ne]; omega
      clear HM HE hl hI hB0
      go_enter Tryz.func142, Tryz.ntmps142
      go_wp2_with (with_reducible refine at_list ?_; refine wpList_boxRow (op := ⟨some 1, _, _, _, _, _⟩) rfl _ _ rfl _ rfl ?_; intro w1 hw1 hs1 hb1; replace hs1 := hs1.symm; have c0 := (hb1.cell 0).trans (bc_g0 _ _ _); have c1 := (hb1.cell 1).trans (bc_g1 _ _ _); have c2 := (hb1.cell 2).trans (bc_g2 _ _ _))
      go_ret
      exact ⟨rfl, hw1⟩
set_option maxRecDepth 100000 in
set_option maxHeartbeats 2000000 in
theorem checkB_any (b : BT) (a a2 : Option Addr) (cap cap2 : Nat) (w : World) (h : TA w a b.txs) (hI : IA w a2 b.mem) :
    Calls Tryz.prog 104 #[.agg (bc (.slice a b.txs.length cap) b.conf (.slice a2 b.mem.length cap2))] w fun e w' => e = .returned (.int .i64 (chkB b)) ∧ Below w.heap.size w w' := by
  have HG := fun w1 (k : IA w1 a2 b.mem) => agreesB_any b a a2 cap cap2 w1 k
  rw [chkB_ag]
  cases hag : agB b
  · rw [if_neg (by exact Bool.noConfusion)]
    rw [hag] at HG
    clear hag
    go_enter Tryz.func104, Tryz.ntmps104
    go_wp2_with (first
      | (go_at_call 142; refine (HG _ (hI.below hw1)).mono ?_; rintro e w2 ⟨rfl, hw2⟩; clear HG)
      | (with_reducible refine at_list ?_; first
        | (refine wpList_boxRow (op := ⟨some 1, _, _, _, _, _⟩) rfl _ _ rfl _ rfl ?_; intro w1 hw1 hs1 hb1; replace hs1 := hs1.symm)
        | (refine wpList_loadRow (op := ⟨some 6, _, _, _, _, _⟩) rfl _ _ rfl w.heap.size rfl _ _ hb1 _ Tryz.underlying58 rfl (by rw [bc_size]; exact zB.2) ?_)))
    go_ret
    exact ⟨rfl, hw1.trans (hw2.mono hw1.size)⟩
  · rw [if_pos rfl]
    rw [hag] at HG
    clear hag
    obtain ⟨l, c, m⟩ := b
    dsimp only at *
    by_cases hl : 16 < l.length
    · rw [if_pos hl]
      have hd16 : decide (16 < (l.length : Int)) = true := decide_eq_true (by omega)
      go_enter Tryz.func104, Tryz.ntmps104
      go_wp2_with (first
        | (go_at_call 142; refine (HG _ (hI.below hw1)).mono ?_; rintro e w2 ⟨rfl, hw2⟩; clear HG; replace hb1 := hb1.belowSize hw2; have c0 := (hb1.cell 0).trans (bc_g0 _ _ _))
        | (with_reducible refine at_list ?_; first
          | (refine wpList_boxRow (op := ⟨some 1, _, _, _, _, _⟩) rfl _ _ rfl _ rfl ?_; intro w1 hw1 hs1 hb1; replace hs1 := hs1.symm)
          | (refine wpList_loadRow (op := ⟨some 6, _, _, _, _, _⟩) rfl _ _ rfl w.heap.size rfl _ _ hb1 _ Tryz.underlying58 rfl (by rw [bc_size]; exact zB.2) ?_)))
      go_ret
      exact ⟨rfl, hw1.trans (hw2.mono hw1.size)⟩
    · rw [if_neg hl]
      have hd16 : decide (16 < (l.length : Int)) = false := decide_eq_false (by omega)
      obtain ⟨Rz, hRz⟩ : ∃ Rz : Int, Hid (Rz = if l.all okTx = true then 0 else 40) := ⟨_, rfl⟩
      rw [← hRz.out]
      go_enter Tryz.func104, Tryz.ntmps104
      go_wp2_with (first
        | (go_at_call 142; refine (HG _ (hI.below hw1)).mono ?_; rintro e w2 ⟨rfl, hw2⟩; clear HG; replace hb1 := hb1.belowSize hw2; have c0 := (hb1.cell 0).trans (bc_g0 _ _ _))
        | (with_reducible refine at_list ?_; first
          | (refine wpList_boxRow (op := ⟨some 1, _, _, _, _, _⟩) rfl _ _ rfl _ rfl ?_; intro w1 hw1 hs1 hb1; replace hs1 := hs1.symm)
          | (refine wpList_loadRow (op := ⟨some 6, _, _, _, _, _⟩) rfl _ _ rfl w.heap.size rfl _ _ hb1 _ Tryz.underlying58 rfl (by rw [bc_size]; exact zB.2) ?_)))
      have HB := hw1.trans (hw2.mono hw1.size)
      clear c0 hs1 hb1 hw1 hw2 hd16
      go_loopw [16] (fun v16 wl => ∃ i : Nat, i ≤ l.length ∧ v16 = .int .i64 i ∧ Below w.heap.size w wl ∧ Hid ((l.take i).all okTx = true)) (fun v16 _ => l.length - (intOf v16).toNat)
      case atStart => exact ⟨0, by omega, rfl, HB, by rw [List.take_zero]; exact rfl⟩
      case round =>
        obtain ⟨i, hi, rfl, hB, hA⟩ := hrel
        clear HB
        by_cases hlt : i < l.length
        · obtain ⟨g, o, rfl⟩ := h.ex (by omega)
          obtain ⟨sa, sc, hr, hs, _, _⟩ := (h.below hB).at i hlt
          have HK := fun w1 (k : SL w1 sa l[i].ops) => check_any l[i] sa sc w1 k
          have hT : Hid ((l.take (i + 1)).all okTx = ((l.take i).all okTx && okTx l[i])) := by
            show _ = _
            rw [List.take_succ_eq_append_getElem hlt, List.all_append]
            simp
          have hm : Hid (okTx l[i] = false → l.all okTx = false) := fun hf => by
            rw [← Bool.not_eq_true]
            intro hall
            rw [List.all_eq_true.1 hall _ (List.getElem_mem hlt)] at hf
            cases hf
          have hz1 : (0 : Int) ≤ (i : Int) := by omega
          have hz2 : (i : Int) < (l.length : Int) := by omega
          generalize l[i] = t at *
          by_cases hok : okTx t = true
          · rw [chk_zero hok] at HK
            have hT := hT.out
            rw [hA.out, hok] at hT
            have hT2 : Hid ((l.take (i + 1)).all okTx = true) := hT
            clear hok hm hA hT
            go_wp2_with (first
              | (go_at_call 143; refine (HK _ hs).mono ?_; rintro e w5 ⟨rfl, hw5⟩; clear HK; replace hB := hB.trans (hw5.mono hB.size))
              | (with_reducible refine at_list ?_; first
                | (refine wpList_loadOp (op := ⟨some 19, _, _, _, _, _⟩) rfl _ _ rfl g (o + i * 3) rfl (txc t.client t.nonce (.slice sa t.ops.length sc)) hr _ Tryz.underlying95 rfl (by rw [txc_size]; exact zTx.2) ?_)
                | (refine wpList_allocRow (op := ⟨some 4, _, _, _, _, _⟩) rfl _ rfl _ zTx.1 ?_; intro w3 hw3 hs3 h4; replace hs3 := hs3.symm; clear hr)
                | (refine wpList_storeRow (op := ⟨none, .store 95 (.tmp 4) (.tmp 19), _, _, _, _⟩) rfl _ _ _ rfl wr.heap.size (txc t.client t.nonce (.slice sa t.ops.length sc)) rfl rfl _ _ h4 (by simp only [txc_size]) (by rw [txc_size]; exact zTx.2) (txc_one _ _ _ _ _) ?_; intro w4 hg4 hs4 hb4; clear hs4; have hx4 := hw3.trans (below_of_grown hg4 (Nat.le_refl _) hw3.size); replace hs := hs.below hx4; replace hB := hB.trans (hx4.mono hB.size); clear hx4 hg4 hw3 h4)
                | (refine wpList_loadRow (op := ⟨some 20, _, _, _, _, _⟩) rfl _ _ rfl wr.heap.size rfl _ _ hb4 _ Tryz.underlying95 rfl (by rw [txc_size]; exact zTx.2) ?_)))
            go_roundw
            case rel => exact ⟨i + 1, by omega, by go_num, hB, hT2⟩
            case measure => simp [intOf]; omega
          · rw [chk_not hok] at HK
            have hm2 : Hid (l.all okTx = false) := hm.out (by simpa using hok)
            clear hok hT hA hm
            go_wp2_with (first
              | (go_at_call 143; refine (HK _ hs).mono ?_; rintro e w5 ⟨rfl, hw5⟩; clear HK; replace hB := hB.trans (hw5.mono hB.size))
              | (with_reducible refine at_list ?_; first
                | (refine wpList_loadOp (op := ⟨some 19, _, _, _, _, _⟩) rfl _ _ rfl g (o + i * 3) rfl (txc t.client t.nonce (.slice sa t.ops.length sc)) hr _ Tryz.underlying95 rfl (by rw [txc_size]; exact zTx.2) ?_)
                | (refine wpList_allocRow (op := ⟨some 4, _, _, _, _, _⟩) rfl _ rfl _ zTx.1 ?_; intro w3 hw3 hs3 h4; replace hs3 := hs3.symm; clear hr)
                | (refine wpList_storeRow (op := ⟨none, .store 95 (.tmp 4) (.tmp 19), _, _, _, _⟩) rfl _ _ _ rfl wr.heap.size (txc t.client t.nonce (.slice sa t.ops.length sc)) rfl rfl _ _ h4 (by simp only [txc_size]) (by rw [txc_size]; exact zTx.2) (txc_one _ _ _ _ _) ?_; intro w4 hg4 hs4 hb4; clear hs4; have hx4 := hw3.trans (below_of_grown hg4 (Nat.le_refl _) hw3.size); replace hs := hs.below hx4; replace hB := hB.trans (hx4.mono hB.size); clear hx4 hg4 hw3 h4)
                | (refine wpList_loadRow (op := ⟨some 20, _, _, _, _, _⟩) rfl _ _ rfl wr.heap.size rfl _ _ hb4 _ Tryz.underlying95 rfl (by rw [txc_size]; exact zTx.2) ?_)))
            go_ret
            exact ⟨by rw [hRz.out, hm2.out]; rfl, hB⟩
        · have hA2 : Hid (l.all okTx = true) := by
            have := hA.out
            rw [List.take_of_length_le (by omega)] at this
            exact this
          have hz2 : ¬ (i : Int) < (l.length : Int) := by omega
          clear hA
          go_wp2_with fail
          go_ret
          exact ⟨by rw [hRz.out, hA2.out]; rfl, hB⟩
/-- What checkPlace tells. -/
def plE (ps pt : Option Addr) (ht : Nat) (p : List UInt8) (l : List Int) : Int := if ps = none ∨ pt = none ∨ ht = 0 ∨ p.length ≠ 32 ∨ okM l = false then 1 else 0
set_option maxRecDepth 100000 in
set_option maxHeartbeats 2000000 in
theorem place_any (p : List UInt8) (ht : Nat) (l : List Int) (a : Option Addr) (cap : Nat) (ps pt : Option Addr) (w : World) (hI : IA w a l) :
    Calls Tryz.prog 105 #[.string ⟨p.toArray⟩, .int .u64 (ht : Nat), .slice a l.length cap, .pointer ps, .pointer pt] w fun e w' => e = .returned (.int .i64 (plE ps pt ht p l)) ∧ w' = w := by
  obtain ⟨B, hB0⟩ : ∃ B, okM l = B := ⟨_, rfl⟩
  have HM := members_any l a cap w hI B hB0
  have HE : Hid (plE ps pt ht p l = if ps = none ∨ pt = none ∨ ht = 0 ∨ p.length ≠ 32 ∨ B = false then 1 else 0) := by
    show plE ps pt ht p l = _
    unfold plE
    rw [hB0]
  rw [HE.out]
  clear HE hB0 hI
  cases ps with
  | none =>
    rw [if_pos (.inl rfl)]
    clear HM
    go_enter Tryz.func105, Tryz.ntmps105
    go_wp2_with fail
    go_ret
    exact ⟨rfl, rfl⟩
  | some ps =>
    cases pt with
    | none =>
      rw [if_pos (.inr (.inl rfl))]
      clear HM
      go_enter Tryz.func105, Tryz.ntmps105
      go_wp2_with fail
      go_ret
      exact ⟨rfl, rfl⟩
    | some pt =>
      by_cases c1 : ht = 0
      · rw [if_pos (.inr (.inr (.inl c1)))]
        have d1 : ((ht : Int) == 0) = true := by rw [beq_iff_eq]; omega
        clear HM
        go_enter Tryz.func105, Tryz.ntmps105
        go_wp2_with fail
        go_ret
        exact ⟨rfl, rfl⟩
      · have d1 : ((ht : Int) == 0) = false := by rw [beq_eq_false_iff_ne]; omega
        by_cases c2 : p.length = 32
        · have d2 : ((p.length : Int) != 32) = false := by rw [bne_eq_false_iff_eq]; omega
          cases B
          · rw [if_pos (.inr (.inr (.inr (.inr rfl))))]
            clear c1 c2
            go_enter Tryz.func105, Tryz.ntmps105
            go_wp2_with (go_at_call 93; refine HM.mono ?_; rintro e w' ⟨rfl, hw'⟩; have hw6 := hw'.symm; subst hw6; clear HM hw')
            go_ret
            exact ⟨rfl, rfl⟩
          · rw [if_neg (by simp [c1, c2])]
            clear c1 c2
            go_enter Tryz.func105, Tryz.ntmps105
            go_wp2_with (go_at_call 93; refine HM.mono ?_; rintro e w' ⟨rfl, hw'⟩; have hw6 := hw'.symm; subst hw6; clear HM hw')
            go_ret
            exact ⟨rfl, rfl⟩
        · have d2 : ((p.length : Int) != 32) = true := by rw [bne_iff_ne]; omega
          rw [if_pos (.inr (.inr (.inr (.inl c2))))]
          clear HM c1 c2
          go_enter Tryz.func105, Tryz.ntmps105
          go_wp2_with fail
          go_ret
          exact ⟨rfl, rfl⟩
end
end Go.Proofs.YtmbdhngoldganaaGreatDoor
namespace Go.Proofs.YtmbdhngoldganaaGreatDoor
open Go Go.RowKit
theorem res_ctt {fn : Func} {p u v : Tmp} {t : TypeId} (h : fn.results = #[.cell p t, .tmp u, .tmp v]) (tmps : Array Value) (w : World) (b : Nat) (c : Array Value) (x y : Value) (ty : TypeId) (d : TypeDesc)
    (hp : tmps.getD p undef = .pointer (some ⟨b, 0, none⟩)) (hx : tmps.getD u undef = x) (hy : tmps.getD v undef = y) (hb : Blk w b c ty) (hu : Tryz.prog.underlying t = some d) (hd : d.isRow = true) (hi : (Tryz.prog.info? t).map (·.size) = some c.size) :
    (results fn tmps).run Tryz.prog w = .ok (.tuple #[.agg c, x, y]) w := by
  have hp' : tmps[p]?.getD undef = .pointer (some ⟨b, 0, none⟩) := by simpa using hp
  have hx' : tmps[u]?.getD undef = x := by simpa using hx
  have hy' : tmps[v]?.getD undef = y := by simpa using hy
  simp [results, h, hp', hx', hy', asAddr, hb.loadVar d hu hd hi]
theorem zBlk : (∀ w, (zeroValue 53).run Tryz.prog w = .ok (.agg (bk 0 [] [] [] (.slice none 0 0) (.slice none 0 0))) w) ∧ (Tryz.prog.info? 53).map (·.size) = some 6 := zero_of_info (by kernel_rfl)
theorem builtBk0 : Tryz.prog.built 53 [] = some (bk 0 [] [] [] (.slice none 0 0) (.slice none 0 0)) := by kernel_rfl
theorem builtBk (ht : Nat) (p t s : List UInt8) (a a2 : Option Addr) (n cap n2 cap2 : Nat) : Tryz.prog.built 53 [(0, .agg (hA ht p t s (.slice a2 n2 cap2))), (1, .slice a n cap)] = some (bk ht p t s (.slice a2 n2 cap2) (.slice a n cap)) := by kernel_rfl
theorem hA_info (ht : Nat) (p t s : List UInt8) (v : Value) : (Tryz.prog.info? 50).map (·.size) = some (hA ht p t s v).size := zH.2
theorem bk_info (ht : Nat) (p t s : List UInt8) (v u : Value) : (Tryz.prog.info? 53).map (·.size) = some (bk ht p t s v u).size := zBlk.2
theorem bc_info (v : Value) (c : Bool) (u : Value) : (Tryz.prog.info? 58).map (·.size) = some (bc v c u).size := zB.2
/-- What Make leaves that makes nothing. -/
def MkE (w : World) (er : Int) (e : Ending) (w' : World) : Prop :=
  e = .returned (.tuple #[.agg (bk 0 [] [] [] (.slice none 0 0) (.slice none 0 0)), .slice none 0 0, .int .i64 er]) ∧ Below w.heap.size w w'
set_option maxRecDepth 100000 in
set_option maxHeartbeats 2000000 in
theorem make_err (b : BT) (hc : chkB b ≠ 0) (p : List UInt8) (ht : Nat) (mem : List Int) (am : Option Addr) (cm : Nat) (ps pt : Option Addr) (a a2 : Option Addr) (cap cap2 : Nat) (w : World) (hT : TA w a b.txs) (hI2 : IA w a2 b.mem) :
    Calls Tryz.prog 59 #[.string ⟨p.toArray⟩, .int .u64 (ht : Nat), .slice am mem.length cm, .pointer ps, .pointer pt, .agg (bc (.slice a b.txs.length cap) b.conf (.slice a2 b.mem.length cap2))] w (MkE w (chkB b)) := by
  have HK := fun w1 (h : TA w1 a b.txs) (k : IA w1 a2 b.mem) => checkB_any b a a2 cap cap2 w1 h k
  have hne : (chkB b != 0) = true := by simpa using hc
  clear hc
  generalize chkB b = er at *
  go_enter Tryz.func59, Tryz.ntmps59
  go_wp2_with (first
    | (go_at_call 104; refine (HK _ (hT.below hB) (hI2.below hB)).mono ?_; rintro e w3 ⟨rfl, hw3⟩; clear HK; replace h12 := h12.belowSize hw3; have hB3 := hB.trans (hw3.mono hB.size))
    | (with_reducible refine at_list ?_; first
      | (refine wpList_boxRow (op := ⟨some 11, _, _, _, _, _⟩) rfl _ _ rfl _ rfl ?_; intro w1 hw1 hs1 h11; replace hs1 := hs1.symm)
      | (refine wpList_allocRow (op := ⟨some 12, _, _, _, _, _⟩) rfl _ rfl _ zBlk.1 ?_; intro w2 hw2 hs2 h12; replace hs2 := hs2.symm; replace h11 := h11.belowSize hw2; have hB := hw1.trans (hw2.mono hw1.size))
      | (refine wpList_loadRow (op := ⟨some 20, _, _, _, _, _⟩) rfl _ _ rfl w.heap.size rfl _ _ h11 _ Tryz.underlying58 rfl (bc_info _ _ _) ?_)
      | (refine wpList_build (o := ⟨some 24, _, _, _, _, _⟩) rfl _ _ rfl builtBk0 ?_)
      | (refine wpList_storeRow (op := ⟨none, .store 53 (.tmp 12) (.tmp 24), _, _, _, _⟩) rfl _ _ _ rfl w1.heap.size (bk 0 [] [] [] (.slice none 0 0) (.slice none 0 0)) rfl rfl _ _ h12 (by simp only [bk_size]) (bk_info _ _ _ _ _ _) (bk_one _ _ _ _ _ _ _ _ _ _) ?_; intro w4 hg4 hs4 h4)))
  refine bodyPost_ret (v := .tuple #[.agg (bk 0 [] [] [] (.slice none 0 0) (.slice none 0 0)), .slice none 0 0, .int .i64 er]) ?_ rfl ⟨rfl, hB3.trans (below_of_grown hg4 hw1.size hB3.size)⟩
  exact res_ctt rfl _ _ w1.heap.size _ _ _ _ _ rfl rfl rfl h4 Tryz.underlying53 rfl (bk_info _ _ _ _ _ _)
theorem exD_mem {m : List KV} : ∀ {l : List TX} {x : TX}, x ∈ exD m l → x ∈ l := by
  intro l
  induction l generalizing m with
  | nil => intro x h; exact h
  | cons y r ih =>
    intro x h
    unfold exD at h
    split at h
    · rcases List.mem_cons.1 h with h | h
      · rw [h]; exact List.mem_cons_self
      · exact List.mem_cons_of_mem _ (ih h)
    · exact List.mem_cons_of_mem _ (ih h)
theorem DN.start {w w0 w' : World} {bs bt lo : Nat} {m : List KV} {t : Tr} {sd st : Value} {dls : List (List Value)} {D : List TX} {E : List Int} (h : DN w0 w' bs bt lo m t sd st dls D E) (hb : Below w.heap.size w w0) (h2 : 2 ≤ w.heap.size) : DN w w' bs bt lo m t sd st dls D E :=
  ⟨h.ex, ((Two.refl bs bt w).below hb).trans h.two, h2, Nat.le_trans hb.size h.lo1, h.lo2, h.dn, h.tx, h.tld⟩
theorem Blk.two {bs bt b : Nat} {w w' : World} {c : Array Value} {u : TypeId} (h : Blk w b c u) (k : Two bs bt w w') (h1 : b ≠ bs) (h2 : b ≠ bt) : Blk w' b c u := ⟨by rw [k.block b h.lt h1 h2]; exact h.out⟩
/-- What Make leaves that makes a block. -/
def MkP (w : World) (bs bt : Nat) (m : List KV) (t : Tr) (ht : Nat) (p : List UInt8) (l : List TX) (mem : List Int) (e : Ending) (w' : World) : Prop :=
  ∃ lo a cap st dls gm cm, e = .returned (.tuple #[.agg (bk ht p (rootD Sh.digest (bys (exD m l))) ((exR m t l).hash Sh.TgD) (.slice (some ⟨gm, 0, none⟩) mem.length cm) (.slice a (exD m l).length cap)), st, .int .i64 0]) ∧
    DN w w' bs bt lo (exS m l) (exR m t l) (.slice a (exD m l).length cap) st dls (exD m l) (exE m l) ∧ CB w' gm mem ∧ w.heap.size ≤ gm
theorem chkB_zero {b : BT} (h : chkB b = 0) : (∀ x ∈ b.txs, okTx x = true) ∧ b.txs.length ≤ 16 ∧ (b.conf = true → b.txs = [] ∧ okM b.mem = true) ∧ (b.conf = false → b.mem = []) := by
  rw [chkB_ag] at h
  cases hag : agB b
  · rw [hag] at h; simp at h
  · rw [hag, if_pos rfl] at h
    by_cases hl : 16 < b.txs.length
    · rw [if_pos hl] at h; cases h
    · rw [if_neg hl] at h
      by_cases ha : b.txs.all okTx = true
      · refine ⟨List.all_eq_true.1 ha, by omega, fun hc => ?_, fun hc => ?_⟩
        · unfold agB at hag
          rw [if_pos hc, Bool.and_eq_true] at hag
          exact ⟨by simpa using hag.1, hag.2⟩
        · unfold agB at hag
          rw [if_neg (by rw [hc]; exact Bool.noConfusion)] at hag
          simpa using hag
      · rw [if_neg ha] at h; cases h
theorem okM_pos {l : List Int} (h : okM l = true) : 0 < l.length ∧ l.length ≤ 16 := by
  have := okM_iff.1 h
  exact ⟨List.length_pos_iff.2 this.ne, this.len⟩
theorem hne7 {w0 w : World} {bs bt lo b : Nat} {m : List KV} {t : Tr} {sd st : Value} {dls : List (List Value)} {D : List TX} {E : List Int} {c : Array Value} {u : TypeId} (h : DN w0 w bs bt lo m t sd st dls D E) (hb : Blk w b c u) (hu : u ≠ 95 := by decide) : ∀ r, Sh.slBlk sd = some r → r ≠ b := fun r e k => by
  subst k
  rcases h.dn.2 with ⟨_, rfl⟩ | ⟨g, cap, _, rfl, h3⟩
  · cases e
  · cases e
    obtain ⟨cur, h4, _⟩ := h3.out
    have h5 := hb.out
    rw [h4] at h5
    simp only [Option.some.injEq, Obj.cells.injEq] at h5
    exact hu h5.2.1.symm
end Go.Proofs.YtmbdhngoldganaaGreatDoor
