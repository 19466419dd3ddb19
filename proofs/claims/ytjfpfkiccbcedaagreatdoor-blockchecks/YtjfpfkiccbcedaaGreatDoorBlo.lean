/- What Texts and TxRoot do (at a stand-in's form). What zeros, the plain TxRoot and the plain bytes of a batch and of a block do. What the plain bytes of a batch and of a block do. What the plain bytes of a block do. What Block of the blocks' law does. -/
import Derived.Test.YtjfpfkiccbcedaaGreatDoorExb
import Derived.Test.YtjfpfkiccbcedaaGreatDoorRta
import Derived.Deep.RegionHeld3
namespace Go.Proofs.YtjfpfkiccbcedaaGreatDoor
open Go Go.RowKit
theorem wpList_bslS1 {ops : Array Oper} {rest : List Oper} {op : Oper} {a : Act} {w : World} {Q : Exit → Act → World → Prop} (hgd : op.guard = none) (x : Operand) (ho : op.op = .buildSlice 26 1 #[(0, x)]) (s : List UInt8) (hx : a.eval x = .string ⟨s.toArray⟩)
    (h : ∀ w1 : World, Below w.heap.size w w1 → Blk w1 w.heap.size #[.string ⟨s.toArray⟩] 9 → wpList Tryz.prog ops Q rest (a.put op.dst (.slice (some ⟨w.heap.size, 0, none⟩) 1 1)) w1) : wpList Tryz.prog ops Q (op :: rest) a w := by
  refine wpList_run hgd _ _ ?_ (h _ ((Below.refl _ _).alloc (Nat.le_refl _) (.cells #[.string ⟨s.toArray⟩] 9)) (Blk.new _ _ _))
  unfold execOp
  have e : (#[(0, x)] : Array (Nat × Operand)).map (fun (i, x) => (i, a.eval x)) = #[(0, .string ⟨s.toArray⟩)] := by simp [hx]
  have hr := bslS s w
  rw [← e] at hr
  simp only [ho, Sem.run_bind, hr, Result.andThen_ok]
  rfl
def stC (l : List (List UInt8)) : List Value := l.map fun s => .string ⟨s.toArray⟩
theorem VL.xa {w : World} {t : TypeId} {lo : Nat} {sl : Value} {l : List (List UInt8)} (h : VL w t lo sl (stC l)) : ∃ a cap, sl = .slice a l.length cap ∧ Sh.XA w a l ∧ l.length ≤ cap := by
  rcases h with ⟨h1, h2⟩ | ⟨g, cap, h1, h2, h3⟩
  · obtain rfl : l = [] := List.map_eq_nil_iff.1 h1
    exact ⟨none, 0, h2, fun i hi => by simp at hi, Nat.le_refl _⟩
  · have hl : (stC l).length = l.length := List.length_map ..
    refine ⟨some ⟨g, 0, none⟩, cap, by rw [h2, hl], fun i hi => ⟨g, 0, rfl, ?_⟩, ?_⟩
    · rw [Nat.zero_add]
      exact h3.cell i _ (by unfold stC; rw [List.getElem?_map, List.getElem?_eq_getElem hi]; rfl)
    · obtain ⟨_, _, _, h4, _⟩ := h3.out
      omega
/-- What Texts leaves. -/
def TtP (w : World) (l : List (List UInt8)) (e : Ending) (w' : World) : Prop := ∃ a cap, e = .returned (.slice a l.length cap) ∧ Sh.XA w' a l ∧ l.length ≤ cap ∧ Below w.heap.size w w'
def bys (l : List TX) : List (List UInt8) := l.map txB
set_option maxRecDepth 100000 in
set_option maxHeartbeats 2000000 in
theorem btexts_any (l : List TX) (hok : ∀ x ∈ l, okTx x = true) (hl : l.length ≤ 16) (a : Option Addr) (cap : Nat) (w : World) (hT : TA w a l) :
    Calls Tryz.prog 74 #[.slice a l.length cap] w (TtP w (bys l)) := by
  obtain ⟨i9', hi, hz, hs, hby⟩ := info9
  go_enter Tryz.func74, Tryz.ntmps74
  go_wp2_with fail
  go_loopw [3, 9] (fun v3 v9 wl => ∃ i : Nat, i ≤ l.length ∧ v9 = .int .i64 i ∧ VL wl 9 w.heap.size v3 (stC (bys (l.take i))) ∧ Below w.heap.size w wl) (fun _ v9 _ => l.length - (intOf v9).toNat)
  case atStart => exact ⟨0, by omega, rfl, by rw [List.take_zero]; exact VL.nil _ _ _, Below.refl _ _⟩
  case round =>
    obtain ⟨i, hil, rfl, hV, hB⟩ := hrel
    by_cases hlt : i < l.length
    · obtain ⟨g, o, rfl⟩ := hT.ex (by omega)
      obtain ⟨sa, sc, hr0, hs0, hx1, hx2⟩ := hT.at i hlt
      have hop := okTx_of (hok _ (List.getElem_mem hlt))
      have hle := txB_le hop
      have hrw := range_low hB (World.block_lt_of_cell? _ _ (hr0 0 _ rfl)) hr0
      have hsn : Hid (stC (bys (l.take (i + 1))) = stC (bys (l.take i)) ++ [.string ⟨(txB l[i]).toArray⟩]) := by
        show _ = _
        rw [List.take_succ_eq_append_getElem hlt]
        unfold stC bys
        rw [List.map_append, List.map_append]
        rfl
      have hln : Hid ((stC (bys (l.take i))).length ≤ 1000000) := by
        show _ ≤ _
        simp only [stC, bys, List.length_map, List.length_take]
        omega
      have HN := fun w => neww_any w
      have HP := fun b w' (k : Below w.heap.size w w') (hb : w.heap.size ≤ b) (hW : WR w' b []) => put_any l[i] hop sa sc b [] w' w k hb hs0 hW (by simp)
      have HAll := fun b w (hW : WR w b (txB l[i])) => wall_any b (txB l[i]) w hW
      have hz1 : (0 : Int) ≤ (i : Int) := by omega
      have hz2 : (i : Int) < (l.length : Int) := by omega
      generalize hxx : l[i] = x at *
      clear hxx hle
      generalize txB x = tb at *
      generalize stC (bys (l.take i)) = Li at *
      go_wp2_with (first
        | (go_at_call 49; refine (HN _).mono ?_; rintro e w4 ⟨rfl, hw4, hW⟩; clear HN; have hB3 := hB.size; replace h5 := h5.belowSize hw4; replace hB := hB.trans (hw4.mono hB.size))
        | (go_at_call 123; refine (HP _ _ hB hB3 hW).mono ?_; rintro e w5 ⟨rfl, hPt⟩; clear HP; replace hW := hPt.wr; replace hV := hV.below (hw4.trans hPt.below); replace hB := hB.trans (hPt.below.mono hB3); clear hPt hw4 h5)
        | (go_at_call 54; refine (HAll _ _ hW).mono ?_; rintro e w' ⟨rfl, hw'⟩; have hw6 := hw'.symm; subst hw6; clear hw' HAll hW)
        | (with_reducible refine at_list ?_; first
          | (refine wpList_loadOp (op := ⟨some 12, _, _, _, _, _⟩) rfl _ _ rfl g (o + i * 3) rfl (txc x.client x.nonce (.slice sa x.ops.length sc)) hrw _ Tryz.underlying60 rfl (by rw [txc_size]; exact zTx.2) ?_)
          | (refine wpList_allocRow (op := ⟨some 5, _, _, _, _, _⟩) rfl _ rfl _ zTx.1 ?_; intro w2 hw2 hs2 h5; replace hs2 := hs2.symm; clear hrw)
          | (refine wpList_storeRow (op := ⟨none, .store 60 (.tmp 5) (.tmp 12), _, _, _, _⟩) rfl _ _ _ rfl wr.heap.size (txc x.client x.nonce (.slice sa x.ops.length sc)) rfl rfl _ _ h5 (by simp only [txc_size]) (by rw [txc_size]; exact zTx.2) (txc_one _ _ _ _ _) ?_; intro w3 hg3 hs3 hb3; clear hs3; have hx3 := hw2.trans (below_of_grown hg3 (Nat.le_refl _) hw2.size); replace hV := hV.below hx3; replace hB := hB.trans (hx3.mono hB.size); replace h5 := hb3; clear hg3 hb3 hx3 hw2)
          | (refine wpList_loadRow (op := ⟨some 15, _, _, _, _, _⟩) rfl _ _ rfl wr.heap.size rfl _ _ h5 _ Tryz.underlying60 rfl (by rw [txc_size]; exact zTx.2) ?_)
          | (refine wpList_bslS1 (op := ⟨some 20, _, _, _, _, _⟩) rfl _ rfl tb rfl ?_; intro w7 hw7 hb7; replace hV := hV.below hw7; replace hB := hB.trans (hw7.mono hB.size); clear hw7)
          | (refine wpList_appendVL (op := ⟨some 21, _, _, _, _, _⟩) rfl _ _ 26 9 rfl w.heap.size u3 Li hB.size rfl hV w5.heap.size 1 rfl (.string ⟨tb.toArray⟩) 9 rfl hb7 i9' (.string ⟨#[]⟩) rfl Tryz.underlying26 hi hz hs (by rw [hby]; decide) hln.out ?_; intro w8 sl8 hw8 hV8; replace hB := hB.trans hw8; clear hw8 hb7 hV)))
      go_roundw
      case rel => exact ⟨i + 1, by omega, by go_num, by rw [hsn.out]; exact hV8, hB⟩
      case measure => simp [intOf]; omega
    · have hz2 : ¬ (i : Int) < (l.length : Int) := by omega
      rw [List.take_of_length_le (by omega)] at hV
      obtain ⟨xa, xc, rfl, hX, hc⟩ := hV.xa
      go_wp2_with fail
      go_ret
      exact ⟨xa, xc, rfl, hX, hc, hB⟩
set_option maxRecDepth 100000 in
theorem txRoot_any (l : List TX) (hok : ∀ x ∈ l, okTx x = true) (hl : l.length ≤ 16) (a : Option Addr) (cap : Nat) (w : World) (hT : TA w a l) (hG : Sh.Glob w) :
    Calls Tryz.prog 36 #[.slice a l.length cap] w fun e w' => e = .returned (.string ⟨(rootD Sh.digest (bys l)).toArray⟩) ∧ Below w.heap.size w w' := by
  have HT := btexts_any l hok hl a cap w hT
  have hbl : (bys l).length ≤ 100 := by unfold bys; rw [List.length_map]; omega
  have hbx : ∀ x ∈ bys l, x.length ≤ 1000 := fun x hx => by
    obtain ⟨t, ht, rfl⟩ := List.mem_map.1 hx
    have := txB_le (okTx_of (hok t ht))
    omega
  have HR := fun a cap w1 (h1 : Sh.XA w1 a (bys l)) (h2 : (bys l).length ≤ cap) (h3 : Sh.Glob w1) => Sh.troot_of _ (bys l) a cap w1 rfl h1 h2 hbl hbx h3
  unfold TtP at HT
  clear hbl hbx hT hok hl
  generalize bys l = L at *
  go_enter Tryz.func36, Tryz.ntmps36
  go_wp2_with (first
    | (go_at_call 74; refine HT.mono ?_; rintro e w1 ⟨xa, xc, rfl, hX, hc, hw1⟩)
    | (go_at_call 73; refine (HR _ _ _ hX hc (hG.belowSize hw1)).mono ?_; rintro e w2 ⟨rfl, hw2⟩))
  go_ret
  exact ⟨rfl, hw1.trans (hw2.mono hw1.size)⟩
end Go.Proofs.YtjfpfkiccbcedaaGreatDoor
namespace Go.Proofs.YtjfpfkiccbcedaaGreatDoor
open Go Go.RowKit
set_option maxRecDepth 100000 in
theorem zeros9_any (w : World) : Calls Tryz.prog 17 #[] w fun e w' => e = .returned (.string ⟨zr.toArray⟩) ∧ w' = w := by
  have HR := fun w => rhash_any [] w (by decide)
  rw [show hash32 [] = zr from rfl] at HR
  generalize zr = z at *
  go_enter Tryz.func17, Tryz.ntmps17
  go_wp2_with (go_at_call 45; refine (HR _).mono ?_; rintro e w2 ⟨rfl, hw2⟩; have hw2 := hw2.symm; subst hw2)
  go_ret
  exact ⟨rfl, rfl⟩
theorem wpList_bsl0S {ops : Array Oper} {rest : List Oper} {op : Oper} {a : Act} {w : World} {Q : Exit → Act → World → Prop} (hgd : op.guard = none) (ho : op.op = .buildSlice 26 0 #[])
    (h : ∀ w1 : World, Below w.heap.size w w1 → VL w1 9 w.heap.size (.slice (some ⟨w.heap.size, 0, none⟩) 0 0) [] → wpList Tryz.prog ops Q rest (a.put op.dst (.slice (some ⟨w.heap.size, 0, none⟩) 0 0)) w1) : wpList Tryz.prog ops Q (op :: rest) a w := by
  refine wpList_run hgd _ _ ?_ (h _ ((Below.refl _ _).alloc (Nat.le_refl _) (.cells #[] 9)) (.inr ⟨w.heap.size, 0, Nat.le_refl _, rfl, ⟨#[], (0, 0), (Blk.new w _ _).out, by simp, by simp, .inl rfl, fun j v hv => by simp at hv⟩⟩))
  unfold execOp
  have hr := Sh.tsl0 w
  simp only [ho, Sem.run_bind, Array.map_empty, hr, Result.andThen_ok]
  rfl
set_option maxRecDepth 100000 in
set_option maxHeartbeats 2000000 in
theorem rtxRoot_any (l : List TX) (hok : ∀ x ∈ l, okTx x = true) (hl : l.length ≤ 16) (a : Option Addr) (cap : Nat) (w : World) (hT : TA w a l) :
    Calls Tryz.prog 29 #[.slice a l.length cap] w fun e w' => e = .returned (.string ⟨(rootD Sh.digest (bys l)).toArray⟩) ∧ Below w.heap.size w w' := by
  obtain ⟨i9', hi, hz, hs, hby⟩ := info9
  go_enter Tryz.func29, Tryz.ntmps29
  go_wp2_with (with_reducible refine at_list ?_; refine wpList_bsl0S (op := ⟨some 5, _, _, _, _, _⟩) rfl rfl ?_; intro w1 hw1 hv1)
  go_loopw [3, 4] (fun v3 v4 wl => ∃ i : Nat, i ≤ l.length ∧ v4 = .int .i64 i ∧ VL wl 9 w.heap.size v3 (stC (bys (l.take i))) ∧ Below w.heap.size w wl) (fun _ v4 _ => l.length - (intOf v4).toNat)
  case atStart => exact ⟨0, by omega, rfl, by rw [List.take_zero]; exact hv1, hw1⟩
  case round =>
    obtain ⟨i, hil, rfl, hV, hB⟩ := hrel
    clear hv1 hw1
    by_cases hlt : i < l.length
    · obtain ⟨g, o, rfl⟩ := hT.ex (by omega)
      obtain ⟨sa, sc, hr0, hs0, hx1, hx2⟩ := (hT.below hB).at i hlt
      have hop := okTx_of (hok _ (List.getElem_mem hlt))
      have hsn : Hid (stC (bys (l.take (i + 1))) = stC (bys (l.take i)) ++ [.string ⟨(txB l[i]).toArray⟩]) := by
        show _ = _
        rw [List.take_succ_eq_append_getElem hlt]
        unfold stC bys
        rw [List.map_append, List.map_append]
        rfl
      have hln : Hid ((stC (bys (l.take i))).length ≤ 1000000) := by
        show _ ≤ _
        simp only [stC, bys, List.length_map, List.length_take]
        omega
      have HP := fun w' (k : SL w' sa l[i].ops) => rtxb_any l[i] hop.l hx1 hx2 sa sc w' k
      have hz1 : (0 : Int) ≤ (i : Int) := by omega
      have hz2 : (i : Int) < (l.length : Int) := by omega
      generalize hxx : l[i] = x at *
      clear hxx hop
      generalize txB x = tb at *
      generalize stC (bys (l.take i)) = Li at *
      go_wp2_with (first
        | (go_at_call 64; refine (HP _ hs0).mono ?_; rintro e w2 ⟨rfl, hw2⟩; clear HP hr0 hs0; replace hV := hV.below hw2; replace hB := hB.trans (hw2.mono hB.size); clear hw2)
        | (with_reducible refine at_list ?_; first
          | (refine wpList_loadOp (op := ⟨some 16, _, _, _, _, _⟩) rfl _ _ rfl g (o + i * 3) rfl (txc x.client x.nonce (.slice sa x.ops.length sc)) hr0 _ Tryz.underlying87 rfl (by rw [txc_size]; exact zRtx.2) ?_)
          | (refine wpList_bslS1 (op := ⟨some 18, _, _, _, _, _⟩) rfl _ rfl tb rfl ?_; intro w7 hw7 hb7; replace hV := hV.below hw7; replace hB := hB.trans (hw7.mono hB.size); clear hw7)
          | (refine wpList_appendVL (op := ⟨some 19, _, _, _, _, _⟩) rfl _ _ 26 9 rfl w.heap.size u3 Li hB.size rfl hV w2.heap.size 1 rfl (.string ⟨tb.toArray⟩) 9 rfl hb7 i9' (.string ⟨#[]⟩) rfl Tryz.underlying26 hi hz hs (by rw [hby]; decide) hln.out ?_; intro w8 sl8 hw8 hV8; replace hB := hB.trans hw8; clear hw8 hb7 hV)))
      go_roundw
      case rel => exact ⟨i + 1, by omega, by go_num, by rw [hsn.out]; exact hV8, hB⟩
      case measure => simp [intOf]; omega
    · have hz2 : ¬ (i : Int) < (l.length : Int) := by omega
      have hbl : (bys l).length ≤ 1000 := by unfold bys; rw [List.length_map]; omega
      have hbx : ∀ x ∈ bys l, x.length ≤ 1000 := fun x hx => by
        obtain ⟨t, ht, rfl⟩ := List.mem_map.1 hx
        have := txB_le (okTx_of (hok t ht))
        omega
      rw [List.take_of_length_le (by omega)] at hV
      obtain ⟨xa, xc, rfl, hX, hc⟩ := hV.xa
      have HR := Sh.rroot_of Sh.rsum_any _ (bys l) xa xc wr rfl hX hc hbl hbx
      clear hbl hbx
      go_wp2_with (go_at_call 65; refine HR.mono ?_; rintro e w2 ⟨rfl, hw2⟩)
      go_ret
      exact ⟨rfl, hB.trans (hw2.mono hB.size)⟩
end Go.Proofs.YtjfpfkiccbcedaaGreatDoor
namespace Go.Proofs.YtjfpfkiccbcedaaGreatDoor
open Go Go.RowKit
def txsB (l : List TX) : List UInt8 := (bys l).flatten
theorem txsB_nil : txsB [] = [] := rfl
theorem txsB_take {l : List TX} {i : Nat} (h : i < l.length) : txsB (l.take (i + 1)) = txsB (l.take i) ++ txB l[i] := by
  rw [List.take_succ_eq_append_getElem h]
  unfold txsB bys
  rw [List.map_append, List.flatten_append]
  simp
theorem txsB_le (l : List TX) (hok : ∀ x ∈ l, OkL x) : (txsB l).length ≤ 860 * l.length := by
  induction l with
  | nil => simp [txsB_nil]
  | cons t l ih =>
    have h1 := txB_leL (hok t List.mem_cons_self)
    have h2 := ih fun x hx => hok x (List.mem_cons_of_mem _ hx)
    have h3 : txsB (t :: l) = txB t ++ txsB l := rfl
    rw [h3, List.length_append, List.length_cons]
    omega
/-- The bytes of a batch. -/
def batB (b : BT) : List UInt8 := if b.conf = true then 1 :: memB b.mem else (0 :: num b.txs.length 4) ++ txsB b.txs
section
attribute [local go_sem] mkApp2 Sh.mkApp0 Sh.mkApp1
set_option maxRecDepth 100000 in
set_option maxHeartbeats 2000000 in
theorem rbatB_txs (l : List TX) (hok : ∀ x ∈ l, OkL x) (hl : l.length ≤ 17) (a : Option Addr) (cap : Nat) (sm : Value) (w : World) (hT : TA w a l) :
    Calls Tryz.prog 60 #[.agg (bc (.slice a l.length cap) false sm)] w fun e w' => e = .returned (.string ⟨((0 :: num l.length 4) ++ txsB l).toArray⟩) ∧ Below w.heap.size w w' := by
  have HN := fun w1 => rnum_nat 4 (by decide) l.length w1 (by omega)
  have hnl := num_length 4 l.length
  have hwr : IntKind.u64.wrap (l.length : Int) = (l.length : Int) := by rw [IntKind.wrap_u64]; omega
  generalize hnn : num l.length 4 = n4 at *
  clear hnn
  go_enter Tryz.func60, Tryz.ntmps60
  go_wp2_with (first
    | (go_at_call 71; refine (HN _).mono ?_; rintro e w2 ⟨rfl, hw2⟩; clear HN)
    | (with_reducible refine at_list ?_; refine wpList_boxRow (op := ⟨some 1, _, _, _, _, _⟩) rfl _ _ rfl _ rfl ?_; intro w1 hw1 hs1 hb1; replace hs1 := hs1.symm; have c0 := (hb1.cell 0).trans (bc_g0 _ _ _); have c1 := (hb1.cell 1).trans (bc_g1 _ _ _)))
  have HB := hw1.trans (hw2.mono hw1.size)
  have hb2 := hb1.belowSize hw2
  clear c0 c1 hb1 hs1 hw1 hw2 hwr
  go_loopw [3, 4] (fun v3 v4 wl => ∃ i : Nat, i ≤ l.length ∧ v3 = .string ⟨((0 :: n4) ++ txsB (l.take i)).toArray⟩ ∧ v4 = .int .i64 i ∧ Below w.heap.size w wl ∧ Blk wl w.heap.size (bc (.slice a l.length cap) false sm) 35) (fun _ v4 _ => l.length - (intOf v4).toNat)
  case atStart => exact ⟨0, by omega, by rw [List.take_zero, txsB_nil, List.append_nil], rfl, HB, hb2⟩
  case round =>
    obtain ⟨i, hil, rfl, rfl, hB, hb⟩ := hrel
    clear HB hb2
    have c0 := (hb.cell 0).trans (bc_g0 _ _ _)
    by_cases hlt : i < l.length
    · obtain ⟨g, o, rfl⟩ := hT.ex (by omega)
      obtain ⟨sa, sc, hr0, hs0, hx1, hx2⟩ := (hT.below hB).at i hlt
      have hop := hok _ (List.getElem_mem hlt)
      have hle := txB_leL hop
      have hsn : Hid ((0 :: n4) ++ txsB (l.take (i + 1)) = ((0 :: n4) ++ txsB (l.take i)) ++ txB l[i]) := by
        show _ = _
        rw [txsB_take hlt, List.append_assoc]
      have hln : ((0 :: n4) ++ txsB (l.take i)).length ≤ 20000 := by
        have h1 := txsB_le (l.take i) fun x hx => hok x (List.mem_of_mem_take hx)
        rw [List.length_take] at h1
        rw [List.length_append, List.length_cons]
        omega
      have HP := fun w' (k : SL w' sa l[i].ops) => rtxb_any l[i] hop hx1 hx2 sa sc w' k
      have hz1 : (0 : Int) ≤ (i : Int) := by omega
      have hz2 : (i : Int) < (l.length : Int) := by omega
      generalize hxx : l[i] = x at *
      clear hxx hop
      generalize txB x = tb at *
      generalize (0 :: n4) ++ txsB (l.take i) = Li at *
      go_wp2_with (first
        | (go_at_call 64; refine (HP _ hs0).mono ?_; rintro e w2 ⟨rfl, hw2⟩; clear HP hr0 hs0 c0; replace hb := hb.belowSize hw2; replace hB := hB.trans (hw2.mono hB.size); clear hw2)
        | (with_reducible refine at_list ?_; refine wpList_loadOp (op := ⟨some 29, _, _, _, _, _⟩) rfl _ _ rfl g (o + i * 3) rfl (txc x.client x.nonce (.slice sa x.ops.length sc)) hr0 _ Tryz.underlying87 rfl (by rw [txc_size]; exact zRtx.2) ?_))
      go_roundw
      case rel => exact ⟨i + 1, by omega, by rw [hsn.out], by go_num, hB, hb⟩
      case measure => simp [intOf]; omega
    · have hz2 : ¬ (i : Int) < (l.length : Int) := by omega
      rw [List.take_of_length_le (by omega)]
      go_wp2_with fail
      go_ret
      exact ⟨rfl, hB⟩
end
end Go.Proofs.YtjfpfkiccbcedaaGreatDoor
namespace Go.Proofs.YtjfpfkiccbcedaaGreatDoor
open Go Go.RowKit
/-- The cells of a block. -/
def bk (ht : Nat) (p t s : List UInt8) (sm st : Value) : Array Value := #[.int .u64 ht, .string ⟨p.toArray⟩, .string ⟨t.toArray⟩, .string ⟨s.toArray⟩, sm, st]
theorem bk_size (ht : Nat) (p t s : List UInt8) (sm st : Value) : (bk ht p t s sm st).size = 6 := rfl
theorem bk_g5 (ht : Nat) (p t s : List UInt8) (sm st : Value) : (bk ht p t s sm st)[5]? = some st := rfl
theorem bk_head {w : World} {b ht : Nat} {p t s : List UInt8} {sm st : Value} {ty : TypeId} (h : Blk w b (bk ht p t s sm st) ty) : w.rangeAt b 0 (hA ht p t s sm).toList := fun j v hv => by
  rw [Nat.zero_add, h.cell]
  have hj : j < 5 := (List.getElem?_eq_some_iff.1 hv).1
  rw [← hv]
  rcases (show j = 0 ∨ j = 1 ∨ j = 2 ∨ j = 3 ∨ j = 4 by omega) with rfl | rfl | rfl | rfl | rfl <;> rfl
theorem run_built1 {P : Program} {op : Oper} {a : Act} {w : World} (t : TypeId) (k : Nat) (x : Operand) (ho : op.op = .build t #[(k, x)]) (v : Value) (hx : a.eval x = v) (c : Array Value) (h : P.built t [(k, v)] = some c) :
    (execOp a.eval op).run P w = .ok (.value (.agg c)) w := by
  subst hx
  have e : (#[(k, x)] : Array (Nat × Operand)).map (fun (i, x) => (i, a.eval x)) = #[(k, a.eval x)] := by simp
  unfold execOp
  simp only [ho, Sem.run_bind, e, run_build w t _ c h, Result.andThen_ok]
  rfl
theorem zRBk : (Tryz.prog.info? 54).map (·.size) = some 5 := by kernel_rfl
theorem builtRB (a : Option Addr) (n cap : Nat) : Tryz.prog.built 35 [(0, .slice a n cap)] = some (bc (.slice a n cap) false (.slice none 0 0)) := by kernel_rfl
section
attribute [local go_sem] mkApp2
set_option maxRecDepth 100000 in
set_option maxHeartbeats 4000000 in
theorem rbytesB_any (h : HH) (hk : OkH h) (hh : h.height < 18446744073709551616) (a2 : Option Addr) (cap2 : Nat) (l : List TX) (hok : ∀ x ∈ l, OkL x) (hl : l.length ≤ 17) (a : Option Addr) (cap : Nat) (w : World) (hI : IA w a2 h.mem) (hT : TA w a l) :
    Calls Tryz.prog 26 #[.agg (bk h.height h.prev h.txr h.str (.slice a2 h.mem.length cap2) (.slice a l.length cap))] w fun e w' => e = .returned (.string ⟨(hB h ++ batB ⟨l, false, []⟩).toArray⟩) ∧ Below w.heap.size w w' := by
  have H1 := fun w1 (k : IA w1 a2 h.mem) => rbytesH_any h a2 cap2 w1 k hk hh
  have H2 := fun w1 (k : TA w1 a l) => rbatB_txs l hok hl a cap (.slice none 0 0) w1 k
  have hE : Hid (batB ⟨l, false, []⟩ = (0 :: num l.length 4) ++ txsB l) := rfl
  have n1 : (hB h).length ≤ 1000 := by
    rw [hB_len hk]
    have := hk.m.len
    omega
  have n2 : ((0 :: num l.length 4) ++ txsB l).length ≤ 20000 := by
    have h1 := txsB_le l hok
    rw [List.length_append, List.length_cons, num_length]
    omega
  rw [hE.out]
  clear hE hk hh hok hl
  unfold hc at H1
  obtain ⟨ht, p, t, s, m⟩ := h
  dsimp only at *
  generalize hB ⟨ht, p, t, s, m⟩ = tb at *
  generalize (0 :: num l.length 4) ++ txsB l = tm at *
  go_enter Tryz.func26, Tryz.ntmps26
  go_wp2_with (with_reducible refine at_list ?_; refine wpList_boxRow (op := ⟨some 1, _, _, _, _, _⟩) rfl _ _ rfl _ rfl ?_; intro w1 hw1 hs1 hb1; replace hs1 := hs1.symm)
  replace hI := (hI.below hw1).below ((Below.refl _ _).drew)
  replace hT := (hT.below hw1).below ((Below.refl _ _).drew)
  replace hw1 := hw1.drew
  refine wp_region_held_drew (S := fun w' => Blk w' w.heap.size (bk ht p t s (.slice a2 m.length cap2) (.slice a l.length cap)) 63) (by kernel_rfl) hb1.drew (fun hHeld => ?_)
  clear hb1 hs1
  refine wpAnyH_take (i := 0) (oi := ⟨some 3, _, _, _, _, _⟩) (v := .pointer (some ⟨w.heap.size, 0, none⟩)) rfl (by kernel_rfl) (by kernel_rfl) (by kernel_rfl) (fun _ _ _ h => h) (Or.inl ⟨by rfl, fun w hSw => by go_simp⟩) hHeld ?_
  refine wpAnyH_take (i := 3) (oi := ⟨some 6, _, _, _, _, _⟩) (v := .pointer (some ⟨w.heap.size, 5, none⟩)) rfl (by kernel_rfl) (by kernel_rfl) (by kernel_rfl) (fun _ _ _ h => h) (Or.inl ⟨by rfl, fun w hSw => by go_simp⟩) hHeld ?_
  simp only [Act.put, List.setIfInBounds_toArray, List.set_cons_zero, List.set_cons_succ]
  refine wpAnyH_take (i := 1) (oi := ⟨some 4, _, _, _, _, _⟩) (v := .agg (hA ht p t s (.slice a2 m.length cap2))) rfl (by kernel_rfl) (by kernel_rfl) (by kernel_rfl) (fun _ _ _ h => h) (Or.inl ⟨by rfl, fun w hSw => run_loadMid _ _ rfl _ _ rfl _ (bk_head hSw) _ Tryz.underlying54 rfl zRBk⟩) hHeld ?_
  refine wpAnyH_take (i := 4) (oi := ⟨some 7, _, _, _, _, _⟩) (v := .slice a l.length cap) rfl (by kernel_rfl) (by kernel_rfl) (by kernel_rfl) (fun _ _ _ h => h) (Or.inl ⟨by rfl, fun w hSw => run_loadCellB _ _ rfl _ 5 rfl _ _ hSw _ Tryz.underlying33 rfl _ (bk_g5 _ _ _ _ _ _)⟩) hHeld ?_
  simp only [Act.put, List.setIfInBounds_toArray, List.set_cons_zero, List.set_cons_succ]
  refine wpAnyH_take (i := 5) (oi := ⟨some 8, _, _, _, _, _⟩) (v := .agg (bc (.slice a l.length cap) false (.slice none 0 0))) rfl (by kernel_rfl) (by kernel_rfl) (by kernel_rfl) (fun _ _ _ h => h) (Or.inl ⟨by rfl, fun w hSw => run_built1 _ _ _ rfl _ rfl _ (builtRB a l.length cap)⟩) hHeld ?_
  simp only [Act.put, List.setIfInBounds_toArray, List.set_cons_zero, List.set_cons_succ]
  refine wpAnyH_ready (rs := [2]) (by kernel_rfl) (by simp) ?_
  refine AllReadyH.cons (o := ⟨some 5, .call ⟨.value (.func 59), #[.tmp 4], #[54]⟩, _, _, _, _⟩) rfl (fun K hK => ?_) AllReadyH.nil
  · rw [if_pos (by rfl)]
    go_simp
    refine (H1 _ hI).mono ?_
    rintro e wA ⟨rfl, hwA⟩
    have hH2 := hHeld.belowSize hwA
    refine hK.out _ _ hH2 (fun _ => ?_)
    clear hK K
    try simp only [Act.put, List.setIfInBounds_toArray, List.set_cons_zero, List.set_cons_succ]
    refine wpAnyH_ready (rs := [6]) (by kernel_rfl) (by simp) ?_
    refine AllReadyH.cons (o := ⟨some 9, .call ⟨.value (.func 60), #[.tmp 8], #[35]⟩, _, _, _, _⟩) rfl (fun K hK => ?_) AllReadyH.nil
    rw [if_pos (by rfl)]
    go_simp
    refine (H2 _ (hT.below hwA)).mono ?_
    rintro e wB ⟨rfl, hwB⟩
    have hH3 := hH2.belowSize hwB
    refine hK.out _ _ hH3 (fun _ => ?_)
    clear hK K
    try simp only [Act.put, List.setIfInBounds_toArray, List.set_cons_zero, List.set_cons_succ]
    refine wpAnyH_take (i := 7) (oi := ⟨some 10, _, _, _, _, _⟩) (v := .string ⟨(tb ++ tm).toArray⟩) rfl (by kernel_rfl) (by kernel_rfl) (by kernel_rfl) (fun _ _ _ h => h) (Or.inl ⟨by rfl, fun w hSw => by go_simp; try omega⟩) hH3 ?_
    try simp only [Act.put, List.setIfInBounds_toArray, List.set_cons_zero, List.set_cons_succ]
    refine wpAnyH_take (i := 8) (oi := ⟨some 2, _, _, _, _, _⟩) (v := .string ⟨(tb ++ tm).toArray⟩) rfl (by kernel_rfl) (by kernel_rfl) (by kernel_rfl) (fun _ _ _ h => h) (Or.inl ⟨by rfl, fun w hSw => by go_simp; try omega⟩) hH3 ?_
    refine wpAnyH_done (by kernel_rfl) ?_ _
    simp only [Act.put]
    go_simp
    go_wp2_with fail
    go_ret
    exact ⟨rfl, (hw1.trans (hwA.mono hw1.size)).trans (hwB.mono (hw1.trans (hwA.mono hw1.size)).size)⟩
end
end Go.Proofs.YtjfpfkiccbcedaaGreatDoor
namespace Go.Proofs.YtjfpfkiccbcedaaGreatDoor
open Go Go.RowKit
theorem wp_storeRowB {P : Program} {op : Oper} {a : Act} {w : World} {K : Act → World → Prop} {Q : Exit → Act → World → Prop} (ty : TypeId) (x y : Operand) (ho : op.op = .store ty x y) (b : Nat) (cells : Array Value)
    (hx : a.eval x = .pointer (some ⟨b, 0, none⟩)) (hy : a.eval y = .agg cells) (c : Array Value) (t : TypeId) (hb : Blk w b c t) (hn : cells.size = c.size)
    (hi : (P.info? ty).map (·.size) = some cells.size) (h1 : cells.all (·.oneCell') = true)
    (h : ∀ w1 : World, w.grownBy w1 (some b) → w1.heap.size = w.heap.size → Blk w1 b cells t → K (a.put op.dst undef) w1) : op.wp P a w K Q := by
  refine wp_store_mid ty x y ho b 0 cells hx hy (hb.there 0 cells.size (by omega)) hi h1 (h _ (grown_setCells _ _ _ _) (size_setCells _ _ _ _) ?_)
  have := hb.setCells cells.toList 0
  rw [spl_all _ _ hn] at this
  exact this
theorem bk_one (ht : Nat) (p t s : List UInt8) (a a2 : Option Addr) (n cap n2 cap2 : Nat) : (bk ht p t s (.slice a n cap) (.slice a2 n2 cap2)).all (·.oneCell') = true := by simp [bk, Value.oneCell']
/-- Of a block's cells only the first is a number. -/
theorem bk_num {ht : Nat} {p t s : List UInt8} {a a2 : Option Addr} {n cap n2 cap2 : Nat} {j : Nat} {k : IntKind} {x : Int} (h : (bk ht p t s (.slice a n cap) (.slice a2 n2 cap2))[j]? = some (.int k x)) : j = 0 ∧ k = .u64 := by
  have hj : j < 6 := by
    have := (Array.getElem?_eq_some_iff.1 h).1
    simpa [bk] using this
  rcases (show j = 0 ∨ j = 1 ∨ j = 2 ∨ j = 3 ∨ j = 4 ∨ j = 5 by omega) with rfl | rfl | rfl | rfl | rfl | rfl <;> simp [bk] at h
  exact ⟨rfl, h.1.symm⟩
theorem rangeAt_grown {w w' : World} {g o b : Nat} {l : List Value} (hr : w.rangeAt g o l) (hg : w.grownBy w' (some b)) (hne : g ≠ b) : w'.rangeAt g o l := fun j v hv => by
  have h3 := hr j v hv
  exact hg.cell h3 (fun e => hne (Option.some.inj e))
theorem TA.bk {w w' : World} {a : Option Addr} {l : List TX} {b ht : Nat} {p t s : List UInt8} {a1 a2 : Option Addr} {n cap n2 cap2 : Nat} {ty : TypeId} (h : TA w a l) (hb : Blk w b (bk ht p t s (.slice a1 n cap) (.slice a2 n2 cap2)) ty) (hg : w.grownBy w' (some b)) : TA w' a l := fun i hi => by
  obtain ⟨g, o, sa, sc, ha, hr, hs, h1, h2⟩ := h i hi
  refine ⟨g, o, sa, sc, ha, rangeAt_grown hr hg fun e => ?_, fun j hj => ?_, h1, h2⟩
  · subst e
    have c1 := hr 1 _ rfl
    rw [hb.cell] at c1
    have := (bk_num c1).1
    omega
  · obtain ⟨g', o', ha', hr'⟩ := hs j hj
    refine ⟨g', o', ha', rangeAt_grown hr' hg fun e => ?_⟩
    subst e
    have c1 := hr' 0 _ rfl
    rw [hb.cell] at c1
    have := (bk_num c1).2
    cases this
theorem zRBlk : (∀ w, (zeroValue 63).run Tryz.prog w = .ok (.agg (bk 0 [] [] [] (.slice none 0 0) (.slice none 0 0))) w) ∧ (Tryz.prog.info? 63).map (·.size) = some 6 := zero_of_info (by kernel_rfl)
theorem zHd : (Tryz.prog.info? 44).map (·.size) = some 5 := by kernel_rfl
theorem builtB (a : Option Addr) (n cap : Nat) : Tryz.prog.built 30 [(0, .slice a n cap)] = some (bc (.slice a n cap) false (.slice none 0 0)) := by kernel_rfl
theorem builtRBk (ht : Nat) (p t s : List UInt8) (a a2 : Option Addr) (n cap n2 cap2 : Nat) : Tryz.prog.built 63 [(0, .agg (hA ht p t s (.slice a2 n2 cap2))), (1, .slice a n cap)] = some (bk ht p t s (.slice a2 n2 cap2) (.slice a n cap)) := by kernel_rfl
theorem run_built2 {P : Program} {op : Oper} {a : Act} {w : World} (t : TypeId) (k l : Nat) (x y : Operand) (ho : op.op = .build t #[(k, x), (l, y)]) (v u : Value) (hx : a.eval x = v) (hy : a.eval y = u) (c : Array Value) (h : P.built t [(k, v), (l, u)] = some c) :
    (execOp a.eval op).run P w = .ok (.value (.agg c)) w := by
  subst hx hy
  have e : (#[(k, x), (l, y)] : Array (Nat × Operand)).map (fun (i, x) => (i, a.eval x)) = #[(k, a.eval x), (l, a.eval y)] := by simp
  unfold execOp
  simp only [ho, Sem.run_bind, e, run_build w t _ c h, Result.andThen_ok]
  rfl
theorem fieldRB (a a2 : Option Addr) (n cap n2 cap2 : Nat) (c : Bool) (w : World) : (Instr.field 35 (.agg (bc (.slice a n cap) c (.slice a2 n2 cap2))) 0).run Tryz.prog w = .ok (.slice a n cap) w := by kernel_rfl
theorem run_fieldRB {op : Oper} {ac : Act} {w : World} (x : Operand) (ho : op.op = .field 35 x 0) (a a2 : Option Addr) (n cap n2 cap2 : Nat) (c : Bool) (hx : ac.eval x = .agg (bc (.slice a n cap) c (.slice a2 n2 cap2))) :
    (execOp ac.eval op).run Tryz.prog w = .ok (.value (.slice a n cap)) w := by
  unfold execOp
  simp only [ho, hx, Sem.run_bind, fieldRB, Result.andThen_ok]
  rfl
/-- What Block leaves. -/
def BloP (w : World) (ht : Nat) (p t s : List UInt8) (sm : Value) (L : List TX) (e : Ending) (w' : World) : Prop := ∃ a' cap', e = .returned (.agg (bk ht p t s sm (.slice a' L.length cap'))) ∧ TA w' a' L ∧ Below w.heap.size w w'
section
set_option maxRecDepth 100000 in
set_option maxHeartbeats 4000000 in
theorem block_any (ht : Nat) (p t s : List UInt8) (a2 : Option Addr) (n2 cap2 : Nat) (l : List TX) (a : Option Addr) (cap : Nat) (w : World) (hT : TA w a l) :
    Calls Tryz.prog 27 #[.agg (bk ht p t s (.slice a2 n2 cap2) (.slice a l.length cap))] w (BloP w ht p t s (.slice a2 n2 cap2) (rb17 l)) := by
  have H1 := fun w1 => refH_any ht p t s a2 n2 cap2 w1
  have H2 := fun w1 (k : TA w1 a l) => batch_any l false a none cap 0 0 w1 k
  unfold BatP at H2
  generalize rb17 l = L at *
  go_enter Tryz.func27, Tryz.ntmps27
  go_wp2_with (with_reducible refine at_list ?_; first
    | (refine wpList_boxRow (op := ⟨some 1, _, _, _, _, _⟩) rfl _ _ rfl _ rfl ?_; intro w1 hw1 hs1 hb1; replace hs1 := hs1.symm)
    | (refine wpList_allocRow (op := ⟨some 2, _, _, _, _, _⟩) rfl _ rfl _ zRBlk.1 ?_; intro w2 hw2 hs2 hb2; replace hs2 := hs2.symm; replace hb1 := hb1.belowSize hw2))
  have HB := (hw1.trans (hw2.mono hw1.size)).drew
  replace hT := (hT.below (hw1.trans (hw2.mono hw1.size))).below ((Below.refl _ _).drew)
  obtain ⟨B2, hB2⟩ : ∃ B, B = w1.heap.size := ⟨_, rfl⟩
  rw [← hB2] at hb2 ⊢
  have k2 : w.heap.size < B2 := by omega
  clear hB2 hs1 hs2 hw1 hw2
  refine wp_region_held_drew (S := fun w' => Blk w' w.heap.size (bk ht p t s (.slice a2 n2 cap2) (.slice a l.length cap)) 46) (by kernel_rfl) hb1.drew (fun hHeld => ?_)
  replace hb2 := hb2.drew
  clear hb1
  refine wpAnyH_take (i := 0) (oi := ⟨some 3, _, _, _, _, _⟩) (v := .pointer (some ⟨w.heap.size, 0, none⟩)) rfl (by kernel_rfl) (by kernel_rfl) (by kernel_rfl) (fun _ _ _ h => h) (Or.inl ⟨by rfl, fun w hSw => by go_simp⟩) hHeld ?_
  refine wpAnyH_take (i := 3) (oi := ⟨some 6, _, _, _, _, _⟩) (v := .pointer (some ⟨w.heap.size, 5, none⟩)) rfl (by kernel_rfl) (by kernel_rfl) (by kernel_rfl) (fun _ _ _ h => h) (Or.inl ⟨by rfl, fun w hSw => by go_simp⟩) hHeld ?_
  simp only [Act.put, List.setIfInBounds_toArray, List.set_cons_zero, List.set_cons_succ]
  refine wpAnyH_take (i := 1) (oi := ⟨some 4, _, _, _, _, _⟩) (v := .agg (hA ht p t s (.slice a2 n2 cap2))) rfl (by kernel_rfl) (by kernel_rfl) (by kernel_rfl) (fun _ _ _ h => h) (Or.inl ⟨by rfl, fun w hSw => run_loadMid _ _ rfl _ _ rfl _ (bk_head hSw) _ Tryz.underlying44 rfl zHd⟩) hHeld ?_
  refine wpAnyH_take (i := 4) (oi := ⟨some 7, _, _, _, _, _⟩) (v := .slice a l.length cap) rfl (by kernel_rfl) (by kernel_rfl) (by kernel_rfl) (fun _ _ _ h => h) (Or.inl ⟨by rfl, fun w hSw => run_loadCellB _ _ rfl _ 5 rfl _ _ hSw _ Tryz.underlying28 rfl _ (bk_g5 _ _ _ _ _ _)⟩) hHeld ?_
  simp only [Act.put, List.setIfInBounds_toArray, List.set_cons_zero, List.set_cons_succ]
  refine wpAnyH_take (i := 5) (oi := ⟨some 8, _, _, _, _, _⟩) (v := .agg (bc (.slice a l.length cap) false (.slice none 0 0))) rfl (by kernel_rfl) (by kernel_rfl) (by kernel_rfl) (fun _ _ _ h => h) (Or.inl ⟨by rfl, fun w hSw => run_built1 _ _ _ rfl _ rfl _ (builtB a l.length cap)⟩) hHeld ?_
  simp only [Act.put, List.setIfInBounds_toArray, List.set_cons_zero, List.set_cons_succ]
  refine wpAnyH_ready (rs := [2]) (by kernel_rfl) (by simp) ?_
  refine AllReadyH.cons (o := ⟨some 5, .call ⟨.value (.func 22), #[.tmp 4], #[44]⟩, _, _, _, _⟩) rfl (fun K hK => ?_) AllReadyH.nil
  rw [if_pos (by rfl)]
  go_simp
  refine (H1 _).mono ?_
  rintro e wA ⟨rfl, hwA⟩
  have hH2 := hHeld.belowSize hwA
  refine hK.out _ _ hH2 (fun _ => ?_)
  clear hK K
  replace hb2 := hb2.belowSize hwA
  replace hT := hT.below hwA
  replace HB := HB.trans (hwA.mono HB.size)
  clear hwA hHeld H1
  try simp only [Act.put, List.setIfInBounds_toArray, List.set_cons_zero, List.set_cons_succ]
  refine wpAnyH_ready (rs := [6]) (by kernel_rfl) (by simp) ?_
  refine AllReadyH.cons (o := ⟨some 9, .call ⟨.value (.func 12), #[.tmp 8], #[30]⟩, _, _, _, _⟩) rfl (fun K hK => ?_) AllReadyH.nil
  rw [if_pos (by rfl)]
  go_simp
  refine (H2 _ hT).mono ?_
  rintro e wB ⟨xa, xc, rfl, hX, hwB⟩
  have hH3 := hH2.belowSize hwB
  refine hK.out _ _ hH3 (fun _ => ?_)
  clear hK K
  replace hb2 := hb2.belowSize hwB
  replace HB := HB.trans (hwB.mono HB.size)
  clear hwB hH2 H2
  try simp only [Act.put, List.setIfInBounds_toArray, List.set_cons_zero, List.set_cons_succ]
  refine wpAnyH_take (i := 7) (oi := ⟨some 10, _, _, _, _, _⟩) (v := .slice xa L.length xc) rfl (by kernel_rfl) (by kernel_rfl) (by kernel_rfl) (fun _ _ _ h => h) (Or.inl ⟨by rfl, fun w hSw => run_fieldRB _ rfl xa none L.length xc 0 0 false rfl⟩) hH3 ?_
  try simp only [Act.put, List.setIfInBounds_toArray, List.set_cons_zero, List.set_cons_succ]
  refine wpAnyH_take (i := 8) (oi := ⟨some 11, _, _, _, _, _⟩) (v := .agg (bk ht p t s (.slice a2 n2 cap2) (.slice xa L.length xc))) rfl (by kernel_rfl) (by kernel_rfl) (by kernel_rfl) (fun _ _ _ h => h) (Or.inl ⟨by rfl, fun w hSw => run_built2 _ _ _ _ _ rfl _ _ rfl rfl _ (builtRBk ht p t s xa a2 L.length xc n2 cap2)⟩) hH3 ?_
  try simp only [Act.put, List.setIfInBounds_toArray, List.set_cons_zero, List.set_cons_succ]
  refine wpAnyH_ready (rs := [9]) (by kernel_rfl) (by simp) ?_
  refine AllReadyH.cons (o := ⟨none, .store 63 (.tmp 2) (.tmp 11), _, _, _, _⟩) rfl (fun K hK => ?_) AllReadyH.nil
  rw [if_pos (by rfl)]
  refine wp_storeRowB _ _ _ rfl B2 (bk ht p t s (.slice a2 n2 cap2) (.slice xa L.length xc)) rfl rfl _ _ hb2 rfl (by rw [bk_size]; exact zRBlk.2) (bk_one _ _ _ _ _ _ _ _ _ _) ?_
  intro wC hgC hsC hbC
  refine hK.out _ _ (hH3.grown hgC (by simp; omega)) (fun _ => ?_)
  clear hK K
  replace hX := hX.bk hb2 hgC
  replace HB := HB.trans (below_of_grown hgC (show w.heap.size ≤ B2 by omega) HB.size)
  refine wpAnyH_done (by kernel_rfl) ?_ _
  simp only [Act.put]
  go_simp
  go_wp2_with fail
  refine bodyPost_ret (v := .agg (bk ht p t s (.slice a2 n2 cap2) (.slice xa L.length xc))) ?_ rfl ⟨xa, xc, rfl, hX, HB⟩
  exact results_cell_row rfl _ _ B2 _ _ _ _ rfl hbC.out Tryz.underlying63 rfl (by rw [bk_size]; exact zRBlk.2)
end
end Go.Proofs.YtjfpfkiccbcedaaGreatDoor
