/- Batches: their cells; what small and the plain CheckBatch do. What the plain CheckBatch does. Growing slices of transactions; what Batch does. -/
import Derived.Test.YtmbdhngoldganaaGreatDoorRef
import Derived.Test.YtmbdhngoldganaaGreatDoorRck
import Derived.Test.YtmbdhngoldganaaGreatDoorHcl
import Derived.Test.YtmbdhngoldganaaGreatDoorGsl
import Derived.Deep.RegionHeld3
namespace Go.Proofs.YtmbdhngoldganaaGreatDoor
open Go Go.RowKit
/-- The transactions l lie at a. -/
def TA (w : World) (a : Option Addr) (l : List TX) : Prop := ∀ i (h : i < l.length), ∃ g o sa cap, a = some ⟨g, o, none⟩ ∧ w.rangeAt g (o + i * 3) (txc l[i].client l[i].nonce (.slice sa l[i].ops.length cap)).toList ∧ SL w sa l[i].ops ∧ l[i].client < 18446744073709551616 ∧ l[i].nonce < 18446744073709551616
theorem TA.below {w w' : World} {a : Option Addr} {l : List TX} (h : TA w a l) (hb : Below w.heap.size w w') : TA w' a l := fun i hi => by
  obtain ⟨g, o, sa, cap, ha, hr, hs, h1, h2⟩ := h i hi
  refine ⟨g, o, sa, cap, ha, fun j v hv => ?_, hs.below hb, h1, h2⟩
  have h3 := hr j v hv
  rw [hb.cell (World.block_lt_of_cell? _ _ h3)]
  exact h3
theorem TA.nil (w : World) (a : Option Addr) : TA w a [] := fun i hi => by simp at hi
theorem TA.ex {w : World} {a : Option Addr} {l : List TX} (h : TA w a l) (h0 : 0 < l.length) : ∃ g o, a = some ⟨g, o, none⟩ := by
  obtain ⟨g, o, _, _, ha, _⟩ := h 0 h0
  exact ⟨g, o, ha⟩
theorem TA.at {w : World} {g o : Nat} {l : List TX} (h : TA w (some ⟨g, o, none⟩) l) (i : Nat) (hi : i < l.length) : ∃ sa cap, w.rangeAt g (o + i * 3) (txc l[i].client l[i].nonce (.slice sa l[i].ops.length cap)).toList ∧ SL w sa l[i].ops ∧ l[i].client < 18446744073709551616 ∧ l[i].nonce < 18446744073709551616 := by
  obtain ⟨g', o', sa, cap, ha, hr⟩ := h i hi
  simp only [Option.some.injEq, Addr.mk.injEq, and_true] at ha
  obtain ⟨rfl, rfl⟩ := ha
  exact ⟨sa, cap, hr⟩
/-- A batch, plainly. -/
structure BT where
  txs : List TX
  conf : Bool
  mem : List Int
/-- The cells of a batch. -/
def bc (st : Value) (conf : Bool) (sm : Value) : Array Value := #[st, .bool conf, sm]
theorem bc_size (st : Value) (c : Bool) (sm : Value) : (bc st c sm).size = 3 := rfl
theorem bc_g0 (st : Value) (c : Bool) (sm : Value) : (bc st c sm)[0]? = some st := rfl
theorem bc_g1 (st : Value) (c : Bool) (sm : Value) : (bc st c sm)[1]? = some (.bool c) := rfl
theorem bc_g2 (st : Value) (c : Bool) (sm : Value) : (bc st c sm)[2]? = some sm := rfl
theorem bc_set0 (st st' : Value) (c : Bool) (sm : Value) : (bc st c sm).setIfInBounds 0 st' = bc st' c sm := rfl
theorem bc_one (a : Option Addr) (n cap : Nat) (c : Bool) (a2 : Option Addr) (n2 cap2 : Nat) : (bc (.slice a n cap) c (.slice a2 n2 cap2)).all (·.oneCell') = true := by simp [bc, Value.oneCell']
theorem zB : (∀ w, (zeroValue 58).run Tryz.prog w = .ok (.agg (bc (.slice none 0 0) false (.slice none 0 0))) w) ∧ (Tryz.prog.info? 58).map (·.size) = some 3 := zero_of_info (by kernel_rfl)
theorem zRB : (∀ w, (zeroValue 125).run Tryz.prog w = .ok (.agg (bc (.slice none 0 0) false (.slice none 0 0))) w) ∧ (Tryz.prog.info? 125).map (·.size) = some 3 := zero_of_info (by kernel_rfl)
theorem iSlT : (Tryz.prog.info? 51).map (·.size) = some 1 := by kernel_rfl
theorem iSlRT : (Tryz.prog.info? 123).map (·.size) = some 1 := by kernel_rfl
end Go.Proofs.YtmbdhngoldganaaGreatDoor
namespace Go.Proofs.YtmbdhngoldganaaGreatDoor
open Go Go.RowKit
/-- The error of a batch. -/
def chkB (b : BT) : Int := if b.conf = true ∧ (b.txs ≠ [] ∨ okM b.mem = false) ∨ b.conf = false ∧ b.mem ≠ [] then 6 else if 16 < b.txs.length then 3 else if b.txs.all okTx = true then 0 else 40
section
attribute [local go_sem] Oper.semAt_some
set_option maxRecDepth 100000 in
set_option maxHeartbeats 2000000 in
/-- The loop of the plain CheckBatch over transactions, where who takes part is right. -/
theorem rcheckB_in (l : List TX) (c : Bool) (m : List Int) (hcm : (c = true → l = [] ∧ okM m = true) ∧ (c = false → m = [])) (hl : l.length ≤ 16) (a a2 : Option Addr) (cap cap2 : Nat) (w : World) (h : TA w a l) (hI : IA w a2 m) :
    Calls Tryz.prog 57 #[.agg (bc (.slice a l.length cap) c (.slice a2 m.length cap2))] w fun e w' => e = .returned (.int .i64 (if l.all okTx = true then 0 else 40)) ∧ Below w.heap.size w w' := by
  have HM := fun w1 (k : Below w.heap.size w w1) (hm : okM m = true) => rmembers_any m a2 cap2 w1 (hI.below k) true hm
  have hd16 : decide (16 < (l.length : Int)) = false := decide_eq_false (by omega)
  obtain ⟨Rz, hRz⟩ : ∃ Rz : Int, Hid (Rz = if l.all okTx = true then 0 else 40) := ⟨_, rfl⟩
  rw [← hRz.out]
  cases c
  · have hm := hcm.2 rfl
    subst hm
    clear HM hI hcm
    go_enter Tryz.func57, Tryz.ntmps57
    go_wp2_with (with_reducible refine at_list ?_; refine wpList_boxRow (op := ⟨some 1, _, _, _, _, _⟩) rfl _ _ rfl _ rfl ?_; intro w1 hw1 hs1 hb1; replace hs1 := hs1.symm; have c0 := (hb1.cell 0).trans (bc_g0 _ _ _); have c1 := (hb1.cell 1).trans (bc_g1 _ _ _); have c2 := (hb1.cell 2).trans (bc_g2 _ _ _))
    clear c0 c1 c2 hs1
    go_loopw [3] (fun v3 wl => ∃ i : Nat, i ≤ l.length ∧ v3 = .int .i64 i ∧ Below w.heap.size w wl ∧ Blk wl w.heap.size (bc (.slice a l.length cap) false (.slice a2 ([] : List Int).length cap2)) 125 ∧ Hid ((l.take i).all okTx = true)) (fun v3 _ => l.length - (intOf v3).toNat)
    case atStart => exact ⟨0, by omega, rfl, hw1, hb1, by rw [List.take_zero]; exact rfl⟩
    case round =>
      obtain ⟨i, hi, rfl, hB, hb, hA⟩ := hrel
      clear hw1 hb1
      have c0 := (hb.cell 0).trans (bc_g0 _ _ _)
      by_cases hlt : i < l.length
      · obtain ⟨g, o, rfl⟩ := h.ex (by omega)
        obtain ⟨sa, sc, hr, hs, _, _⟩ := (h.below hB).at i hlt
        have HK := fun w1 (k : SL w1 sa l[i].ops) => rcheck_any l[i] sa sc w1 k
        have hT : Hid ((l.take (i + 1)).all okTx = ((l.take i).all okTx && okTx l[i])) := by
          show _ = _
          rw [List.take_succ_eq_append_getElem hlt, List.all_append]
          simp
        have hm : Hid (okTx l[i] = false → l.all okTx = false) := fun hf => by
          rw [← Bool.not_eq_true]
          intro hall
          rw [List.all_eq_true.1 hall _ (List.getElem_mem hlt)] at hf
          cases hf
        have hz1 : (0 : Int) ≤ (i : Int) := by omega
        have hz2 : (i : Int) < (l.length : Int) := by omega
        generalize l[i] = t at *
        by_cases hok : okTx t = true
        · rw [chk_zero hok] at HK
          have hT := hT.out
          rw [hA.out, hok] at hT
          have hT2 : Hid ((l.take (i + 1)).all okTx = true) := hT
          clear hok hm hA hT
          go_wp2_with (first
            | (go_at_call 79; refine (HK _ hs).mono ?_; rintro e w2 ⟨rfl, hw2⟩)
            | (with_reducible refine at_list ?_; refine wpList_loadOp (op := ⟨some 45, _, _, _, _, _⟩) rfl _ _ rfl g (o + i * 3) rfl (txc t.client t.nonce (.slice sa t.ops.length sc)) hr _ Tryz.underlying91 rfl (by rw [txc_size]; exact zRtx.2) ?_))
          go_roundw
          case rel => exact ⟨i + 1, by omega, by go_num, hB.trans (hw2.mono hB.size), hb.belowSize hw2, hT2⟩
          case measure => simp [intOf]; omega
        · rw [chk_not hok] at HK
          have hm2 : Hid (l.all okTx = false) := hm.out (by simpa using hok)
          clear hok hT hA hm
          go_wp2_with (first
            | (go_at_call 79; refine (HK _ hs).mono ?_; rintro e w2 ⟨rfl, hw2⟩)
            | (with_reducible refine at_list ?_; refine wpList_loadOp (op := ⟨some 45, _, _, _, _, _⟩) rfl _ _ rfl g (o + i * 3) rfl (txc t.client t.nonce (.slice sa t.ops.length sc)) hr _ Tryz.underlying91 rfl (by rw [txc_size]; exact zRtx.2) ?_))
          go_ret
          exact ⟨by rw [hRz.out, hm2.out]; rfl, hB.trans (hw2.mono hB.size)⟩
      · have hA2 : Hid (l.all okTx = true) := by
          have := hA.out
          rw [List.take_of_length_le (by omega)] at this
          exact this
        have hz2 : ¬ (i : Int) < (l.length : Int) := by omega
        clear hA
        go_wp2_with fail
        go_ret
        exact ⟨by rw [hRz.out, hA2.out]; rfl, hB⟩
  · obtain ⟨hl0, hm⟩ := hcm.1 rfl
    subst hl0
    replace HM := fun w1 k => HM w1 k hm
    clear hcm hI hm
    go_enter Tryz.func57, Tryz.ntmps57
    go_wp2_with (first
      | (go_at_call 55; refine (HM _ hw1).mono ?_; rintro e w2 ⟨rfl, hw2⟩; clear HM c0 c1 c2; replace hb1 := hb1.belowSize hw2; have HB := hw1.trans (hw2.mono hw1.size); have c0 := (hb1.cell 0).trans (bc_g0 _ _ _); have c1 := (hb1.cell 1).trans (bc_g1 _ _ _))
      | (with_reducible refine at_list ?_; refine wpList_boxRow (op := ⟨some 1, _, _, _, _, _⟩) rfl _ _ rfl _ rfl ?_; intro w1 hw1 hs1 hb1; replace hs1 := hs1.symm; have c0 := (hb1.cell 0).trans (bc_g0 _ _ _); have c1 := (hb1.cell 1).trans (bc_g1 _ _ _); have c2 := (hb1.cell 2).trans (bc_g2 _ _ _)))
    clear c0 c1 hs1
    go_loopw [3] (fun v3 wl => ∃ i : Nat, i ≤ 0 ∧ v3 = .int .i64 i ∧ Below w.heap.size w wl ∧ Blk wl w.heap.size (bc (.slice a ([] : List TX).length cap) true (.slice a2 m.length cap2)) 125) (fun v3 _ => 0)
    case atStart => exact ⟨0, by omega, rfl, HB, hb1⟩
    case round =>
      obtain ⟨i, hi, rfl, hB, hb⟩ := hrel
      clear hw1 hb1 HB
      have c0 := (hb.cell 0).trans (bc_g0 _ _ _)
      obtain rfl : i = 0 := by omega
      go_wp2_with fail
      go_ret
      exact ⟨by rw [hRz.out]; rfl, hB⟩
set_option maxRecDepth 100000 in
set_option maxHeartbeats 2000000 in
theorem rcheckB_any (b : BT) (a a2 : Option Addr) (cap cap2 : Nat) (w : World) (h : TA w a b.txs) (hI : IA w a2 b.mem) :
    Calls Tryz.prog 57 #[.agg (bc (.slice a b.txs.length cap) b.conf (.slice a2 b.mem.length cap2))] w fun e w' => e = .returned (.int .i64 (chkB b)) ∧ Below w.heap.size w w' := by
  obtain ⟨l, c, m⟩ := b
  dsimp only at *
  obtain ⟨B, hB0⟩ : ∃ B, okM m = B := ⟨_, rfl⟩
  cases c
  · by_cases hm : m = []
    · by_cases hl : 16 < l.length
      · have HE : Hid (chkB ⟨l, false, m⟩ = 3) := by
          show chkB _ = 3
          unfold chkB
          rw [if_neg (by simp [hm]), if_pos hl]
        rw [HE.out]
        subst hm
        have hd16 : decide (16 < (l.length : Int)) = true := decide_eq_true (by omega)
        go_enter Tryz.func57, Tryz.ntmps57
        go_wp2_with (with_reducible refine at_list ?_; refine wpList_boxRow (op := ⟨some 1, _, _, _, _, _⟩) rfl _ _ rfl _ rfl ?_; intro w1 hw1 hs1 hb1; replace hs1 := hs1.symm; have c0 := (hb1.cell 0).trans (bc_g0 _ _ _); have c1 := (hb1.cell 1).trans (bc_g1 _ _ _); have c2 := (hb1.cell 2).trans (bc_g2 _ _ _))
        go_ret
        exact ⟨rfl, hw1⟩
      · have HE : chkB ⟨l, false, m⟩ = if l.all okTx = true then 0 else 40 := by
          unfold chkB
          rw [if_neg (by simp [hm]), if_neg hl]
        rw [HE]
        exact rcheckB_in l false m ⟨fun e => (by cases e), fun _ => hm⟩ (by omega) a a2 cap cap2 w h hI
    · have HE : Hid (chkB ⟨l, false, m⟩ = 6) := by
        show chkB _ = 6
        unfold chkB
        rw [if_pos (.inr ⟨rfl, hm⟩)]
      rw [HE.out]
      have hm0 : 0 < m.length := List.length_pos_iff.2 hm
      have hd0 : decide (0 < (m.length : Int)) = true := decide_eq_true (by omega)
      clear hm hB0
      go_enter Tryz.func57, Tryz.ntmps57
      go_wp2_with (with_reducible refine at_list ?_; refine wpList_boxRow (op := ⟨some 1, _, _, _, _, _⟩) rfl _ _ rfl _ rfl ?_; intro w1 hw1 hs1 hb1; replace hs1 := hs1.symm; have c0 := (hb1.cell 0).trans (bc_g0 _ _ _); have c1 := (hb1.cell 1).trans (bc_g1 _ _ _); have c2 := (hb1.cell 2).trans (bc_g2 _ _ _))
      go_ret
      exact ⟨rfl, hw1⟩
  · by_cases hl : l = []
    · subst hl
      cases B
      · have HE : Hid (chkB ⟨[], true, m⟩ = 6) := by
          show chkB _ = 6
          unfold chkB
          rw [if_pos (.inl ⟨rfl, .inr hB0⟩)]
        rw [HE.out]
        have HM := fun w1 (k : Below w.heap.size w w1) => rmembers_any m a2 cap2 w1 (hI.below k) false hB0
        clear hB0
        go_enter Tryz.func57, Tryz.ntmps57
        go_wp2_with (first
          | (go_at_call 55; refine (HM _ hw1).mono ?_; rintro e w2 ⟨rfl, hw2⟩; clear HM c0 c1 c2; replace hb1 := hb1.belowSize hw2; have HB := hw1.trans (hw2.mono hw1.size); have c0 := (hb1.cell 0).trans (bc_g0 _ _ _); have c1 := (hb1.cell 1).trans (bc_g1 _ _ _))
          | (with_reducible refine at_list ?_; refine wpList_boxRow (op := ⟨some 1, _, _, _, _, _⟩) rfl _ _ rfl _ rfl ?_; intro w1 hw1 hs1 hb1; replace hs1 := hs1.symm; have c0 := (hb1.cell 0).trans (bc_g0 _ _ _); have c1 := (hb1.cell 1).trans (bc_g1 _ _ _); have c2 := (hb1.cell 2).trans (bc_g2 _ _ _)))
        go_ret
        exact ⟨rfl, HB⟩
      · have HE : chkB ⟨[], true, m⟩ = if ([] : List TX).all okTx = true then 0 else 40 := by
          unfold chkB
          rw [if_neg (by simp [hB0]), if_neg (by simp)]
        rw [HE]
        exact rcheckB_in [] true m ⟨fun _ => ⟨rfl, hB0⟩, fun e => (by cases e)⟩ (by simp) a a2 cap cap2 w h hI
    · have HE : Hid (chkB ⟨l, true, m⟩ = 6) := by
        show chkB _ = 6
        unfold chkB
        rw [if_pos (.inl ⟨rfl, .inl hl⟩)]
      rw [HE.out]
      have hl0 : 0 < l.length := List.length_pos_iff.2 hl
      have hd0 : decide (0 < (l.length : Int)) = true := decide_eq_true (by omega)
      clear hl hB0
      go_enter Tryz.func57, Tryz.ntmps57
      go_wp2_with (with_reducible refine at_list ?_; refine wpList_boxRow (op := ⟨some 1, _, _, _, _, _⟩) rfl _ _ rfl _ rfl ?_; intro w1 hw1 hs1 hb1; replace hs1 := hs1.symm; have c0 := (hb1.cell 0).trans (bc_g0 _ _ _); have c1 := (hb1.cell 1).trans (bc_g1 _ _ _); have c2 := (hb1.cell 2).trans (bc_g2 _ _ _))
      go_ret
      exact ⟨rfl, hw1⟩
end
end Go.Proofs.YtmbdhngoldganaaGreatDoor
namespace Go.Proofs.YtmbdhngoldganaaGreatDoor
open Go Go.RowKit
theorem Blk.sh {w : World} {b : Nat} {c : Array Value} {t : TypeId} (h : Blk w b c t) : Sh.Blk w b c t := ⟨h.out⟩
theorem Blk.of_sh {w : World} {b : Nat} {c : Array Value} {t : TypeId} (h : Sh.Blk w b c t) : Blk w b c t := ⟨h.out⟩
theorem below_row {w w1 : World} {row : Option Nat} {lo : Nat} (hg : w.grownBy w1 row) (hr : ∀ r, row = some r → lo ≤ r) (hlo : lo ≤ w.heap.size) : Below lo w w1 :=
  ⟨hg.os, hg.tape, hg.output, hg.size, fun k hk => hg.block k (by omega) (fun e => by have := hr k e.symm; omega)⟩
/-- A slice's block is an elder one than B, or one of operations. -/
def NB (w : World) (B : Nat) (t : TypeId) (sa : Option Addr) : Prop := ∀ g o, sa = some ⟨g, o, none⟩ → g < w.heap.size ∧ (g < B ∨ ∃ c fr, w.heap[g]? = some (.cells c t fr))
/-- A block that may be written beside them. -/
def Beside (w : World) (B : Nat) (t : TypeId) (row : Option Nat) : Prop := ∀ r, row = some r → B ≤ r ∧ ∃ c u fr, w.heap[r]? = some (.cells c u fr) ∧ u ≠ t
theorem NB.apart {w : World} {B : Nat} {t : TypeId} {sa : Option Addr} {row : Option Nat} (h : NB w B t sa) (hr : Beside w B t row) {g o : Nat} (hs : sa = some ⟨g, o, none⟩) : some g ≠ row := fun e => by
  obtain ⟨h1, c, u, fr, h2, h3⟩ := hr g e.symm
  rcases (h g o hs).2 with h4 | ⟨c', fr', h4⟩
  · omega
  · rw [h2] at h4
    simp only [Option.some.injEq, Obj.cells.injEq] at h4
    exact h3 h4.2.1
theorem NB.grown {w w' : World} {B : Nat} {t : TypeId} {sa : Option Addr} {row : Option Nat} (h : NB w B t sa) (hg : w.grownBy w' row) (hr : Beside w B t row) : NB w' B t sa := fun g o hs => by
  obtain ⟨h1, h2⟩ := h g o hs
  refine ⟨Nat.lt_of_lt_of_le h1 hg.size, h2.imp id fun ⟨c, fr, h3⟩ => ⟨c, fr, ?_⟩⟩
  rw [hg.block g h1 (h.apart hr hs)]
  exact h3
theorem SL.turn {w w' : World} {B : Nat} {t : TypeId} {sa : Option Addr} {row : Option Nat} {l : List O} (h : SL w sa l) (hn : NB w B t sa) (hg : w.grownBy w' row) (hr : Beside w B t row) : SL w' sa l := fun i hi => by
  obtain ⟨g, o, ha, hc⟩ := h i hi
  refine ⟨g, o, ha, fun j v hv => ?_⟩
  have h3 := hc j v hv
  have hl := World.block_lt_of_cell? _ _ h3
  have e := hg.block g hl (hn.apart hr ha)
  simp only [World.cell?] at h3 ⊢
  rw [e]
  exact h3
theorem NB.below {w w' : World} {B : Nat} {t : TypeId} {sa : Option Addr} (h : NB w B t sa) (hb : Below w.heap.size w w') : NB w' B t sa := h.grown (row := none) (grown_of_below hb) (fun _ e => nomatch e)
theorem OL.nb {w : World} {t : TypeId} {lo B : Nat} {a : Option Addr} {n cap : Nat} {l : List O} (h : OL w t lo (.slice a n cap) l) : NB w B t a := fun g o hs => by
  subst hs
  rcases h with ⟨_, h⟩ | ⟨g', cap', h1, h2, h3⟩
  · cases h
  · simp only [Value.slice.injEq, Option.some.injEq, Addr.mk.injEq] at h2
    obtain ⟨⟨rfl, _⟩, _⟩ := h2
    obtain ⟨cur, h4, _⟩ := h3.out
    exact ⟨h3.lt, .inr ⟨cur, _, h4⟩⟩
/-- The cells ls are those of the transactions l. -/
structure TXL (w : World) (B : Nat) (t : TypeId) (ls : List (List Value)) (l : List TX) : Prop where
  len : ls.length = l.length
  each : ∀ i (h : i < l.length), ∃ sa cap, ls[i]? = some (txc l[i].client l[i].nonce (.slice sa l[i].ops.length cap)).toList ∧ SL w sa l[i].ops ∧ NB w B t sa ∧ l[i].client < 18446744073709551616 ∧ l[i].nonce < 18446744073709551616
theorem TXL.nil (w : World) (B : Nat) (t : TypeId) : TXL w B t [] [] := ⟨rfl, fun i h => by simp at h⟩
theorem TXL.grown {w w' : World} {B : Nat} {t : TypeId} {ls : List (List Value)} {l : List TX} {row : Option Nat} (h : TXL w B t ls l) (hg : w.grownBy w' row) (hr : Beside w B t row) : TXL w' B t ls l := ⟨h.len, fun i hi => by
  obtain ⟨sa, cap, h1, h2, h3, h4⟩ := h.each i hi
  exact ⟨sa, cap, h1, h2.turn h3 hg hr, h3.grown hg hr, h4⟩⟩
theorem TXL.below {w w' : World} {B : Nat} {t : TypeId} {ls : List (List Value)} {l : List TX} (h : TXL w B t ls l) (hb : Below w.heap.size w w') : TXL w' B t ls l := h.grown (row := none) (grown_of_below hb) (fun _ e => nomatch e)
theorem TXL.snoc {w : World} {B : Nat} {ty : TypeId} {ls : List (List Value)} {l : List TX} (h : TXL w B ty ls l) (t : TX) (sa : Option Addr) (cap : Nat) (hs : SL w sa t.ops) (hn : NB w B ty sa) (h1 : t.client < 18446744073709551616) (h2 : t.nonce < 18446744073709551616) : TXL w B ty (ls ++ [(txc t.client t.nonce (.slice sa t.ops.length cap)).toList]) (l ++ [t]) := by
  refine ⟨by rw [List.length_append, List.length_append, h.len]; rfl, fun i hi => ?_⟩
  rw [List.length_append, List.length_singleton] at hi
  by_cases hlt : i < l.length
  · obtain ⟨sa', cap', e1, e2, e3, e4⟩ := h.each i hlt
    refine ⟨sa', cap', ?_, ?_⟩
    · rw [List.getElem?_append_left (by rw [h.len]; exact hlt), e1, List.getElem_append_left hlt]
    · rw [List.getElem_append_left hlt]
      exact ⟨e2, e3, e4⟩
  · obtain rfl : i = l.length := by omega
    refine ⟨sa, cap, ?_, ?_⟩
    · rw [List.getElem?_append_right (by rw [h.len]; exact Nat.le_refl _), h.len]
      simp
    · simp only [List.getElem_concat_length]
      exact ⟨hs, hn, h1, h2⟩
theorem GLbeside {w : World} {t u : TypeId} {k lo B : Nat} {sl : Value} {ls : List (List Value)} (hG : Sh.GL w u k lo sl ls) (hB : B ≤ lo) (hu : u ≠ t) : Beside w B t (Sh.slBlk sl) := fun r e => by
  have h1 := hG.lt r e
  refine ⟨by omega, ?_⟩
  rcases hG.2 with ⟨_, rfl⟩ | ⟨g, cap, h2, rfl, h3⟩
  · cases e
  · cases e
    obtain ⟨cur, h4, _⟩ := h3.out
    exact ⟨cur, u, _, h4, hu⟩
theorem TXL.ta {w : World} {t u : TypeId} {lo B : Nat} {sl : Value} {ls : List (List Value)} {l : List TX} (hG : Sh.GL w t 3 lo sl ls) (h : TXL w B u ls l) : ∃ a cap, sl = .slice a l.length cap ∧ TA w a l := by
  obtain ⟨a, cap, rfl, hc⟩ := hG.sl
  refine ⟨a, cap, by rw [h.len], fun i hi => ?_⟩
  obtain ⟨sa, sc, h1, h2, _, h3⟩ := h.each i hi
  obtain ⟨g, hg, hcc⟩ := hc i (by rw [h.len]; exact hi)
  refine ⟨g, 0, sa, sc, hg, fun j v hv => ?_, h2, h3⟩
  have e : ls[i]'(by rw [h.len]; exact hi) = (txc l[i].client l[i].nonce (.slice sa l[i].ops.length sc)).toList := by
    rw [List.getElem?_eq_getElem (by rw [h.len]; exact hi)] at h1
    exact Option.some.inj h1
  rw [Nat.zero_add]
  exact hcc j v (by rw [e]; exact hv)
/-- A transaction of which more than nine operations are left out. -/
def cut9 (t : TX) : TX := ⟨t.client, t.nonce, t.ops.take 9⟩
theorem infoRtx : ∃ i, Tryz.prog.info? 91 = some i ∧ i.zero = some (.agg (txc 0 0 (.slice none 0 0))) ∧ i.size = 3 ∧ i.bytes ≤ 256 := by
  have h : (Tryz.prog.info? 91).map (fun i => (i.zero, i.size, i.bytes)) = some (some (.agg (txc 0 0 (.slice none 0 0))), 3, 40) := by kernel_rfl
  cases hq : Tryz.prog.info? 91 with
  | none => rw [hq] at h; cases h
  | some i => rw [hq] at h; simp at h; exact ⟨i, rfl, h.1, h.2.1, by omega⟩
theorem bslRtx (c n : Nat) (a : Option Addr) (k cap : Nat) (w : World) : (Instr.buildSlice 123 1 #[(0, .agg (txc c n (.slice a k cap)))]).run Tryz.prog w = .ok (.slice (some ⟨w.heap.size, 0, none⟩) 1 1) (w.alloc (.cells (txc c n (.slice a k cap)) 91)) := by
  simp [Instr.buildSlice, run_underlying Tryz.underlying123, sizeOf_run zRtx.2, Sem.run_bind, Instr.fill, newRow, zRtx.1]
  congr 2
  simp [txc, Value.cells, range3]
theorem wp_bslRtx {op : Oper} {a : Act} {w : World} {K : Act → World → Prop} {Q : Exit → Act → World → Prop} (x : Operand) (ho : op.op = .buildSlice 123 1 #[(0, x)]) (c n : Nat) (sa : Option Addr) (k cap : Nat) (hx : a.eval x = .agg (txc c n (.slice sa k cap)))
    (h : ∀ w1 : World, Below w.heap.size w w1 → w1.heap.size = w.heap.size + 1 → Blk w1 w.heap.size (txc c n (.slice sa k cap)) 91 → K (a.put op.dst (.slice (some ⟨w.heap.size, 0, none⟩) 1 1)) w1) : op.wp Tryz.prog a w K Q := by
  refine wp_run _ _ ?_ (h _ ((Below.refl _ _).alloc (Nat.le_refl _) _) (by simp) (Blk.new _ _ _))
  unfold execOp
  have e : (#[(0, x)] : Array (Nat × Operand)).map (fun (i, x) => (i, a.eval x)) = #[(0, .agg (txc c n (.slice sa k cap)))] := by simp [hx]
  have hr := bslRtx c n sa k cap w
  rw [← e] at hr
  simp only [ho, Sem.run_bind, hr, Result.andThen_ok]
  rfl
end Go.Proofs.YtmbdhngoldganaaGreatDoor
