/- What awake of the law does: a record is there behind a crash. What same of the law tells of like texts. What cut of the law gives. A log that a law plays on its disk: what is kept from call to call. A log on a disk with a planned fall: Add, Reset, and what there is behind. -/
import Derived.Test.YtaiiojbakmminaaGreatDoorWdx
import Derived.Test.YtaiiojbakmminaaGreatDoorWfp
import Derived.Test.YtaiiojbakmminaaGreatDoorWpk
namespace Go.Proofs.YtaiiojbakmminaaGreatDoor
open Go Go.RowKit
theorem op_ok {w w' : World} {p : Nat} {b : Option Nat} {L : LG} {m : DN} {t : Int} {e : Ending} (h : OpP w p b (L, (m, 0)) t e w') : ∃ q b' rb', e = .returned (.tuple #[.pointer (some ⟨q, 0, none⟩), .int .i64 t, .int .i64 0]) ∧ w.heap.size ≤ q ∧ Wch w w' q p b none b' rb' ∧ WK w' q p b' rb' L m := by
  obtain ⟨q, b', rb', h1, h2, h3, h4⟩ := h
  exact ⟨q, b', rb', by simpa using h1, h2, h3, h4⟩
theorem wch_low {n : Nat} {w w' : World} {q p : Nat} {b rb b' rb' : Option Nat} (h : Wch w w' q p b rb b' rb') (hn : n ≤ w.heap.size) (hq : n ≤ q) (hp : n ≤ p) (hb : ∀ k, b = some k → n ≤ k) (hr : ∀ k, rb = some k → n ≤ k) : Below n w w' ∧ (∀ k, b' = some k → n ≤ k) ∧ (∀ k, rb' = some k → n ≤ k) :=
  ⟨⟨h.os, h.tape, h.output, h.size, fun k hk => h.block k (by omega) (by omega) (by omega) (fun e => by have := hb k e.symm; omega) (fun e => by have := hr k e.symm; omega)⟩, fun k e => by rcases h.newb k e with h1 | h1; exact hb k h1; omega, fun k e => by rcases h.newr k e with h1 | h1; exact hr k h1; omega⟩
theorem ts_one {w : World} {v : Value} {b : Option Nat} {x : B} (h : TS w v b [x]) : ∃ g o cap, v = .slice (some ⟨g, o, none⟩) 1 cap ∧ w.cell? ⟨g, o, none⟩ = some (.string ⟨x.toArray⟩) := by
  obtain ⟨a, cap, rfl, h1, _⟩ := h.sl
  obtain ⟨g, o, rfl, h2⟩ := h1 0 x rfl
  exact ⟨g, o, cap, rfl, h2⟩
theorem awk_open {L : LG} {P : PP} {lb : List B} {ls : List (List B)} (h : Py L P lb ls) (hz : L.most = 10) (p : Nat) (b : Option Nat) (ch : Nat) (w : World) (hD : DD w p b { { cm P 0 ch with dead := true, l := settleL (failL 0 0 (cm P 0 ch).l) } with dead := false }) (hp : 2 ≤ p) (hb2 : ∀ k, b = some k → 2 ≤ k) (hG : Gw w) (hu : usedP P ≤ 4000000) (hc : ch ≤ 900000) (hr : L.recs.length ≤ 400000) :
    Calls Tryz.prog 10 #[.pointer (some ⟨p, 0, none⟩), .int .i64 10] w (OpP w p b (L, (cm P 0 ch, 0)) 0) := by
  have e : ({ { cm P 0 ch with dead := true, l := settleL (failL 0 0 (cm P 0 ch).l) } with dead := false } : DN) = cm P 0 ch := by
    show (⟨settleL (failL 0 0 (mk P)), false, false, 0, ch, none⟩ : DN) = _
    rw [fail_mk]
    rfl
  rw [e] at hD
  have := open_py h p b 0 ch (by omega) w hD hp hb2 hG hu hc hr
  rw [hz] at this
  exact this
set_option maxRecDepth 100000 in
set_option maxHeartbeats 2000000 in
theorem awakeW (w : World) (hG : Gw w) : Calls Tryz.prog 11 #[] w fun e w' => e = .returned (.bool true) ∧ Below w.heap.size w w' := by
  have h2g := hG.two
  have HN := newD w
  go_enter Tryz.func11, Tryz.ntmps11
  go_upto_region 3 with (first
    | (go_at_call 9; refine HN.mono ?_; rintro e w1 ⟨rfl, hw1, hD1⟩; obtain ⟨ch1, hch1, HO1⟩ := open_new w.heap.size 10 (by omega) w1 hD1 h2g (hG.below hw1))
    | (go_at_call 10; refine HO1.mono ?_; intro e w2 hop; obtain ⟨q, b2, rb2, rfl, hq, hW2, hK2⟩ := op_ok hop; clear hop HO1))
  obtain ⟨hlo2, hbl2, hrl2⟩ := wch_low hW2 hw1.size (by have := hw1.size; omega) (Nat.le_refl _) (fun k e => by cases e) (fun k e => by cases e)
  have hB2 := hw1.trans hlo2
  have hG2 := hG.below hB2
  have hPy1 := py_reset ⟨10, 0, [], [], 0, 0⟩ [] [] (by show 0 < 99; omega)
  change Py ⟨10, 1, [], [], 0, 0⟩ [(baseN 1, frs [[]] ++ frs [])] [] [] at hPy1
  have hu1 : usedP [(baseN 1, frs [[]] ++ frs [])] ≤ 100 := by
    have e2 : frs [] = [] := rfl
    rw [e2, frs_one]
    simp [usedP, frame_len]
  have hf1 : (frs [[97]]).length ≤ 100 := by rw [frs_one]; simp [frame_len]
  obtain ⟨ls2, hPy2, hfl2⟩ := py_add hPy1 [[97]] (fun x hx => by rw [List.mem_singleton.1 hx]; decide) (by simp)
  have hu2 := used_addP (L := ⟨10, 1, [], [], 0, 0⟩) hPy1.ld.ris [[97]]
  have hB3 : Below w2.heap.size w2 (w2.alloc (.cells #[.string ⟨#[97]⟩] 9)) := (Below.refl _ _).alloc (Nat.le_refl _) _
  have hTA : TA (w2.alloc (.cells #[.string ⟨#[97]⟩] 9)) (some ⟨w2.heap.size, 0, none⟩) [[97]] := ⟨.inr ⟨w2.heap.size, 0, #[.string ⟨#[97]⟩], (0, 0), rfl, (Blk.new _ _ _).out, fun j x hx => by
    match j, hx with
    | 0, hx => simp at hx; subst hx; rfl
    | j + 1, hx => simp at hx⟩⟩
  have HA := add_py hPy1 q w.heap.size b2 rb2 0 ch1 [[97]] (some ⟨w2.heap.size, 0, none⟩) 1 _ (hK2.below hB3) (hG2.below hB3) hTA (fun a e e2 => by cases e; have := hK2.rlt _ e2.symm; simp at this) (by omega) (by omega) (by omega) (by decide)
  have hrec2 : (addL ⟨10, 1, [], [], 0, 0⟩ [[97]]).recs = [[97]] := rfl
  have hmost2 : (addL ⟨10, 1, [], [], 0, 0⟩ [[97]]).most = 10 := rfl
  generalize hL2 : addL ⟨10, 1, [], [], 0, 0⟩ [[97]] = L2 at *
  generalize hP2 : addP ⟨10, 1, [], [], 0, 0⟩ [(baseN 1, frs [[]] ++ frs [])] [[97]] = P2 at *
  have hB2a := hB2.trans (hB3.mono hB2.size)
  have hok2 := py_okn hPy2 0 (ch1 + 1) (by omega) (by omega)
  go_wp2_with (first
    | (go_at_call 16; refine HA.mono ?_; rintro e w4 ⟨rfl, b4, rb4, hW4, hK4⟩; clear HA; have hK4 : WK w4 q w.heap.size b4 rb4 L2 (cm P2 0 (ch1 + 1)) := hK4; obtain ⟨hlo4, hbl4, hrl4⟩ := wch_low hW4 hB2a.size (Nat.le_trans hw1.size hq) (Nat.le_refl _) hbl2 hrl2; have hB4 := hB2a.trans hlo4; obtain ⟨rv4, _, _, hD4⟩ := hK4.out; have HCr := crashD w.heap.size b4 (cm P2 0 (ch1 + 1)) 0 0 w4 hD4 hok2 rfl rfl)
    | (go_at_call 14; refine HCr.mono ?_; rintro e w5 ⟨rfl, b5, hC5, hD5⟩; clear HCr; obtain ⟨hlo5, hbl5, _⟩ := wch_low (Wch.chg (q := w.heap.size) (rb := none) hC5) hB4.size (Nat.le_refl _) (Nat.le_refl _) hbl4 (fun k e => by cases e); have hB5 := hB4.trans hlo5; have HUp := upD w.heap.size b5 _ w5 hD5 rfl)
    | (go_at_call 15; refine HUp.mono ?_; rintro e w6 ⟨rfl, hC6, hD6⟩; clear HUp; obtain ⟨hlo6, _, _⟩ := wch_low (Wch.chg (q := w.heap.size) (rb := none) hC6) hB5.size (Nat.le_refl _) (Nat.le_refl _) hbl5 (fun k e => by cases e); have hB6 := hB5.trans hlo6; have HO2 := awk_open hPy2 hmost2 w.heap.size b5 (ch1 + 1) w6 hD6 h2g (fun k e => Nat.le_trans h2g (hbl5 k e)) (hG.below hB6) (by omega) (by omega) (by rw [hrec2]; decide))
    | (go_at_call 10; refine HO2.mono ?_; intro e w7 hop; obtain ⟨q7, b7, rb7, rfl, hq7, hW7, hK7⟩ := op_ok hop; clear hop HO2; obtain ⟨hlo7, _, _⟩ := wch_low hW7 hB6.size (Nat.le_trans hB6.size hq7) (Nat.le_refl _) hbl5 (fun k e => by cases e); have hB7 := hB6.trans hlo7; have HLn := lenL_log q7 w.heap.size b7 rb7 L2 _ w7 hK7; have HAl := allL_log q7 w.heap.size b7 rb7 L2 _ w7 hK7 (by rw [hrec2]; decide); rw [hrec2] at HLn HAl)
    | (go_at_call 18; refine HLn.mono ?_; rintro e wx ⟨rfl, hwx⟩; have hwx2 := hwx.symm; subst hwx2; clear hwx HLn)
    | (go_at_call 20; refine HAl.mono ?_; rintro e w8 ⟨v8, rb8, rfl, hw8, hT8, _⟩; clear HAl; obtain ⟨g8, o8, c8, rfl, hc8⟩ := ts_one hT8; have hB8 := hB7.trans (hw8.mono hB7.size)))
  go_ret
  exact ⟨rfl, hB8⟩
end Go.Proofs.YtaiiojbakmminaaGreatDoor
namespace Go.Proofs.YtaiiojbakmminaaGreatDoor
open Go Go.RowKit
set_option maxRecDepth 100000 in
set_option maxHeartbeats 1000000 in
theorem same_true (l : List B) (a1 a2 : Option Addr) (c1 c2 : Nat) (w : World) (h1 : TA w a1 l) (h2 : TA w a2 l) (hl : l.length ≤ 1000000) :
    Calls Tryz.prog 19 #[.slice a1 l.length c1, .slice a2 l.length c2] w fun e w' => e = .returned (.bool true) ∧ Below w.heap.size w w' := by
  go_enter Tryz.func19, Tryz.ntmps19
  go_wp2_with fail
  go_loopw [5] (fun v5 wl => ∃ i : Nat, i ≤ l.length ∧ v5 = .int .i64 i ∧ Below w.heap.size w wl) (fun v5 _ => l.length - (intOf v5).toNat)
  case atStart => exact ⟨0, by omega, rfl, Below.refl _ _⟩
  case round =>
    obtain ⟨i, hil, rfl, hB⟩ := hrel
    by_cases hlt : i < l.length
    · have hz2 : (i : Int) < (l.length : Int) := by omega
      obtain ⟨x, hx⟩ : ∃ x, l[i]? = some x := ⟨_, List.getElem?_eq_getElem hlt⟩
      obtain ⟨g1, o1, rfl, hg1, k1⟩ := h1.at i x hx
      obtain ⟨g2, o2, rfl, hg2, k2⟩ := h2.at i x hx
      have hc1 : wr.drew.cell? ⟨g1, o1 + i, none⟩ = some (.string ⟨x.toArray⟩) := (hB.cell (p := ⟨g1, o1 + i, none⟩) hg1).trans k1
      have hc2 : wr.drew.cell? ⟨g2, o2 + i, none⟩ = some (.string ⟨x.toArray⟩) := (hB.cell (p := ⟨g2, o2 + i, none⟩) hg2).trans k2
      have hBd := hB.drew
      have hw1 : IntKind.i64.wrap ((i : Int) + 1) = (i : Int) + 1 := by rw [IntKind.wrap_i64]; omega
      clear hx k1 k2
      go_wp2_with fail
      refine wp_region_held_drew (S := fun w' : World => w'.cell? ⟨g1, o1 + i, none⟩ = some (.string ⟨x.toArray⟩) ∧ w'.cell? ⟨g2, o2 + i, none⟩ = some (.string ⟨x.toArray⟩)) (by kernel_rfl) (⟨hc1, hc2⟩) (fun hH => ?_)
      try go_frame
      refine wpAnyH_take (i := 0) (oi := ⟨some 17, _, _, _, _, _⟩) (v := .slice (some ⟨g1, o1, none⟩) l.length c1) rfl (by kernel_rfl) (by kernel_rfl) (by kernel_rfl) (fun _ _ _ h => h) (Or.inl ⟨by rfl, fun w hSw => by go_simp⟩) hH ?_
      try simp only [Act.put, List.setIfInBounds_toArray, List.set_cons_zero, List.set_cons_succ]
      refine wpAnyH_take (i := 1) (oi := ⟨some 18, _, _, _, _, _⟩) (v := .int .i64 (i : Nat)) rfl (by kernel_rfl) (by kernel_rfl) (by kernel_rfl) (fun _ _ _ h => h) (Or.inl ⟨by rfl, fun w hSw => by go_simp⟩) hH ?_
      try simp only [Act.put, List.setIfInBounds_toArray, List.set_cons_zero, List.set_cons_succ]
      refine wpAnyH_take (i := 2) (oi := ⟨some 19, _, _, _, _, _⟩) (v := .pointer (some ⟨g1, o1 + i, none⟩)) rfl (by kernel_rfl) (by kernel_rfl) (by kernel_rfl) (fun _ _ _ h => h) (Or.inl ⟨by rfl, fun w hSw => by go_simp⟩) hH ?_
      try simp only [Act.put, List.setIfInBounds_toArray, List.set_cons_zero, List.set_cons_succ]
      refine wpAnyH_take (i := 3) (oi := ⟨some 20, _, _, _, _, _⟩) (v := .string ⟨x.toArray⟩) rfl (by kernel_rfl) (by kernel_rfl) (by kernel_rfl) (fun _ _ _ h => h) (Or.inl ⟨by rfl, fun w hSw => run_loadC _ _ rfl _ _ rfl _ Tryz.underlying9 rfl _ hSw.1⟩) hH ?_
      try simp only [Act.put, List.setIfInBounds_toArray, List.set_cons_zero, List.set_cons_succ]
      refine wpAnyH_take (i := 4) (oi := ⟨some 21, _, _, _, _, _⟩) (v := .slice (some ⟨g2, o2, none⟩) l.length c2) rfl (by kernel_rfl) (by kernel_rfl) (by kernel_rfl) (fun _ _ _ h => h) (Or.inl ⟨by rfl, fun w hSw => by go_simp⟩) hH ?_
      try simp only [Act.put, List.setIfInBounds_toArray, List.set_cons_zero, List.set_cons_succ]
      refine wpAnyH_take (i := 5) (oi := ⟨some 22, _, _, _, _, _⟩) (v := .int .i64 (i : Nat)) rfl (by kernel_rfl) (by kernel_rfl) (by kernel_rfl) (fun _ _ _ h => h) (Or.inl ⟨by rfl, fun w hSw => by go_simp⟩) hH ?_
      try simp only [Act.put, List.setIfInBounds_toArray, List.set_cons_zero, List.set_cons_succ]
      refine wpAnyH_take (i := 6) (oi := ⟨some 23, _, _, _, _, _⟩) (v := .pointer (some ⟨g2, o2 + i, none⟩)) rfl (by kernel_rfl) (by kernel_rfl) (by kernel_rfl) (fun _ _ _ h => h) (Or.inl ⟨by rfl, fun w hSw => by go_simp⟩) hH ?_
      try simp only [Act.put, List.setIfInBounds_toArray, List.set_cons_zero, List.set_cons_succ]
      refine wpAnyH_take (i := 7) (oi := ⟨some 24, _, _, _, _, _⟩) (v := .string ⟨x.toArray⟩) rfl (by kernel_rfl) (by kernel_rfl) (by kernel_rfl) (fun _ _ _ h => h) (Or.inl ⟨by rfl, fun w hSw => run_loadC _ _ rfl _ _ rfl _ Tryz.underlying9 rfl _ hSw.2⟩) hH ?_
      try simp only [Act.put, List.setIfInBounds_toArray, List.set_cons_zero, List.set_cons_succ]
      refine wpAnyH_take (i := 8) (oi := ⟨some 25, _, _, _, _, _⟩) (v := .bool false) rfl (by kernel_rfl) (by kernel_rfl) (by kernel_rfl) (fun _ _ _ h => h) (Or.inl ⟨by rfl, fun w hSw => by go_simp⟩) hH ?_
      try simp only [Act.put, List.setIfInBounds_toArray, List.set_cons_zero, List.set_cons_succ]
      refine wpAnyH_done (by kernel_rfl) ?_ _
      try simp only [Act.put]
      try go_simp
      go_wp2_with fail
      go_roundw
      case rel => exact ⟨i + 1, by omega, by go_num, hBd⟩
      case measure => simp [intOf]; omega
    · have hz2 : ¬ (i : Int) < (l.length : Int) := by omega
      go_wp2_with fail
      go_ret
      exact ⟨rfl, hB⟩
end Go.Proofs.YtaiiojbakmminaaGreatDoor
namespace Go.Proofs.YtaiiojbakmminaaGreatDoor
open Go Go.RowKit
def c200 (x : B) : B := x.take 200
def cutL (l : List B) : List B := (l.take 6).map c200
theorem take_snoc {l : List B} {i : Nat} {x : B} (h : l[i]? = some x) : l.take (i + 1) = l.take i ++ [x] := by
  obtain ⟨hi, rfl⟩ := List.getElem?_eq_some_iff.1 h
  exact List.take_succ_eq_append_getElem hi
theorem ta_one (w : World) (y : B) : TA (w.alloc (.cells #[.string ⟨y.toArray⟩] 9)) (some ⟨w.heap.size, 0, none⟩) [y] := ⟨.inr ⟨w.heap.size, 0, #[.string ⟨y.toArray⟩], (0, 0), rfl, (Blk.new _ _ _).out, fun j x hx => by
  match j, hx with
  | 0, hx => simp at hx; subst hx; rfl
  | j + 1, hx => simp at hx⟩⟩
/-- Texts that can be read cell by cell: an argument's. -/
structure XA (w : World) (a : Option Addr) (l : List B) : Prop where
  out : ∀ j x, l[j]? = some x → ∃ g o, a = some ⟨g, o, none⟩ ∧ w.cell? ⟨g, o + j, none⟩ = some (sv x)
theorem XA.at {w : World} {a : Option Addr} {l : List B} (h : XA w a l) (j : Nat) (x : B) (hx : l[j]? = some x) : ∃ g o, a = some ⟨g, o, none⟩ ∧ g < w.heap.size ∧ w.cell? ⟨g, o + j, none⟩ = some (sv x) := by
  obtain ⟨g, o, h1, h2⟩ := h.out j x hx
  exact ⟨g, o, h1, World.block_lt_of_cell? w ⟨g, o + j, none⟩ h2, h2⟩
theorem XA.below {w w' : World} {a : Option Addr} {l : List B} (h : XA w a l) (hb : Below w.heap.size w w') : XA w' a l := ⟨fun j x hx => by
  obtain ⟨g, o, h1, h2, h3⟩ := h.at j x hx
  exact ⟨g, o, h1, (hb.cell (p := ⟨g, o + j, none⟩) h2).trans h3⟩⟩
theorem XA.take {w : World} {a : Option Addr} {l : List B} (h : XA w a l) (n : Nat) : XA w a (l.take n) := ⟨fun j x hx => h.out j x (by rw [List.getElem?_take] at hx; split at hx; exact hx; cases hx)⟩
set_option maxRecDepth 100000 in
set_option maxHeartbeats 1000000 in
theorem cut_any (l : List B) (ad : Option Addr) (cap : Nat) (w : World) (hT : XA w ad l) (hcap : l.length ≤ cap) :
    Calls Tryz.prog 13 #[.slice ad l.length cap] w fun e w' => ∃ v rb, e = .returned v ∧ Below w.heap.size w w' ∧ TS w' v rb (cutL l) ∧ ∀ k, rb = some k → w.heap.size ≤ k := by
  have hB0 : Below w.heap.size w (w.alloc (.cells #[] 9)) := (Below.refl _ _).alloc (Nat.le_refl _) _
  have hT0 : TS (w.alloc (.cells #[] 9)) (.slice (some ⟨w.heap.size, 0, none⟩) 0 0) (some w.heap.size) [] := ⟨.inr ⟨w.heap.size, 0, 0, #[], rfl, rfl, (Blk.new _ _ _).out, by simp, by simp, fun j x hx => by simp at hx⟩⟩
  go_enter Tryz.func13, Tryz.ntmps13
  by_cases h6 : 6 < l.length
  · have hz6 : (6 : Int) < (l.length : Int) := by omega
    have hc6 : ¬ cap < 6 := by omega
    have hT' : XA w ad (l.take 6) := hT.take 6
    have hcut : Hid (cutL l = (l.take 6).map c200) := rfl
    go_wp2_with fail
    go_loopw [3, 4, 5] (fun v3 v4 _ wl => ∃ (i : Nat) (v : Value) (rbi : Option Nat), i ≤ (l.take 6).length ∧ v4 = .int .i64 i ∧ v = v3 ∧ TS wl v rbi (((l.take 6).take i).map c200) ∧ (∀ k, rbi = some k → w.heap.size ≤ k) ∧ Below w.heap.size w wl) (fun _ v4 _ _ => (l.take 6).length - (intOf v4).toNat)
    case atStart => exact ⟨0, _, some w.heap.size, by omega, rfl, rfl, by simpa using hT0, fun k e => by cases e; exact Nat.le_refl _, hB0⟩
    case round =>
      obtain ⟨i, v, rbi, hil, rfl, rfl, hTi, hri, hB⟩ := hrel
      have hlen6 : (l.take 6).length = 6 := by first | rfl | (rw [List.length_take]; omega)
      by_cases hlt : i < (l.take 6).length
      · have hz2 : (i : Int) < (6 : Int) := by omega
        obtain ⟨x, hx⟩ : ∃ x, (l.take 6)[i]? = some x := ⟨_, List.getElem?_eq_getElem hlt⟩
        obtain ⟨g, o, rfl, hgl, hc⟩ := hT'.at i x hx
        have hc2 : wr.cell? ⟨g, o + i, none⟩ = some (.string ⟨x.toArray⟩) := (hB.cell (p := ⟨g, o + i, none⟩) hgl).trans hc
        have e3 : Hid (((l.take 6).take (i + 1)).map c200 = ((l.take 6).take i).map c200 ++ [c200 x]) := by
          show _ = _
          rw [take_snoc hx, List.map_append]
          rfl
        have hfew : (((l.take 6).take i).map c200).length + [c200 x].length ≤ 1000000 := by simp; omega
        have hBa0 : ∀ y : B, Below wr.heap.size wr (wr.alloc (.cells #[.string ⟨y.toArray⟩] 9)) := fun y => (Below.refl _ _).alloc (Nat.le_refl _) _
        have hTA0 : ∀ y : B, TA (wr.alloc (.cells #[.string ⟨y.toArray⟩] 9)) (some ⟨wr.heap.size, 0, none⟩) [y] := ta_one wr
        by_cases h200 : 200 < x.length
        · have hz3 : (200 : Int) < (x.length : Int) := by omega
          have hex : (ByteArray.mk x.toArray).extract 0 200 = ⟨(c200 x).toArray⟩ := kextract_take x 200
          have hBa := hB.trans ((hBa0 (c200 x)).mono hB.size)
          have hTA := hTA0 (c200 x)
          have hTi2 := hTi.below (hBa0 (c200 x))
          go_wp2_with (with_reducible refine at_list ?_; refine wpList_appTS (op := ⟨some 30, _, _, _, _, _⟩) rfl _ _ rfl v rbi _ hTi2 rfl (some ⟨wr.heap.size, 0, none⟩) 1 [c200 x] hTA rfl hfew ?_; intro w4 v4 rb4 hg4 hn4 hT4)
          refine ⟨⟨i + 1, v4, rb4, by omega, by go_num, rfl, by rw [e3.out]; exact hT4, fun k e => ?_, ?_⟩, by simp [intOf]; omega⟩
          · rcases hn4 k e with h5 | h5
            · exact hri k h5
            · have := hBa.size; omega
          · exact ⟨hg4.os.trans hBa.os, hg4.tape.trans hBa.tape, hg4.output.trans hBa.output, Nat.le_trans hBa.size hg4.size, fun k hk => (hg4.block k (Nat.lt_of_lt_of_le hk hBa.size) (fun e => by have := hri k e.symm; omega)).trans (hBa.block k hk)⟩
        · have hz3 : ¬ (200 : Int) < (x.length : Int) := by omega
          have e4 : c200 x = x := List.take_of_length_le (by omega)
          rw [e4] at e3 hfew
          clear e4
          have hBa := hB.trans ((hBa0 (x)).mono hB.size)
          have hTA := hTA0 (x)
          have hTi2 := hTi.below (hBa0 (x))
          go_wp2_with (with_reducible refine at_list ?_; refine wpList_appTS (op := ⟨some 30, _, _, _, _, _⟩) rfl _ _ rfl v rbi _ hTi2 rfl (some ⟨wr.heap.size, 0, none⟩) 1 [x] hTA rfl hfew ?_; intro w4 v4 rb4 hg4 hn4 hT4)
          refine ⟨⟨i + 1, v4, rb4, by omega, by go_num, rfl, by rw [e3.out]; exact hT4, fun k e => ?_, ?_⟩, by simp [intOf]; omega⟩
          · rcases hn4 k e with h5 | h5
            · exact hri k h5
            · have := hBa.size; omega
          · exact ⟨hg4.os.trans hBa.os, hg4.tape.trans hBa.tape, hg4.output.trans hBa.output, Nat.le_trans hBa.size hg4.size, fun k hk => (hg4.block k (Nat.lt_of_lt_of_le hk hBa.size) (fun e => by have := hri k e.symm; omega)).trans (hBa.block k hk)⟩
      · have hz2 : ¬ (i : Int) < (6 : Int) := by omega
        have hin2 : (l.take 6).take i = l.take 6 := List.take_of_length_le (by omega)
        rw [hin2] at hTi
        go_wp2_with fail
        go_ret
        first | exact ⟨_, rbi, rfl, hB, by rw [hcut.out]; exact hTi, hri⟩ | exact ⟨_, rfl, hB, rbi, by rw [hcut.out]; exact hTi, hri⟩
  · have hz6 : ¬ (6 : Int) < (l.length : Int) := by omega
    have hT' := hT
    have hcut : Hid (cutL l = l.map c200) := by show _ = _; unfold cutL; rw [List.take_of_length_le (by omega)]
    go_wp2_with fail
    go_loopw [3, 4, 5] (fun v3 v4 _ wl => ∃ (i : Nat) (v : Value) (rbi : Option Nat), i ≤ (l).length ∧ v4 = .int .i64 i ∧ v = v3 ∧ TS wl v rbi (((l).take i).map c200) ∧ (∀ k, rbi = some k → w.heap.size ≤ k) ∧ Below w.heap.size w wl) (fun _ v4 _ _ => (l).length - (intOf v4).toNat)
    case atStart => exact ⟨0, _, some w.heap.size, by omega, rfl, rfl, by simpa using hT0, fun k e => by cases e; exact Nat.le_refl _, hB0⟩
    case round =>
      obtain ⟨i, v, rbi, hil, rfl, rfl, hTi, hri, hB⟩ := hrel
      have hlen6 : (l).length = l.length := by first | rfl | (rw [List.length_take]; omega)
      by_cases hlt : i < (l).length
      · have hz2 : (i : Int) < (l.length : Int) := by omega
        obtain ⟨x, hx⟩ : ∃ x, (l)[i]? = some x := ⟨_, List.getElem?_eq_getElem hlt⟩
        obtain ⟨g, o, rfl, hgl, hc⟩ := hT'.at i x hx
        have hc2 : wr.cell? ⟨g, o + i, none⟩ = some (.string ⟨x.toArray⟩) := (hB.cell (p := ⟨g, o + i, none⟩) hgl).trans hc
        have e3 : Hid (((l).take (i + 1)).map c200 = ((l).take i).map c200 ++ [c200 x]) := by
          show _ = _
          rw [take_snoc hx, List.map_append]
          rfl
        have hfew : (((l).take i).map c200).length + [c200 x].length ≤ 1000000 := by simp; omega
        have hBa0 : ∀ y : B, Below wr.heap.size wr (wr.alloc (.cells #[.string ⟨y.toArray⟩] 9)) := fun y => (Below.refl _ _).alloc (Nat.le_refl _) _
        have hTA0 : ∀ y : B, TA (wr.alloc (.cells #[.string ⟨y.toArray⟩] 9)) (some ⟨wr.heap.size, 0, none⟩) [y] := ta_one wr
        by_cases h200 : 200 < x.length
        · have hz3 : (200 : Int) < (x.length : Int) := by omega
          have hex : (ByteArray.mk x.toArray).extract 0 200 = ⟨(c200 x).toArray⟩ := kextract_take x 200
          have hBa := hB.trans ((hBa0 (c200 x)).mono hB.size)
          have hTA := hTA0 (c200 x)
          have hTi2 := hTi.below (hBa0 (c200 x))
          go_wp2_with (with_reducible refine at_list ?_; refine wpList_appTS (op := ⟨some 30, _, _, _, _, _⟩) rfl _ _ rfl v rbi _ hTi2 rfl (some ⟨wr.heap.size, 0, none⟩) 1 [c200 x] hTA rfl hfew ?_; intro w4 v4 rb4 hg4 hn4 hT4)
          refine ⟨⟨i + 1, v4, rb4, by omega, by go_num, rfl, by rw [e3.out]; exact hT4, fun k e => ?_, ?_⟩, by simp [intOf]; omega⟩
          · rcases hn4 k e with h5 | h5
            · exact hri k h5
            · have := hBa.size; omega
          · exact ⟨hg4.os.trans hBa.os, hg4.tape.trans hBa.tape, hg4.output.trans hBa.output, Nat.le_trans hBa.size hg4.size, fun k hk => (hg4.block k (Nat.lt_of_lt_of_le hk hBa.size) (fun e => by have := hri k e.symm; omega)).trans (hBa.block k hk)⟩
        · have hz3 : ¬ (200 : Int) < (x.length : Int) := by omega
          have e4 : c200 x = x := List.take_of_length_le (by omega)
          rw [e4] at e3 hfew
          clear e4
          have hBa := hB.trans ((hBa0 (x)).mono hB.size)
          have hTA := hTA0 (x)
          have hTi2 := hTi.below (hBa0 (x))
          go_wp2_with (with_reducible refine at_list ?_; refine wpList_appTS (op := ⟨some 30, _, _, _, _, _⟩) rfl _ _ rfl v rbi _ hTi2 rfl (some ⟨wr.heap.size, 0, none⟩) 1 [x] hTA rfl hfew ?_; intro w4 v4 rb4 hg4 hn4 hT4)
          refine ⟨⟨i + 1, v4, rb4, by omega, by go_num, rfl, by rw [e3.out]; exact hT4, fun k e => ?_, ?_⟩, by simp [intOf]; omega⟩
          · rcases hn4 k e with h5 | h5
            · exact hri k h5
            · have := hBa.size; omega
          · exact ⟨hg4.os.trans hBa.os, hg4.tape.trans hBa.tape, hg4.output.trans hBa.output, Nat.le_trans hBa.size hg4.size, fun k hk => (hg4.block k (Nat.lt_of_lt_of_le hk hBa.size) (fun e => by have := hri k e.symm; omega)).trans (hBa.block k hk)⟩
      · have hz2 : ¬ (i : Int) < (l.length : Int) := by omega
        have hin2 : (l).take i = l := List.take_of_length_le (by omega)
        rw [hin2] at hTi
        go_wp2_with fail
        go_ret
        first | exact ⟨_, rbi, rfl, hB, by rw [hcut.out]; exact hTi, hri⟩ | exact ⟨_, rfl, hB, rbi, by rw [hcut.out]; exact hTi, hri⟩
end Go.Proofs.YtaiiojbakmminaaGreatDoor
namespace Go.Proofs.YtaiiojbakmminaaGreatDoor
open Go Go.RowKit
/-- A block of texts. -/
def SB (w : World) (i : Nat) : Prop := ∃ c fr, w.heap[i]? = some (.cells c 9 fr)
theorem TS.sb {w : World} {v : Value} {b : Option Nat} {l : List B} (h : TS w v b l) : ∀ i, b = some i → SB w i := fun i e => by
  rcases h.out with ⟨_, hb, _⟩ | ⟨g, o, cap, cur, _, hb, hg, _⟩
  · rw [hb] at e; cases e
  · rw [hb] at e
    cases e
    exact ⟨_, _, hg⟩
end Go.Proofs.YtaiiojbakmminaaGreatDoor
namespace Go.Proofs.YtaiiojbakmminaaGreatDoor
open Go Go.RowKit
/-- Only one generation's files, taken for any that are there. -/
theorem dx_part {P P' : PP} {g : Nat} {bt : B} {txs : List B} (h : Dx P g bt txs) (h' : RisP P') (hn : ∀ n, getP n P' = getP n P ∨ (getP n P' = none ∧ othK g n = true)) : Dx P' g bt txs := by
  have h2 := h.g2
  have h3 := h.n
  have keep : ∀ n s, getP n P = some s → othK g n = false → getP n P' = some s := fun n s e e2 => by
    rcases hn n with h4 | ⟨_, h4⟩
    · rw [h4, e]
    · rw [e2] at h4; cases h4
  have e := part_filter h.ris h' fun n => (hn n).imp_right And.left
  refine ⟨h', h.g1, h.g2, h.n, keep _ _ h.base ?_, fun i t ht => keep _ _ (h.seg i t ht) ?_, fun x hx => ?_, ?_⟩
  · rw [oth_base h2 h2]; simp
  · rw [oth_seg h2 h2]; simp
  · rw [e] at hx
    exact h.only x (List.mem_filter.1 hx).1
  · rw [e]
    exact Nat.le_trans (List.length_filter_le ..) h.len
end Go.Proofs.YtaiiojbakmminaaGreatDoor
