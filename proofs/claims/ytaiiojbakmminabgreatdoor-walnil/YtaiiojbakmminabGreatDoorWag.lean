/- What awake of the law does: a record is there behind a crash. What cut of the law gives. The arguments of the statements, out of what their rows list of them. -/
import Derived.Test.YtaiiojbakmminabGreatDoorWpp
import Derived.Test.YtaiiojbakmminabGreatDoorWGlb
namespace Go.Proofs.YtaiiojbakmminabGreatDoor
open Go Go.RowKit
theorem op_ok {w w' : World} {p : Nat} {b : Option Nat} {L : LG} {m : DN} {t : Int} {e : Ending} (h : OpP w p b (L, (m, 0)) t e w') : ∃ q b' rb', e = .returned (.tuple #[.pointer (some ⟨q, 0, none⟩), .int .i64 t, .int .i64 0]) ∧ w.heap.size ≤ q ∧ Wch w w' q p b none b' rb' ∧ WK w' q p b' rb' L m := by
  obtain ⟨q, b', rb', h1, h2, h3, h4⟩ := h
  exact ⟨q, b', rb', by simpa using h1, h2, h3, h4⟩
theorem wch_low {n : Nat} {w w' : World} {q p : Nat} {b rb b' rb' : Option Nat} (h : Wch w w' q p b rb b' rb') (hn : n ≤ w.heap.size) (hq : n ≤ q) (hp : n ≤ p) (hb : ∀ k, b = some k → n ≤ k) (hr : ∀ k, rb = some k → n ≤ k) : Below n w w' ∧ (∀ k, b' = some k → n ≤ k) ∧ (∀ k, rb' = some k → n ≤ k) :=
  ⟨⟨h.os, h.tape, h.output, h.size, fun k hk => h.block k (by omega) (by omega) (by omega) (fun e => by have := hb k e.symm; omega) (fun e => by have := hr k e.symm; omega)⟩, fun k e => by rcases h.newb k e with h1 | h1; exact hb k h1; omega, fun k e => by rcases h.newr k e with h1 | h1; exact hr k h1; omega⟩
theorem ts_one {w : World} {v : Value} {b : Option Nat} {x : B} (h : TS w v b [x]) : ∃ g o cap, v = .slice (some ⟨g, o, none⟩) 1 cap ∧ w.cell? ⟨g, o, none⟩ = some (.string ⟨x.toArray⟩) := by
  obtain ⟨a, cap, rfl, h1, _⟩ := h.sl
  obtain ⟨g, o, rfl, h2⟩ := h1 0 x rfl
  exact ⟨g, o, cap, rfl, h2⟩
theorem awk_open {L : LG} {P : PP} {lb : List B} {ls : List (List B)} (h : Py L P lb ls) (hz : L.most = 10) (p : Nat) (b : Option Nat) (ch : Nat) (w : World) (hD : DD w p b { { cm P 0 ch with dead := true, l := settleL (failL 0 0 (cm P 0 ch).l) } with dead := false }) (hp : 2 ≤ p) (hb2 : ∀ k, b = some k → 2 ≤ k) (hG : Gw w) (hu : usedP P ≤ 4000000) (hc : ch ≤ 900000) (hr : L.recs.length ≤ 400000) :
    Calls Tryz.prog 4 #[.pointer (some ⟨p, 0, none⟩), .int .i64 10] w (OpP w p b (L, (cm P 0 ch, 0)) 0) := by
  have e : ({ { cm P 0 ch with dead := true, l := settleL (failL 0 0 (cm P 0 ch).l) } with dead := false } : DN) = cm P 0 ch := by
    show (⟨settleL (failL 0 0 (mk P)), false, false, 0, ch, none⟩ : DN) = _
    rw [fail_mk]
    rfl
  rw [e] at hD
  have := open_py h p b 0 ch (by omega) w hD hp hb2 hG hu hc hr
  rw [hz] at this
  exact this
set_option maxRecDepth 100000 in
set_option maxHeartbeats 2000000 in
theorem awakeW (w : World) (hG : Gw w) : Calls Tryz.prog 7 #[] w fun e w' => e = .returned (.bool true) ∧ Below w.heap.size w w' := by
  have h2g := hG.two
  have HN := newD w
  go_enter Tryz.func7, Tryz.ntmps7
  go_upto_region 3 with (first
    | (go_at_call 5; refine HN.mono ?_; rintro e w1 ⟨rfl, hw1, hD1⟩; obtain ⟨ch1, hch1, HO1⟩ := open_new w.heap.size 10 (by omega) w1 hD1 h2g (hG.below hw1))
    | (go_at_call 4; refine HO1.mono ?_; intro e w2 hop; obtain ⟨q, b2, rb2, rfl, hq, hW2, hK2⟩ := op_ok hop; clear hop HO1))
  obtain ⟨hlo2, hbl2, hrl2⟩ := wch_low hW2 hw1.size (by have := hw1.size; omega) (Nat.le_refl _) (fun k e => by cases e) (fun k e => by cases e)
  have hB2 := hw1.trans hlo2
  have hG2 := hG.below hB2
  have hPy1 := py_reset ⟨10, 0, [], [], 0, 0⟩ [] [] (by show 0 < 99; omega)
  change Py ⟨10, 1, [], [], 0, 0⟩ [(baseN 1, frs [[]] ++ frs [])] [] [] at hPy1
  have hu1 : usedP [(baseN 1, frs [[]] ++ frs [])] ≤ 100 := by
    have e2 : frs [] = [] := rfl
    rw [e2, frs_one]
    simp [usedP, frame_len]
  have hf1 : (frs [[97]]).length ≤ 100 := by rw [frs_one]; simp [frame_len]
  obtain ⟨ls2, hPy2, hfl2⟩ := py_add hPy1 [[97]] (fun x hx => by rw [List.mem_singleton.1 hx]; decide) (by simp)
  have hu2 := used_addP (L := ⟨10, 1, [], [], 0, 0⟩) hPy1.ld.ris [[97]]
  have hB3 : Below w2.heap.size w2 (w2.alloc (.cells #[.string ⟨#[97]⟩] 9)) := (Below.refl _ _).alloc (Nat.le_refl _) _
  have hTA : TA (w2.alloc (.cells #[.string ⟨#[97]⟩] 9)) (some ⟨w2.heap.size, 0, none⟩) [[97]] := ⟨.inr ⟨w2.heap.size, 0, #[.string ⟨#[97]⟩], (0, 0), rfl, (Blk.new _ _ _).out, fun j x hx => by
    match j, hx with
    | 0, hx => simp at hx; subst hx; rfl
    | j + 1, hx => simp at hx⟩⟩
  have HA := add_py hPy1 q w.heap.size b2 rb2 0 ch1 [[97]] (some ⟨w2.heap.size, 0, none⟩) 1 _ (hK2.below hB3) (hG2.below hB3) hTA (fun a e e2 => by cases e; have := hK2.rlt _ e2.symm; simp at this) (by omega) (by omega) (by omega) (by decide)
  have hrec2 : (addL ⟨10, 1, [], [], 0, 0⟩ [[97]]).recs = [[97]] := rfl
  have hmost2 : (addL ⟨10, 1, [], [], 0, 0⟩ [[97]]).most = 10 := rfl
  generalize hL2 : addL ⟨10, 1, [], [], 0, 0⟩ [[97]] = L2 at *
  generalize hP2 : addP ⟨10, 1, [], [], 0, 0⟩ [(baseN 1, frs [[]] ++ frs [])] [[97]] = P2 at *
  have hB2a := hB2.trans (hB3.mono hB2.size)
  have hok2 := py_okn hPy2 0 (ch1 + 1) (by omega) (by omega)
  go_wp2_with (first
    | (go_at_call 8; refine HA.mono ?_; rintro e w4 ⟨rfl, b4, rb4, hW4, hK4⟩; clear HA; have hK4 : WK w4 q w.heap.size b4 rb4 L2 (cm P2 0 (ch1 + 1)) := hK4; obtain ⟨hlo4, hbl4, hrl4⟩ := wch_low hW4 hB2a.size (Nat.le_trans hw1.size hq) (Nat.le_refl _) hbl2 hrl2; have hB4 := hB2a.trans hlo4; obtain ⟨rv4, _, _, hD4⟩ := hK4.out; have HCr := crashD w.heap.size b4 (cm P2 0 (ch1 + 1)) 0 0 w4 hD4 hok2 rfl rfl)
    | (go_at_call 6; refine HCr.mono ?_; rintro e w5 ⟨rfl, b5, hC5, hD5⟩; clear HCr; obtain ⟨hlo5, hbl5, _⟩ := wch_low (Wch.chg (q := w.heap.size) (rb := none) hC5) hB4.size (Nat.le_refl _) (Nat.le_refl _) hbl4 (fun k e => by cases e); have hB5 := hB4.trans hlo5; have HUp := upD w.heap.size b5 _ w5 hD5 rfl)
    | (go_at_call 20; refine HUp.mono ?_; rintro e w6 ⟨rfl, hC6, hD6⟩; clear HUp; obtain ⟨hlo6, _, _⟩ := wch_low (Wch.chg (q := w.heap.size) (rb := none) hC6) hB5.size (Nat.le_refl _) (Nat.le_refl _) hbl5 (fun k e => by cases e); have hB6 := hB5.trans hlo6; have HO2 := awk_open hPy2 hmost2 w.heap.size b5 (ch1 + 1) w6 hD6 h2g (fun k e => Nat.le_trans h2g (hbl5 k e)) (hG.below hB6) (by omega) (by omega) (by rw [hrec2]; decide))
    | (go_at_call 4; refine HO2.mono ?_; intro e w7 hop; obtain ⟨q7, b7, rb7, rfl, hq7, hW7, hK7⟩ := op_ok hop; clear hop HO2; obtain ⟨hlo7, _, _⟩ := wch_low hW7 hB6.size (Nat.le_trans hB6.size hq7) (Nat.le_refl _) hbl5 (fun k e => by cases e); have hB7 := hB6.trans hlo7; have HLn := lenL_log q7 w.heap.size b7 rb7 L2 _ w7 hK7; have HAl := allL_log q7 w.heap.size b7 rb7 L2 _ w7 hK7 (by rw [hrec2]; decide); rw [hrec2] at HLn HAl)
    | (go_at_call 12; refine HLn.mono ?_; rintro e wx ⟨rfl, hwx⟩; have hwx2 := hwx.symm; subst hwx2; clear hwx HLn)
    | (go_at_call 11; refine HAl.mono ?_; rintro e w8 ⟨v8, rb8, rfl, hw8, hT8, _⟩; clear HAl; obtain ⟨g8, o8, c8, rfl, hc8⟩ := ts_one hT8; have hB8 := hB7.trans (hw8.mono hB7.size)))
  go_ret
  exact ⟨rfl, hB8⟩
end Go.Proofs.YtaiiojbakmminabGreatDoor
namespace Go.Proofs.YtaiiojbakmminabGreatDoor
open Go Go.RowKit
/-- Texts that can be read cell by cell: an argument's. -/
structure XA (w : World) (a : Option Addr) (l : List B) : Prop where
  out : ∀ j x, l[j]? = some x → ∃ g o, a = some ⟨g, o, none⟩ ∧ w.cell? ⟨g, o + j, none⟩ = some (sv x)
end Go.Proofs.YtaiiojbakmminabGreatDoor
namespace Go.Proofs.YtaiiojbakmminabGreatDoor
open Go Go.ChangeShapes Go.WideShapes Go.ChangeAt Go.WideMaps Go.WideElems Go.RowKit
theorem clStr : Tryz.prog.cellsOf 9 = 1 := by kernel_rfl
theorem strs_of {H : Type} {enc : TypeId × Value → H} {W : World} {a0 : Option Addr} {len0 cap0 : Nat} {d0 : DataW H} {p : List MemPlace} (h0 : DataW.Trod enc Tryz.prog W 0 (fun _ => true) true 22 (.slice a0 len0 cap0) d0 p) :
    ∃ l : List B, l.length = len0 ∧ l.length ≤ cap0 ∧ XA W a0 l := by
  obtain ⟨fuel, hf⟩ := h0
  rcases open_strings Tryz.underlying22 Tryz.underlying9 clStr hf with ⟨hcs, _⟩ | ⟨x, l, c, ss, hcs, _, hl, hm, hz, _, hcell, hws⟩
  · simp [Value.cells] at hcs
    obtain ⟨rfl, rfl, rfl⟩ := hcs
    exact ⟨[], rfl, Nat.le_refl _, ⟨fun j x hx => by simp at hx⟩⟩
  · simp [Value.cells] at hcs
    obtain ⟨rfl, rfl, rfl⟩ := hcs
    have hz' : ss.length = cap0 := by simpa using hz
    have hll : ((ss.take len0).map (fun s => s.data.toList)).length = len0 := by rw [List.length_map, List.length_take]; omega
    refine ⟨(ss.take len0).map (fun s => s.data.toList), hll, by omega, ⟨fun i y hy => ?_⟩⟩
    obtain ⟨hi, rfl⟩ := List.getElem?_eq_some_iff.1 hy
    have hi' : i < len0 := by omega
    obtain ⟨b, off, spot⟩ := x
    have hc := hcell 0 (by omega)
    have hspot : spot = none := by simpa [Addr.add] using World.cell?_spot hc
    subst hspot
    refine ⟨b, off, rfl, ?_⟩
    have := hcell i (by omega)
    rw [Addr.add_mid] at this
    rw [this, List.getD_eq_getElem?_getD, List.getElem?_eq_getElem (by omega)]
    simp [sv]
end Go.Proofs.YtaiiojbakmminabGreatDoor
