/- What WalFull tells: when there is no room nothing is changed, and what was there is there when it is opened again. -/
import Derived.Test.YtaiiojbakmminaaGreatDoorWrw
import Derived.Test.YtaiiojbakmminaaGreatDoorWpl
namespace Go.Proofs.YtaiiojbakmminaaGreatDoor
open Go Go.RowKit
def c100 (x : B) : B := x.take 100
/-- What WalFull knows behind n Adds of which the texts k were told. -/
structure FuI (w wl : World) (q p : Nat) (r : Int) (fb : Option Nat) (va : Value) (k : List B) (n : Nat) : Prop where
  out : ∃ L P ls ch, Py L P [] ls ∧ L.most = 30 ∧ L.recs = k ∧ L.segs ≤ n ∧ usedP P ≤ 1000 + n * 300 ∧ ch ≤ 10 + n ∧ Gs w wl q p L (fm P r ch) fb
  ts : TS wl va fb k
  low : ∀ i, fb = some i → w.heap.size ≤ i
  len : k.length ≤ n
theorem FuI.below {w wl wa : World} {q p : Nat} {r : Int} {fb : Option Nat} {va : Value} {k : List B} {n : Nat} (h : FuI w wl q p r fb va k n) (hb : Below wl.heap.size wl wa) : FuI w wa q p r fb va k n := by
  obtain ⟨L, P, ls, ch, h1, h2, h3, h4, h5, h6, h7⟩ := h.out
  exact ⟨⟨L, P, ls, ch, h1, h2, h3, h4, h5, h6, h7.below hb⟩, h.ts.below hb, h.low, h.len⟩
/-- Behind an Add that was told, before the law has put the text behind its own. -/
structure FuA (w wl : World) (q p : Nat) (r : Int) (fb : Option Nat) (va : Value) (k kr : List B) (n : Nat) : Prop where
  out : ∃ L P ls ch, Py L P [] ls ∧ L.most = 30 ∧ L.recs = kr ∧ L.segs ≤ n ∧ usedP P ≤ 1000 + n * 300 ∧ ch ≤ 10 + n ∧ Gs w wl q p L (fm P r ch) fb
  ts : TS wl va fb k
  low : ∀ i, fb = some i → w.heap.size ≤ i
set_option maxRecDepth 100000 in
theorem fu_add {w wl wa : World} {q p : Nat} {r : Int} {fb : Option Nat} {va : Value} {k : List B} {n : Nat} (h : FuI w wl q p r fb va k n) (hG : Gw w) (hB : Below wl.heap.size wl wa) (x : B) (hx : x.length ≤ 100) (hn : n ≤ 50) (hr : 0 ≤ r ∧ r ≤ 9223372036854775807) (hT : TA wa (some ⟨wl.heap.size, 0, none⟩) [x]) :
    Calls Tryz.prog 16 #[.pointer (some ⟨q, 0, none⟩), .slice (some ⟨wl.heap.size, 0, none⟩) 1 1] wa fun e w' => ∃ ok : Bool, e = .returned (.int .i64 (if ok = true then 0 else 111)) ∧ (ok = true → FuA w w' q p r fb va k (k ++ [x]) (n + 1)) ∧ (ok = false → FuI w w' q p r fb va k (n + 1)) := by
  obtain ⟨L, P, ls, ch, h1, h2, h3, h4, h5, h6, h7⟩ := h.out
  have hfx := frame_len x
  have hls := h1.segs
  have hkl := h.len
  have hf1 : (frs [x]).length ≤ 108 := by rw [frs_one, hfx]; omega
  refine (gs_addf h7 hG h1 hB [x] (some ⟨wl.heap.size, 0, none⟩) 1 hT (fun a e => by cases e; exact .inr (Nat.le_refl _)) (by omega) (by omega) (by omega) (by rw [h3]; simp; omega) hr).mono ?_
  rintro e w' ⟨ok, rfl, hGs, hKp⟩
  cases ok with
  | false =>
    simp only [Bool.false_eq_true, if_false] at hGs
    exact ⟨false, rfl, fun e => (by cases e), fun _ => ⟨⟨L, P, ls, ch, h1, h2, h3, by omega, by omega, by omega, hGs⟩, hKp.ts h.ts, h.low, by omega⟩⟩
  | true =>
    simp only [if_true] at hGs
    obtain ⟨ls', hpy', _⟩ := py_add h1 [x] (fun y hy => by rw [List.mem_singleton.1 hy]; omega) (by omega)
    have hus := used_addP (L := L) h1.ld.ris [x]
    refine ⟨true, rfl, fun _ => ⟨⟨addL L [x], addP L P [x], ls', ch + 1, hpy', h2, by rw [← h3]; rfl, ?_, by omega, by omega, hGs⟩, hKp.ts h.ts, h.low⟩, fun e => (by cases e)⟩
    show addK L ≤ n + 1
    unfold addK
    split <;> omega
/-- The law puts the text behind its own. -/
theorem FuA.app {w wl w1 : World} {q p : Nat} {r : Int} {fb fc : Option Nat} {va vb : Value} {k kr : List B} {n : Nat} (h : FuA w wl q p r fb va k kr n) {wg : World} (hb : Below wl.heap.size wl wg) (hg : wg.grownBy w1 fb) (hn : ∀ i, fc = some i → fb = some i ∨ wg.heap.size ≤ i) (hT : TS w1 vb fc kr) (hl : kr.length ≤ n) : FuI w w1 q p r fc vb kr n := by
  obtain ⟨L, P, ls, ch, h1, h2, h3, h4, h5, h6, h7⟩ := h.out
  refine ⟨⟨L, P, ls, ch, h1, h2, h3, h4, h5, h6, (h7.below hb).row h.low hg fun i e => ⟨hn i e, hT.sb i e⟩⟩, hT, fun i e => ?_, hl⟩
  rcases hn i e with h8 | h8
  · exact h.low i h8
  · have := h7.bel.size; have := hb.size; omega
theorem FuI.tell {w wl : World} {q p : Nat} {r : Int} {fb : Option Nat} {va : Value} {k : List B} {n : Nat} (h : FuI w wl q p r fb va k n) (hn : n ≤ 50) : Calls Tryz.prog 20 #[.pointer (some ⟨q, 0, none⟩)] wl fun e w' => ∃ a c, e = .returned (.slice a k.length c) ∧ Below wl.heap.size wl w' ∧ TA w' a k := by
  obtain ⟨L, P, ls, ch, h1, h2, h3, h4, h5, h6, h7⟩ := h.out
  have hkl := h.len
  obtain ⟨b, rb, hK⟩ := gs_wk h7
  have k4 := allL_log q p b rb L _ wl hK (by rw [h3]; omega)
  rw [h3] at k4
  refine k4.mono ?_
  rintro e w' ⟨v, rb2, rfl, hb, hT, _⟩
  obtain ⟨a, c, rfl, _⟩ := hT.sl
  exact ⟨a, c, rfl, hb, hT.ta⟩
/-- What there is when the room is given back. -/
structure FuR (w wl : World) (q p : Nat) (fb : Option Nat) (va : Value) (k : List B) (n : Nat) : Prop where
  out : ∃ L P ls ch, Py L P [] ls ∧ L.most = 30 ∧ L.recs = k ∧ usedP P ≤ 1000 + n * 300 ∧ ch ≤ 10 + n ∧ Gs w wl q p L (cm P (-1) ch) fb
  ts : TS wl va fb k
  len : k.length ≤ n
theorem fu_free {w wl : World} {q p : Nat} {r : Int} {fb : Option Nat} {va : Value} {k : List B} {n : Nat} (h : FuI w wl q p r fb va k n) (hG : Gw w) :
    Calls Tryz.prog 32 #[.pointer (some ⟨p, 0, none⟩), .int .i64 (-1)] wl fun e w' => e = .returned (.tuple #[]) ∧ FuR w w' q p fb va k n := by
  obtain ⟨L, P, ls, ch, h1, h2, h3, h4, h5, h6, h7⟩ := h.out
  refine (gs_free h7 hG).mono ?_
  rintro e w' ⟨rfl, hGs, hKp⟩
  exact ⟨rfl, ⟨L, P, ls, ch, h1, h2, h3, h5, h6, hGs⟩, hKp.ts h.ts, h.len⟩
theorem fu_open {w wl : World} {q p : Nat} {fb : Option Nat} {va : Value} {k : List B} {n : Nat} (h : FuR w wl q p fb va k n) (hG : Gw w) (hn : n ≤ 50) :
    Calls Tryz.prog 10 #[.pointer (some ⟨p, 0, none⟩), .int .i64 30] wl fun e w' => ∃ q', e = .returned (.tuple #[.pointer (some ⟨q', 0, none⟩), .int .i64 0, .int .i64 0]) ∧ FuR w w' q' p fb va k n := by
  obtain ⟨L, P, ls, ch, h1, h2, h3, h5, h6, h7⟩ := h.out
  have hkl := h.len
  have := gs_open h7 hG h1 (by rw [h2]; decide) (by omega) (by omega) (by rw [h3]; omega)
  rw [h2] at this
  refine this.mono ?_
  rintro e w' ⟨q', rfl, hGs, hKp⟩
  exact ⟨q', rfl, ⟨L, P, ls, ch, h1, h2, h3, h5, h6, hGs⟩, hKp.ts h.ts, h.len⟩
theorem FuR.tell {w wl : World} {q p : Nat} {fb : Option Nat} {va : Value} {k : List B} {n : Nat} (h : FuR w wl q p fb va k n) (hn : n ≤ 50) : Calls Tryz.prog 20 #[.pointer (some ⟨q, 0, none⟩)] wl fun e w' => ∃ a c, e = .returned (.slice a k.length c) ∧ Below wl.heap.size wl w' ∧ TA w' a k := by
  obtain ⟨L, P, ls, ch, h1, h2, h3, h5, h6, h7⟩ := h.out
  have hkl := h.len
  obtain ⟨b, rb, hK⟩ := gs_wk h7
  have k4 := allL_log q p b rb L _ wl hK (by rw [h3]; omega)
  rw [h3] at k4
  refine k4.mono ?_
  rintro e w' ⟨v, rb2, rfl, hb, hT, _⟩
  obtain ⟨a, c, rfl, _⟩ := hT.sl
  exact ⟨a, c, rfl, hb, hT.ta⟩
theorem FuR.bel {w wl : World} {q p : Nat} {fb : Option Nat} {va : Value} {k : List B} {n : Nat} (h : FuR w wl q p fb va k n) : Below w.heap.size w wl := by
  obtain ⟨L, P, ls, ch, h1, h2, h3, h5, h6, h7⟩ := h.out
  exact h7.bel
theorem FuI.bel {w wl : World} {q p : Nat} {r : Int} {fb : Option Nat} {va : Value} {k : List B} {n : Nat} (h : FuI w wl q p r fb va k n) : Below w.heap.size w wl := by
  obtain ⟨L, P, ls, ch, h1, h2, h3, h4, h5, h6, h7⟩ := h.out
  exact h7.bel
set_option maxRecDepth 100000 in
set_option maxHeartbeats 8000000 in
theorem walFull_any (z : Int) (l : List B) (ad : Option Addr) (cap : Nat) (w : World) (hG : Gw w) (hT : XA w ad l) :
    Calls Tryz.prog 8 #[.slice ad l.length cap, .int .i64 z] w fun e w' => e = .returned (.bool true) ∧ Below w.heap.size w w' := by
  obtain ⟨cc, hcc⟩ : ∃ cc : Bool, Hid (cc = (decide (z < 0) || decide (1000 < z))) := ⟨_, rfl⟩
  obtain ⟨M, hM⟩ : ∃ M : Int, Hid (M = if cc = true then 50 else z) := ⟨_, rfl⟩
  have hM1 : 0 ≤ M ∧ M ≤ 1000 := by
    have h1 := hM.out
    have h2 := hcc.out
    rw [h1]
    split
    · decide
    · rename_i h3
      rw [h2] at h3
      simp at h3
      omega
  have h2g := hG.two
  have HN := newD w
  have hPy1 := py_reset ⟨30, 0, [], [], 0, 0⟩ [] [] (by show 0 < 99; omega)
  change Py ⟨30, 1, [], [], 0, 0⟩ [(baseN 1, frs [[]] ++ frs [])] [] [] at hPy1
  have hu1 : usedP [(baseN 1, frs [[]] ++ frs [])] ≤ 100 := by
    have e2 : frs [] = [] := rfl
    rw [e2, frs_one]
    simp [usedP, frame_len]
  obtain ⟨P1, hP1⟩ : ∃ P1, Hid (P1 = [(baseN 1, frs [[]] ++ frs [])]) := ⟨_, rfl⟩
  have HO0 : ∀ w1, Below w.heap.size w w1 → DD w1 w.heap.size none (cm [] 0 0) → ∃ ch, ch ≤ 4 ∧ Calls Tryz.prog 10 #[.pointer (some ⟨w.heap.size, 0, none⟩), .int .i64 30] w1 (OpP w1 w.heap.size none (⟨30, 1, [], [], 0, 0⟩, (cm P1 0 ch, 0)) 0) := fun w1 hw1 hD1 => by
    rw [hP1.out]
    exact open_new w.heap.size 30 (by decide) w1 hD1 h2g (hG.below hw1)
  rw [← hP1.out] at hPy1 hu1
  clear hP1
  have HU : ∀ q ch wx, ch ≤ 4 → Gs w wx q w.heap.size ⟨30, 1, [], [], 0, 0⟩ (cm P1 0 ch) none → Calls Tryz.prog 33 #[.pointer (some ⟨w.heap.size, 0, none⟩)] wx fun e w' => e = .returned (.int .i64 (usedP P1 : Nat)) ∧ Below wx.heap.size wx w' := fun q ch wx hc h => by
    have := gs_used h (py_okn hPy1 0 ch (by omega) (by omega))
    rw [show usedL (cm P1 0 ch).l = usedP P1 from used_mk P1] at this
    exact this
  generalize hU : usedP P1 = U at *
  go_enter Tryz.func8, Tryz.ntmps8
  go_upto_region 5 with (first
    | (go_at_call 9; refine HN.mono ?_; rintro e w1 ⟨rfl, hw1, hD1⟩; obtain ⟨ch1, hch1, HO1⟩ := HO0 w1 hw1 hD1)
    | (go_at_call 10; refine HO1.mono ?_; intro e w2 hop; obtain ⟨q, b2, rb2, rfl, hq, hW2, hK2⟩ := op_ok hop; clear hop HO1; have hGs2 := gs_first hw1 (Nat.le_refl _) hq hW2 hK2; have HA2 := awakeW w2 (hG.below hGs2.bel))
    | (go_at_call 11; refine HA2.mono ?_; rintro e w3 ⟨rfl, hw3⟩; have hGs3 := hGs2.below hw3))
  go_cut [34] from 29 to 34 (fun s34 wx => s34 = .bool cc ∧ wx = w3)
  case first =>
    by_cases h1 : z < 0
    · have e : cc = true := by rw [hcc.out, decide_eq_true h1]; rfl
      subst e
      go_wp2_with fail
      go_meet
      case rel => exact ⟨rfl, rfl⟩
    · by_cases h2 : 1000 < z
      · have e : cc = true := by rw [hcc.out, decide_eq_true h2, Bool.or_true]
        subst e
        go_wp2_with fail
        go_meet
        case rel => exact ⟨rfl, rfl⟩
      · have e : cc = false := by rw [hcc.out, decide_eq_false h1, decide_eq_false h2]; rfl
        subst e
        go_wp2_with fail
        go_meet
        case rel => exact ⟨rfl, rfl⟩
  case rest =>
    obtain ⟨e34, hwx⟩ := hcut
    subst e34
    have hwx2 := hwx.symm; subst hwx2; clear hwx
    go_upto_if 34 with fail
    go_cut [1] from 29 to 34 (fun s1 wx => s1 = .int .i64 M ∧ wx = w3)
    case first =>
      cases cc with
      | true =>
        have e : M = 50 := hM.out
        subst e
        go_wp2_with fail
        go_meet
        case rel => exact ⟨rfl, rfl⟩
      | false =>
        have e : M = z := hM.out
        subst e
        go_wp2_with fail
        go_meet
        case rel => exact ⟨rfl, rfl⟩
    case rest =>
      obtain ⟨e1, hwx⟩ := hcut
      subst e1
      have hwx2 := hwx.symm; subst hwx2; clear hwx
      clear hcc hM
      have hr : 0 ≤ (U : Int) + M ∧ (U : Int) + M ≤ 9223372036854775807 := by omega
      have HU3 := HU q ch1 w3 hch1 hGs3
      go_upto_region 9 with (first
        | (go_at_call 33; refine HU3.mono ?_; rintro e w4 ⟨rfl, hw4⟩; have hGs4 := hGs3.below hw4; have HR4 := gs_limit hGs4 hG ((U : Int) + M) hr.1)
        | (go_at_call 32; refine HR4.mono ?_; rintro e w5 ⟨rfl, hGs5, hKp5⟩))
      generalize (U : Int) + M = r at *
      have hB0 : Below w5.heap.size w5 (w5.alloc (.cells #[] 9)) := (Below.refl _ _).alloc (Nat.le_refl _) _
      have hT0 : TS (w5.alloc (.cells #[] 9)) (.slice (some ⟨w5.heap.size, 0, none⟩) 0 0) (some w5.heap.size) [] := ⟨.inr ⟨w5.heap.size, 0, 0, #[], rfl, rfl, (Blk.new _ _ _).out, by simp, by simp, fun j x hx => by simp at hx⟩⟩
      have hGs6 := hGs5.other hB0 (fc := some w5.heap.size) (fun i e => ⟨by cases e; exact .inr (Nat.le_refl _), hT0.sb i e⟩)
      have hI0 : FuI w (w5.alloc (.cells #[] 9)) q w.heap.size r (some w5.heap.size) (.slice (some ⟨w5.heap.size, 0, none⟩) 0 0) [] 0 := ⟨⟨_, P1, [], ch1, hPy1, rfl, rfl, Nat.le_refl _, by omega, by omega, hGs6⟩, hT0, fun i e => by cases e; exact hGs5.bel.size, Nat.le_refl _⟩
      clear HU HU3 HR4 HN HA2 HO0 hGs6 hT0 hGs5 hKp5 hGs4 hw4 hGs3 hw3 hGs2 hW2 hK2 hD1 hPy1 hu1 hU hM1
      go_wp2_with fail
      go_loopw [9, 10, 11] (fun v9 v10 v11 wl => ∃ (i : Nat) (fb : Option Nat) (k : List B) (full : Bool), i ≤ l.length ∧ i ≤ 40 ∧ v10 = .bool full ∧ v11 = .int .i64 i ∧ FuI w wl q w.heap.size r fb v9 k i ∧ (full = false → k.length = i)) (fun _ _ v11 _ => 40 - (intOf v11).toNat)
      case atStart => exact ⟨0, some w5.heap.size, [], false, by omega, by omega, rfl, rfl, hI0, fun _ => rfl⟩
      case round =>
        clear hI0 hB0
        obtain ⟨i, fb, k, full, hil, hi40, rfl, rfl, hI, hfu⟩ := hrel
        have hkl := hI.len
        obtain ⟨ak, ck, e9, _, _⟩ := hI.ts.sl
        subst e9
        by_cases hlt : i < l.length ∧ i < 40
        · obtain ⟨hlt1, hlt2⟩ := hlt
          have hz1 : (i : Int) < (l.length : Int) := by omega
          have hz2 : (i : Int) < (40 : Int) := by omega
          obtain ⟨y, hy⟩ : ∃ y, l[i]? = some y := ⟨_, List.getElem?_eq_getElem hlt1⟩
          have hTw := hT.below hI.bel
          obtain ⟨g, o, rfl, hgl, hc⟩ := hTw.at i y hy
          replace hc : wr.cell? ⟨g, o + i, none⟩ = some (.string ⟨y.toArray⟩) := hc
          by_cases h100 : 100 < y.length
          · have hz3 : (100 : Int) < (y.length : Int) := by omega
            have hex : (ByteArray.mk y.toArray).extract 0 100 = ⟨(c100 y).toArray⟩ := kextract_take y 100
            have hxl : (c100 y).length ≤ 100 := by unfold c100; rw [List.length_take]; omega
            have HA := fun w4 (hw : Below wr.heap.size wr w4) (hT : TA w4 (some ⟨wr.heap.size, 0, none⟩) [c100 y]) => fu_add hI hG hw (c100 y) hxl (by omega) hr hT
            go_upto_region 17 with (first
              | ((with_reducible (refine at_list ?_; refine wpList_tsl1 (op := ⟨some 63, _, _, _, _, _⟩) rfl _ rfl (c100 y) rfl ?_)); intro w5 hw5 hb5; have HA5 := HA w5 hw5 (ta_blk hb5); clear HA)
              | (go_at_call 16; refine HA5.mono ?_; rintro e w6 ⟨ok, rfl, hF1, hF2⟩; clear HA5))
            cases ok with
            | true =>
              have hF := hF1 rfl
              clear hF1 hF2
              obtain ⟨k', hk2⟩ : ∃ k', Hid (k ++ [c100 y] = k') := ⟨_, rfl⟩
              rw [hk2.out] at hF
              have hkl2 : k'.length ≤ i + 1 := by rw [← hk2.out]; simp; omega
              have hfu2 : full = false → Hid (k'.length = i + 1) := fun e => by show _ = _; rw [← hk2.out]; have := hfu e; simp; omega
              have hka : k.length + [c100 y].length ≤ 1000000 := by simp; omega
              clear hfu
              go_wp2_with (first
                | ((with_reducible (refine at_list ?_; refine wpList_tsl1 (op := ⟨some 69, _, _, _, _, _⟩) rfl _ rfl (c100 y) rfl ?_)); intro wd hBd hb6; have hTA := ta_blk hb6; have hTi := hF.ts.below hBd)
                | ((with_reducible (refine at_list ?_; refine wpList_appTS (op := ⟨some 70, _, _, _, _, _⟩) rfl _ _ rfl (.slice ak k.length ck) fb _ hTi rfl (some ⟨w6.heap.size, 0, none⟩) 1 [c100 y] hTA rfl hka ?_)); intro w7 v7 fb7 hg7 hn7 hT7; rw [hk2.out] at hT7; have hI7 := hF.app hBd hg7 hn7 hT7 hkl2; clear hTi hTA; obtain ⟨a7, c7, e7, _, _⟩ := hT7.sl; subst e7; have HL7 := hI7.tell (by omega))
                | (go_at_call 20; refine HL7.mono ?_; rintro e w8 ⟨a8, c8, rfl, hw8, hT8⟩; clear HL7; have hI8 := hI7.below hw8; have HE8 := same_true _ a8 a7 c8 c7 w8 hT8 hI8.ts.ta (by omega))
                | (go_at_call 19; refine HE8.mono ?_; rintro e w9 ⟨rfl, hw9⟩; clear HE8; have hI9 := hI8.below hw9))
              go_roundw
              case rel => exact ⟨i + 1, fb7, k', full, by omega, by omega, rfl, by go_num, hI9, fun e => (hfu2 e).out⟩
              case measure => simp [intOf]; omega
            | false =>
              have hI6 := hF2 rfl
              clear hF1 hF2
              have HL7 := hI6.tell (by omega)
              go_wp2_with (first
                | (go_at_call 20; refine HL7.mono ?_; rintro e w8 ⟨a8, c8, rfl, hw8, hT8⟩; clear HL7; have hI8 := hI6.below hw8; have HE8 := same_true _ a8 ak c8 ck w8 hT8 hI8.ts.ta (by omega))
                | (go_at_call 19; refine HE8.mono ?_; rintro e w9 ⟨rfl, hw9⟩; clear HE8; have hI9 := hI8.below hw9))
              go_roundw
              case rel => exact ⟨i + 1, fb, k, true, by omega, by omega, rfl, by go_num, hI9, fun e => by cases e⟩
              case measure => simp [intOf]; omega
          · have hz3 : ¬ (100 : Int) < (y.length : Int) := by omega
            have hxl : y.length ≤ 100 := by omega
            have HA := fun w4 (hw : Below wr.heap.size wr w4) (hT : TA w4 (some ⟨wr.heap.size, 0, none⟩) [y]) => fu_add hI hG hw (y) hxl (by omega) hr hT
            go_upto_region 17 with (first
              | ((with_reducible (refine at_list ?_; refine wpList_tsl1 (op := ⟨some 63, _, _, _, _, _⟩) rfl _ rfl (y) rfl ?_)); intro w5 hw5 hb5; have HA5 := HA w5 hw5 (ta_blk hb5); clear HA)
              | (go_at_call 16; refine HA5.mono ?_; rintro e w6 ⟨ok, rfl, hF1, hF2⟩; clear HA5))
            cases ok with
            | true =>
              have hF := hF1 rfl
              clear hF1 hF2
              obtain ⟨k', hk2⟩ : ∃ k', Hid (k ++ [y] = k') := ⟨_, rfl⟩
              rw [hk2.out] at hF
              have hkl2 : k'.length ≤ i + 1 := by rw [← hk2.out]; simp; omega
              have hfu2 : full = false → Hid (k'.length = i + 1) := fun e => by show _ = _; rw [← hk2.out]; have := hfu e; simp; omega
              have hka : k.length + [y].length ≤ 1000000 := by simp; omega
              clear hfu
              go_wp2_with (first
                | ((with_reducible (refine at_list ?_; refine wpList_tsl1 (op := ⟨some 69, _, _, _, _, _⟩) rfl _ rfl (y) rfl ?_)); intro wd hBd hb6; have hTA := ta_blk hb6; have hTi := hF.ts.below hBd)
                | ((with_reducible (refine at_list ?_; refine wpList_appTS (op := ⟨some 70, _, _, _, _, _⟩) rfl _ _ rfl (.slice ak k.length ck) fb _ hTi rfl (some ⟨w6.heap.size, 0, none⟩) 1 [y] hTA rfl hka ?_)); intro w7 v7 fb7 hg7 hn7 hT7; rw [hk2.out] at hT7; have hI7 := hF.app hBd hg7 hn7 hT7 hkl2; clear hTi hTA; obtain ⟨a7, c7, e7, _, _⟩ := hT7.sl; subst e7; have HL7 := hI7.tell (by omega))
                | (go_at_call 20; refine HL7.mono ?_; rintro e w8 ⟨a8, c8, rfl, hw8, hT8⟩; clear HL7; have hI8 := hI7.below hw8; have HE8 := same_true _ a8 a7 c8 c7 w8 hT8 hI8.ts.ta (by omega))
                | (go_at_call 19; refine HE8.mono ?_; rintro e w9 ⟨rfl, hw9⟩; clear HE8; have hI9 := hI8.below hw9))
              go_roundw
              case rel => exact ⟨i + 1, fb7, k', full, by omega, by omega, rfl, by go_num, hI9, fun e => (hfu2 e).out⟩
              case measure => simp [intOf]; omega
            | false =>
              have hI6 := hF2 rfl
              clear hF1 hF2
              have HL7 := hI6.tell (by omega)
              go_wp2_with (first
                | (go_at_call 20; refine HL7.mono ?_; rintro e w8 ⟨a8, c8, rfl, hw8, hT8⟩; clear HL7; have hI8 := hI6.below hw8; have HE8 := same_true _ a8 ak c8 ck w8 hT8 hI8.ts.ta (by omega))
                | (go_at_call 19; refine HE8.mono ?_; rintro e w9 ⟨rfl, hw9⟩; clear HE8; have hI9 := hI8.below hw9))
              go_roundw
              case rel => exact ⟨i + 1, fb, k, true, by omega, by omega, rfl, by go_num, hI9, fun e => by cases e⟩
              case measure => simp [intOf]; omega
        · have hend : (¬ (i : Int) < (l.length : Int)) ∨ ((i : Int) < (l.length : Int) ∧ ¬ (i : Int) < 40) := by omega
          have hmi : i = l.length ∧ l.length ≤ 40 ∨ i = 40 ∧ 40 ≤ l.length := by omega
          go_upto_region 10 with fail
          go_cut [49] from 42 to 77 (fun c wx => c = .bool false ∧ wx = wr)
          case first =>
            clear hlt
            rcases hend with hz1 | ⟨hz1, hz2⟩
            · go_wp2_with fail
              go_meet
              case rel => exact ⟨rfl, rfl⟩
            · go_wp2_with fail
              go_meet
              case rel => exact ⟨rfl, rfl⟩
          case rest =>
            obtain ⟨e49, hwx⟩ := hcut
            subst e49
            have hwx2 := hwx.symm; subst hwx2; clear hwx
            clear hend hlt
            have HR := fu_free hI hG
            have hi50 : i ≤ 50 := by omega
            have hk1m : k.length ≤ 1000000 := by omega
            go_upto_region 25 with (first
              | (go_at_call 32; refine HR.mono ?_; rintro e w6 ⟨rfl, hR6⟩; clear HR; have HO6 := fu_open hR6 hG hi50)
              | (go_at_call 10; refine HO6.mono ?_; rintro e w7 ⟨q7, rfl, hR7⟩; clear HO6; have HL7 := hR7.tell hi50))
            cases full with
            | true =>
              go_wp2_with (first
                | (go_at_call 20; refine HL7.mono ?_; rintro e w8 ⟨a8, c8, rfl, hw8, hT8⟩; clear HL7; have HE8 := same_true k a8 ak c8 ck w8 hT8 (hR7.ts.below hw8).ta hk1m)
                | (go_at_call 19; refine HE8.mono ?_; rintro e w9 ⟨rfl, hw9⟩; clear HE8))
              go_ret
              exact ⟨rfl, (hR7.bel.trans (hw8.mono hR7.bel.size)).trans (hw9.mono (Nat.le_trans hR7.bel.size hw8.size))⟩
            | false =>
              have hki := hfu rfl
              clear hfu
              rcases hmi with ⟨h1, h2⟩ | ⟨h1, h2⟩
              · have hmin : min (l.length : Int) 40 = (k.length : Int) := by omega
                clear h1 h2 hki hkl hil hi40 hi50
                go_wp2_with (first
                  | (go_at_call 20; refine HL7.mono ?_; rintro e w8 ⟨a8, c8, rfl, hw8, hT8⟩; clear HL7; have HE8 := same_true k a8 ak c8 ck w8 hT8 (hR7.ts.below hw8).ta hk1m)
                  | (go_at_call 19; refine HE8.mono ?_; rintro e w9 ⟨rfl, hw9⟩; clear HE8))
                go_ret
                exact ⟨rfl, (hR7.bel.trans (hw8.mono hR7.bel.size)).trans (hw9.mono (Nat.le_trans hR7.bel.size hw8.size))⟩
              · have hmin : min (l.length : Int) 40 = (k.length : Int) := by omega
                clear h1 h2 hki hkl hil hi40 hi50
                go_wp2_with (first
                  | (go_at_call 20; refine HL7.mono ?_; rintro e w8 ⟨a8, c8, rfl, hw8, hT8⟩; clear HL7; have HE8 := same_true k a8 ak c8 ck w8 hT8 (hR7.ts.below hw8).ta hk1m)
                  | (go_at_call 19; refine HE8.mono ?_; rintro e w9 ⟨rfl, hw9⟩; clear HE8))
                go_ret
                exact ⟨rfl, (hR7.bel.trans (hw8.mono hR7.bel.size)).trans (hw9.mono (Nat.le_trans hR7.bel.size hw8.size))⟩
end Go.Proofs.YtaiiojbakmminaaGreatDoor
