/- What WalOpens tells: when the power fails anywhere within an opening, and again, the next one reads what the first would have read. -/
import Derived.Test.YtaiiojbakmminaaGreatDoorWoq
namespace Go.Proofs.YtaiiojbakmminaaGreatDoor
open Go Go.RowKit
theorem faA_g0x (f : FA) : (faA f)[0]? = some (.int .i64 f.at_) := rfl
theorem de_changes_cm {w wl : World} {p : Nat} {P : PP} {room : Int} {ch : Nat} (h : De w wl p (cm P room ch)) : Calls Tryz.prog 21 #[.pointer (some ⟨p, 0, none⟩)] wl fun e w' => e = .returned (.int .i64 (ch : Nat)) ∧ w' = wl := de_changes h
theorem rk_len {P : PP} {k : List B} (h : Rk P k) : P.length ≤ 900000 := by
  obtain ⟨txs, hX, _⟩ := h.out
  have := hX.len
  omega
set_option maxRecDepth 100000 in
set_option maxHeartbeats 8000000 in
theorem walOpens_any (sl : List SG) (sa : Option Addr) (sc : Nat) (rs : List B) (ra : Option Addr) (rc : Nat) (fl : List FA) (fa : Option Addr) (fc : Nat) (w : World) (hG : Gw w) (hS : SA w sa sl) (hRS : XA w ra rs) (hF : FL3 w fa fl) (hfl : ∀ x ∈ fl, x.at_ ≤ 9223372036854775807) :
    Calls Tryz.prog 6 #[.slice sa sl.length sc, .slice ra rs.length rc, .slice fa fl.length fc] w fun e w' => e = .returned (.bool true) ∧ Below w.heap.size w w' := by
  have HN := newD w
  have hu0 : usedP ([] : PP) = 0 := rfl
  have hu1 := p1_used (frame [115])
  have HF1 := fun w => rframe_any [115] w (by decide)
  have hfs : (frame [115]).length = 9 := frame_len [115]
  obtain ⟨FS, hFS⟩ : ∃ b, Hid (frame [115] = b) := ⟨_, rfl⟩
  rw [hFS.out] at HF1 hfs hu1
  go_enter Tryz.func6, Tryz.ntmps6
  go_wp2_with (first
    | (go_at_call 9; refine HN.mono ?_; rintro e w1 ⟨rfl, hw1, hD1⟩; clear HN; have hDs1 : Ds w w1 w.heap.size [] 0 := ⟨⟨none, _, hD1, lz_new 0, fun j e => by cases e⟩, hw1, Nat.le_refl _⟩; have HA1 := awakeW w1 (hG.below hDs1.bel))
    | (go_at_call 11; refine HA1.mono ?_; rintro e w2 ⟨rfl, hw2⟩; clear HA1; have hDs2 := hDs1.below hw2)
    | (go_at_call 24; refine (HF1 _).mono ?_; rintro e w3 ⟨rfl, hw3⟩; have hDs3 := hDs2.below hw3; have W1 := ds_write hDs3 [98, 97, 115, 101, 45, 50] FS (by decide) (by decide) (by decide) (by omega))
    | (go_at_call 25; first
      | (refine W1.mono ?_; rintro e w4 ⟨rfl, hDs4, _⟩; clear W1; have W2 := ds_write hDs4 [98, 97, 115, 101, 45, 49] [101, 108, 100, 101, 114] (by decide) (by decide) (by decide) (by have e : ([101, 108, 100, 101, 114] : B).length = 5 := rfl; omega))
      | (refine W2.mono ?_; rintro e w5 ⟨rfl, hDs5, _⟩; clear W2)))
  rw [P1_eq] at hDs5
  replace hDs5 : Ds w w5 w.heap.size (P1O FS) 2 := hDs5
  obtain ⟨hdx0, hpl0, hpu0⟩ := dx_P1 FS
  rw [hfs] at hpu0
  have hBT : Hid (frs [[115]] = FS) := by show frs [[115]] = FS; rw [frs_one]; exact hFS.out
  clear hFS HF1 hfs hu0 hu1 hDs1 hDs2 hDs3 hDs4 hw1 hw2 hw3 hD1
  go_loopw [8, 9, 10] (fun v8 _ _ wl => ∃ (i : Nat) (P : PP), i ≤ sl.length ∧ i ≤ 5 ∧ v8 = .int .i64 i ∧ Ds w wl w.heap.size P (2 + i) ∧ Dx P 2 FS (txsO rs sl i) ∧ P.length ≤ 2 + i ∧ usedP P ≤ 100 + i * 1747) (fun v8 _ _ _ => 5 - (intOf v8).toNat)
  case atStart => exact ⟨0, P1O FS, by omega, by omega, rfl, hDs5, hdx0, hpl0, by omega⟩
  case round =>
    clear hDs5 hdx0 hpl0 hpu0
    obtain ⟨i, P, hil, hi5, rfl, hDs, hdx, hpl, hpu⟩ := hrel
    by_cases hlt : i < sl.length ∧ i < 5
    · obtain ⟨hlt1, hlt2⟩ := hlt
      have hz1 : (i : Int) < (sl.length : Int) := by omega
      have hz2 : (i : Int) < (5 : Int) := by omega
      obtain ⟨x, hx⟩ : ∃ x, sl[i]? = some x := ⟨_, List.getElem?_eq_getElem hlt1⟩
      have hSx := hS.out i x hx
      have htx := txO_at (rs := rs) hx
      have htxl := txO_len rs sl i
      obtain ⟨g, o, rfl, hc0, hXx, hxc⟩ := hSx
      have hCS := fun w1 (hB : Below w.heap.size w w1) => (hB.cell (World.block_lt_of_cell? w ⟨g, o + i, none⟩ hc0)).trans hc0
      have HCx := fun w1 (hB : Below w.heap.size w w1) => cut_any x.l x.a x.c w1 (hXx.below hB) hxc
      obtain ⟨C, hC⟩ : ∃ C, Hid (cutL x.l = C) := ⟨_, rfl⟩
      have hC6 : C.length ≤ 6 := by rw [← hC.out]; exact cut_len x.l
      have hCm : ∀ y ∈ C, y.length ≤ 200 := fun y hy => cut_mem (l := x.l) (by rw [hC.out]; exact hy)
      rw [hC.out] at HCx htx
      have htxn : (txsO rs sl i).length = i := txsO_len rs sl i
      have hcs := hCS wr hDs.bel
      clear hS hc0
      go_wp2_with fail
      go_loopw [9, 10] (fun v9 v10 wl => ∃ (k : Nat), k ≤ C.length ∧ v9 = .string ⟨(frs (C.take k)).toArray⟩ ∧ v10 = .int .i64 k ∧ Ds w wl w.heap.size P (2 + i)) (fun _ v10 _ => C.length - (intOf v10).toNat)
      case atStart => exact ⟨0, by omega, rfl, rfl, hDs⟩
      case round =>
        clear hDs hcs
        obtain ⟨k, hkl, rfl, rfl, hDs⟩ := hrel
        have hcs := hCS wr hDs.bel
        have HC1 := HCx wr hDs.bel
        by_cases hlt3 : k < C.length
        · have hz3 : (k : Int) < (C.length : Int) := by omega
          obtain ⟨y, hy⟩ : ∃ y, C[k]? = some y := ⟨_, List.getElem?_eq_getElem hlt3⟩
          have hyl := hCm y (List.mem_of_getElem? hy)
          have HF := fun w => rframe_any y w (by omega)
          have efr : Hid (frs (C.take (k + 1)) = frs (C.take k) ++ frame y) := frs_take hy
          have hfl2 := frame_len y
          have hsl : (frs (C.take k)).length ≤ 1248 := frs_cut (by rw [List.length_take]; omega) (fun x hx => hCm x (List.mem_of_mem_take hx))
          have hcat : ¬ 9223372036854775807 < (frs (C.take k)).length + (frame y).length := by omega
          generalize frs (C.take k) = F0 at *
          generalize frame y = fy at *
          go_wp2_with (first
            | (go_at_call 13; first
               | (refine HC1.mono ?_; rintro e w3 ⟨v3, rb3, rfl, hw3, hT3, _⟩; clear HC1; obtain ⟨a3, c3, rfl, _⟩ := hT3.sl; have hDs3 := hDs.below hw3; have HC2 := HCx w3 hDs3.bel; have hcs3 := hCS w3 hDs3.bel)
               | (refine HC2.mono ?_; rintro e w4 ⟨v4, rb4, rfl, hw4, hT4, _⟩; clear HC2; obtain ⟨a4, c4, rfl, hc4, _⟩ := hT4.sl; have hDs4 := hDs3.below hw4; obtain ⟨g4, o4, rfl, hcell4⟩ := hc4 k y hy; replace hcell4 : w4.cell? ⟨g4, o4 + k, none⟩ = some (.string ⟨y.toArray⟩) := hcell4))
            | (go_at_call 24; refine (HF _).mono ?_; rintro e w5 ⟨rfl, hw5⟩; have hDs5 := hDs4.below hw5))
          go_roundw
          case rel =>
            refine ⟨k + 1, by omega, ?_, by go_num, hDs5⟩
            rw [efr.out, ← mkA2]
          case measure => simp [intOf]; omega
        · have hz3 : ¬ (k : Int) < (C.length : Int) := by omega
          have hin : C.take k = C := List.take_of_length_le (by omega)
          rw [hin]
          have hFC : (frs C).length ≤ 1248 := frs_cut hC6 hCm
          go_upto_region 12 with (go_at_call 13; refine HC1.mono ?_; rintro e w3 ⟨v3, rb3, rfl, hw3, hT3, _⟩; clear HC1; obtain ⟨a3, c3, rfl, _⟩ := hT3.sl; have hDs3 := hDs.below hw3)
          have hRS3 := hRS.below hDs3.bel
          clear hcs hz3 hDs
          obtain ⟨cc, hcc⟩ : ∃ cc : Bool, Hid (cc = (match rs[i]? with | some r => decide (r.length < 500) | none => false)) := ⟨_, rfl⟩
          go_cut [76] from 65 to 76 (fun c wx => c = .bool cc ∧ wx = w3)
          case first =>
            clear htx htxl hRS
            cases hr : rs[i]? with
            | none =>
              have e : cc = false := by rw [hcc.out, hr]
              have hz4 : ¬ (i : Int) < (rs.length : Int) := by have := List.getElem?_eq_none_iff.1 hr; omega
              clear hcc
              subst e
              go_wp2_with fail
              go_meet
              case rel => exact ⟨rfl, rfl⟩
            | some r =>
              have hz4 : (i : Int) < (rs.length : Int) := by have := (List.getElem?_eq_some_iff.1 hr).1; omega
              obtain ⟨gr, or_, rfl, _, hcr⟩ := hRS3.at i r hr
              replace hcr : w3.cell? ⟨gr, or_ + i, none⟩ = some (.string ⟨r.toArray⟩) := hcr
              by_cases h5 : r.length < 500
              · have e : cc = true := by rw [hcc.out, hr]; exact decide_eq_true h5
                have hz5 : (r.length : Int) < (500 : Int) := by omega
                clear hcc hr
                subst e
                go_wp2_with fail
                go_meet
                case rel => exact ⟨rfl, rfl⟩
              · have e : cc = false := by rw [hcc.out, hr]; exact decide_eq_false h5
                have hz5 : ¬ (r.length : Int) < (500 : Int) := by omega
                clear hcc hr
                subst e
                go_wp2_with fail
                go_meet
                case rel => exact ⟨rfl, rfl⟩
          case rest =>
            obtain ⟨e76, hwx⟩ := hcut
            subst e76
            have hwx2 := hwx.symm; subst hwx2; clear hwx
            go_upto_if 76 with fail
            go_cut [9] from 65 to 82 (fun s9 wx => s9 = .string ⟨(txO rs sl i).toArray⟩ ∧ wx = w3)
            case first =>
              cases hr : rs[i]? with
              | none =>
                have e : cc = false := by rw [hcc.out, hr]
                have e2 : txO rs sl i = frs C := by rw [htx]; unfold rsO; rw [hr, List.append_nil]
                clear hcc htx
                subst e
                go_wp2_with fail
                go_meet
                case rel => exact ⟨by rw [e2], rfl⟩
              | some r =>
                have hz4 : (i : Int) < (rs.length : Int) := by have := (List.getElem?_eq_some_iff.1 hr).1; omega
                obtain ⟨gr, or_, rfl, _, hcr⟩ := hRS3.at i r hr
                replace hcr : w3.cell? ⟨gr, or_ + i, none⟩ = some (.string ⟨r.toArray⟩) := hcr
                by_cases h5 : r.length < 500
                · have e : cc = true := by rw [hcc.out, hr]; exact decide_eq_true h5
                  have e2 : txO rs sl i = frs C ++ r := by rw [htx]; unfold rsO; rw [hr]; simp only; rw [if_pos h5]
                  have hcat : ¬ 9223372036854775807 < (frs C).length + r.length := by omega
                  clear hcc hr htx
                  subst e
                  generalize frs C = F0 at *
                  go_wp2_with fail
                  go_meet
                  case rel => exact ⟨by rw [e2, ← mkA2], rfl⟩
                · have e : cc = false := by rw [hcc.out, hr]; exact decide_eq_false h5
                  have e2 : txO rs sl i = frs C := by rw [htx]; unfold rsO; rw [hr]; simp only; rw [if_neg h5, List.append_nil]
                  clear hcc hr htx
                  subst e
                  go_wp2_with fail
                  go_meet
                  case rel => exact ⟨by rw [e2], rfl⟩
            case rest =>
              obtain ⟨e9, hwx⟩ := hcut
              subst e9
              have hwx2 := hwx.symm; subst hwx2; clear hwx
              clear htx hCS HCx hXx hcc hRS3
              have hTN := txsO_succ rs sl i
              obtain ⟨t, ht⟩ : ∃ t, Hid (txO rs sl i = t) := ⟨_, rfl⟩
              rw [ht.out] at htxl hTN ⊢
              have hdx2 := dx_more hdx t (by omega) (by omega)
              rw [← hTN, htxn] at hdx2
              have hpl2 : (putP (segN 2 (i + 1)) (some t) P).length ≤ 2 + (i + 1) := by
                have := putP_len (n := segN 2 (i + 1)) (c := some t) (P := P)
                omega
              have hpu2 : usedP (putP (segN 2 (i + 1)) (some t) P) ≤ 100 + (i + 1) * 1747 := by
                have := usedP_put (n := segN 2 (i + 1)) (c := some t) hdx.ris
                have e1 : (kbyt (some t)).length = t.length := rfl
                omega
              have hnl := (WN.seg 2 (i + 1) (by decide) (by omega)).len
              have hW := fun w4 (hB : Below w3.heap.size w3 w4) => ds_write (hDs3.below hB) (segN 2 (i + 1)) t (WN.seg 2 (i + 1) (by decide) (by omega)).ok (by omega) (by omega) (by omega)
              obtain ⟨c8, hc8⟩ : ∃ c, Hid (UInt8.ofNat (49 + i) = c) := ⟨_, rfl⟩
              have hy8 : IntKind.u8.wrap (49 + (i : Int)) = n8 c8 := by rw [← hc8.out]; exact u8_nameO hlt2
              have hnm := seg_nameO hlt2
              rw [hc8.out] at hnm
              have en : (ByteArray.mk #[115, 101, 103, 45, 50, 45] ++ strF (fun _ => c8) 1) = ⟨(segN 2 (i + 1)).toArray⟩ := by
                rw [← hnm, ← mkA2]
                rfl
              rw [← en] at hW
              clear hTN hnm en hz1 hz2
              go_wp2_with (first
                | (go_at_call 25; refine (hW w4 hw4).mono ?_; rintro e w5 ⟨rfl, hDs5, _⟩; clear hW hw4 hb4)
                | (with_reducible refine at_list ?_; first
                  | (refine wpList_bsl1 (op := ⟨some 87, _, _, _, _, _⟩) rfl _ rfl c8 rfl ?_; intro w4 hw4 hb4)
                  | (refine wpList_bytesString (op := ⟨some 88, _, _, _, _, _⟩) rfl _ _ _ rfl _ 1 1 rfl 5 Tryz.underlying50 Tryz.underlying5 Tryz.underlying9 _ 1 _ hb4 (Nat.le_refl _) ?_)))
              go_roundw
              case rel => exact ⟨i + 1, putP (segN 2 (i + 1)) (some t) P, by omega, by omega, by go_num, hDs5, hdx2, hpl2, hpu2⟩
              case measure => simp [intOf]; omega
    · have hend : (¬ (i : Int) < (sl.length : Int)) ∨ ((i : Int) < (sl.length : Int) ∧ ¬ (i : Int) < 5) := by omega
      go_upto_region 5 with fail
      go_cut [41] from 34 to 92 (fun c wx => c = .bool false ∧ wx = wr)
      case first =>
        clear hlt
        rcases hend with hz1 | ⟨hz1, hz2⟩
        · go_wp2_with fail
          go_meet
          case rel => exact ⟨rfl, rfl⟩
        · go_wp2_with fail
          go_meet
          case rel => exact ⟨rfl, rfl⟩
      case rest =>
        obtain ⟨e41, hwx⟩ := hcut
        subst e41
        have hwx2 := hwx.symm; subst hwx2; clear hwx
        clear hend hlt hS hRS
        rw [← hBT.out] at hdx
        have hRk := rk_of hdx hi5 (by omega)
        have hkf := rdO_few rs sl i
        obtain ⟨K, hK⟩ : ∃ k, Hid ((rdS (txsO rs sl i)).1 = k) := ⟨_, rfl⟩
        rw [hK.out] at hRk hkf
        have hk4 : K.length ≤ 400000 := by omega
        have hPl : P.length ≤ 300 := by omega
        have HSy := ds_sync hDs
        clear hdx hBT hpu hkf
        go_upto_region 21 with (first
          | (go_at_call 27; refine HSy.mono ?_; rintro e w6 ⟨rfl, hDc6, _⟩; clear HSy; obtain ⟨room, ch, hch, hDe6⟩ := dc_de hDc6; have HCl := de_clone hDe6 (by show (mk P).length ≤ _; rw [mk_len]; omega) rfl)
          | (go_at_call 30; refine HCl.mono ?_; rintro e w7 ⟨p2, rfl, hTw⟩; clear HCl; have HO7 := tw_open hTw hRk hG (by omega) hk4)
          | (go_at_call 10; refine HO7.mono ?_; rintro e w8 ⟨q, tt, rfl, hDe8, hLw8⟩; clear HO7))
        clear hDs hDc6 hDe6 hTw hpl
        go_wp2_with fail
        go_loopw [15, 16] (fun v15 _ wl => ∃ (i : Nat) (P : PP) (ch : Nat), i ≤ fl.length ∧ i ≤ 6 ∧ v15 = .int .i64 i ∧ De w wl w.heap.size (cm P room ch) ∧ Rk P K ∧ ch ≤ 10 + i * 1000 ∧ Lw wl q K) (fun v15 _ _ => 6 - (intOf v15).toNat)
        case atStart => exact ⟨0, P, ch, by omega, by omega, rfl, hDe8, hRk, by omega, hLw8⟩
        case round =>
          clear hDe8 hRk hLw8 hPl hch hil
          obtain ⟨i, P, ch, hil, hi6, rfl, hDe, hRk, hch, hLw⟩ := hrel
          by_cases hlt : i < fl.length ∧ i < 6
          · obtain ⟨hlt1, hlt2⟩ := hlt
            have hz1 : (i : Int) < (fl.length : Int) := by omega
            have hz2 : (i : Int) < (6 : Int) := by omega
            obtain ⟨x, hx⟩ : ∃ x, fl[i]? = some x := ⟨_, List.getElem?_eq_getElem hlt1⟩
            have hxm := hfl x (List.mem_of_getElem? hx)
            obtain ⟨g, o, rfl, hrg⟩ := (hF.below hDe.bel).out i x hx
            have hbxl : w.heap.size ≤ wr.heap.size := hDe.bel.size
            go_upto_if 121 with (first
              | ((with_reducible (refine at_list ?_; refine wpList_run (op := ⟨some 118, _, _, _, _, _⟩) rfl _ _ (run_loadMid 32 _ rfl g (o + i * 3) rfl (faA x) hrg _ Tryz.underlying32 rfl (iFa x)) ?_)))
              | ((with_reducible (refine at_list ?_; refine wpList_allocRow (op := ⟨some 16, _, _, _, _, _⟩) rfl _ rfl _ zFall.1 ?_)); intro w1 hw1 hs1 hb1; clear hs1; have hDe1 := hDe.below hw1; have hLw1 := hLw.below hw1)
              | ((with_reducible (refine at_list ?_; refine wpList_storeRow (op := ⟨none, .store 32 (.tmp 16) (.tmp 118), _, _, _, _⟩) rfl _ _ _ rfl wr.heap.size (faA x) rfl rfl _ _ hb1 rfl (iFa x) (faA_one x) ?_)); intro w2 hg2 hs2 hb2; clear hs2; have hDe2 := hDe1.fall rfl hg2 hb1 hbxl; have hLw2 := hLw1.fall hg2 hb1)
              | ((with_reducible (refine at_list ?_; refine wpList_loadCell (op := ⟨some 120, _, _, _, _, _⟩) rfl _ _ rfl wr.heap.size 0 rfl _ _ hb2 _ Tryz.underlying3 rfl _ (faA_g0x _) ?_))))
            obtain ⟨bx, hbx⟩ : ∃ z, Hid (wr.heap.size = z) := ⟨_, rfl⟩
            rw [hbx.out] at hb2 hbxl
            rw [hbx.out]
            go_cut [] from 119 to 122 (fun wx => ∃ a0 : Int, 0 ≤ a0 ∧ a0 ≤ 9223372036854775807 ∧ De w wx w.heap.size (cm P room ch) ∧ Lw wx q K ∧ Blk wx bx (faA ⟨a0, x.keep, x.torn⟩) 32)
            case first =>
              by_cases hn : x.at_ < 0
              · go_wp2_with ((with_reducible (refine at_list ?_; refine wpList_storeCell (op := ⟨none, .store 3 (.tmp 122) _, _, _, _, _⟩) rfl _ _ _ rfl bx 0 rfl (.int .i64 0) rfl _ _ hb2 iIntS rfl rfl (by simp [faA]) ?_)); intro w4 hg4 hs4 hb4; clear hs4)
                go_meet
                case rel => exact ⟨0, by omega, by omega, hDe2.fall rfl hg4 hb2 hbxl, hLw2.fall hg4 hb2, hb4⟩
              · go_wp2_with fail
                go_meet
                case rel => exact ⟨x.at_, by omega, hxm, hDe2, hLw2, hb2⟩
            case rest =>
              obtain ⟨a0, ha0, ha1, hDe5, hLw5, hb5⟩ := hcut
              clear hDe2 hLw2 hb2 hDe1 hLw1 hb1 hg2 hw1 hDe hLw hrg
              go_upto_region 27 with fail
              obtain ⟨r0, hr0, hr1, hr2⟩ : ∃ r0 : Int, a0.tmod 10 = r0 ∧ 0 ≤ r0 ∧ r0 ≤ 9 := ⟨_, rfl, by have := Int.tmod_eq_emod_of_nonneg (b := 10) ha0; omega, by have := Int.tmod_eq_emod_of_nonneg (b := 10) ha0; omega⟩
              go_cut [] from 123 to 129 (fun wx => De w wx w.heap.size (cm P room ch) ∧ Lw wx q K ∧ Blk wx bx (faA ⟨(ch : Nat) + r0, x.keep, x.torn⟩) 32)
              case first =>
                have hbd := hb5.belowSize (Below.drewS wc)
                have hwr : IntKind.i64.wrap ((ch : Int) + r0) = (ch : Int) + r0 := by rw [IntKind.wrap_i64]; omega
                refine wp_region_held_drew (S := fun w' : World => De w w' w.heap.size (cm P room ch) ∧ Lw w' q K) (by kernel_rfl) ⟨hDe5.below (Below.drewS wc), hLw5.below (Below.drewS wc)⟩ (fun hH => ?_)
                try go_frame
                refine wpAnyH_take (i := 0) (oi := ⟨some 123, _, _, _, _, _⟩) (v := .pointer (some ⟨w.heap.size, 0, none⟩)) rfl (by kernel_rfl) (by kernel_rfl) (by kernel_rfl) (fun _ _ _ h => h) (Or.inl ⟨by rfl, fun w hSw => by go_simp⟩) hH ?_
                try simp only [Act.put, List.setIfInBounds_toArray, List.set_cons_zero, List.set_cons_succ]
                refine wpAnyH_take (i := 2) (oi := ⟨some 125, _, _, _, _, _⟩) (v := .pointer (some ⟨bx, 0, none⟩)) rfl (by kernel_rfl) (by kernel_rfl) (by kernel_rfl) (fun _ _ _ h => h) (Or.inl ⟨by rfl, fun w hSw => by go_simp⟩) hH ?_
                try simp only [Act.put, List.setIfInBounds_toArray, List.set_cons_zero, List.set_cons_succ]
                refine wpAnyH_duo (i := 1) (k := 3) (o := ⟨some 124, _, _, _, _, _⟩) (p := ⟨some 126, _, _, _, _, _⟩) rfl rfl (by kernel_rfl) (fun K hK => ?_) (fun K hK => ?_)
                · refine wpList_callR Tryz.func21 (by kernel_rfl) (by kernel_rfl) rfl _ _ rfl #[.pointer (some ⟨w.heap.size, 0, none⟩)] (args1 rfl) _ (de_changes_cm hH.1) ?_
                  rintro e wx ⟨rfl, hwx⟩
                  have hwx2 := hwx.symm
                  subst hwx2
                  clear hwx
                  refine ⟨_, rfl, ?_⟩
                  refine hK _ _ hH ?_
                  clear hK K
                  try simp only [Act.put, List.setIfInBounds_toArray, List.set_cons_zero, List.set_cons_succ]
                  refine wpAnyH_solo (i := 3) (o := ⟨some 126, _, _, _, _, _⟩) rfl (by kernel_rfl) (fun K hK => ?_)
                  refine wpList_loadCell rfl _ _ rfl bx 0 rfl _ _ hbd _ Tryz.underlying3 rfl (.int .i64 a0) (faA_g0x _) ?_
                  refine hK _ _ hH ?_
                  clear hK K
                  try simp only [Act.put, List.setIfInBounds_toArray, List.set_cons_zero, List.set_cons_succ]
                  refine wpAnyH_solo (i := 4) (o := ⟨some 127, _, _, _, _, _⟩) rfl (by kernel_rfl) (fun K hK => ?_)
                  refine wpList_pure rfl (.int .i64 r0) (by go_simp) ?_
                  refine hK _ _ hH ?_
                  clear hK K
                  try simp only [Act.put, List.setIfInBounds_toArray, List.set_cons_zero, List.set_cons_succ]
                  refine wpAnyH_solo (i := 5) (o := ⟨some 128, _, _, _, _, _⟩) rfl (by kernel_rfl) (fun K hK => ?_)
                  refine wpList_pure rfl (.int .i64 ((ch : Nat) + r0)) (by go_simp) ?_
                  refine hK _ _ hH ?_
                  clear hK K
                  try simp only [Act.put, List.setIfInBounds_toArray, List.set_cons_zero, List.set_cons_succ]
                  refine wpAnyH_solo (i := 6) (o := ⟨some 129, _, _, _, _, _⟩) rfl (by kernel_rfl) (fun K hK => ?_)
                  refine wpList_pure rfl (.pointer (some ⟨bx, 0, none⟩)) (by go_simp) ?_
                  refine hK _ _ hH ?_
                  clear hK K
                  try simp only [Act.put, List.setIfInBounds_toArray, List.set_cons_zero, List.set_cons_succ]
                  refine wpAnyH_solo (i := 7) (o := ⟨none, _, _, _, _, _⟩) rfl (by kernel_rfl) (fun K hK => ?_)
                  refine wpList_storeCell rfl _ _ _ rfl bx 0 rfl (.int .i64 ((ch : Nat) + r0)) rfl _ _ hbd iIntS rfl rfl (by simp [faA]) ?_
                  intro w6 hg6 hs6 hb6
                  clear hs6
                  have hH6 := And.intro (hH.1.fall rfl hg6 hbd hbxl) (hH.2.fall hg6 hbd)
                  refine hK _ _ hH6 ?_
                  clear hK K
                  try simp only [Act.put]
                  refine wpAnyH_done (by kernel_rfl) ?_ _
                  try simp only [Act.put]
                  try go_simp
                  go_wp2_with fail
                  go_meet
                  case rel => exact ⟨hH6.1, hH6.2, hb6⟩
                · refine wpList_loadCell rfl _ _ rfl bx 0 rfl _ _ hbd _ Tryz.underlying3 rfl (.int .i64 a0) (faA_g0x _) ?_
                  refine hK _ _ hH ?_
                  clear hK K
                  try simp only [Act.put, List.setIfInBounds_toArray, List.set_cons_zero, List.set_cons_succ]
                  refine wpAnyH_take (i := 4) (oi := ⟨some 127, _, _, _, _, _⟩) (v := .int .i64 r0) rfl (by kernel_rfl) (by kernel_rfl) (by kernel_rfl) (fun _ _ _ h => h) (Or.inl ⟨by rfl, fun w hSw => by go_simp⟩) hH ?_
                  try simp only [Act.put, List.setIfInBounds_toArray, List.set_cons_zero, List.set_cons_succ]
                  refine wpAnyH_solo (i := 1) (o := ⟨some 124, _, _, _, _, _⟩) rfl (by kernel_rfl) (fun K hK => ?_)
                  refine wpList_callR Tryz.func21 (by kernel_rfl) (by kernel_rfl) rfl _ _ rfl #[.pointer (some ⟨w.heap.size, 0, none⟩)] (args1 rfl) _ (de_changes_cm hH.1) ?_
                  rintro e wx ⟨rfl, hwx⟩
                  have hwx2 := hwx.symm
                  subst hwx2
                  clear hwx
                  refine ⟨_, rfl, ?_⟩
                  refine hK _ _ hH ?_
                  clear hK K
                  try simp only [Act.put, List.setIfInBounds_toArray, List.set_cons_zero, List.set_cons_succ]
                  refine wpAnyH_solo (i := 5) (o := ⟨some 128, _, _, _, _, _⟩) rfl (by kernel_rfl) (fun K hK => ?_)
                  refine wpList_pure rfl (.int .i64 ((ch : Nat) + r0)) (by go_simp) ?_
                  refine hK _ _ hH ?_
                  clear hK K
                  try simp only [Act.put, List.setIfInBounds_toArray, List.set_cons_zero, List.set_cons_succ]
                  refine wpAnyH_solo (i := 6) (o := ⟨some 129, _, _, _, _, _⟩) rfl (by kernel_rfl) (fun K hK => ?_)
                  refine wpList_pure rfl (.pointer (some ⟨bx, 0, none⟩)) (by go_simp) ?_
                  refine hK _ _ hH ?_
                  clear hK K
                  try simp only [Act.put, List.setIfInBounds_toArray, List.set_cons_zero, List.set_cons_succ]
                  refine wpAnyH_solo (i := 7) (o := ⟨none, _, _, _, _, _⟩) rfl (by kernel_rfl) (fun K hK => ?_)
                  refine wpList_storeCell rfl _ _ _ rfl bx 0 rfl (.int .i64 ((ch : Nat) + r0)) rfl _ _ hbd iIntS rfl rfl (by simp [faA]) ?_
                  intro w6 hg6 hs6 hb6
                  clear hs6
                  have hH6 := And.intro (hH.1.fall rfl hg6 hbd hbxl) (hH.2.fall hg6 hbd)
                  refine hK _ _ hH6 ?_
                  clear hK K
                  try simp only [Act.put]
                  refine wpAnyH_done (by kernel_rfl) ?_ _
                  try simp only [Act.put]
                  try go_simp
                  go_wp2_with fail
                  go_meet
                  case rel => exact ⟨hH6.1, hH6.2, hb6⟩
              case rest =>
                obtain ⟨hDe6, hLw6, hb6⟩ := hcut
                clear hDe5 hLw5 hb5
                have hfa : (ch : Int) ≤ (FA.mk ((ch : Nat) + r0) x.keep x.torn).at_ := by show (ch : Int) ≤ (ch : Nat) + r0; omega
                generalize FA.mk ((ch : Nat) + r0) x.keep x.torn = f6 at *
                go_wp2_with (first
                  | (go_at_call 22; first
                     | (refine HPl7.mono ?_; rintro e w8 ⟨rfl, hDe8, hKo8⟩; clear HPl7; have hLw8 := hLw7.ko hKo8; have hb8 := hKo8.b hb67 (by decide) (by decide); have HO8 := de_fall (show De w w8 w.heap.size (pm P room ch f6) from hDe8) hRk hG (by omega) hfa)
                     | (refine HP9.mono ?_; rintro e w10 ⟨rfl, hDe10, hKo10⟩; clear HP9; have hLw10 := hLw9.ko hKo10; have hb10 := hKo10.b hb9 (by decide) (by decide); have HCr := de_crash hDe10 (show ({ m9 with pl := none } : DN).l = mk P9 by rcases hm9 with rfl | rfl <;> rfl) (rk_len hRk9) (by have := hRk9.used; omega) f6.keep f6.torn))
                  | (go_at_call 10; refine HO8.mono ?_; rintro e w9 ⟨⟨v9, rfl⟩, P9, ch9, m9, hRk9, hch9, hDe9, hm9, hKo9⟩; clear HO8; have hLw9 := hLw8.ko hKo9; have hb9 := hKo9.b hb8 (by decide) (by decide); have HP9 := de_plan0 hDe9)
                  | (go_at_call 14; refine HCr.mono ?_; rintro e w11 ⟨rfl, hDe11, hKo11⟩; clear HCr; have hLw11 := hLw10.ko hKo11; have HUp := de_up hDe11)
                  | (go_at_call 15; refine HUp.mono ?_; rintro e w12 ⟨rfl, hDe12, hKo12⟩; clear HUp; have hLw12 := hLw11.ko hKo12)
                  | ((with_reducible (refine at_list ?_; refine wpList_loadRow (op := ⟨some 131, _, _, _, _, _⟩) rfl _ _ rfl bx rfl _ _ hb6 _ Tryz.underlying32 rfl (iFa f6) ?_)))
                  | ((with_reducible (refine at_list ?_; refine wpList_bslF (op := ⟨some 132, _, _, _, _, _⟩) rfl _ rfl f6 rfl ?_)); intro w7 hw7 hb7; have hDe7 := hDe6.below hw7; have hLw7 := hLw6.below hw7; have hb67 := hb6.belowSize hw7; have HPl7 := de_plan1 hDe7 f6 hb7)
                  | ((with_reducible (refine at_list ?_; refine wpList_loadCell (op := ⟨some 140, _, _, _, _, _⟩) rfl _ _ rfl bx 1 rfl _ _ hb10 _ Tryz.underlying3 rfl _ (faA_g1 _) ?_)))
                  | ((with_reducible (refine at_list ?_; refine wpList_loadCell (op := ⟨some 142, _, _, _, _, _⟩) rfl _ _ rfl bx 2 rfl _ _ hb10 _ Tryz.underlying3 rfl _ (faA_g2 _) ?_))))
                have hDe13 : De w w12 w.heap.size (cm P9 room ch9) := by rcases hm9 with rfl | rfl <;> exact hDe12
                go_roundw
                case rel => exact ⟨i + 1, P9, ch9, by omega, by omega, by go_num, hDe13, hRk9, by omega, hLw12⟩
                case measure => simp [intOf]; omega
          · have hend : (¬ (i : Int) < (fl.length : Int)) ∨ ((i : Int) < (fl.length : Int) ∧ ¬ (i : Int) < 6) := by omega
            go_upto_region 22 with fail
            go_cut [112] from 105 to 145 (fun c wx => c = .bool false ∧ wx = wr)
            case first =>
              clear hlt
              rcases hend with hz1 | ⟨hz1, hz2⟩
              · go_wp2_with fail
                go_meet
                case rel => exact ⟨rfl, rfl⟩
              · go_wp2_with fail
                go_meet
                case rel => exact ⟨rfl, rfl⟩
            case rest =>
              obtain ⟨e112, hwx⟩ := hcut
              subst e112
              have hwx2 := hwx.symm; subst hwx2; clear hwx
              clear hend hlt
              have hkm : K.length ≤ 1000000 := by omega
              have HO := de_open hDe hRk hG (by omega) hk4
              go_wp2_with (first
                | (go_at_call 10; refine HO.mono ?_; rintro e w9 ⟨q2, t2, rfl, hTl, hB9, hKo9⟩; clear HO; have hLw9 := hLw.ko hKo9; have HS1 := tl_snap hTl)
                | (go_at_call 17; refine HS1.mono ?_; rintro e wx ⟨rfl, hwx⟩; have hwx2 := hwx.symm; subst hwx2; clear hwx; clear HS1; have HA1 := tl_all hTl)
                | (go_at_call 20; first
                   | (refine HA1.mono ?_; rintro e w12 ⟨aB, cB, rfl, hw12, hTB⟩; clear HA1; have HA2 := lw_all (hLw9.below hw12))
                   | (refine HA2.mono ?_; rintro e w13 ⟨aC, cC, rfl, hw13, hTC⟩; clear HA2; have HE := same_true K aB aC cB cC w13 (hTB.below hw13) hTC hkm))
                | (go_at_call 19; refine HE.mono ?_; rintro e w14 ⟨rfl, hw14⟩; clear HE))
              go_ret
              exact ⟨rfl, ((hB9.trans (hw12.mono hB9.size)).trans (hw13.mono (Nat.le_trans hB9.size hw12.size))).trans (hw14.mono (Nat.le_trans (Nat.le_trans hB9.size hw12.size) hw13.size))⟩
end Go.Proofs.YtaiiojbakmminaaGreatDoor
