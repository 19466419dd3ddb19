/- What Exec does . -/
import Derived.Test.YtmbdhngoldganaaGreatDoorCln
namespace Go.Proofs.YtmbdhngoldganaaGreatDoor
open Go Go.RowKit
/-- What Exec leaves. -/
def ExP (w : World) (bs bt : Nat) (m : List KV) (t : Tr) (l : List TX) (e : Ending) (w' : World) : Prop :=
  ∃ lo sd st dls, e = .returned (.tuple #[sd, st]) ∧ DN w w' bs bt lo (exS m l) (exR m t l) sd st dls (exD m l) (exE m l)
theorem OS.nb {w : World} {t : TypeId} {g cap B : Nat} {l : List O} (h : OS w t g cap l) : NB w B t (some ⟨g, 0, none⟩) := fun g' o hs => by
  simp only [Option.some.injEq, Addr.mk.injEq] at hs
  obtain ⟨rfl, _⟩ := hs
  obtain ⟨cur, h4, _⟩ := h.out
  exact ⟨h.lt, .inr ⟨cur, _, h4⟩⟩
theorem OS.toSL {w : World} {t : TypeId} {g cap : Nat} {l : List O} (h : OS w t g cap l) : SL w (some ⟨g, 0, none⟩) l := by
  have h1 : OL w t g (.slice (some ⟨g, 0, none⟩) l.length cap) l := .inr ⟨g, cap, Nat.le_refl _, rfl, h⟩
  obtain ⟨a, cap', he, hs⟩ := h1.sl
  simp only [Value.slice.injEq] at he
  rw [he.1]
  exact hs
theorem XT.grown {w w' : World} {g : Nat} {l : List (List UInt8)} {row : Option Nat} (h : XT w g l) (hg : w.grownBy w' row) (hne : some g ≠ row) : XT w' g l := fun i x hx => by
  have h3 := h i x hx
  have e := hg.block g (World.block_lt_of_cell? _ _ h3) hne
  simp only [World.cell?] at h3 ⊢
  rw [e]
  exact h3
theorem XT.below {w w' : World} {g : Nat} {l : List (List UInt8)} (h : XT w g l) (hb : Below w.heap.size w w') : XT w' g l := h.grown (row := none) (grown_of_below hb) (fun e => nomatch e)
theorem ex_put {w : World} {bs bt : Nat} {m : List KV} {t : Tr} (h : EX w bs bt m t) (hc : Tr.Canon 0 t) (hn : t.cnt ≤ 3500) (k v : List UInt8) (hk : k.length ≤ 1000) (hv : v.length ≤ 1000) :
    Calls Tryz.prog 99 #[.pointer (some ⟨bt, 0, none⟩), .string ⟨k.toArray⟩, .string ⟨v.toArray⟩] w fun e w' => e = .returned (.int .i64 0) ∧ ∃ q', Sh.Blk w' bt #[.pointer q'] 215 ∧ Sh.HF w' (Tr.put 256 0 t (ofD Sh.TgD k v)) q' ∧ w.grownBy w' (some bt) := by
  obtain ⟨q, h1, h2⟩ := h.tr
  exact Sh.tput_any bt q t k v w h.glob h1 h2 hc hn hk hv
theorem ex_del {w : World} {bs bt : Nat} {m : List KV} {t : Tr} (h : EX w bs bt m t) (hc : Tr.Canon 0 t) (hn : t.cnt ≤ 3500) (k : List UInt8) (hk : k.length ≤ 1000) :
    Calls Tryz.prog 178 #[.pointer (some ⟨bt, 0, none⟩), .string ⟨k.toArray⟩] w fun e w' => (∃ y : Bool, e = .returned (.bool y)) ∧ ∃ q', Sh.Blk w' bt #[.pointer q'] 215 ∧ Sh.HF w' (Tr.del 256 0 t (Sh.TgD 80 [k])) q' ∧ w.grownBy w' (some bt) := by
  obtain ⟨q, h1, h2⟩ := h.tr
  exact (Sh.tdel_any bt q t k w h.glob h1 h2 hc hn hk).mono fun e w' ⟨he, hq⟩ => ⟨⟨_, he⟩, hq⟩
theorem exS_snoc (m : List KV) (l : List TX) (x : TX) : exS m (l ++ [x]) = apM (exS m l) x := by rw [exS_app]; rfl
theorem exR_snoc (m : List KV) (t : Tr) (l : List TX) (x : TX) : exR m t (l ++ [x]) = exT (exS m l) (exR m t l) x := by rw [exR_app]; rfl
theorem exE_snoc (m : List KV) (l : List TX) (x : TX) : exE m (l ++ [x]) = exE m l ++ [apE (exS m l) x] := by rw [exE_app]; rfl
theorem exD_snoc (m : List KV) (l : List TX) (x : TX) : exD m (l ++ [x]) = exD m l ++ (if apE (exS m l) x = 0 then [x] else []) := by rw [exD_app]; unfold exD; split <;> rfl
section
attribute [local go_sem] Oper.semAt_some
set_option maxRecDepth 100000 in
set_option maxHeartbeats 2000000 in
/-- What follow does: texts are laid into the tree, or taken away. -/
theorem follow_any (T : List (List UInt8)) (hTe : ∀ k ∈ T, k.length ≤ 33) (hTl : T.length ≤ 9) (bs bt : Nat) (mx : List KV) (ti : Tr) (g4 cp4 : Nat) (w : World) (hE : EX w bs bt mx ti) (hSm : Sz mx) (hCi : Tr.Canon 0 ti) (hni2 : ti.cnt ≤ 3490) (hX : XT w g4 T) (hg4 : g4 ≠ bt) :
    Calls Tryz.prog 145 #[.pointer (some ⟨bt, 0, none⟩), .pointer (some ⟨bs, 0, none⟩), .slice (some ⟨g4, 0, none⟩) T.length cp4] w fun e w' => e = .returned (.tuple #[]) ∧ ∃ q', Sh.Blk w' bt #[.pointer q'] 215 ∧ Sh.HF w' (laysK mx ti T) q' ∧ w.grownBy w' (some bt) := by
  go_enter Tryz.func145, Tryz.ntmps145
  go_wp2_with fail
  go_loopw [12] (fun v12 wl => ∃ j : Nat, j ≤ T.length ∧ v12 = .int .i64 j ∧ EX wl bs bt mx (laysK mx ti (T.take j)) ∧ w.grownBy wl (some bt) ∧ XT wl g4 T) (fun v12 _ => T.length - (intOf v12).toNat)
  case atStart => exact ⟨0, by omega, rfl, by rw [List.take_zero]; exact hE, World.grownBy.refl _ _, hX⟩
  case round =>
    obtain ⟨j, hjl, rfl, hDj, hGj, hXj⟩ := hrel
    clear hE hX
    by_cases hjt : j < T.length
    · have ck := hXj j _ (List.getElem?_eq_getElem hjt)
      have hk33 := hTe _ (List.getElem_mem hjt)
      have hsn : Hid (laysK mx ti (T.take (j + 1)) = stepK mx (laysK mx ti (T.take j)) T[j]) := by show _ = _; rw [List.take_succ_eq_append_getElem hjt, laysK_snoc]
      obtain ⟨hCj, hnj⟩ := laysK_ok (m := mx) (l := T.take j) hCi
      have hnj2 : (laysK mx ti (T.take j)).cnt ≤ 3500 := by rw [List.length_take] at hnj; omega
      have y1 : (0 : Int) ≤ (j : Int) := by omega
      have y2 : (j : Int) < (T.length : Int) := by omega
      have hXg : Hid (XT wr g4 T) := hXj
      have hGg : Hid (w.grownBy wr (some bt)) := hGj
      clear hnj hXj hGj
      generalize hkk : T[j] = k at *
      clear hkk
      generalize laysK mx ti (T.take j) = tj at *
      have HV := fun w1 (d : EX w1 bs bt mx tj) => value_st bs mx k w1 d.st (Nat.le_trans hk33 (by decide))
      have HPt := fun w1 (d : EX w1 bs bt mx tj) => ex_put d hCj hnj2 k (valM mx k) (by omega) (Nat.le_trans (hSm.val k) (by decide))
      have HDl := fun w1 (d : EX w1 bs bt mx tj) => ex_del d hCj hnj2 k (by omega)
      cases hh : hasM mx k
      · have hst2 : Hid (stepK mx tj k = Tr.del 256 0 tj (Sh.TgD 80 [k])) := if_neg (by rw [hh]; exact Bool.noConfusion)
        rw [hst2.out] at hsn
        rw [hh] at HV
        clear hh HPt
        go_wp2_with (first
          | (go_at_call 113; refine (HV _ hDj).mono ?_; rintro e w10 ⟨rfl, hw10⟩; clear HV; replace hDj := hDj.below hw10; have hX10 := hXg.out.below hw10; have hG10 : Hid (w.grownBy w10 (some bt)) := grown_trans hGg.out (grown_of_below hw10); clear hw10)
          | (go_at_call 178; refine (HDl _ hDj).mono ?_; rintro e w11 ⟨⟨yb, rfl⟩, hq11⟩; clear HDl; have hD11 := hDj.tree hq11; obtain ⟨_, _, _, hg11⟩ := hq11; have hX11 := hX10.grown hg11 (fun e => hg4 (Option.some.inj e)); have hG11 : Hid (w.grownBy w11 (some bt)) := grown_trans hG10.out hg11; clear hg11))
        go_roundw
        case rel => exact ⟨j + 1, by omega, by go_num, by rw [hsn.out]; exact hD11, hG11.out, hX11⟩
        case measure => simp [intOf]; omega
      · have hst2 : Hid (stepK mx tj k = Tr.put 256 0 tj (ofD Sh.TgD k (valM mx k))) := if_pos hh
        rw [hst2.out] at hsn
        rw [hh] at HV
        clear hh HDl
        go_wp2_with (first
          | (go_at_call 113; refine (HV _ hDj).mono ?_; rintro e w10 ⟨rfl, hw10⟩; clear HV; replace hDj := hDj.below hw10; have hX10 := hXg.out.below hw10; have hG10 : Hid (w.grownBy w10 (some bt)) := grown_trans hGg.out (grown_of_below hw10); clear hw10)
          | (go_at_call 99; refine (HPt _ hDj).mono ?_; rintro e w11 ⟨rfl, hq11⟩; clear HPt; have hD11 := hDj.tree hq11; obtain ⟨_, _, _, hg11⟩ := hq11; have hX11 := hX10.grown hg11 (fun e => hg4 (Option.some.inj e)); have hG11 : Hid (w.grownBy w11 (some bt)) := grown_trans hG10.out hg11; clear hg11))
        go_roundw
        case rel => exact ⟨j + 1, by omega, by go_num, by rw [hsn.out]; exact hD11, hG11.out, hX11⟩
        case measure => simp [intOf]; omega
    · have y2 : ¬ (j : Int) < (T.length : Int) := by omega
      rw [List.take_of_length_le (by omega)] at hDj
      obtain ⟨q', ht1, ht2⟩ := hDj.tr
      go_wp2_with fail
      go_end0
      exact ⟨rfl, q', ht1, ht2, hGj⟩
set_option maxRecDepth 100000 in
set_option maxHeartbeats 4000000 in
theorem exec_any (l : List TX) (hok : ∀ x ∈ l, okTx x = true) (hl : l.length ≤ 16) (bs bt : Nat) (m : List KV) (t : Tr) (a : Option Addr) (cap : Nat) (c : Bool) (a2 : Option Addr) (n2 cap2 : Nat) (w : World) (hE : EX w bs bt m t) (hS : Sz m) (hC : Tr.Canon 0 t) (hn : t.cnt ≤ 3300) (hT : TA w a l) :
    Calls Tryz.prog 106 #[.pointer (some ⟨bs, 0, none⟩), .pointer (some ⟨bt, 0, none⟩), .agg (bc (.slice a l.length cap) c (.slice a2 n2 cap2))] w (ExP w bs bt m t l) := by
  have hbs := hE.lts
  have hbt := hE.ltt
  have h2 : Hid (2 ≤ w.heap.size) := hE.glob.two
  go_enter Tryz.func106, Tryz.ntmps106
  go_wp2_with (with_reducible refine at_list ?_; refine wpList_boxRow (op := ⟨some 5, _, _, _, _, _⟩) rfl _ _ rfl _ rfl ?_; intro w1 hw1 hs1 h1; replace hs1 := hs1.symm; have c0 := (h1.cell 0).trans (bc_g0 _ _ _))
  clear c0 h1
  obtain ⟨lo, hlo⟩ : ∃ lo, lo = w1.heap.size := ⟨_, rfl⟩
  have hst : DN w w1 bs bt lo m t (.slice none 0 0) (.slice none 0 0) [] [] [] :=
    ⟨hE.below hw1, (Two.refl bs bt w).below hw1, h2.out, by omega, by omega, Sh.GL.nil _ _ _ _, TXL.nil _ _ _, Sh.GL.nil _ _ _ _⟩
  have hlw : w.heap.size < lo := by omega
  clear hs1 hw1 hlo
  go_loopw [8, 9, 23] (fun v8 v9 v27 wl => ∃ (i : Nat) (dls : List (List Value)), i ≤ l.length ∧ v27 = .int .i64 i ∧ DN w wl bs bt lo (exS m (l.take i)) (exR m t (l.take i)) v8 v9 dls (exD m (l.take i)) (exE m (l.take i))) (fun _ _ v27 _ => l.length - (intOf v27).toNat)
  case atStart => exact ⟨0, [], by omega, rfl, by rw [List.take_zero]; exact hst⟩
  case round =>
    obtain ⟨i, dls, hil, rfl, hD⟩ := hrel
    clear hst
    by_cases hlt : i < l.length
    · obtain ⟨g, o, rfl⟩ := hT.ex (by omega)
      obtain ⟨sa, sc, hr0, hs0, hx1, hx2⟩ := hT.at i hlt
      have hokx : okTx l[i] = true := hok _ (List.getElem_mem hlt)
      have hSi : Sz (exS m (l.take i)) := hS.exS _
      obtain ⟨hCi, hni⟩ := exR_ok (m := m) (t := t) (l := l.take i) (fun y hy => hok y (List.mem_of_mem_take hy)) hC
      have hni2 : (exR m t (l.take i)).cnt ≤ 3444 := by rw [List.length_take] at hni; omega
      have n1 : Hid (exS m (l.take (i + 1)) = apM (exS m (l.take i)) l[i]) := by show _ = _; rw [List.take_succ_eq_append_getElem hlt, exS_snoc]
      have n2' : Hid (exR m t (l.take (i + 1)) = exT (exS m (l.take i)) (exR m t (l.take i)) l[i]) := by show _ = _; rw [List.take_succ_eq_append_getElem hlt, exR_snoc]
      have n3 : Hid (exE m (l.take (i + 1)) = exE m (l.take i) ++ [apE (exS m (l.take i)) l[i]]) := by show _ = _; rw [List.take_succ_eq_append_getElem hlt, exE_snoc]
      have n4 : Hid (exD m (l.take (i + 1)) = exD m (l.take i) ++ (if apE (exS m (l.take i)) l[i] = 0 then [l[i]] else [])) := by show _ = _; rw [List.take_succ_eq_append_getElem hlt, exD_snoc]
      have ll1 : Hid ((exE m (l.take i)).length ≤ 1000) := by show _ ≤ _; rw [exE_len, List.length_take]; omega
      have ll2 : Hid ((exD m (l.take i)).length ≤ 1000) := by
        show _ ≤ _
        have h3 := exD_len m (l.take i)
        rw [List.length_take] at h3
        omega
      have hz1 : (0 : Int) ≤ (i : Int) := by omega
      have hz2 : (i : Int) < (l.length : Int) := by omega
      have hlt8 : Hid (∀ r, Sh.slBlk u8 = some r → r < wr.heap.size) := fun r e => (hD.dn.lt r e).2
      generalize hxx : l[i] = x at *
      clear hxx
      generalize exS m (l.take i) = mi at *
      generalize exR m t (l.take i) = ti at *
      generalize exE m (l.take i) = Ei at *
      generalize exD m (l.take i) = Di at *
      have HA := fun w1 (d : Two bs bt w w1) (e : EX w1 bs bt mi ti) => apply_any x sa sc bs mi w1 e.st (hs0.two d hE) e.glob hSi.len hx1 hx2 (Nat.le_trans (hSi.val _) (by decide))
      have hrw : wr.rangeAt g (o + i * 3) (txc x.client x.nonce (.slice sa x.ops.length sc)).toList := range_two hr0 hD.two hE
      have hws := hD.two.size
      by_cases he : apE mi x = 0
      · have hxT : Hid (exT mi ti x = laysK (apM mi x) ti (apT x)) := if_pos he
        have hxD : Hid ((if apE mi x = 0 then [x] else []) = [x]) := if_pos he
        rw [hxT.out] at n2'
        rw [hxD.out] at n4
        rw [he] at n3
        clear hxT hxD
        have hlt9 : Hid (∀ r, Sh.slBlk u9 = some r → r < wr.heap.size) := fun r e => (hD.tld.lt r e).2
        have hop := okTx_of hokx
        have HC := fun w1 (d : Two bs bt w w1) => tclone_any x sa sc w1 (hs0.two d hE) (Nat.lt_of_lt_of_le Nat.zero_lt_one hop.len0) (Nat.le_trans hop.len1 (by decide))
        have hTe := apT_each hokx
        have hTl := apT_len hokx
        have hSm : Sz (apM mi x) := hSi.apply x
        have HF := fun g4 cp4 w1 (d : EX w1 bs bt (apM mi x) ti) (h4 : XT w1 g4 (apT x)) (h5 : g4 ≠ bt) => follow_any (apT x) hTe hTl bs bt (apM mi x) ti g4 cp4 w1 d hSm hCi (by omega) h4 h5
        clear hTe hTl
        go_wp2_with (first
          | (go_at_call 144; refine (HA _ hD.two hD.ex).mono ?_; rintro e w4 hA; obtain ⟨g4, cp4, rfl, hlo4, hX4⟩ := hA.txt he; clear HA; have hl3 := h11.lt; replace h11 := h11.grown hA.grown (fun e => by have := Option.some.inj e; omega); replace hD := hD.apply hA; clear hA)
          | (go_at_call 145; refine (HF _ _ _ hD6.ex hX4 (by omega)).mono ?_; rintro e w10 ⟨rfl, hq10⟩; clear HF hX4; replace hD6 := hD6.tree hq10; obtain ⟨_, _, _, hg10⟩ := hq10; replace h11 := h11.grown hg10 (fun e => by have := Option.some.inj e; omega); clear hg10)
          | (go_at_call 111; refine (HC _ hD6.two).mono ?_; rintro e w7 ⟨g7, cp7, rfl, hg7, hw7, hO7⟩; clear HC; replace hD6 := hD6.below hw7; clear hw7)
          | (with_reducible refine at_list ?_; first
            | (refine wpList_loadOp (op := ⟨some 26, _, _, _, _, _⟩) rfl _ _ rfl g (o + i * 3) rfl (txc x.client x.nonce (.slice sa x.ops.length sc)) hrw _ Tryz.underlying95 rfl (by rw [txc_size]; exact zTx.2) ?_)
            | (refine wpList_allocRow (op := ⟨some 11, _, _, _, _, _⟩) rfl _ rfl _ zTx.1 ?_; intro w2 hw2 hs2 h11; replace hs2 := hs2.symm; replace hD := hD.below hw2; clear hrw hw2)
            | (refine wpList_storeRow (op := ⟨none, .store 95 (.tmp 11) (.tmp 26), _, _, _, _⟩) rfl _ _ _ rfl wr.heap.size (txc x.client x.nonce (.slice sa x.ops.length sc)) rfl rfl _ _ h11 (by simp only [txc_size]) (by rw [txc_size]; exact zTx.2) (txc_one _ _ _ _ _) ?_; intro w3 hg3 hs3 hb3; clear hs3; replace hD := hD.other hg3 h11 hws (by decide) (fun r e => Nat.ne_of_lt (hlt8.out r e)); replace h11 := hb3; clear hg3 hb3)
            | (refine wpList_loadRow (op := ⟨some 29, _, _, _, _, _⟩) rfl _ _ rfl wr.heap.size rfl _ _ h11 _ Tryz.underlying95 rfl (by rw [txc_size]; exact zTx.2) ?_)
            | (refine wpList_bslE (op := ⟨some 35, _, _, _, _, _⟩) rfl _ rfl 0 rfl ?_; intro w5 hw5 hb5; replace hD := hD.below hw5; replace h11 := h11.belowSize hw5; replace hX4 := hX4.below hw5; clear hw5)
            | (refine wpList_told (op := ⟨some 36, _, _, _, _, _⟩) rfl _ _ rfl hD rfl w4.heap.size 1 rfl 0 hb5 ll1.out ?_; intro w6 st6 hD6 hg6; replace h11 := h11.grown hg6 (fun e => by have := hlt9.out _ e.symm; omega); replace hX4 := hX4.grown hg6 (fun e => by have := hlt9.out _ e.symm; omega); clear hg6 hb5 hD)
            | (refine wpList_loadRow (op := ⟨some 44, _, _, _, _, _⟩) rfl _ _ rfl wr.heap.size rfl _ _ h11 _ Tryz.underlying95 rfl (by rw [txc_size]; exact zTx.2) ?_)
            | (refine wpList_bslTx (op := ⟨some 46, _, _, _, _, _⟩) rfl _ rfl x.client x.nonce (some ⟨g7, 0, none⟩) x.ops.length cp7 rfl ?_; intro w8 hw8 hb8; replace hD6 := hD6.below hw8; replace hO7 := hO7.below hw8; clear hw8)
            | (refine wpList_done (op := ⟨some 47, _, _, _, _, _⟩) rfl _ _ rfl hD6 rfl w7.heap.size 1 rfl x (some ⟨g7, 0, none⟩) cp7 hb8 hO7.toSL hO7.nb hx1 hx2 ll2.out ?_; intro w9 sd9 hD9 hg9; clear hg9 hb8 hD6 hO7)))
        go_roundw
        case rel => exact ⟨i + 1, _, by omega, by go_num, by rw [n1.out, n2'.out, n3.out, n4.out]; exact hD9⟩
        case measure => simp [intOf]; omega
      · have hne : (apE mi x != 0) = true := by simpa using he
        have hxT : Hid (exT mi ti x = ti) := if_neg he
        have hxD : Hid ((if apE mi x = 0 then [x] else []) = ([] : List TX)) := if_neg he
        rw [hxT.out] at n2'
        rw [hxD.out, List.append_nil] at n4
        clear hxT hxD
        clear he
        go_wp2_with (first
          | (go_at_call 144; refine (HA _ hD.two hD.ex).mono ?_; rintro e w4 hA; obtain ⟨sl4, cp4, rfl⟩ := hA.out; clear HA; replace hD := hD.apply hA; clear hA)
          | (with_reducible refine at_list ?_; first
            | (refine wpList_loadOp (op := ⟨some 26, _, _, _, _, _⟩) rfl _ _ rfl g (o + i * 3) rfl (txc x.client x.nonce (.slice sa x.ops.length sc)) hrw _ Tryz.underlying95 rfl (by rw [txc_size]; exact zTx.2) ?_)
            | (refine wpList_allocRow (op := ⟨some 11, _, _, _, _, _⟩) rfl _ rfl _ zTx.1 ?_; intro w2 hw2 hs2 h11; replace hs2 := hs2.symm; replace hD := hD.below hw2; clear hrw hw2)
            | (refine wpList_storeRow (op := ⟨none, .store 95 (.tmp 11) (.tmp 26), _, _, _, _⟩) rfl _ _ _ rfl wr.heap.size (txc x.client x.nonce (.slice sa x.ops.length sc)) rfl rfl _ _ h11 (by simp only [txc_size]) (by rw [txc_size]; exact zTx.2) (txc_one _ _ _ _ _) ?_; intro w3 hg3 hs3 hb3; clear hs3; replace hD := hD.other hg3 h11 hws (by decide) (fun r e => Nat.ne_of_lt (hlt8.out r e)); replace h11 := hb3; clear hg3 hb3)
            | (refine wpList_loadRow (op := ⟨some 29, _, _, _, _, _⟩) rfl _ _ rfl wr.heap.size rfl _ _ h11 _ Tryz.underlying95 rfl (by rw [txc_size]; exact zTx.2) ?_)
            | (refine wpList_bslE (op := ⟨some 35, _, _, _, _, _⟩) rfl _ rfl (apE mi x) rfl ?_; intro w5 hw5 hb5; replace hD := hD.below hw5; clear hw5)
            | (refine wpList_told (op := ⟨some 36, _, _, _, _, _⟩) rfl _ _ rfl hD rfl w4.heap.size 1 rfl (apE mi x) hb5 ll1.out ?_; intro w6 st6 hD6 hg6; clear hg6 hb5 hD)))
        go_roundw
        case rel => exact ⟨i + 1, dls, by omega, by go_num, by rw [n1.out, n2'.out, n3.out, n4.out]; exact hD6⟩
        case measure => simp [intOf]; omega
    · have hz2 : ¬ (i : Int) < (l.length : Int) := by omega
      rw [List.take_of_length_le (by omega)] at hD
      go_wp2_with fail
      go_ret2
      exact ⟨lo, _, _, dls, rfl, hD⟩
end
end Go.Proofs.YtmbdhngoldganaaGreatDoor
