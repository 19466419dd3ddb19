/- What Open does. What Snap, All, Len, Segments and Generation of a log do. What laying a generation and adding do plainly, on a synced disk without falls and without a limit. What a disk holds that a log was laid on, and what Open gives back of it. What Open gives back of a disk that a log was laid on. -/
import Derived.Test.YtaiiojbakmminaaGreatDoorWbo
namespace Go.Proofs.YtaiiojbakmminaaGreatDoor
open Go Go.RowKit
/-- What Open leaves. -/
def OpP (w : World) (p : Nat) (b : Option Nat) (r : LG × (DN × Nat)) (t : Int) (e : Ending) (w' : World) : Prop := ∃ q b' rb', e = .returned (.tuple #[if r.2.2 = 0 then .pointer (some ⟨q, 0, none⟩) else .pointer none, .int .i64 (if r.2.2 = 0 then t else 0), .int .i64 (r.2.2 : Nat)]) ∧ w.heap.size ≤ q ∧ Wch w w' q p b none b' rb' ∧ WK w' q p b' rb' r.1 r.2.1
set_option maxRecDepth 100000 in
set_option maxHeartbeats 1000000 in
theorem open_any (p g : Nat) (b : Option Nat) (m : DN) (z : Int) (r : LG × (DN × Nat)) (t : Int) (hz : 1 ≤ z) (w : World) (hD : DD w p b m) (hp : 2 ≤ p) (hb2 : ∀ k, b = some k → 2 ≤ k) (hG : Gw w) (hm : Okn m) (hd : m.dead = false) (hN : Nms preB (namesL m.l)) (hg : newP (namesL m.l) = (g : Int))
    (HB : ∀ q w', WK w' q p b none ⟨z, g, [], [], 0, 0⟩ m → Gw w' → Calls Tryz.prog 35 #[.pointer (some ⟨q, 0, none⟩)] w' (BgP w' q p b none r t)) :
    Calls Tryz.prog 10 #[.pointer (some ⟨p, 0, none⟩), .int .i64 z] w (OpP w p b r t) := by
  have hz1 : ¬ z < 1 := by omega
  obtain ⟨v, hK, _⟩ := hD.out
  obtain ⟨sl, hB, _⟩ := hK.out
  have HD := dead_any p sl (m.lo v) w hB
  rw [show (m.lo v).dead = false from hd] at HD
  have HNm := names_any p b (m.lo v) w hK (by have := hm.len; show m.l.length ≤ _; omega)
  change Calls Tryz.prog 29 #[.pointer (some ⟨p, 0, none⟩)] w (fun e w' => ∃ sl, e = .returned sl ∧ Below w.heap.size w w' ∧ XL w' w.heap.size sl (namesL m.l)) at HNm
  have HNw := fun ad cap w1 (hT : TA w1 ad (namesL m.l)) (hG1 : Gw w1) => newest_any (namesL m.l) ad cap w1 hT hG1 hN
  rw [hg] at HNw
  clear hN
  generalize namesL m.l = ns at *
  clear hB
  go_enter Tryz.func10, Tryz.ntmps10
  go_upto_region 6 with (first
    | (go_at_call 23; refine HD.mono ?_; rintro e wx ⟨rfl, hwx⟩; have hwx2 := hwx.symm; subst hwx2; clear hwx)
    | (go_at_call 29; refine HNm.mono ?_; rintro e w2 ⟨sl2, rfl, hw2, hX2⟩; obtain ⟨a2, c2, rfl, _, _⟩ := hX2.ts.1.sl; have hX2a := hX2.ta)
    | (go_at_call 34; refine (HNw a2 c2 _ hX2a (hG.below hw2)).mono ?_; rintro e w3 ⟨rfl, hw3⟩; have hB3 := hw2.trans (hw3.mono hw2.size))
    | (with_reducible refine at_list ?_; first
      | (refine wpList_boxRow (op := ⟨some 24, _, _, _, _, _⟩) rfl _ _ rfl (lC p ⟨z, g, [], [], 0, 0⟩ (.slice none 0 0)) rfl ?_; intro w4 hw4 hs4 hb4; clear hs4)))
  have hB4 := hB3.trans (hw4.mono hB3.size)
  have h2g := hG.two
  have hqs := hB3.size
  have hWK : WK w4 w3.heap.size p b none ⟨z, g, [], [], 0, 0⟩ m := WK.of hb4 (TS.nil _) (hD.below hB4) (by omega) hp hb2 (fun k e => by cases e)
  have HC := HB w3.heap.size w4 hWK (hG.below hB4)
  obtain ⟨L1, m1, c⟩ := r
  have fin : ∀ {w9 b9 rb9}, Wch w4 w9 w3.heap.size p b none b9 rb9 → Wch w w9 w3.heap.size p b none b9 rb9 := fun h => (Wch.below hB4).trans h
  by_cases hc : c = 0
  · subst hc
    go_wp2_with (go_at_call 35; refine HC.mono ?_; rintro e w9 ⟨rfl, b9, rb9, hW9, hK9⟩)
    go_ret3
    exact ⟨_, b9, rb9, rfl, hqs, fin hW9, hK9⟩
  · have hci : ¬ (c : Int) = 0 := by omega
    go_wp2_with (go_at_call 35; refine HC.mono ?_; rintro e w9 ⟨rfl, b9, rb9, hW9, hK9⟩)
    go_ret3
    exact ⟨w3.heap.size, b9, rb9, by simp only [hc, if_false]; rfl, hqs, fin hW9, hK9⟩
end Go.Proofs.YtaiiojbakmminaaGreatDoor
namespace Go.Proofs.YtaiiojbakmminaaGreatDoor
open Go Go.RowKit
set_option maxRecDepth 100000 in
theorem snapL_log (q p : Nat) (b rb : Option Nat) (L : LG) (m : DN) (w : World) (hK : WK w q p b rb L m) : Calls Tryz.prog 17 #[.pointer (some ⟨q, 0, none⟩)] w fun e w' => e = .returned (.string ⟨L.snap.toArray⟩) ∧ w' = w := by
  obtain ⟨rv, hL, _, _⟩ := hK.out
  go_enter Tryz.func17, Tryz.ntmps17
  go_wp2_with (with_reducible refine at_list ?_; refine wpList_loadCell (op := ⟨some 8, _, _, _, _, _⟩) rfl _ _ rfl q 3 rfl _ _ hL _ Tryz.underlying9 rfl _ (lC_g3 _ _ _) ?_)
  go_ret
  exact ⟨rfl, rfl⟩
set_option maxRecDepth 100000 in
theorem lenL_log (q p : Nat) (b rb : Option Nat) (L : LG) (m : DN) (w : World) (hK : WK w q p b rb L m) : Calls Tryz.prog 18 #[.pointer (some ⟨q, 0, none⟩)] w fun e w' => e = .returned (.int .i64 (L.recs.length : Nat)) ∧ w' = w := by
  obtain ⟨rv, hL, hT, _⟩ := hK.out
  obtain ⟨a, cap, rfl, _⟩ := hT.sl
  go_enter Tryz.func18, Tryz.ntmps18
  go_wp2_with (with_reducible refine at_list ?_; refine wpList_loadCell (op := ⟨some 8, _, _, _, _, _⟩) rfl _ _ rfl q 4 rfl _ _ hL _ Tryz.underlying30 rfl _ (lC_g4 _ _ _) ?_)
  go_ret
  exact ⟨rfl, rfl⟩
set_option maxRecDepth 100000 in
theorem allL_log (q p : Nat) (b rb : Option Nat) (L : LG) (m : DN) (w : World) (hK : WK w q p b rb L m) (hl : L.recs.length ≤ 1000000) : Calls Tryz.prog 20 #[.pointer (some ⟨q, 0, none⟩)] w fun e w' => ∃ v rb2, e = .returned v ∧ Below w.heap.size w w' ∧ TS w' v rb2 L.recs ∧ ∀ k, rb2 = some k → w.heap.size ≤ k := by
  obtain ⟨rv, hL, hT, _⟩ := hK.out
  obtain ⟨a, cap, rfl, _⟩ := hT.sl
  have HC := clone_ta a cap L.recs w hT.ta hl
  go_enter Tryz.func20, Tryz.ntmps20
  go_wp2_with (first
    | (go_at_call 50; refine HC.mono ?_; rintro e w2 ⟨v2, rb2, rfl, hw2, hT2, hn2⟩)
    | (with_reducible refine at_list ?_; refine wpList_loadCell (op := ⟨some 8, _, _, _, _, _⟩) rfl _ _ rfl q 4 rfl _ _ hL _ Tryz.underlying30 rfl _ (lC_g4 _ _ _) ?_))
  go_ret
  exact ⟨v2, rb2, rfl, hw2, hT2, hn2⟩
end Go.Proofs.YtaiiojbakmminaaGreatDoor
namespace Go.Proofs.YtaiiojbakmminaaGreatDoor
open Go Go.RowKit
def cm (P : PP) (room : Int) (ch : Nat) : DN := ⟨mk P, false, false, room, ch, none⟩
theorem wri_cm (P : PP) (room : Int) (ch : Nat) (n s : B) : wriN (cm P room ch) n s = (⟨lay n (some s) 2 (mk P), false, false, room, ch + 1, none⟩, 0) := by
  simp [wriN, cm, fullN, chgN, hitN]
theorem app_cm {P : PP} (h : RisP P) (room : Int) (ch : Nat) (n s : B) : appN (cm P room ch) n s = (⟨lay n (some (kbyt (getP n P) ++ s)) 1 (mk P), false, false, room, ch + 1, none⟩, 0) := by
  simp [appN, cm, fullN, chgN, hitN, at_mk h]
theorem mov_cm {P : PP} (h : RisP P) (room : Int) (ch : Nat) (n t : B) : movN (cm P room ch) n t = (⟨lay t (getP n P) 3 (lay n none 3 (mk P)), false, false, room, ch + 1, none⟩, 0) := by
  simp [movN, cm, chgN, hitN, at_mk h]
theorem syn_cm (l : List F) (room : Int) (ch : Nat) : synN ⟨l, false, false, room, ch, none⟩ = (cm (nowL l) room ch, 0) := by
  simp [synN, cm, settle_mk]
theorem syn_wri {P : PP} (h : RisP P) (room : Int) (ch : Nat) (n s : B) : synN (wriN (cm P room ch) n s).1 = (cm (putP n (some s) P) room (ch + 1), 0) := by
  rw [wri_cm, syn_cm, lay_now n _ 2 _ (ris_mk.2 h), now_mk]
theorem syn_app {P : PP} (h : RisP P) (room : Int) (ch : Nat) (n s : B) : synN (appN (cm P room ch) n s).1 = (cm (putP n (some (kbyt (getP n P) ++ s)) P) room (ch + 1), 0) := by
  rw [app_cm h, syn_cm, lay_now n _ 1 _ (ris_mk.2 h), now_mk]
theorem lay_ris {n : B} {c : Option B} {k : Nat} {P : PP} (h : RisP P) (hP : ∀ x ∈ P, okN x.1 = true) (hn : okN n = true) : Ris (lay n c k (mk P)) := (lay_ok (mk_ok h hP) hn).ris
theorem syn_mov {P : PP} (h : RisP P) (hP : ∀ x ∈ P, okN x.1 = true) (room : Int) (ch : Nat) (n t : B) (hn : okN n = true) : synN (movN (cm P room ch) n t).1 = (cm (putP t (getP n P) (putP n none P)) room (ch + 1), 0) := by
  rw [mov_cm h, syn_cm, lay_now t _ 3 _ (lay_ris h hP hn), lay_now n _ 3 _ (ris_mk.2 h), now_mk]
theorem swp_cm : ∀ (xs : List B) (l : List F) (room : Int) (ch : Nat), Okl okN l → (∀ x ∈ xs, okN x = true) → ∃ l', swpN ⟨l, false, false, room, ch, none⟩ xs = (⟨l', false, false, room, ch + xs.length, none⟩, 0) ∧ RisP (nowL l') ∧ ∀ n, getP n (nowL l') = if n ∈ xs then none else getP n (nowL l)
  | [], l, room, ch, hl, _ => ⟨l, rfl, now_ris hl.ris, fun n => by simp⟩
  | x :: r, l, room, ch, hl, hx => by
    have h1 : remN ⟨l, false, false, room, ch, none⟩ x = (⟨lay x none 4 l, false, false, room, ch + 1, none⟩, 0) := by simp [remN, chgN, hitN]
    obtain ⟨l', h2, h3, h4⟩ := swp_cm r (lay x none 4 l) room (ch + 1) (lay_ok hl (hx x (by simp))) (fun y hy => hx y (by simp [hy]))
    refine ⟨l', ?_, h3, fun n => ?_⟩
    · unfold swpN
      rw [h1, if_pos rfl, h2]
      simp only [List.length_cons]
      rw [Nat.add_assoc, Nat.add_comm 1]
    · rw [h4, lay_now x none 4 l hl.ris, getP_put]
      by_cases e1 : n = x
      · simp [e1]
      · simp [e1]
/-- What sweep leaves of a synced disk. -/
theorem sweep_cm (g : Nat) {P : PP} (h : RisP P) (hP : ∀ x ∈ P, okN x.1 = true) (room : Int) (ch : Nat) : ∃ ch', ch' ≤ ch + P.length ∧ sweepN g (cm P room ch) = (cm (P.filter fun x => !othK g x.1) room ch', 0) := by
  have hnm : namesL (cm P room ch).l = P.map (·.1) := names_mk P
  have hall : ∀ x ∈ othL g (cm P room ch), okN x = true := fun x hx => by
    unfold othL at hx
    rw [hnm] at hx
    obtain ⟨h1, _⟩ := List.mem_filter.1 hx
    obtain ⟨y, h2, rfl⟩ := List.mem_map.1 h1
    exact hP y h2
  have hlen : (othL g (cm P room ch)).length ≤ P.length := by
    unfold othL
    rw [hnm]
    exact Nat.le_trans (List.length_filter_le ..) (by simp)
  have hmem : ∀ n, n ∈ othL g (cm P room ch) ↔ n ∈ P.map (·.1) ∧ othK g n = true := fun n => by
    unfold othL
    rw [hnm, List.mem_filter]
  by_cases h0 : othL g (cm P room ch) = []
  · refine ⟨ch, by omega, ?_⟩
    have : P.filter (fun x => !othK g x.1) = P := List.filter_eq_self.2 fun x hx => by
      cases ho : othK g x.1 with
      | false => rfl
      | true =>
        have := (hmem x.1).2 ⟨List.mem_map.2 ⟨x, hx, rfl⟩, ho⟩
        rw [h0] at this
        cases this
    rw [this]
    unfold sweepN
    rw [if_pos h0]
  · obtain ⟨l', h1, h2, h3⟩ := swp_cm (othL g (cm P room ch)) (mk P) room ch (mk_ok h hP) hall
    refine ⟨ch + (othL g (cm P room ch)).length, by omega, ?_⟩
    have e : nowL l' = P.filter fun x => !othK g x.1 := ext_P h2 (h.filter _) fun n => by
      rw [h3, now_mk]
      cases hq : getP n P with
      | none =>
        rw [show getP n (P.filter fun x => !othK g x.1) = none from ?_]
        · simp
        · cases hq2 : getP n (P.filter fun x => !othK g x.1) with
          | none => rfl
          | some s =>
            have := (getP_mem (h.filter _)).1 hq2
            rw [(getP_mem h).2 (List.mem_filter.1 this).1] at hq
            cases hq
      | some s =>
        have hin := (getP_mem h).1 hq
        have hn : n ∈ P.map (·.1) := List.mem_map.2 ⟨_, hin, rfl⟩
        cases ho : othK g n with
        | true =>
          rw [if_pos ((hmem n).2 ⟨hn, ho⟩)]
          cases hq2 : getP n (P.filter fun x => !othK g x.1) with
          | none => rfl
          | some s2 =>
            have := (List.mem_filter.1 ((getP_mem (h.filter _)).1 hq2)).2
            simp [ho] at this
        | false =>
          rw [if_neg (fun hh => by rw [((hmem n).1 hh).2] at ho; cases ho)]
          exact ((getP_mem (h.filter _)).2 (List.mem_filter.2 ⟨hin, by simp [ho]⟩)).symm
    unfold sweepN
    rw [if_neg h0]
    change (if (swpN ⟨mk P, false, false, room, ch, none⟩ (othL g (cm P room ch))).2 = 0 then synN (swpN ⟨mk P, false, false, room, ch, none⟩ (othL g (cm P room ch))).1 else _) = _
    rw [h1, if_pos rfl, syn_cm, e]
/-- Reset on a synced disk of which all is of generations up to the log's own. -/
theorem reset_cm (L : LG) {P : PP} (h : RisP P) (hP : ∀ x ∈ P, okN x.1 = true) (room : Int) (ch : Nat) (s : B) (l : List B) (hg : L.g < 99) (hoth : ∀ x ∈ P, othK (L.g + 1) x.1 = true) :
    ∃ ch', ch' ≤ ch + P.length + 4 ∧ resetN L (cm P room ch) s l = (becL L (L.g + 1) s l, (cm [(baseN (L.g + 1), frs [s] ++ frs l)] room ch', 0)) := by
  have w1 : (wriN (cm P room ch) (newN (L.g + 1)) (frs [s] ++ frs l)).2 = 0 := by rw [wri_cm]
  have s1 := syn_wri h room ch (newN (L.g + 1)) (frs [s] ++ frs l)
  have r1 : RisP (putP (newN (L.g + 1)) (some (frs [s] ++ frs l)) P) := putP_ris h
  have okn : okN (newN (L.g + 1)) = true := (WN.new _ (by omega)).ok
  have okb : okN (baseN (L.g + 1)) = true := (WN.base _ (by omega)).ok
  have p1 : ∀ x ∈ putP (newN (L.g + 1)) (some (frs [s] ++ frs l)) P, okN x.1 = true := putP_names (q := fun n => okN n = true) hP (fun _ => okn)
  have s2 := syn_mov r1 p1 room (ch + 1) (newN (L.g + 1)) (baseN (L.g + 1)) okn
  have w2 : (movN (cm (putP (newN (L.g + 1)) (some (frs [s] ++ frs l)) P) room (ch + 1)) (newN (L.g + 1)) (baseN (L.g + 1))).2 = 0 := by rw [mov_cm r1]
  have hget : getP (newN (L.g + 1)) (putP (newN (L.g + 1)) (some (frs [s] ++ frs l)) P) = some (frs [s] ++ frs l) := by rw [getP_put, if_pos rfl]
  rw [hget] at s2
  generalize hQ : putP (baseN (L.g + 1)) (some (frs [s] ++ frs l)) (putP (newN (L.g + 1)) none (putP (newN (L.g + 1)) (some (frs [s] ++ frs l)) P)) = Q at s2
  have rQ : RisP Q := by rw [← hQ]; exact putP_ris (putP_ris r1)
  have pQ : ∀ x ∈ Q, okN x.1 = true := by rw [← hQ]; exact putP_names (q := fun n => okN n = true) (putP_names (q := fun n => okN n = true) p1 (fun e => by cases e)) (fun _ => okb)
  have lQ : Q.length ≤ P.length + 2 := by
    rw [← hQ]
    have h1 := putP_len (n := baseN (L.g + 1)) (c := some (frs [s] ++ frs l)) (P := putP (newN (L.g + 1)) none (putP (newN (L.g + 1)) (some (frs [s] ++ frs l)) P))
    have h2 : (putP (newN (L.g + 1)) none (putP (newN (L.g + 1)) (some (frs [s] ++ frs l)) P)).length ≤ (putP (newN (L.g + 1)) (some (frs [s] ++ frs l)) P).length := List.length_filter_le ..
    have h3 := putP_len (n := newN (L.g + 1)) (c := some (frs [s] ++ frs l)) (P := P)
    omega
  obtain ⟨ch', hc, hs⟩ := sweep_cm (L.g + 1) rQ pQ room (ch + 1 + 1)
  refine ⟨ch', by omega, ?_⟩
  have eQ : (Q.filter fun x => !othK (L.g + 1) x.1) = [(baseN (L.g + 1), frs [s] ++ frs l)] := ext_P (rQ.filter _) (by simp [RisP]) fun n => by
    have hgq : getP n Q = if n = baseN (L.g + 1) then some (frs [s] ++ frs l) else if n = newN (L.g + 1) then none else getP n P := by
      rw [← hQ, getP_put, getP_put, getP_put]
      split
      · rfl
      · split <;> rfl
    rw [getP_cons, getP_nil]
    by_cases e1 : n = baseN (L.g + 1)
    · rw [if_pos e1.symm]
      refine (getP_mem (rQ.filter _)).2 (List.mem_filter.2 ⟨(getP_mem rQ).1 (by rw [hgq, if_pos e1]), ?_⟩)
      simp only [e1, oth_base (show L.g + 1 < 100 by omega) (show L.g + 1 < 100 by omega)]
      simp
    · rw [if_neg (fun e => e1 e.symm)]
      cases hq2 : getP n (Q.filter fun x => !othK (L.g + 1) x.1) with
      | none => rfl
      | some s2 =>
        obtain ⟨h1, h2⟩ := List.mem_filter.1 ((getP_mem (rQ.filter _)).1 hq2)
        have h3 := (getP_mem rQ).2 h1
        rw [hgq, if_neg e1] at h3
        split at h3
        · cases h3
        · have := hoth _ ((getP_mem h).1 h3)
          simp [this] at h2
  rw [eQ] at hs
  unfold resetN
  rw [if_neg (by simp [w1]), s1, if_neg (by simp), if_neg (by simp [w2]), s2, if_neg (by simp), hs]
end Go.Proofs.YtaiiojbakmminaaGreatDoor
namespace Go.Proofs.YtaiiojbakmminaaGreatDoor
open Go Go.RowKit
/-- A disk holds one generation: its base, and its segments. -/
structure Ld (P : PP) (g : Nat) (bt : B) (txs : List B) : Prop where
  ris : RisP P
  g1 : 1 ≤ g
  g2 : g < 100
  n : txs.length < 98
  base : getP (baseN g) P = some bt
  seg : ∀ (i : Nat) (t : B), txs[i]? = some t → getP (segN g (i + 1)) P = some t
  only : ∀ x ∈ P, x.1 = baseN g ∨ ∃ i, i < txs.length ∧ x.1 = segN g (i + 1)
  len : P.length ≤ txs.length + 1
theorem ld_wn {P : PP} {g : Nat} {bt : B} {txs : List B} (h : Ld P g bt txs) : ∀ x ∈ P, WN x.1 := fun x hx => by
  have h2 := h.n
  have h3 := h.g2
  rcases h.only x hx with e | ⟨i, hi, e⟩
  · rw [e]; exact WN.base _ h3
  · rw [e]; exact WN.seg _ _ h3 (by omega)
theorem ld_ok {P : PP} {g : Nat} {bt : B} {txs : List B} (h : Ld P g bt txs) : ∀ x ∈ P, okN x.1 = true := fun x hx => (ld_wn h x hx).ok
theorem ld_none {P : PP} {g : Nat} {bt : B} {txs : List B} (h : Ld P g bt txs) (k : Nat) (hk : k < 100) (hk2 : txs.length < k) : getP (segN g k) P = none := by
  cases hq : getP (segN g k) P with
  | none => rfl
  | some s =>
    have h2 := h.n
    rcases h.only _ ((getP_mem h.ris).1 hq) with e | ⟨i, hi, e⟩
    · exact absurd e.symm (base_seg _ _ _)
    · have := (seg_inj h.g2 h.g2 hk (by omega) e).2
      omega
theorem numK_seg (g n : Nat) : numK preB (segN g n) = none := by
  unfold numK
  rw [preB_seg]
  rfl
theorem ld_nums {P : PP} {g : Nat} {bt : B} {txs : List B} (h : Ld P g bt txs) : (P.map (·.1)).filterMap (numK preB) = [g] := by
  have hin : (baseN g, bt) ∈ P := (getP_mem h.ris).1 h.base
  obtain ⟨A, C, rfl⟩ := List.append_of_mem hin
  have hr := h.ris
  unfold RisP at hr
  rw [List.pairwise_append, List.pairwise_cons] at hr
  obtain ⟨_, ⟨hC, _⟩, hA⟩ := hr
  have hnone : ∀ x, x ∈ A ++ (baseN g, bt) :: C → x.1 ≠ baseN g → numK preB x.1 = none := fun x hx hne => by
    rcases h.only x hx with e | ⟨i, _, e⟩
    · exact absurd e hne
    · rw [e]; exact numK_seg _ _
  have hb : numK preB (baseN g) = some g := numK_app h.g2 h.g1
  rw [List.map_append, List.map_cons, List.filterMap_append, List.filterMap_cons, hb]
  have e1 : (A.map (·.1)).filterMap (numK preB) = [] := List.filterMap_eq_nil_iff.2 fun y hy => by
    obtain ⟨x, hx, rfl⟩ := List.mem_map.1 hy
    exact hnone x (by simp [hx]) (lt_ne (hA x hx (baseN g, bt) (by simp)))
  have e2 : (C.map (·.1)).filterMap (numK preB) = [] := List.filterMap_eq_nil_iff.2 fun y hy => by
    obtain ⟨x, hx, rfl⟩ := List.mem_map.1 hy
    exact hnone x (by simp [hx]) (fun e => lt_ne (hC x hx) e.symm)
  rw [e1, e2]
  rfl
theorem ld_newest {P : PP} {g : Nat} {bt : B} {txs : List B} (h : Ld P g bt txs) : newP (namesL (mk P)) = (g : Int) := by
  rw [names_mk]
  unfold newP numsP fmI
  rw [ld_nums h]
  simp [srtI]
theorem ld_nms {P : PP} {g : Nat} {bt : B} {txs : List B} (h : Ld P g bt txs) : Nms preB (namesL (mk P)) := by
  have h1 := h.n
  have h2 := h.len
  rw [names_mk]
  refine ⟨by rw [List.length_map]; omega, fun x hx => ?_, fun x hx hp z hz => ?_⟩
  · obtain ⟨y, hy, rfl⟩ := List.mem_map.1 hx
    have := (ld_wn h y hy).len
    omega
  · obtain ⟨y, hy, rfl⟩ := List.mem_map.1 hx
    rcases h.only y hy with e | ⟨i, _, e⟩
    · rw [e, show baseN g = preB ++ dg g from rfl, trim_app, dg_atoi h.g2] at hz
      cases hz
      have := h.g2
      omega
    · rw [e, preB_seg] at hp
      cases hp
theorem ld_calm {P : PP} {g : Nat} {bt : B} {txs : List B} (h : Ld P g bt txs) : ∀ x ∈ P, othK g x.1 = false := fun x hx => by
  rcases h.only x hx with e | ⟨i, _, e⟩
  · rw [e, oth_base h.g2 h.g2]; simp
  · rw [e, oth_seg h.g2 h.g2]; simp
theorem ld_sweep {P : PP} {g : Nat} {bt : B} {txs : List B} (h : Ld P g bt txs) (m : DN) (hl : m.l = mk P) : sweepN g m = (m, 0) := by
  have : othL g m = [] := by
    unfold othL
    rw [hl, names_mk, List.filter_eq_nil_iff]
    intro n hn
    obtain ⟨x, hx, rfl⟩ := List.mem_map.1 hn
    simp [ld_calm h x hx]
  unfold sweepN
  rw [if_pos this]
theorem ld_base (g : Nat) (bt : B) (h1 : 1 ≤ g) (h2 : g < 100) : Ld [(baseN g, bt)] g bt [] :=
  ⟨by simp [RisP], h1, h2, by simp, by rw [getP_cons, if_pos rfl], fun i t ht => by simp at ht, fun x hx => .inl (by rw [List.mem_singleton.1 hx]), by simp⟩
/-- A segment more. -/
theorem ld_more {P : PP} {g : Nat} {bt : B} {txs : List B} (h : Ld P g bt txs) (t : B) (hn : txs.length < 97) : Ld (putP (segN g (txs.length + 1)) (some t) P) g bt (txs ++ [t]) := by
  have hgl := h.g2
  refine ⟨putP_ris h.ris, h.g1, h.g2, by simp; omega, ?_, fun i u hu => ?_, fun x hx => ?_, ?_⟩
  · rw [getP_put, if_neg (base_seg _ _ _)]; exact h.base
  · rw [getP_put]
    by_cases e : i = txs.length
    · subst e
      rw [if_pos rfl]
      simpa using hu
    · have hi : i < txs.length := by
        have := (List.getElem?_eq_some_iff.1 hu).1
        simp at this
        omega
      rw [if_neg (fun e2 => e (by have := (seg_inj hgl hgl (by omega) (by omega) e2).2; omega))]
      rw [List.getElem?_append_left hi] at hu
      exact h.seg i u hu
  · refine putP_names (q := fun n => n = baseN g ∨ ∃ i, i < (txs ++ [t]).length ∧ n = segN g (i + 1)) (fun y hy => ?_) (fun _ => .inr ⟨txs.length, by simp, rfl⟩) x hx
    rcases h.only y hy with e | ⟨i, hi, e⟩
    · exact .inl e
    · exact .inr ⟨i, by simp; omega, e⟩
  · have := putP_len (n := segN g (txs.length + 1)) (c := some t) (P := P)
    have := h.len
    simp
    omega
end Go.Proofs.YtaiiojbakmminaaGreatDoor
namespace Go.Proofs.YtaiiojbakmminaaGreatDoor
open Go Go.RowKit
/-- The last segment grows. -/
theorem ld_app {P : PP} {g : Nat} {bt u : B} {ts : List B} (h : Ld P g bt (ts ++ [u])) (t : B) : Ld (putP (segN g (ts.length + 1)) (some (u ++ t)) P) g bt (ts ++ [u ++ t]) := by
  have hgl := h.g2
  have hn := h.n
  simp at hn
  have hin : getP (segN g (ts.length + 1)) P = some u := h.seg ts.length u (by simp)
  refine ⟨putP_ris h.ris, h.g1, h.g2, by simp; omega, ?_, fun i v hv => ?_, fun x hx => ?_, ?_⟩
  · rw [getP_put, if_neg (base_seg _ _ _)]; exact h.base
  · rw [getP_put]
    by_cases e : i = ts.length
    · subst e
      rw [if_pos rfl]
      simpa using hv
    · have hi : i < ts.length := by
        have := (List.getElem?_eq_some_iff.1 hv).1
        simp at this
        omega
      rw [if_neg (fun e2 => e (by have := (seg_inj hgl hgl (by omega) (by omega) e2).2; omega))]
      rw [List.getElem?_append_left hi] at hv
      exact h.seg i v (by rw [List.getElem?_append_left hi]; exact hv)
  · refine putP_names (q := fun n => n = baseN g ∨ ∃ i, i < (ts ++ [u ++ t]).length ∧ n = segN g (i + 1)) (fun y hy => ?_) (fun _ => .inr ⟨ts.length, by simp, rfl⟩) x hx
    rcases h.only y hy with e | ⟨i, hi, e⟩
    · exact .inl e
    · exact .inr ⟨i, by simpa using hi, e⟩
  · have e1 : (putP (segN g (ts.length + 1)) (some (u ++ t)) P).length ≤ (woP (segN g (ts.length + 1)) P).length + 1 := by
      have : ∀ (x : B × B) (l : PP), (insP x l).length = l.length + 1 := fun x l => by
        induction l with
        | nil => rfl
        | cons y r ih => unfold insP; split <;> simp [*]
      exact Nat.le_of_eq (this (segN g (ts.length + 1), u ++ t) (woP (segN g (ts.length + 1)) P))
    have e2 : (woP (segN g (ts.length + 1)) P).length < P.length := by
      unfold woP
      refine List.length_filter_lt_length_iff_exists.2 ⟨(segN g (ts.length + 1), u), (getP_mem h.ris).1 hin, ?_⟩
      simp
    have := h.len
    simp at this ⊢
    omega
theorem Ltp_rs {w : World} {q p : Nat} {b rb : Option Nat} {L : LG} {m : DN} {e : Ending} {w' : World} (h : LtP w q p b rb L m e w') : RsP w q p b rb (L, (m, 0)) e w' := by
  obtain ⟨h1, rb', h2, h3⟩ := h
  exact ⟨h1, b, rb', h2, h3⟩
theorem open_ld (p g : Nat) (b : Option Nat) (m : DN) (z : Int) (P : PP) (s : B) (l txs : List B) (hz : 1 ≤ z) (w : World) (hL : Ld P g (frs (s :: l)) txs) (hl : m.l = mk P) (hD : DD w p b m) (hp : 2 ≤ p) (hb2 : ∀ k, b = some k → 2 ≤ k) (hG : Gw w) (hm : Okn m) (hd : m.dead = false) (hc : m.ch ≤ 900000)
    (hbl : (frs (s :: l)).length ≤ 4000000) (htl : ∀ t ∈ txs, t.length ≤ 4000000 ∧ (unfT t).2 = t.length) (hll : l.length ≤ 500000) (hfew : ((txs.map fun t => (unfT t).1).flatten).length ≤ 400000) :
    Calls Tryz.prog 10 #[.pointer (some ⟨p, 0, none⟩), .int .i64 z] w (OpP w p b (segL ⟨z, g, s, l, 0, 0⟩ txs txs.length, (m, 0)) 0) := by
  have hg1 := hL.g1
  have hg2 := hL.g2
  have hn := hL.n
  have hlen := hL.len
  have hat : ∀ n, atL n m.l = getP n P := fun n => by rw [hl]; exact at_mk hL.ris
  have hmlen : m.l.length ≤ 1000 := by rw [hl, mk_len]; omega
  have hS : Segs g m txs := ⟨hn, fun i t ht => ⟨by rw [hat]; exact hL.seg i t ht, (htl t (List.mem_of_getElem? ht)).1⟩, by rw [hat]; exact ld_none hL _ (by omega) (by omega), hfew⟩
  refine open_any p g b m z _ 0 hz w hD hp hb2 hG hm hd (by rw [hl]; exact ld_nms hL) (by rw [hl]; exact ld_newest hL) fun q w' hK' hG' => ?_
  have hsw := ld_sweep hL m hl
  have HH := begin_any q p b none ⟨z, g, [], [], 0, 0⟩ m (⟨z, g, s, l, 0, 0⟩, (m, 0)) (segL ⟨z, g, s, l, 0, 0⟩ txs txs.length, (m, 0)) w' hK' hG' (by show g ≠ 0; omega) hm
    (fun w1 b1 rb1 hK1 hG1 => (readBase_ok q p b1 rb1 ⟨z, g, [], [], 0, 0⟩ m (frs (s :: l)) s l w1 hK1 hG1 hg2 hm hd (by show atL (baseN g) m.l = _; rw [hat]; exact hL.base) hbl (unfT_frs (s :: l) (fun x hx => by have := frs_mem hx; omega))).mono fun e w2 h => Ltp_rs h)
    (fun _ w1 b1 rb1 hK1 hG1 => (readSegs_ok q p b1 rb1 ⟨z, g, s, l, 0, 0⟩ m txs w1 hK1 hG1 hg2 hm hd rfl hll hS (fun t ht => (htl t ht).2)).mono fun e w2 h => Ltp_rs h)
    (fun _ _ => ⟨hg2, hmlen, hc, hm⟩)
  have e1 : bgR (⟨z, g, s, l, 0, 0⟩, (m, 0)) (segL ⟨z, g, s, l, 0, 0⟩ txs txs.length, (m, 0)) = (segL ⟨z, g, s, l, 0, 0⟩ txs txs.length, (m, 0)) := by
    unfold bgR
    rw [if_neg (by simp), if_neg (by simp)]
    show (_, sweepN g m) = _
    rw [hsw]
  have e2 : bgT (usedL m.l) (⟨z, g, s, l, 0, 0⟩, (m, 0)) (segL ⟨z, g, s, l, 0, 0⟩ txs txs.length, (m, 0)) = 0 := by
    unfold bgT
    rw [if_neg (by simp), if_neg (by simp)]
    show (usedL m.l : Int) - (usedL m.l : Int) = 0
    omega
  rw [e1, e2] at HH
  exact HH
end Go.Proofs.YtaiiojbakmminaaGreatDoor
