/- The arguments of the statements, out of what their rows list of them. What the acts of the law are in memory. The acts of an argument, and how long their texts may be. Open of a disk on which a fall is planned: what is there behind is read as it was. What WalPlays knows of its log. -/
import Derived.Test.YtaiiojbakmminaaGreatDoorWGlb
import Derived.Test.YtaiiojbakmminaaGreatDoorWfq
import Derived.Deep.Slices
import Derived.Test.YtaiiojbakmminaaGreatDoorKCl2
namespace Go.Proofs.YtaiiojbakmminaaGreatDoor
open Go Go.ChangeShapes Go.WideShapes Go.ChangeAt Go.WideMaps Go.WideElems Go.RowKit
theorem clStr : Tryz.prog.cellsOf 9 = 1 := by kernel_rfl
theorem strs_of {H : Type} {enc : TypeId × Value → H} {W : World} {a0 : Option Addr} {len0 cap0 : Nat} {d0 : DataW H} {p : List MemPlace} (h0 : DataW.Trod enc Tryz.prog W 0 (fun _ => true) true 30 (.slice a0 len0 cap0) d0 p) :
    ∃ l : List B, l.length = len0 ∧ l.length ≤ cap0 ∧ XA W a0 l := by
  obtain ⟨fuel, hf⟩ := h0
  rcases open_strings Tryz.underlying30 Tryz.underlying9 clStr hf with ⟨hcs, _⟩ | ⟨x, l, c, ss, hcs, _, hl, hm, hz, _, hcell, hws⟩
  · simp [Value.cells] at hcs
    obtain ⟨rfl, rfl, rfl⟩ := hcs
    exact ⟨[], rfl, Nat.le_refl _, ⟨fun j x hx => by simp at hx⟩⟩
  · simp [Value.cells] at hcs
    obtain ⟨rfl, rfl, rfl⟩ := hcs
    have hz' : ss.length = cap0 := by simpa using hz
    have hll : ((ss.take len0).map (fun s => s.data.toList)).length = len0 := by rw [List.length_map, List.length_take]; omega
    refine ⟨(ss.take len0).map (fun s => s.data.toList), hll, by omega, ⟨fun i y hy => ?_⟩⟩
    obtain ⟨hi, rfl⟩ := List.getElem?_eq_some_iff.1 hy
    have hi' : i < len0 := by omega
    obtain ⟨b, off, spot⟩ := x
    have hc := hcell 0 (by omega)
    have hspot : spot = none := by simpa [Addr.add] using World.cell?_spot hc
    subst hspot
    refine ⟨b, off, rfl, ?_⟩
    have := hcell i (by omega)
    rw [Addr.add_mid] at this
    rw [this, List.getD_eq_getElem?_getD, List.getElem?_eq_getElem (by omega)]
    simp [sv]
end Go.Proofs.YtaiiojbakmminaaGreatDoor
namespace Go.Proofs.YtaiiojbakmminaaGreatDoor
open Go Go.RowKit
/-- Something that is done. -/
structure AC where
  kind : Int
  s : B
  la : Option Addr
  l : List B
  lc : Nat
  at_ : Int
  keep : Int
  torn : Int
def aC (a : AC) : Array Value := #[.int .i64 a.kind, .string ⟨a.s.toArray⟩, .slice a.la a.l.length a.lc, .int .i64 a.at_, .int .i64 a.keep, .int .i64 a.torn]
end Go.Proofs.YtaiiojbakmminaaGreatDoor
namespace Go.Proofs.YtaiiojbakmminaaGreatDoor
open Go Go.ChangeShapes Go.WideShapes Go.ChangeAt Go.WideMaps Go.WideElems Go.RowKit
theorem clFa : Tryz.prog.cellsOf 32 = 3 := by kernel_rfl
theorem clI : Tryz.prog.cellsOf 3 = 1 := by kernel_rfl
theorem clTx : Tryz.prog.cellsOf 30 = 1 := by kernel_rfl
theorem texts_of {H : Type} {enc : TypeId × Value → H} {W : World} {n : Nat} {sp : Nat → Bool} {held : Bool} {base : Nat} {cs : List Value} {x : DataW H × List MemPlace} (h : DataW.trod enc Tryz.prog W base sp held n 30 cs = some x) :
    ∃ (a : Option Addr) (l : List B) (cap : Nat), cs = [.slice a l.length cap] ∧ l.length ≤ cap ∧ XA W a l := by
  rcases open_strings Tryz.underlying30 Tryz.underlying9 clStr h with ⟨hcs, _⟩ | ⟨x, l, c, ss, hcs, _, hl, hm, hz, _, hcell, hws⟩
  · exact ⟨none, [], 0, hcs, Nat.le_refl _, ⟨fun j x hx => by simp at hx⟩⟩
  · have hz' : l ≤ ss.length := by rw [hz]; split <;> omega
    have hll : ((ss.take l).map (fun s => s.data.toList)).length = l := by rw [List.length_map, List.length_take]; omega
    refine ⟨some x, (ss.take l).map (fun s => s.data.toList), c, by rw [hll, hcs], by omega, ⟨fun i y hy => ?_⟩⟩
    obtain ⟨hi, rfl⟩ := List.getElem?_eq_some_iff.1 hy
    have hi' : i < l := by omega
    obtain ⟨b, off, spot⟩ := x
    have hc := hcell 0 (by omega)
    have hspot : spot = none := by simpa [Addr.add] using World.cell?_spot hc
    subst hspot
    refine ⟨b, off, rfl, ?_⟩
    have := hcell i (by omega)
    rw [Addr.add_mid] at this
    rw [this, List.getD_eq_getElem?_getD, List.getElem?_eq_getElem (by omega)]
    simp [sv]
end Go.Proofs.YtaiiojbakmminaaGreatDoor
namespace Go.Proofs.YtaiiojbakmminaaGreatDoor
open Go Go.RowKit
theorem rem_pm (P : PP) (room : Int) (ch : Nat) (f : FA) (x : B) : remN (pm P room ch f) x = if f.at_ = (ch : Int) then (dm P room ch, 7) else (⟨lay x none 4 (mk P), false, false, room, ch + 1, some f⟩, 0) := by
  unfold remN
  rw [if_neg (by simp [pm]), chg_pm]
  rfl
theorem tru_pm {P : PP} (h : RisP P) (room : Int) (ch : Nat) (f : FA) (k : Nat) (x : B) : truN (pm P room ch f) x k = if f.at_ = (ch : Int) then (dm P room ch, 7) else (⟨lay x (some ((kbyt (getP x P)).take k)) 5 (mk P), false, false, room, ch + 1, some f⟩, 0) := by
  unfold truN
  rw [if_neg (by simp [pm]), chg_pm]
  show (if f.at_ = (ch : Int) then (dm P room ch, 7) else (⟨lay x (some ((kbyt (atL x (mk P))).take k)) 5 (mk P), false, false, room, ch + 1, some f⟩, 0)) = _
  rw [at_mk h]
theorem run_rem_pm {P : PP} (h : RisP P) (room : Int) (ch : Nat) (f : FA) (x : B) (r : List (DN → DN × Nat)) : runL (pm P room ch f) ((fun m => remN m x) :: synN :: r) = if f.at_ = (ch : Int) then (dm P room ch, 7) else runL (pm (putP x none P) room (ch + 1) f) r := by
  rw [runL, rem_pm]
  by_cases hf : f.at_ = (ch : Int)
  · rw [if_pos hf, if_pos hf, if_neg (by simp)]
  · rw [if_neg hf, if_neg hf, if_pos rfl, runL, syn_pm, if_pos rfl, lay_now x none 4 _ (ris_mk.2 h), now_mk]
theorem run_tru_pm {P : PP} (h : RisP P) (room : Int) (ch : Nat) (f : FA) (k : Nat) (x : B) : runL (pm P room ch f) [fun m => truN m x k, synN] = if f.at_ = (ch : Int) then (dm P room ch, 7) else (pm (putP x (some ((kbyt (getP x P)).take k)) P) room (ch + 1) f, 0) := by
  rw [runL, tru_pm h]
  by_cases hf : f.at_ = (ch : Int)
  · rw [if_pos hf, if_pos hf, if_neg (by simp)]
  · rw [if_neg hf, if_neg hf, if_pos rfl, runL_one, syn_pm, lay_now x _ 5 _ (ris_mk.2 h), now_mk]
/-- What mend leaves where a fall is planned: all is done, or some segments behind the torn one are gone. -/
theorem mend_pm (L : LG) (room : Int) (f : FA) : ∀ (C : List B) (A : List B) (t bt : B) (P : PP) (ch : Nat), Dx P L.g bt (A ++ [t] ++ C.reverse) → L.segs = A.length + 1 → (ch : Int) ≤ f.at_ →
    (∃ P' ch', ch' = ch + C.length + 1 ∧ (ch' : Int) ≤ f.at_ ∧ menN L (pm P room ch f) (dnK L.segs (A.length + 1 + C.length)) = (pm P' room ch' f, 0) ∧ Dx P' L.g bt (A ++ [t.take L.last]) ∧ usedP P' ≤ usedP P) ∨
    (∃ P' C' ch', ch' ≤ ch + C.length + 1 ∧ menN L (pm P room ch f) (dnK L.segs (A.length + 1 + C.length)) = (dm P' room ch', 7) ∧ Dx P' L.g bt (A ++ [t] ++ C') ∧ (∃ D, C.reverse = C' ++ D) ∧ usedP P' ≤ usedP P)
  | [], A, t, bt, P, ch, hX, hs, hc => by
    have hX' : Dx P L.g bt (A ++ [t]) := by simpa using hX
    have hin : getP (segN L.g (A.length + 1)) P = some t := hX'.seg A.length t (by simp)
    have e : dnK L.segs (A.length + 1 + ([] : List B).length) = [] := by rw [hs]; exact dnK_none _
    have e2 : menN L (pm P room ch f) [] = if f.at_ = (ch : Int) then (dm P room ch, 7) else (pm (putP (segN L.g (A.length + 1)) (some (t.take L.last)) P) room (ch + 1) f, 0) := by
      show runL _ [fun m => truN m (segN L.g L.segs) L.last, synN] = _
      rw [run_tru_pm hX'.ris, hs, hin]
      rfl
    by_cases hf : f.at_ = (ch : Int)
    · rw [if_pos hf] at e2
      exact .inr ⟨P, [], ch, by omega, by rw [e, e2], by simpa using hX', ⟨[], rfl⟩, Nat.le_refl _⟩
    · rw [if_neg hf] at e2
      refine .inl ⟨_, ch + 1, rfl, by omega, by rw [e, e2], dx_cut hX' _, ?_⟩
      have h1 := usedP_put (n := segN L.g (A.length + 1)) (c := some (t.take L.last)) hX'.ris
      rw [hin] at h1
      have e1 : (kbyt (some t)).length = t.length := rfl
      have e3 : (kbyt (some (t.take L.last))).length = (t.take L.last).length := rfl
      rw [e1, e3, List.length_take] at h1
      omega
  | c :: C, A, t, bt, P, ch, hX, hs, hc => by
    have hX' : Dx P L.g bt ((A ++ [t] ++ C.reverse) ++ [c]) := by simpa using hX
    have hl : (A ++ [t] ++ C.reverse).length = A.length + 1 + C.length := by simp; omega
    have hin : getP (segN L.g (A.length + 1 + C.length + 1)) P = some c := by
      rw [← hl]
      exact hX'.seg _ c (by simp)
    have hD := dx_drop hX'
    rw [hl] at hD
    have e : dnK L.segs (A.length + 1 + (c :: C).length) = (A.length + 1 + C.length + 1) :: dnK L.segs (A.length + 1 + C.length) := by
      rw [List.length_cons, show A.length + 1 + (C.length + 1) = (A.length + 1 + C.length) + 1 by omega]
      exact dnK_step (by omega)
    have e2 : menN L (pm P room ch f) ((A.length + 1 + C.length + 1) :: dnK L.segs (A.length + 1 + C.length)) = if f.at_ = (ch : Int) then (dm P room ch, 7) else menN L (pm (putP (segN L.g (A.length + 1 + C.length + 1)) none P) room (ch + 1) f) (dnK L.segs (A.length + 1 + C.length)) := by
      show runL _ (_ :: synN :: (mdF L.g _ ++ _)) = _
      rw [run_rem_pm hX'.ris]
      rfl
    rw [e, e2]
    by_cases hf : f.at_ = (ch : Int)
    · rw [if_pos hf]
      exact .inr ⟨P, (c :: C).reverse, ch, by omega, rfl, hX, ⟨[], (List.append_nil _).symm⟩, Nat.le_refl _⟩
    · rw [if_neg hf]
      have h6 := usedP_put (n := segN L.g (A.length + 1 + C.length + 1)) (c := none) hX'.ris
      rw [hin] at h6
      have e1 : (kbyt (some c)).length = c.length := rfl
      have e3 : (kbyt (none : Option B)).length = 0 := rfl
      rw [e1, e3] at h6
      rcases mend_pm L room f C A t bt _ (ch + 1) hD hs (by omega) with ⟨P', ch', h1, h2, h3, h4, h5⟩ | ⟨P', C', ch', h1, h3, h4, h5, h7⟩
      · exact .inl ⟨P', ch', by rw [h1]; simp; omega, h2, h3, h4, by omega⟩
      · obtain ⟨D, h8⟩ := h5
        exact .inr ⟨P', C', ch', by simp; omega, h3, h4, ⟨D ++ [c], by rw [List.reverse_cons, h8, List.append_assoc]⟩, by omega⟩
set_option maxRecDepth 100000 in
/-- Open of a disk of whatever state that holds a generation beside others, where all segments are right. -/
theorem open_okG (p g : Nat) (b : Option Nat) (m : DN) (z : Int) (P : PP) (s : B) (l txs : List B) (hz : 1 ≤ z) (w : World) (hX : Dx P g (frs (s :: l)) txs) (hml : m.l = mk P) (hD : DD w p b m) (hp : 2 ≤ p) (hb2 : ∀ k, b = some k → 2 ≤ k) (hG : Gw w) (hm : Okn m) (hd : m.dead = false) (hc : m.ch ≤ 800000) (hu : usedP P ≤ 4000000)
    (htl : ∀ t ∈ txs, (unfT t).2 = t.length) (hll : l.length ≤ 500000) (hfew : ((txs.map fun t => (unfT t).1).flatten).length ≤ 400000) :
    ∃ t, Calls Tryz.prog 10 #[.pointer (some ⟨p, 0, none⟩), .int .i64 z] w (OpP w p b (segL ⟨z, g, s, l, 0, 0⟩ txs txs.length, sweepN g m) t) := by
  have hg1 := hX.g1
  have hg2 := hX.g2
  have hn := hX.n
  have hlen := hX.len
  have hat : ∀ n, atL n m.l = getP n P := fun n => by rw [hml]; exact at_mk hX.ris
  have hmlen : m.l.length ≤ 1000 := by rw [hml, mk_len]; omega
  have hbl : (frs (s :: l)).length ≤ 4000000 := by
    have h1 := usedP_get hX.ris (baseN g)
    rw [hX.base] at h1
    exact Nat.le_trans h1 hu
  have hS : Segs g m txs := ⟨hn, fun i t ht => ⟨by rw [hat]; exact hX.seg i t ht, by
    have h1 := usedP_get hX.ris (segN g (i + 1))
    rw [hX.seg i t ht] at h1
    exact Nat.le_trans h1 hu⟩, by rw [hat]; exact dx_none hX _ (by omega) (by omega), hfew⟩
  refine ⟨_, open_any p g b m z _ (bgT (usedL m.l) (⟨z, g, s, l, 0, 0⟩, (m, 0)) (segL ⟨z, g, s, l, 0, 0⟩ txs txs.length, (m, 0))) hz w hD hp hb2 hG hm hd (by rw [hml]; exact dx_nms hX) (by rw [hml]; exact dx_newest hX) fun q w' hK' hG' => ?_⟩
  have HH := begin_any q p b none ⟨z, g, [], [], 0, 0⟩ m (⟨z, g, s, l, 0, 0⟩, (m, 0)) (segL ⟨z, g, s, l, 0, 0⟩ txs txs.length, (m, 0)) w' hK' hG' (by show g ≠ 0; omega) hm
    (fun w1 b1 rb1 hK1 hG1 => (readBase_ok q p b1 rb1 ⟨z, g, [], [], 0, 0⟩ m (frs (s :: l)) s l w1 hK1 hG1 hg2 hm hd (by show atL (baseN g) _ = _; rw [hat]; exact hX.base) hbl (unfT_frs (s :: l) (fun x hx => by have := frs_mem hx; omega))).mono fun e w2 h => Ltp_rs h)
    (fun _ w1 b1 rb1 hK1 hG1 => (readSegs_ok q p b1 rb1 ⟨z, g, s, l, 0, 0⟩ m txs w1 hK1 hG1 hg2 hm hd rfl hll hS htl).mono fun e w2 h => Ltp_rs h)
    (fun _ _ => ⟨hg2, hmlen, by show m.ch ≤ _; omega, hm⟩)
  have e1 : bgR (⟨z, g, s, l, 0, 0⟩, (m, 0)) (segL ⟨z, g, s, l, 0, 0⟩ txs txs.length, (m, 0)) = (segL ⟨z, g, s, l, 0, 0⟩ txs txs.length, sweepN g m) := by
    unfold bgR
    rw [if_neg (by simp), if_neg (by simp)]
    rfl
  rw [e1] at HH
  exact HH
/-- A disk of generation 2 from which the records k are read. -/
structure Rk (P : PP) (k : List B) : Prop where
  out : ∃ txs, Dx P 2 (frs [[115]]) txs ∧ (rdS txs).1 = k ∧ (∀ t ∈ txs, t.length ≤ 2147483647) ∧ ((txs.map fun t => (unfT t).1).flatten).length ≤ 100000
  used : usedP P ≤ 4000000
theorem pmx_okn {P : PP} {g : Nat} {bt : B} {txs : List B} (h : Dx P g bt txs) (room : Int) (ch : Nat) (f : FA) (hu : usedP P ≤ 1000000000) (hc : ch ≤ 900000) (hf : (ch : Int) ≤ f.at_) : Okn (pm P room ch f) := by
  have h1 := dx_okn h room ch hu hc
  exact ⟨h1.l, h1.len, h1.used, h1.ch, (fun e => by cases e), h1.by_, fun g e => by cases e; exact ⟨hf, rfl, rfl⟩⟩
theorem flat_sub {A C : List B} {t : B} (h : ((A ++ [t] ++ C).map fun t => (unfT t).1).flatten.length ≤ 100000) : ((A.map fun x => (unfT x).1).flatten ++ (unfT t).1).length ≤ 100000 := by
  rw [List.map_append, List.map_append, List.flatten_append, List.flatten_append] at h
  simp at h ⊢
  omega
set_option maxRecDepth 100000 in
/-- Open where a fall is planned: the disk is read as it was ahead. -/
theorem open_fall {P : PP} {k : List B} (p : Nat) (b : Option Nat) (room : Int) (ch : Nat) (f : FA) (w : World) (hR : Rk P k) (hD : DD w p b (pm P room ch f)) (hp : 2 ≤ p) (hb2 : ∀ k, b = some k → 2 ≤ k) (hG : Gw w) (hc : ch ≤ 500000) (hf : (ch : Int) ≤ f.at_) :
    Calls Tryz.prog 10 #[.pointer (some ⟨p, 0, none⟩), .int .i64 50] w fun e w' => (∃ v, e = .returned v) ∧ ∃ q b' rb' P' ch' m', w.heap.size ≤ q ∧ Wch w w' q p b none b' rb' ∧ Rk P' k ∧ ch' ≤ ch + 1000 ∧ DD w' p b' m' ∧ (m' = pm P' room ch' f ∨ m' = dm P' room ch') := by
  obtain ⟨txs, hX, hrd, htl, hfew⟩ := hR.out
  have hu := hR.used
  have hlen := hX.len
  have hn := hX.n
  have hm := pmx_okn hX room ch f (by omega) (by omega) hf
  have fin : ∀ {r : LG × (DN × Nat)} {t : Int} {P' : PP} {ch' : Nat} {e : Ending} {w' : World}, OpP w p b r t e w' → Rk P' k → ch' ≤ ch + 1000 → (r.2.1 = pm P' room ch' f ∨ r.2.1 = dm P' room ch') → (∃ v, e = .returned v) ∧ ∃ q b' rb' P' ch' m', w.heap.size ≤ q ∧ Wch w w' q p b none b' rb' ∧ Rk P' k ∧ ch' ≤ ch + 1000 ∧ DD w' p b' m' ∧ (m' = pm P' room ch' f ∨ m' = dm P' room ch') := fun h hR' hc' hm' => by
    obtain ⟨q, b', rb', h1, h2, h3, h4⟩ := h
    obtain ⟨rv, _, _, hD'⟩ := h4.out
    exact ⟨⟨_, h1⟩, q, b', rb', _, _, _, h2, h3, hR', hc', hD', hm'⟩
  -- a sweep behind what is read
  have swp : ∀ {P1 : PP} {ch1 : Nat} {txs1 : List B}, Dx P1 2 (frs [[115]]) txs1 → (rdS txs1).1 = k → (∀ t ∈ txs1, t.length ≤ 2147483647) → ((txs1.map fun t => (unfT t).1).flatten).length ≤ 100000 → usedP P1 ≤ 4000000 → ch1 ≤ ch + 400 → (ch1 : Int) ≤ f.at_ → ∃ P' ch', Rk P' k ∧ ch' ≤ ch + 1000 ∧ ((sweepN 2 (pm P1 room ch1 f)).1 = pm P' room ch' f ∨ (sweepN 2 (pm P1 room ch1 f)).1 = dm P' room ch') := fun hX1 hr1 ht1 hf1 hu1 hc1 hfa => by
    have hl1 := hX1.len
    rcases sweep_pm 2 hX1.ris (dx_ok hX1) room _ f hfa with ⟨ch', k1, k2, k3⟩ | ⟨P', ch', k1, k2, k3, k4⟩
    · exact ⟨_, ch', ⟨⟨_, ld_dx (dx_filter hX1), hr1, ht1, hf1⟩, Nat.le_trans (used_filter _ _) hu1⟩, by omega, .inl (by rw [k3])⟩
    · have hX2 := dx_part hX1 k3 k4
      refine ⟨P', ch', ⟨⟨_, hX2, hr1, ht1, hf1⟩, ?_⟩, by omega, .inr (by rw [k2])⟩
      rw [part_filter hX1.ris k3 (fun n => (k4 n).imp_right And.left)]
      exact Nat.le_trans (used_filter _ _) hu1
  rcases tn_or txs with hok | ⟨A, C, t, hT⟩
  · obtain ⟨tt, HO⟩ := open_okG p 2 b (pm P room ch f) 50 P [115] [] txs (by decide) w hX rfl hD hp hb2 hG hm rfl (by show ch ≤ _; omega) hu hok (by simp) (by omega)
    obtain ⟨P', ch', h1, h2, h3⟩ := swp hX hrd htl hfew hu (by omega) hf
    exact HO.mono fun e w' h => fin h h1 h2 h3
  · have htx : txs.length = A.length + 1 + C.length := by have := congrArg List.length hT.eq; simp at this; omega
    have hcut := unfT_cut t (htl t (by rw [hT.eq]; simp))
    rw [rdS_tn hT] at hrd
    have hff := hfew
    rw [hT.eq] at hff
    have hfs := flat_sub hff
    have HG := fun ho => open_tornG p 2 b (pm P room ch f) 50 P [115] t [] txs A C (by decide) w hX rfl hD hp hb2 hG hm rfl (by show ch ≤ _; omega) hu hT (by simp) (by omega) ho
    rcases mend_pm (TL 50 2 [115] [] A t) room f C.reverse A t (frs [[115]]) P ch (by rw [List.reverse_reverse, ← hT.eq]; exact hX) rfl hf with ⟨P1, ch1, h1, h2, h3, h4, h5⟩ | ⟨P1, C', ch1, h1, h3, h4, h5, h6⟩
    · rw [List.length_reverse] at h1 h3
      have h3 : menN (TL 50 2 [115] [] A t) (pm P room ch f) (dnK (A.length + 1) txs.length) = (pm P1 room ch1 f, 0) := by rw [htx]; exact h3
      have hl4 := h4.len
      have HH := HG (fun _ => by
        rw [h3]
        exact ⟨by show 2 < 100; decide, by show (mk P1).length ≤ _; rw [mk_len]; omega, by show ch1 ≤ _; omega, pmx_okn h4 room ch1 f (by omega) (by omega) h2⟩)
      rw [h3] at HH
      have hun : ∀ x ∈ A ++ [t.take (unfT t).2], (unfT x).2 = x.length := fun x hx => by
        rcases List.mem_append.1 hx with h5 | h5
        · exact hT.ok x h5
        · rw [List.mem_singleton.1 h5, hcut.2, hcut.1]
      have hfl : ((A ++ [t.take (unfT t).2]).map fun x => (unfT x).1).flatten = (A.map fun x => (unfT x).1).flatten ++ (unfT t).1 := by
        rw [List.map_append, List.flatten_append, List.map_singleton, hcut.2]
        simp
      obtain ⟨P', ch', k1, k2, k3⟩ := swp (ch1 := ch1) h4 (by show (rdS (A ++ [t.take (unfT t).2])).1 = k; rw [rdS_ok hun, hfl]; exact hrd) (fun x hx => by
        rcases List.mem_append.1 hx with h7 | h7
        · exact htl x (by rw [hT.eq]; simp [h7])
        · rw [List.mem_singleton.1 h7, List.length_take]
          have := htl t (by rw [hT.eq]; simp)
          omega) (by show ((A ++ [t.take (unfT t).2]).map fun x => (unfT x).1).flatten.length ≤ _; rw [hfl]; exact hfs) (by omega) (by omega) h2
      refine HH.mono fun e w' h => fin h k1 k2 ?_
      have e1 : bgR (⟨50, 2, [115], [], 0, 0⟩, (pm P room ch f, 0)) (TL 50 2 [115] [] A t, (pm P1 room ch1 f, 0)) = (TL 50 2 [115] [] A t, sweepN 2 (pm P1 room ch1 f)) := by
        unfold bgR
        rw [if_neg (by simp), if_neg (by simp)]
        rfl
      rw [e1]
      exact k3
    · rw [List.length_reverse] at h1 h3
      have h3 : menN (TL 50 2 [115] [] A t) (pm P room ch f) (dnK (A.length + 1) txs.length) = (dm P1 room ch1, 7) := by rw [htx]; exact h3
      have HH := HG (fun h => by rw [h3] at h; cases h)
      rw [h3] at HH
      have hT' : Tn (A ++ [t] ++ C') A C' t := ⟨rfl, hT.ok, hT.bad⟩
      have hfe : ((A ++ [t] ++ C').map fun t => (unfT t).1).flatten.length ≤ 100000 := by
        obtain ⟨D, h8⟩ := h5
        rw [List.reverse_reverse] at h8
        rw [h8, ← List.append_assoc, List.map_append, List.flatten_append, List.length_append] at hff
        omega
      refine HH.mono fun e w' h => fin (P' := P1) (ch' := ch1) h ⟨⟨_, h4, by rw [rdS_tn hT']; exact hrd, fun x hx => ?_, hfe⟩, by omega⟩ (by omega) ?_
      · rcases List.mem_append.1 hx with h7 | h7
        · exact htl x (by rw [hT.eq]; exact List.mem_append_left _ h7)
        · exact htl x (by rw [hT.eq]; exact List.mem_append_right _ (by obtain ⟨D, h8⟩ := h5; rw [List.reverse_reverse] at h8; rw [h8]; exact List.mem_append_left _ h7))
      · have e1 : bgR (⟨50, 2, [115], [], 0, 0⟩, (pm P room ch f, 0)) (TL 50 2 [115] [] A t, (dm P1 room ch1, 7)) = (TL 50 2 [115] [] A t, (dm P1 room ch1, 7)) := by
          unfold bgR
          rw [if_neg (by simp), if_pos (by simp)]
        rw [e1]
        exact .inr rfl
end Go.Proofs.YtaiiojbakmminaaGreatDoor
namespace Go.Proofs.YtaiiojbakmminaaGreatDoor
open Go Go.RowKit
theorem frs_cut {k : List B} (hk : k.length ≤ 6) (hx : ∀ x ∈ k, x.length ≤ 200) : (frs k).length ≤ 1248 := by
  have : ∀ m : List B, (∀ x ∈ m, x.length ≤ 200) → (frs m).length ≤ 208 * m.length := fun m => by
    induction m with
    | nil => intro _; exact Nat.le_refl 0
    | cons y r ih =>
      intro hm
      have e1 : frs (y :: r) = frs [y] ++ frs r := frs_app [y] r
      have := ih fun x hx => hm x (List.mem_cons_of_mem _ hx)
      have := hm y (List.mem_cons_self ..)
      rw [e1, frs_one, List.length_append, frame_len, List.length_cons]
      omega
  have := this k hx
  have := Nat.mul_le_mul_left 208 hk
  omega
end Go.Proofs.YtaiiojbakmminaaGreatDoor
