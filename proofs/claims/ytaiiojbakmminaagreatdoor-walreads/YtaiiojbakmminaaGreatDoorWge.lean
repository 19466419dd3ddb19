/- What mend leaves of a synced disk that holds a generation, one of whose segments is torn. What Open gives back of a disk that holds a generation one of whose segments is torn, or whose base has no frames. What Plan of a disk does with one fall, or with none. A log that a law plays while a fall is planned: what the calls leave, and what is kept. -/
import Derived.Test.YtaiiojbakmminaaGreatDoorWmu
import Derived.Test.YtaiiojbakmminaaGreatDoorWmm
import Derived.Test.YtaiiojbakmminaaGreatDoorWrt
import Derived.Test.YtaiiojbakmminaaGreatDoorWme
import Derived.Test.YtaiiojbakmminaaGreatDoorWfm
import Derived.Test.YtaiiojbakmminaaGreatDoorWst
import Derived.Test.YtaiiojbakmminaaGreatDoorWdx
namespace Go.Proofs.YtaiiojbakmminaaGreatDoor
open Go Go.RowKit
/-- What is cut where it is not right is right. -/
theorem unfT_cut (s : B) (hs : s.length ≤ 2147483647) : (s.take (unfT s).2).length = (unfT s).2 ∧ unfT (s.take (unfT s).2) = ((unfT s).1, (unfT s).2) := by
  obtain ⟨h1, h2⟩ := unfT_take s
  have h3 : (s.take (unfT s).2).length = (unfT s).2 := by rw [List.length_take]; omega
  refine ⟨h3, ?_⟩
  have h4 : (frs (unfT s).1).length = (unfT s).2 := by rw [← h2]; exact h3
  rw [h2, unfT_frs _ (fun x hx => by have := frs_mem hx; omega), h4]
/-- The last segment goes. -/
theorem dx_drop {P : PP} {g : Nat} {bt u : B} {ts : List B} (h : Dx P g bt (ts ++ [u])) : Dx (putP (segN g (ts.length + 1)) none P) g bt ts := by
  have hgl := h.g2
  have hn := h.n
  simp at hn
  refine ⟨putP_ris h.ris, h.g1, h.g2, by omega, ?_, fun i v hv => ?_, fun x hx => ?_, ?_⟩
  · rw [getP_put, if_neg (base_seg _ _ _)]; exact h.base
  · have hi := (List.getElem?_eq_some_iff.1 hv).1
    rw [getP_put, if_neg (fun e2 => by have := (seg_inj hgl hgl (by omega) (by omega) e2).2; omega)]
    exact h.seg i v (by rw [List.getElem?_append_left hi]; exact hv)
  · obtain ⟨h1, h2⟩ := List.mem_filter.1 (show x ∈ woP (segN g (ts.length + 1)) P from hx)
    rcases h.only x h1 with e | ⟨i, hi, e⟩ | e
    · exact .inl e
    · refine .inr (.inl ⟨i, ?_, e⟩)
      simp at hi
      have : i ≠ ts.length := fun e3 => by
        rw [e3] at e
        simp [e] at h2
      omega
    · exact .inr (.inr e)
  · have h1 : (woP (segN g (ts.length + 1)) P).length ≤ P.length := List.length_filter_le ..
    exact Nat.le_trans h1 h.len
/-- The last segment is another one. -/
theorem dx_cut {P : PP} {g : Nat} {bt u : B} {ts : List B} (h : Dx P g bt (ts ++ [u])) (t : B) : Dx (putP (segN g (ts.length + 1)) (some t) P) g bt (ts ++ [t]) := by
  have hgl := h.g2
  have hn := h.n
  simp at hn
  have hin : getP (segN g (ts.length + 1)) P = some u := h.seg ts.length u (by simp)
  refine ⟨putP_ris h.ris, h.g1, h.g2, by simp; omega, ?_, fun i v hv => ?_, fun x hx => ?_, ?_⟩
  · rw [getP_put, if_neg (base_seg _ _ _)]; exact h.base
  · rw [getP_put]
    by_cases e : i = ts.length
    · subst e
      rw [if_pos rfl]
      simpa using hv
    · have hi : i < ts.length := by
        have := (List.getElem?_eq_some_iff.1 hv).1
        simp at this
        omega
      rw [if_neg (fun e2 => e (by have := (seg_inj hgl hgl (by omega) (by omega) e2).2; omega))]
      rw [List.getElem?_append_left hi] at hv
      exact h.seg i v (by rw [List.getElem?_append_left hi]; exact hv)
  · refine putP_names (q := fun n => n = baseN g ∨ (∃ i, i < (ts ++ [t]).length ∧ n = segN g (i + 1)) ∨ Oth g n) (fun y hy => ?_) (fun _ => .inr (.inl ⟨ts.length, by simp, rfl⟩)) x hx
    rcases h.only y hy with e | ⟨i, hi, e⟩ | e
    · exact .inl e
    · exact .inr (.inl ⟨i, by simpa using hi, e⟩)
    · exact .inr (.inr e)
  · have e1 : (putP (segN g (ts.length + 1)) (some t) P).length ≤ (woP (segN g (ts.length + 1)) P).length + 1 := by
      have : ∀ (x : B × B) (l : PP), (insP x l).length = l.length + 1 := fun x l => by
        induction l with
        | nil => rfl
        | cons y r ih => unfold insP; split <;> simp [*]
      exact Nat.le_of_eq (this (segN g (ts.length + 1), t) (woP (segN g (ts.length + 1)) P))
    have e2 : (woP (segN g (ts.length + 1)) P).length < P.length := by
      unfold woP
      refine List.length_filter_lt_length_iff_exists.2 ⟨(segN g (ts.length + 1), u), (getP_mem h.ris).1 hin, ?_⟩
      simp
    have := h.len
    omega
/-- The numbers from n down to s + 1. -/
def dnK (s n : Nat) : List Nat := (List.range (n - s)).map fun i => n - i
theorem dnK_none (s : Nat) : dnK s s = [] := by simp [dnK]
theorem dnK_step {s n : Nat} (h : s ≤ n) : dnK s (n + 1) = (n + 1) :: dnK s n := by
  unfold dnK
  rw [show n + 1 - s = (n - s) + 1 by omega, List.range_succ_eq_map, List.map_cons, List.map_map]
  refine congrArg (_ :: ·) (List.map_congr_left fun i _ => ?_)
  show n + 1 - (i + 1) = n - i
  omega
theorem rem_cm (P : PP) (room : Int) (ch : Nat) (x : B) : remN (cm P room ch) x = (⟨lay x none 4 (mk P), false, false, room, ch + 1, none⟩, 0) := by
  simp [remN, cm, chgN, hitN]
theorem tru_cm {P : PP} (h : RisP P) (room : Int) (ch k : Nat) (x : B) : truN (cm P room ch) x k = (⟨lay x (some ((kbyt (getP x P)).take k)) 5 (mk P), false, false, room, ch + 1, none⟩, 0) := by
  simp [truN, cm, chgN, hitN, at_mk h]
theorem run_rem {P : PP} (h : RisP P) (room : Int) (ch : Nat) (x : B) (r : List (DN → DN × Nat)) : runL (cm P room ch) ((fun m => remN m x) :: synN :: r) = runL (cm (putP x none P) room (ch + 1)) r := by
  rw [runL, rem_cm, if_pos rfl, runL, syn_cm, if_pos rfl, lay_now x none 4 _ (ris_mk.2 h), now_mk]
theorem run_tru {P : PP} (h : RisP P) (room : Int) (ch k : Nat) (x : B) : runL (cm P room ch) [fun m => truN m x k, synN] = (cm (putP x (some ((kbyt (getP x P)).take k)) P) room (ch + 1), 0) := by
  rw [runL, tru_cm h, if_pos rfl, runL_one, syn_cm, lay_now x _ 5 _ (ris_mk.2 h), now_mk]
/-- What mend leaves of the segments that are there. -/
theorem mend_cm (L : LG) (room : Int) : ∀ (C : List B) (A : List B) (t bt : B) (P : PP) (ch : Nat), Dx P L.g bt (A ++ [t] ++ C.reverse) → L.segs = A.length + 1 →
    ∃ P' ch', ch' = ch + C.length + 1 ∧ menN L (cm P room ch) (dnK L.segs (A.length + 1 + C.length)) = (cm P' room ch', 0) ∧ Dx P' L.g bt (A ++ [t.take L.last]) ∧ usedP P' + (t.drop L.last).length + (C.map List.length).sum = usedP P ∧ ∀ n, (∀ i, i < (A ++ [t] ++ C.reverse).length → n ≠ segN L.g (i + 1)) → getP n P' = getP n P
  | [], A, t, bt, P, ch, hX, hs => by
    have hX' : Dx P L.g bt (A ++ [t]) := by simpa using hX
    have hin : getP (segN L.g (A.length + 1)) P = some t := hX'.seg A.length t (by simp)
    refine ⟨putP (segN L.g (A.length + 1)) (some (t.take L.last)) P, ch + 1, rfl, ?_, dx_cut hX' _, ?_, fun n hn => ?_⟩
    · have e : dnK L.segs (A.length + 1 + ([] : List B).length) = [] := by rw [hs]; exact dnK_none _
      rw [e]
      show runL _ [fun m => truN m (segN L.g L.segs) L.last, synN] = _
      rw [run_tru hX'.ris, hs, hin]
      rfl
    · have h1 := usedP_put (n := segN L.g (A.length + 1)) (c := some (t.take L.last)) hX'.ris
      rw [hin] at h1
      have e1 : (kbyt (some t)).length = t.length := rfl
      have e2 : (kbyt (some (t.take L.last))).length = (t.take L.last).length := rfl
      rw [e1, e2, List.length_take] at h1
      rw [List.length_drop]
      simp
      omega
    · rw [getP_put, if_neg (hn A.length (by simp))]
  | c :: C, A, t, bt, P, ch, hX, hs => by
    have hX' : Dx P L.g bt ((A ++ [t] ++ C.reverse) ++ [c]) := by simpa using hX
    have hl : (A ++ [t] ++ C.reverse).length = A.length + 1 + C.length := by simp; omega
    have hin : getP (segN L.g (A.length + 1 + C.length + 1)) P = some c := by
      rw [← hl]
      exact hX'.seg _ c (by simp)
    have hD := dx_drop hX'
    rw [hl] at hD
    obtain ⟨P', ch', h1, h2, h3, h4, h5⟩ := mend_cm L room C A t bt _ (ch + 1) hD hs
    refine ⟨P', ch', by rw [h1]; simp; omega, ?_, h3, ?_, fun n hn => ?_⟩
    · have e : dnK L.segs (A.length + 1 + (c :: C).length) = (A.length + 1 + C.length + 1) :: dnK L.segs (A.length + 1 + C.length) := by
        rw [List.length_cons, show A.length + 1 + (C.length + 1) = (A.length + 1 + C.length) + 1 by omega]
        exact dnK_step (by omega)
      rw [e, ← h2]
      show runL _ (_ :: synN :: (mdF L.g _ ++ _)) = _
      rw [run_rem hX'.ris]
      rfl
    · have h6 := usedP_put (n := segN L.g (A.length + 1 + C.length + 1)) (c := none) hX'.ris
      rw [hin] at h6
      have e1 : (kbyt (some c)).length = c.length := rfl
      have e2 : (kbyt (none : Option B)).length = 0 := rfl
      rw [e1, e2] at h6
      simp only [List.map_cons, List.sum_cons]
      omega
    · rw [h5 n (fun i hi => hn i (by simp at hi ⊢; omega)), getP_put, if_neg (hn (A.length + 1 + C.length) (by simp; omega))]
end Go.Proofs.YtaiiojbakmminaaGreatDoor
namespace Go.Proofs.YtaiiojbakmminaaGreatDoor
open Go Go.RowKit
theorem dwK_dnK {n s : Nat} : dwK n s n = dnK s n := by
  unfold dwK dnK
  rw [show min n (n - s) = n - s by omega]
/-- Which segment is the first that is torn. -/
structure Tn (txs A C : List B) (t : B) : Prop where
  eq : txs = A ++ [t] ++ C
  ok : ∀ x ∈ A, (unfT x).2 = x.length
  bad : (unfT t).2 < t.length
theorem Tn.at {txs A C : List B} {t : B} (h : Tn txs A C t) : txs[A.length]? = some t := by rw [h.eq]; simp
theorem Tn.lt {txs A C : List B} {t : B} (h : Tn txs A C t) : ∀ (i : Nat) (x : B), i < A.length → txs[i]? = some x → (unfT x).2 = x.length := fun i x hi hx => by
  rw [h.eq, List.append_assoc, List.getElem?_append_left hi] at hx
  exact h.ok x (List.mem_of_getElem? hx)
/-- Either all segments are right, or one is the first that is torn. -/
theorem tn_or : ∀ txs : List B, (∀ x ∈ txs, (unfT x).2 = x.length) ∨ ∃ A C t, Tn txs A C t
  | [] => .inl (fun x hx => by cases hx)
  | x :: r => by
    by_cases hx : (unfT x).2 = x.length
    · rcases tn_or r with h | ⟨A, C, t, h⟩
      · exact .inl (fun y hy => (List.mem_cons.1 hy).elim (fun e => e ▸ hx) (h y))
      · exact .inr ⟨x :: A, C, t, by rw [h.eq]; simp, fun y hy => (List.mem_cons.1 hy).elim (fun e => e ▸ hx) (h.ok y), h.bad⟩
    · exact .inr ⟨[], r, x, by simp, (fun y hy => by cases hy), by have := (unfT_take x).1; omega⟩
/-- What the log is when it has read up to what is torn. -/
def TL (z : Int) (g : Nat) (s : B) (l A : List B) (t : B) : LG := ⟨z, g, s, l ++ (A.map fun x => (unfT x).1).flatten ++ (unfT t).1, A.length + 1, (unfT t).2⟩
theorem torn_TL {txs A C : List B} {t : B} (h : Tn txs A C t) (z : Int) (g : Nat) (s : B) (l : List B) : tornL ⟨z, g, s, l, 0, 0⟩ txs A.length t = TL z g s l A t := by
  have : txs.take A.length = A := by rw [h.eq, List.append_assoc, List.take_left']; rfl
  unfold tornL segL TL
  rw [this]
set_option maxRecDepth 100000 in
/-- Open of a disk of whatever state that holds a generation beside others, one segment of which is torn. -/
theorem open_tornG (p g : Nat) (b : Option Nat) (m : DN) (z : Int) (P : PP) (s t : B) (l txs A C : List B) (hz : 1 ≤ z) (w : World) (hX : Dx P g (frs (s :: l)) txs) (hml : m.l = mk P) (hD : DD w p b m) (hp : 2 ≤ p) (hb2 : ∀ k, b = some k → 2 ≤ k) (hG : Gw w) (hm : Okn m) (hd : m.dead = false) (hc : m.ch ≤ 800000) (hu : usedP P ≤ 4000000)
    (hT : Tn txs A C t) (hll : l.length ≤ 500000) (hfew : ((txs.map fun t => (unfT t).1).flatten).length ≤ 400000)
    (ho : (menN (TL z g s l A t) m (dnK (A.length + 1) txs.length)).2 = 0 → Okw (TL z g s l A t) (menN (TL z g s l A t) m (dnK (A.length + 1) txs.length)).1) :
    Calls Tryz.prog 10 #[.pointer (some ⟨p, 0, none⟩), .int .i64 z] w (OpP w p b (bgR (⟨z, g, s, l, 0, 0⟩, (m, 0)) (TL z g s l A t, menN (TL z g s l A t) m (dnK (A.length + 1) txs.length))) (bgT (usedP P) (⟨z, g, s, l, 0, 0⟩, (m, 0)) (TL z g s l A t, menN (TL z g s l A t) m (dnK (A.length + 1) txs.length)))) := by
  have hg1 := hX.g1
  have hg2 := hX.g2
  have hn := hX.n
  have hlen := hX.len
  have hat : ∀ n, atL n m.l = getP n P := fun n => by rw [hml]; exact at_mk hX.ris
  have hul : usedL m.l = usedP P := by rw [hml]; exact used_mk P
  have hmlen : m.l.length ≤ 1000 := by rw [hml, mk_len]; omega
  have hAl : A.length < txs.length := by have := congrArg List.length hT.eq; simp at this; omega
  have hbl : (frs (s :: l)).length ≤ 4000000 := by
    have h1 := usedP_get hX.ris (baseN g)
    rw [hX.base] at h1
    exact Nat.le_trans h1 hu
  have htl : ∀ (i : Nat) (u : B), txs[i]? = some u → u.length ≤ 4000000 := fun i u hu' => by
    have h1 := usedP_get hX.ris (segN g (i + 1))
    rw [hX.seg i u hu'] at h1
    exact Nat.le_trans h1 hu
  have hS : Segs g m txs := ⟨hn, fun i u hu' => ⟨by rw [hat]; exact hX.seg i u hu', htl i u hu'⟩, by rw [hat]; exact dx_none hX _ (by omega) (by omega), hfew⟩
  have hTL := torn_TL hT z g s l
  rw [← hul]
  refine open_any p g b m z _ _ hz w hD hp hb2 hG hm hd (by rw [hml]; exact dx_nms hX) (by rw [hml]; exact dx_newest hX) fun q w' hK' hG' => ?_
  refine begin_any q p b none ⟨z, g, [], [], 0, 0⟩ m (⟨z, g, s, l, 0, 0⟩, (m, 0)) (TL z g s l A t, menN (TL z g s l A t) m (dnK (A.length + 1) txs.length)) w' hK' hG' (by show g ≠ 0; omega) hm
    (fun w1 b1 rb1 hK1 hG1 => (readBase_ok q p b1 rb1 ⟨z, g, [], [], 0, 0⟩ m (frs (s :: l)) s l w1 hK1 hG1 hg2 hm hd (by show atL (baseN g) _ = _; rw [hat]; exact hX.base) hbl (unfT_frs (s :: l) (fun x hx => by have := frs_mem hx; omega))).mono fun e w2 h => Ltp_rs h)
    (fun _ w1 b1 rb1 hK1 hG1 => ?_)
    (fun _ h => ho h)
  have := readSegs_torn q p b1 rb1 ⟨z, g, s, l, 0, 0⟩ m txs A.length t (menN (TL z g s l A t) m (dnK (A.length + 1) txs.length)) w1 hK1 hG1 hg2 hm hd rfl hll hS hT.at hT.lt hT.bad (fun w2 b2 rb2 hK2 hG2 => by
    rw [hTL] at hK2 ⊢
    have hmd := mend_any q p txs.length b2 rb2 (TL z g s l A t) m t w2 hK2 hG2 hm hg2 (by show A.length + 1 < 100; omega) (by rw [hml]; exact dx_nmsg hX) (by rw [hml]; exact dx_upI hX) (by omega)
      (fun n hn => by
        have h1 := dwK_mem hn
        have h3 : A.length + 1 < n := h1.1
        obtain ⟨u, hu'⟩ : ∃ u, txs[n - 1]? = some u := ⟨_, List.getElem?_eq_getElem (by omega)⟩
        have h2 := hX.seg (n - 1) u hu'
        rw [show n - 1 + 1 = n by omega] at h2
        rw [hat]
        show (getP (segN g n) P).isSome = true
        rw [h2]
        rfl)
      (by rw [hat]; exact hX.seg _ t hT.at) (Nat.le_of_lt hT.bad) (by omega) (by omega) hmlen
    rw [dwK_dnK] at hmd
    exact hmd)
  rw [hTL] at this
  exact this
set_option maxRecDepth 100000 in
/-- Open of a synced disk, one segment of which is torn. -/
theorem open_torn (p g : Nat) (b : Option Nat) (room : Int) (ch : Nat) (z : Int) (P : PP) (s t : B) (l txs A C : List B) (hz : 1 ≤ z) (w : World) (hX : Dx P g (frs (s :: l)) txs) (hD : DD w p b (cm P room ch)) (hp : 2 ≤ p) (hb2 : ∀ k, b = some k → 2 ≤ k) (hG : Gw w) (hc : ch ≤ 800000) (hu : usedP P ≤ 4000000)
    (hT : Tn txs A C t) (hll : l.length ≤ 500000) (hfew : ((txs.map fun t => (unfT t).1).flatten).length ≤ 400000) :
    ∃ ch' P', ch' ≤ ch + 500 ∧ Dx P' g (frs (s :: l)) (A ++ [t.take (unfT t).2]) ∧ usedP P' + (t.drop (unfT t).2).length + (C.map List.length).sum = usedP P ∧
      Calls Tryz.prog 10 #[.pointer (some ⟨p, 0, none⟩), .int .i64 z] w (OpP w p b (TL z g s l A t, (cm (P'.filter fun x => !othK g x.1) room ch', 0)) (((t.drop (unfT t).2).length + (C.map List.length).sum : Nat) : Int)) := by
  have hn := hX.n
  have hlen := hX.len
  have hcl : C.length < txs.length := by have := congrArg List.length hT.eq; simp at this; omega
  have htx : txs.length = A.length + 1 + C.length := by have := congrArg List.length hT.eq; simp at this; omega
  obtain ⟨P', ch1, h1, h2, h3, h4, h5⟩ := mend_cm (TL z g s l A t) room C.reverse A t (frs (s :: l)) P ch (by rw [List.reverse_reverse, ← hT.eq]; exact hX) rfl
  rw [List.length_reverse] at h1 h2
  rw [List.map_reverse, List.sum_reverse] at h4
  replace h4 : usedP P' + (t.drop (unfT t).2).length + (C.map List.length).sum = usedP P := h4
  have hu' : usedP P' ≤ usedP P := by omega
  obtain ⟨ch', hc', hsw⟩ := sweep_cm g h3.ris (dx_ok h3) room ch1
  have hl3 := h3.len
  refine ⟨ch', P', by omega, h3, h4, ?_⟩
  have hm := dx_okn hX room ch (by omega) (by omega)
  have e0 : menN (TL z g s l A t) (cm P room ch) (dnK (A.length + 1) txs.length) = (cm P' room ch1, 0) := by rw [htx]; exact h2
  have HH := open_tornG p g b (cm P room ch) z P s t l txs A C hz w hX rfl hD hp hb2 hG hm rfl (by show ch ≤ _; omega) hu hT hll hfew (fun _ => by
    rw [e0]
    exact ⟨hX.g2, by show (mk P').length ≤ _; rw [mk_len]; omega, by show ch1 ≤ _; omega, dx_okn h3 room ch1 (by omega) (by omega)⟩)
  rw [e0] at HH
  have e1 : bgR (⟨z, g, s, l, 0, 0⟩, (cm P room ch, 0)) (TL z g s l A t, (cm P' room ch1, 0)) = (TL z g s l A t, (cm (P'.filter fun x => !othK g x.1) room ch', 0)) := by
    unfold bgR
    rw [if_neg (by simp), if_neg (by simp)]
    show (_, sweepN g (cm P' room ch1)) = _
    rw [hsw]
  have e2 : bgT (usedP P) (⟨z, g, s, l, 0, 0⟩, (cm P room ch, 0)) (TL z g s l A t, (cm P' room ch1, 0)) = (((t.drop (unfT t).2).length + (C.map List.length).sum : Nat) : Int) := by
    unfold bgT
    rw [if_neg (by simp), if_neg (by simp)]
    show (usedP P : Int) - (usedL (mk P') : Int) = _
    rw [used_mk]
    show (usedP P : Int) - (usedP P' : Int) = _
    omega
  rw [e1, e2] at HH
  exact HH
/-- Open of a disk whose newest base has no bytes. -/
theorem open_bare (p g : Nat) (b : Option Nat) (m : DN) (z : Int) (P : PP) (txs : List B) (hz : 1 ≤ z) (w : World) (hX : Dx P g [] txs) (hml : m.l = mk P) (hD : DD w p b m) (hp : 2 ≤ p) (hb2 : ∀ k, b = some k → 2 ≤ k) (hG : Gw w) (hm : Okn m) (hd : m.dead = false) :
    Calls Tryz.prog 10 #[.pointer (some ⟨p, 0, none⟩), .int .i64 z] w fun e w' => e = .returned (.tuple #[.pointer none, .int .i64 0, .int .i64 6]) ∧ ∃ q b' rb', w.heap.size ≤ q ∧ Wch w w' q p b none b' rb' := by
  have hg1 := hX.g1
  have hat : ∀ n, atL n m.l = getP n P := fun n => by rw [hml]; exact at_mk hX.ris
  have HH := open_any p g b m z (⟨z, g, [], [], 0, 0⟩, (m, 6)) 0 hz w hD hp hb2 hG hm hd (by rw [hml]; exact dx_nms hX) (by rw [hml]; exact dx_newest hX) fun q w' hK' hG' => by
    have := begin_any q p b none ⟨z, g, [], [], 0, 0⟩ m (⟨z, g, [], [], 0, 0⟩, (m, 6)) (⟨z, g, [], [], 0, 0⟩, (m, 6)) w' hK' hG' (by show g ≠ 0; omega) hm
      (fun w1 b1 rb1 hK1 hG1 => readBase_empty q p b1 rb1 ⟨z, g, [], [], 0, 0⟩ m w1 hK1 hG1 hX.g2 hm hd (by rw [hat]; exact hX.base))
      (fun h => by cases h) (fun h => by cases h)
    exact this
  refine HH.mono ?_
  rintro e w' ⟨q, b', rb', rfl, h2, h3, _⟩
  exact ⟨rfl, q, b', rb', h2, h3⟩
end Go.Proofs.YtaiiojbakmminaaGreatDoor
namespace Go.Proofs.YtaiiojbakmminaaGreatDoor
open Go Go.RowKit
theorem eqlNilA (w : World) : (binOp .eql 45 (.slice none 0 0) (.slice none 0 0)).run Tryz.prog w = .ok (.bool true) w := Lib.run_eql_slice_nil w 45 32 none 0 0 0 0 Tryz.underlying45
theorem eqlNilA1 (w : World) (b : Addr) (n c : Nat) : (binOp .eql 45 (.slice (some b) n c) (.slice none 0 0)).run Tryz.prog w = .ok (.bool false) w := Lib.run_eql_slice_nil w 45 32 (some b) n c 0 0 Tryz.underlying45
end Go.Proofs.YtaiiojbakmminaaGreatDoor
namespace Go.Proofs.YtaiiojbakmminaaGreatDoor
open Go Go.RowKit
/-- Since the world w a law has made a disk at p, with its files in b, and a log at q, with its records in rb. -/
structure Ge (w wl : World) (q p : Nat) (b rb : Option Nat) (L : LG) (m : DN) : Prop where
  k : WK wl q p b rb L m
  bel : Below w.heap.size w wl
  q : w.heap.size ≤ q
  p : w.heap.size ≤ p
  b : ∀ k, b = some k → w.heap.size ≤ k
  rb : ∀ k, rb = some k → w.heap.size ≤ k
theorem Ge.below {w wl wa : World} {q p : Nat} {b rb : Option Nat} {L : LG} {m : DN} (h : Ge w wl q p b rb L m) (hb : Below wl.heap.size wl wa) : Ge w wa q p b rb L m := ⟨h.k.below hb, h.bel.trans (hb.mono h.bel.size), h.q, h.p, h.b, h.rb⟩
/-- What a call on the disk, or an opening, keeps. -/
structure Ko (wl w' : World) : Prop where
  size : wl.heap.size ≤ w'.heap.size
  blk : ∀ (i : Nat) (c : Array Value) (t : TypeId) (fr : Nat × Nat), wl.heap[i]? = some (Obj.cells c t fr) → t ≠ 61 → t ≠ 93 → w'.heap[i]? = some (Obj.cells c t fr)
theorem Ko.ts {wl w' : World} {fb : Option Nat} {v : Value} {l : List B} (h : Ko wl w') (hT : TS wl v fb l) : TS w' v fb l := hT.keep fun i e => by
  rcases hT.out with ⟨_, hb, _⟩ | ⟨g, o, cap, cur, _, hb, hg, _⟩
  · rw [hb] at e; cases e
  · rw [hb] at e
    cases e
    rw [h.blk _ _ _ _ hg (by decide) (by decide), hg]
theorem Ko.b {wl w' : World} {i : Nat} {c : Array Value} {t : TypeId} (h : Ko wl w') (hb : Blk wl i c t) (h1 : t ≠ 61) (h2 : t ≠ 93) : Blk w' i c t := ⟨h.blk i c t _ hb.out h1 h2⟩
theorem ge_dd {w wl : World} {q p : Nat} {b rb : Option Nat} {L : LG} {m : DN} (h : Ge w wl q p b rb L m) : DD wl p b m := by
  obtain ⟨rv, _, _, hD⟩ := h.k.out
  exact hD
/-- A synced disk from which the snapshot s and the records k are read. -/
structure Fk (P : PP) (s : B) (k : List B) : Prop where
  out : ∃ g lb txs, Dx P g (frs (s :: lb)) txs ∧ (∀ t ∈ txs, (unfT t).2 = t.length) ∧ k = lb ++ (txs.map fun t => (unfT t).1).flatten
/-- Open of such a disk: a log that stands so, on a disk that does. -/
theorem ge_open {w wl : World} {q p : Nat} {b rb : Option Nat} {L : LG} {P : PP} {room : Int} {ch : Nat} {s : B} {k : List B} (h : Ge w wl q p b rb L (cm P room ch)) (hG : Gw w) (hF : Fk P s k) (z : Int) (hz : 1 ≤ z) (hc : ch ≤ 800000) (hu : usedP P ≤ 4000000) (hk : k.length ≤ 400000) :
    Calls Tryz.prog 10 #[.pointer (some ⟨p, 0, none⟩), .int .i64 z] wl fun e w' => ∃ q' b' rb' L' P' ch', e = .returned (.tuple #[.pointer (some ⟨q', 0, none⟩), .int .i64 0, .int .i64 0]) ∧ L'.snap = s ∧ L'.recs = k ∧ Fk P' s k ∧ usedP P' ≤ usedP P ∧ ch' ≤ ch + 300 ∧ Ge w w' q' p b' rb' L' (cm P' room ch') ∧ Ko wl w' ∧ (∀ i, rb' = some i → wl.heap.size ≤ i) := by
  obtain ⟨g, lb, txs, hX, hun, hrec⟩ := hF.out
  have hkl : lb.length + ((txs.map fun t => (unfT t).1).flatten).length ≤ 400000 := by
    rw [hrec, List.length_append] at hk
    exact hk
  obtain ⟨ch', hc', HO⟩ := open_dx p g b room ch z P s lb txs hz wl hX (ge_dd h) h.k.p2 h.k.b2 (hG.below h.bel) hc hu hun (by omega) (by omega)
  refine HO.mono ?_
  intro e w' hop
  obtain ⟨q', b', rb', rfl, hq, hW, hK⟩ := op_ok hop
  obtain ⟨hlo, hbl, hrl⟩ := wch_low hW h.bel.size (Nat.le_trans h.bel.size hq) h.p h.b (fun k e => by cases e)
  obtain ⟨_, ⟨c2, f2, k2⟩, k3, _⟩ := h.k.kinds
  refine ⟨q', b', rb', _, _, ch', rfl, ?_, ?_, ?_, used_filter _ _, hc', ⟨hK, h.bel.trans hlo, Nat.le_trans h.bel.size hq, h.p, hbl, hrl⟩, ⟨hW.size, fun i c t fr hb n2 n3 => ?_⟩, fun i e => ?_⟩
  · unfold segL; rfl
  · rw [hrec]
    unfold segL
    show lb ++ ((txs.take txs.length).map fun t => (unfT t).1).flatten = _
    rw [List.take_length]
  · exact ⟨g, lb, txs, ld_dx (dx_filter hX), hun, hrec⟩
  · have hi := (Array.getElem?_eq_some_iff.1 hb).1
    exact (hW.block i hi (by omega) (kind_ne hb k2 n2) (fun e => by obtain ⟨c3, f3, k5⟩ := k3 i e.symm; exact kind_ne hb k5 n3 rfl) (fun e => by cases e)).trans hb
  · rcases hW.newr i e with h5 | h5
    · cases h5
    · exact h5
end Go.Proofs.YtaiiojbakmminaaGreatDoor
