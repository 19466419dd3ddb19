/- What mend leaves of a synced disk that holds a generation, one of whose segments is torn. What Open gives back of a disk that holds a generation one of whose segments is torn, or whose base has no frames. A planned fall, plainly: what it leaves of a synced disk within Add, and within the taking away of files. -/
import Derived.Test.YtaiiojbakmminaaGreatDoorWmu
import Derived.Test.YtaiiojbakmminaaGreatDoorWaq
import Derived.Test.YtaiiojbakmminaaGreatDoorWrt
import Derived.Test.YtaiiojbakmminaaGreatDoorWme
import Derived.Test.YtaiiojbakmminaaGreatDoorWdx
namespace Go.Proofs.YtaiiojbakmminaaGreatDoor
open Go Go.RowKit
/-- What is cut where it is not right is right. -/
theorem unfT_cut (s : B) (hs : s.length ≤ 2147483647) : (s.take (unfT s).2).length = (unfT s).2 ∧ unfT (s.take (unfT s).2) = ((unfT s).1, (unfT s).2) := by
  obtain ⟨h1, h2⟩ := unfT_take s
  have h3 : (s.take (unfT s).2).length = (unfT s).2 := by rw [List.length_take]; omega
  refine ⟨h3, ?_⟩
  have h4 : (frs (unfT s).1).length = (unfT s).2 := by rw [← h2]; exact h3
  rw [h2, unfT_frs _ (fun x hx => by have := frs_mem hx; omega), h4]
/-- The last segment goes. -/
theorem dx_drop {P : PP} {g : Nat} {bt u : B} {ts : List B} (h : Dx P g bt (ts ++ [u])) : Dx (putP (segN g (ts.length + 1)) none P) g bt ts := by
  have hgl := h.g2
  have hn := h.n
  simp at hn
  refine ⟨putP_ris h.ris, h.g1, h.g2, by omega, ?_, fun i v hv => ?_, fun x hx => ?_, ?_⟩
  · rw [getP_put, if_neg (base_seg _ _ _)]; exact h.base
  · have hi := (List.getElem?_eq_some_iff.1 hv).1
    rw [getP_put, if_neg (fun e2 => by have := (seg_inj hgl hgl (by omega) (by omega) e2).2; omega)]
    exact h.seg i v (by rw [List.getElem?_append_left hi]; exact hv)
  · obtain ⟨h1, h2⟩ := List.mem_filter.1 (show x ∈ woP (segN g (ts.length + 1)) P from hx)
    rcases h.only x h1 with e | ⟨i, hi, e⟩ | e
    · exact .inl e
    · refine .inr (.inl ⟨i, ?_, e⟩)
      simp at hi
      have : i ≠ ts.length := fun e3 => by
        rw [e3] at e
        simp [e] at h2
      omega
    · exact .inr (.inr e)
  · have h1 : (woP (segN g (ts.length + 1)) P).length ≤ P.length := List.length_filter_le ..
    exact Nat.le_trans h1 h.len
/-- The last segment is another one. -/
theorem dx_cut {P : PP} {g : Nat} {bt u : B} {ts : List B} (h : Dx P g bt (ts ++ [u])) (t : B) : Dx (putP (segN g (ts.length + 1)) (some t) P) g bt (ts ++ [t]) := by
  have hgl := h.g2
  have hn := h.n
  simp at hn
  have hin : getP (segN g (ts.length + 1)) P = some u := h.seg ts.length u (by simp)
  refine ⟨putP_ris h.ris, h.g1, h.g2, by simp; omega, ?_, fun i v hv => ?_, fun x hx => ?_, ?_⟩
  · rw [getP_put, if_neg (base_seg _ _ _)]; exact h.base
  · rw [getP_put]
    by_cases e : i = ts.length
    · subst e
      rw [if_pos rfl]
      simpa using hv
    · have hi : i < ts.length := by
        have := (List.getElem?_eq_some_iff.1 hv).1
        simp at this
        omega
      rw [if_neg (fun e2 => e (by have := (seg_inj hgl hgl (by omega) (by omega) e2).2; omega))]
      rw [List.getElem?_append_left hi] at hv
      exact h.seg i v (by rw [List.getElem?_append_left hi]; exact hv)
  · refine putP_names (q := fun n => n = baseN g ∨ (∃ i, i < (ts ++ [t]).length ∧ n = segN g (i + 1)) ∨ Oth g n) (fun y hy => ?_) (fun _ => .inr (.inl ⟨ts.length, by simp, rfl⟩)) x hx
    rcases h.only y hy with e | ⟨i, hi, e⟩ | e
    · exact .inl e
    · exact .inr (.inl ⟨i, by simpa using hi, e⟩)
    · exact .inr (.inr e)
  · have e1 : (putP (segN g (ts.length + 1)) (some t) P).length ≤ (woP (segN g (ts.length + 1)) P).length + 1 := by
      have : ∀ (x : B × B) (l : PP), (insP x l).length = l.length + 1 := fun x l => by
        induction l with
        | nil => rfl
        | cons y r ih => unfold insP; split <;> simp [*]
      exact Nat.le_of_eq (this (segN g (ts.length + 1), t) (woP (segN g (ts.length + 1)) P))
    have e2 : (woP (segN g (ts.length + 1)) P).length < P.length := by
      unfold woP
      refine List.length_filter_lt_length_iff_exists.2 ⟨(segN g (ts.length + 1), u), (getP_mem h.ris).1 hin, ?_⟩
      simp
    have := h.len
    omega
/-- The numbers from n down to s + 1. -/
def dnK (s n : Nat) : List Nat := (List.range (n - s)).map fun i => n - i
theorem dnK_none (s : Nat) : dnK s s = [] := by simp [dnK]
theorem dnK_step {s n : Nat} (h : s ≤ n) : dnK s (n + 1) = (n + 1) :: dnK s n := by
  unfold dnK
  rw [show n + 1 - s = (n - s) + 1 by omega, List.range_succ_eq_map, List.map_cons, List.map_map]
  refine congrArg (_ :: ·) (List.map_congr_left fun i _ => ?_)
  show n + 1 - (i + 1) = n - i
  omega
theorem rem_cm (P : PP) (room : Int) (ch : Nat) (x : B) : remN (cm P room ch) x = (⟨lay x none 4 (mk P), false, false, room, ch + 1, none⟩, 0) := by
  simp [remN, cm, chgN, hitN]
theorem tru_cm {P : PP} (h : RisP P) (room : Int) (ch k : Nat) (x : B) : truN (cm P room ch) x k = (⟨lay x (some ((kbyt (getP x P)).take k)) 5 (mk P), false, false, room, ch + 1, none⟩, 0) := by
  simp [truN, cm, chgN, hitN, at_mk h]
theorem run_rem {P : PP} (h : RisP P) (room : Int) (ch : Nat) (x : B) (r : List (DN → DN × Nat)) : runL (cm P room ch) ((fun m => remN m x) :: synN :: r) = runL (cm (putP x none P) room (ch + 1)) r := by
  rw [runL, rem_cm, if_pos rfl, runL, syn_cm, if_pos rfl, lay_now x none 4 _ (ris_mk.2 h), now_mk]
theorem run_tru {P : PP} (h : RisP P) (room : Int) (ch k : Nat) (x : B) : runL (cm P room ch) [fun m => truN m x k, synN] = (cm (putP x (some ((kbyt (getP x P)).take k)) P) room (ch + 1), 0) := by
  rw [runL, tru_cm h, if_pos rfl, runL_one, syn_cm, lay_now x _ 5 _ (ris_mk.2 h), now_mk]
/-- What mend leaves of the segments that are there. -/
theorem mend_cm (L : LG) (room : Int) : ∀ (C : List B) (A : List B) (t bt : B) (P : PP) (ch : Nat), Dx P L.g bt (A ++ [t] ++ C.reverse) → L.segs = A.length + 1 →
    ∃ P' ch', ch' = ch + C.length + 1 ∧ menN L (cm P room ch) (dnK L.segs (A.length + 1 + C.length)) = (cm P' room ch', 0) ∧ Dx P' L.g bt (A ++ [t.take L.last]) ∧ usedP P' + (t.drop L.last).length + (C.map List.length).sum = usedP P ∧ ∀ n, (∀ i, i < (A ++ [t] ++ C.reverse).length → n ≠ segN L.g (i + 1)) → getP n P' = getP n P
  | [], A, t, bt, P, ch, hX, hs => by
    have hX' : Dx P L.g bt (A ++ [t]) := by simpa using hX
    have hin : getP (segN L.g (A.length + 1)) P = some t := hX'.seg A.length t (by simp)
    refine ⟨putP (segN L.g (A.length + 1)) (some (t.take L.last)) P, ch + 1, rfl, ?_, dx_cut hX' _, ?_, fun n hn => ?_⟩
    · have e : dnK L.segs (A.length + 1 + ([] : List B).length) = [] := by rw [hs]; exact dnK_none _
      rw [e]
      show runL _ [fun m => truN m (segN L.g L.segs) L.last, synN] = _
      rw [run_tru hX'.ris, hs, hin]
      rfl
    · have h1 := usedP_put (n := segN L.g (A.length + 1)) (c := some (t.take L.last)) hX'.ris
      rw [hin] at h1
      have e1 : (kbyt (some t)).length = t.length := rfl
      have e2 : (kbyt (some (t.take L.last))).length = (t.take L.last).length := rfl
      rw [e1, e2, List.length_take] at h1
      rw [List.length_drop]
      simp
      omega
    · rw [getP_put, if_neg (hn A.length (by simp))]
  | c :: C, A, t, bt, P, ch, hX, hs => by
    have hX' : Dx P L.g bt ((A ++ [t] ++ C.reverse) ++ [c]) := by simpa using hX
    have hl : (A ++ [t] ++ C.reverse).length = A.length + 1 + C.length := by simp; omega
    have hin : getP (segN L.g (A.length + 1 + C.length + 1)) P = some c := by
      rw [← hl]
      exact hX'.seg _ c (by simp)
    have hD := dx_drop hX'
    rw [hl] at hD
    obtain ⟨P', ch', h1, h2, h3, h4, h5⟩ := mend_cm L room C A t bt _ (ch + 1) hD hs
    refine ⟨P', ch', by rw [h1]; simp; omega, ?_, h3, ?_, fun n hn => ?_⟩
    · have e : dnK L.segs (A.length + 1 + (c :: C).length) = (A.length + 1 + C.length + 1) :: dnK L.segs (A.length + 1 + C.length) := by
        rw [List.length_cons, show A.length + 1 + (C.length + 1) = (A.length + 1 + C.length) + 1 by omega]
        exact dnK_step (by omega)
      rw [e, ← h2]
      show runL _ (_ :: synN :: (mdF L.g _ ++ _)) = _
      rw [run_rem hX'.ris]
      rfl
    · have h6 := usedP_put (n := segN L.g (A.length + 1 + C.length + 1)) (c := none) hX'.ris
      rw [hin] at h6
      have e1 : (kbyt (some c)).length = c.length := rfl
      have e2 : (kbyt (none : Option B)).length = 0 := rfl
      rw [e1, e2] at h6
      simp only [List.map_cons, List.sum_cons]
      omega
    · rw [h5 n (fun i hi => hn i (by simp at hi ⊢; omega)), getP_put, if_neg (hn (A.length + 1 + C.length) (by simp; omega))]
end Go.Proofs.YtaiiojbakmminaaGreatDoor
namespace Go.Proofs.YtaiiojbakmminaaGreatDoor
open Go Go.RowKit
theorem dwK_dnK {n s : Nat} : dwK n s n = dnK s n := by
  unfold dwK dnK
  rw [show min n (n - s) = n - s by omega]
/-- Which segment is the first that is torn. -/
structure Tn (txs A C : List B) (t : B) : Prop where
  eq : txs = A ++ [t] ++ C
  ok : ∀ x ∈ A, (unfT x).2 = x.length
  bad : (unfT t).2 < t.length
theorem Tn.at {txs A C : List B} {t : B} (h : Tn txs A C t) : txs[A.length]? = some t := by rw [h.eq]; simp
theorem Tn.lt {txs A C : List B} {t : B} (h : Tn txs A C t) : ∀ (i : Nat) (x : B), i < A.length → txs[i]? = some x → (unfT x).2 = x.length := fun i x hi hx => by
  rw [h.eq, List.append_assoc, List.getElem?_append_left hi] at hx
  exact h.ok x (List.mem_of_getElem? hx)
/-- Either all segments are right, or one is the first that is torn. -/
theorem tn_or : ∀ txs : List B, (∀ x ∈ txs, (unfT x).2 = x.length) ∨ ∃ A C t, Tn txs A C t
  | [] => .inl (fun x hx => by cases hx)
  | x :: r => by
    by_cases hx : (unfT x).2 = x.length
    · rcases tn_or r with h | ⟨A, C, t, h⟩
      · exact .inl (fun y hy => (List.mem_cons.1 hy).elim (fun e => e ▸ hx) (h y))
      · exact .inr ⟨x :: A, C, t, by rw [h.eq]; simp, fun y hy => (List.mem_cons.1 hy).elim (fun e => e ▸ hx) (h.ok y), h.bad⟩
    · exact .inr ⟨[], r, x, by simp, (fun y hy => by cases hy), by have := (unfT_take x).1; omega⟩
/-- What the log is when it has read up to what is torn. -/
def TL (z : Int) (g : Nat) (s : B) (l A : List B) (t : B) : LG := ⟨z, g, s, l ++ (A.map fun x => (unfT x).1).flatten ++ (unfT t).1, A.length + 1, (unfT t).2⟩
theorem torn_TL {txs A C : List B} {t : B} (h : Tn txs A C t) (z : Int) (g : Nat) (s : B) (l : List B) : tornL ⟨z, g, s, l, 0, 0⟩ txs A.length t = TL z g s l A t := by
  have : txs.take A.length = A := by rw [h.eq, List.append_assoc, List.take_left']; rfl
  unfold tornL segL TL
  rw [this]
set_option maxRecDepth 100000 in
/-- Open of a disk of whatever state that holds a generation beside others, one segment of which is torn. -/
theorem open_tornG (p g : Nat) (b : Option Nat) (m : DN) (z : Int) (P : PP) (s t : B) (l txs A C : List B) (hz : 1 ≤ z) (w : World) (hX : Dx P g (frs (s :: l)) txs) (hml : m.l = mk P) (hD : DD w p b m) (hp : 2 ≤ p) (hb2 : ∀ k, b = some k → 2 ≤ k) (hG : Gw w) (hm : Okn m) (hd : m.dead = false) (hc : m.ch ≤ 800000) (hu : usedP P ≤ 4000000)
    (hT : Tn txs A C t) (hll : l.length ≤ 500000) (hfew : ((txs.map fun t => (unfT t).1).flatten).length ≤ 400000)
    (ho : (menN (TL z g s l A t) m (dnK (A.length + 1) txs.length)).2 = 0 → Okw (TL z g s l A t) (menN (TL z g s l A t) m (dnK (A.length + 1) txs.length)).1) :
    Calls Tryz.prog 10 #[.pointer (some ⟨p, 0, none⟩), .int .i64 z] w (OpP w p b (bgR (⟨z, g, s, l, 0, 0⟩, (m, 0)) (TL z g s l A t, menN (TL z g s l A t) m (dnK (A.length + 1) txs.length))) (bgT (usedP P) (⟨z, g, s, l, 0, 0⟩, (m, 0)) (TL z g s l A t, menN (TL z g s l A t) m (dnK (A.length + 1) txs.length)))) := by
  have hg1 := hX.g1
  have hg2 := hX.g2
  have hn := hX.n
  have hlen := hX.len
  have hat : ∀ n, atL n m.l = getP n P := fun n => by rw [hml]; exact at_mk hX.ris
  have hul : usedL m.l = usedP P := by rw [hml]; exact used_mk P
  have hmlen : m.l.length ≤ 1000 := by rw [hml, mk_len]; omega
  have hAl : A.length < txs.length := by have := congrArg List.length hT.eq; simp at this; omega
  have hbl : (frs (s :: l)).length ≤ 4000000 := by
    have h1 := usedP_get hX.ris (baseN g)
    rw [hX.base] at h1
    exact Nat.le_trans h1 hu
  have htl : ∀ (i : Nat) (u : B), txs[i]? = some u → u.length ≤ 4000000 := fun i u hu' => by
    have h1 := usedP_get hX.ris (segN g (i + 1))
    rw [hX.seg i u hu'] at h1
    exact Nat.le_trans h1 hu
  have hS : Segs g m txs := ⟨hn, fun i u hu' => ⟨by rw [hat]; exact hX.seg i u hu', htl i u hu'⟩, by rw [hat]; exact dx_none hX _ (by omega) (by omega), hfew⟩
  have hTL := torn_TL hT z g s l
  rw [← hul]
  refine open_any p g b m z _ _ hz w hD hp hb2 hG hm hd (by rw [hml]; exact dx_nms hX) (by rw [hml]; exact dx_newest hX) fun q w' hK' hG' => ?_
  refine begin_any q p b none ⟨z, g, [], [], 0, 0⟩ m (⟨z, g, s, l, 0, 0⟩, (m, 0)) (TL z g s l A t, menN (TL z g s l A t) m (dnK (A.length + 1) txs.length)) w' hK' hG' (by show g ≠ 0; omega) hm
    (fun w1 b1 rb1 hK1 hG1 => (readBase_ok q p b1 rb1 ⟨z, g, [], [], 0, 0⟩ m (frs (s :: l)) s l w1 hK1 hG1 hg2 hm hd (by show atL (baseN g) _ = _; rw [hat]; exact hX.base) hbl (unfT_frs (s :: l) (fun x hx => by have := frs_mem hx; omega))).mono fun e w2 h => Ltp_rs h)
    (fun _ w1 b1 rb1 hK1 hG1 => ?_)
    (fun _ h => ho h)
  have := readSegs_torn q p b1 rb1 ⟨z, g, s, l, 0, 0⟩ m txs A.length t (menN (TL z g s l A t) m (dnK (A.length + 1) txs.length)) w1 hK1 hG1 hg2 hm hd rfl hll hS hT.at hT.lt hT.bad (fun w2 b2 rb2 hK2 hG2 => by
    rw [hTL] at hK2 ⊢
    have hmd := mend_any q p txs.length b2 rb2 (TL z g s l A t) m t w2 hK2 hG2 hm hg2 (by show A.length + 1 < 100; omega) (by rw [hml]; exact dx_nmsg hX) (by rw [hml]; exact dx_upI hX) (by omega)
      (fun n hn => by
        have h1 := dwK_mem hn
        have h3 : A.length + 1 < n := h1.1
        obtain ⟨u, hu'⟩ : ∃ u, txs[n - 1]? = some u := ⟨_, List.getElem?_eq_getElem (by omega)⟩
        have h2 := hX.seg (n - 1) u hu'
        rw [show n - 1 + 1 = n by omega] at h2
        rw [hat]
        show (getP (segN g n) P).isSome = true
        rw [h2]
        rfl)
      (by rw [hat]; exact hX.seg _ t hT.at) (Nat.le_of_lt hT.bad) (by omega) (by omega) hmlen
    rw [dwK_dnK] at hmd
    exact hmd)
  rw [hTL] at this
  exact this
set_option maxRecDepth 100000 in
/-- Open of a synced disk, one segment of which is torn. -/
theorem open_torn (p g : Nat) (b : Option Nat) (room : Int) (ch : Nat) (z : Int) (P : PP) (s t : B) (l txs A C : List B) (hz : 1 ≤ z) (w : World) (hX : Dx P g (frs (s :: l)) txs) (hD : DD w p b (cm P room ch)) (hp : 2 ≤ p) (hb2 : ∀ k, b = some k → 2 ≤ k) (hG : Gw w) (hc : ch ≤ 800000) (hu : usedP P ≤ 4000000)
    (hT : Tn txs A C t) (hll : l.length ≤ 500000) (hfew : ((txs.map fun t => (unfT t).1).flatten).length ≤ 400000) :
    ∃ ch' P', ch' ≤ ch + 500 ∧ Dx P' g (frs (s :: l)) (A ++ [t.take (unfT t).2]) ∧ usedP P' + (t.drop (unfT t).2).length + (C.map List.length).sum = usedP P ∧
      Calls Tryz.prog 10 #[.pointer (some ⟨p, 0, none⟩), .int .i64 z] w (OpP w p b (TL z g s l A t, (cm (P'.filter fun x => !othK g x.1) room ch', 0)) (((t.drop (unfT t).2).length + (C.map List.length).sum : Nat) : Int)) := by
  have hn := hX.n
  have hlen := hX.len
  have hcl : C.length < txs.length := by have := congrArg List.length hT.eq; simp at this; omega
  have htx : txs.length = A.length + 1 + C.length := by have := congrArg List.length hT.eq; simp at this; omega
  obtain ⟨P', ch1, h1, h2, h3, h4, h5⟩ := mend_cm (TL z g s l A t) room C.reverse A t (frs (s :: l)) P ch (by rw [List.reverse_reverse, ← hT.eq]; exact hX) rfl
  rw [List.length_reverse] at h1 h2
  rw [List.map_reverse, List.sum_reverse] at h4
  replace h4 : usedP P' + (t.drop (unfT t).2).length + (C.map List.length).sum = usedP P := h4
  have hu' : usedP P' ≤ usedP P := by omega
  obtain ⟨ch', hc', hsw⟩ := sweep_cm g h3.ris (dx_ok h3) room ch1
  have hl3 := h3.len
  refine ⟨ch', P', by omega, h3, h4, ?_⟩
  have hm := dx_okn hX room ch (by omega) (by omega)
  have e0 : menN (TL z g s l A t) (cm P room ch) (dnK (A.length + 1) txs.length) = (cm P' room ch1, 0) := by rw [htx]; exact h2
  have HH := open_tornG p g b (cm P room ch) z P s t l txs A C hz w hX rfl hD hp hb2 hG hm rfl (by show ch ≤ _; omega) hu hT hll hfew (fun _ => by
    rw [e0]
    exact ⟨hX.g2, by show (mk P').length ≤ _; rw [mk_len]; omega, by show ch1 ≤ _; omega, dx_okn h3 room ch1 (by omega) (by omega)⟩)
  rw [e0] at HH
  have e1 : bgR (⟨z, g, s, l, 0, 0⟩, (cm P room ch, 0)) (TL z g s l A t, (cm P' room ch1, 0)) = (TL z g s l A t, (cm (P'.filter fun x => !othK g x.1) room ch', 0)) := by
    unfold bgR
    rw [if_neg (by simp), if_neg (by simp)]
    show (_, sweepN g (cm P' room ch1)) = _
    rw [hsw]
  have e2 : bgT (usedP P) (⟨z, g, s, l, 0, 0⟩, (cm P room ch, 0)) (TL z g s l A t, (cm P' room ch1, 0)) = (((t.drop (unfT t).2).length + (C.map List.length).sum : Nat) : Int) := by
    unfold bgT
    rw [if_neg (by simp), if_neg (by simp)]
    show (usedP P : Int) - (usedL (mk P') : Int) = _
    rw [used_mk]
    show (usedP P : Int) - (usedP P' : Int) = _
    omega
  rw [e1, e2] at HH
  exact HH
end Go.Proofs.YtaiiojbakmminaaGreatDoor
namespace Go.Proofs.YtaiiojbakmminaaGreatDoor
open Go Go.RowKit
/-- A synced disk with a fall that is planned. -/
def pm (P : PP) (room : Int) (ch : Nat) (f : FA) : DN := ⟨mk P, false, false, room, ch, some f⟩
/-- A disk without power, of which nothing is loose. -/
def dm (P : PP) (room : Int) (ch : Nat) : DN := ⟨mk P, true, false, room, ch, none⟩
theorem chg_pm (P : PP) (room : Int) (ch : Nat) (f : FA) (l' : List F) : chgN (pm P room ch f) l' = if f.at_ = (ch : Int) then (dm P room ch, 7) else (⟨l', false, false, room, ch + 1, some f⟩, 0) := by
  unfold chgN hitN pm
  dsimp only
  by_cases h : f.at_ = (ch : Int)
  · rw [if_pos h, if_pos h]
    show (({ (⟨mk P, false, false, room, ch, some f⟩ : DN) with dead := true, l := settleL (failL f.keep f.torn (mk P)), pl := none } : DN), 7) = _
    rw [fail_mk]
    rfl
  · rw [if_neg h, if_neg h]
theorem syn_pm (l : List F) (room : Int) (ch : Nat) (f : FA) : synN ⟨l, false, false, room, ch, some f⟩ = (pm (nowL l) room ch f, 0) := by
  simp [synN, pm, settle_mk]
/-- Nothing of these files can be torn. -/
def Qt (l : List F) : Prop := ∀ f ∈ l, f.is = f.sure ∨ (f.last ≠ 1 ∧ f.last ≠ 2)
theorem qt_mk (P : PP) : Qt (mk P) := fun f hf => by
  obtain ⟨x, _, rfl⟩ := List.mem_map.1 hf
  exact .inl rfl
theorem lay_last {n : B} {c : Option B} {h : Nat} {l : List F} (hr : Ris l) {f : F} (hf : f ∈ lay n c h l) : f ∈ l ∨ f.last = h := by
  obtain ⟨A, T, rfl, hp, hA, ⟨hfn, f0, R, rfl, hn2, hR⟩ | ⟨hfn, hT⟩⟩ := split_at n l hr
  · rw [lay_found hfn hp] at hf
    split at hf
    · exact .inl (mem_skip hf)
    · rcases List.mem_append.1 hf with h1 | h1
      · exact .inl (List.mem_append_left _ h1)
      · rcases List.mem_cons.1 h1 with rfl | h1
        · exact .inr rfl
        · exact .inl (by simp [h1])
  · rw [lay_new hfn hp] at hf
    split at hf
    · exact .inl hf
    · rcases List.mem_append.1 hf with h1 | h1
      · exact .inl (List.mem_append_left _ h1)
      · rcases List.mem_cons.1 h1 with rfl | h1
        · exact .inr rfl
        · exact .inl (List.mem_append_right _ h1)
theorem qt_rem {l : List F} (h : Qt l) (hr : Ris l) (n : B) : Qt (lay n none 4 l) := fun f hf => by
  rcases lay_last hr hf with h1 | h1
  · exact h f h1
  · exact .inr ⟨by omega, by omega⟩
/-- Each file is as it was, or as it was sure to be. -/
inductive Pk : List F → List F → Prop
  | nil : Pk [] []
  | cons {f f' : F} {l r : List F} (hn : f'.name = f.name) (hi : f'.is = f.is ∨ f'.is = f.sure) (h : Pk l r) : Pk (f :: l) (f' :: r)
theorem fail_pk (z k : Int) : ∀ (l acc : List F) (c q : Nat), Qt l → ∃ r, (l.foldl (fstep z k) (acc, c, q)).1 = acc ++ r ∧ Pk l r
  | [], acc, c, q, _ => ⟨[], by simp, .nil⟩
  | f :: l, acc, c, q, hq => by
    have hq2 : Qt l := fun g hg => hq g (List.mem_cons_of_mem _ hg)
    have hf := hq f (List.mem_cons_self ..)
    rw [List.foldl_cons]
    have step : ∃ f' c' q', fstep z k (acc, c, q) f = (acc ++ [f'], c', q') ∧ f'.name = f.name ∧ (f'.is = f.is ∨ f'.is = f.sure) := by
      unfold fstep
      split
      · split
        · exact ⟨f, _, _, rfl, rfl, .inl rfl⟩
        · refine ⟨{ f with is := lostC f k (decide (q = 0)) }, _, _, rfl, rfl, ?_⟩
          show lostC f k (decide (q = 0)) = f.is ∨ lostC f k (decide (q = 0)) = f.sure
          rcases hf with h1 | ⟨h1, h2⟩
          · rename_i hl _
            exact absurd h1 (by
              unfold isLoose at hl
              simpa using hl)
          · right
            unfold lostC torn
            rw [if_neg (by simp [h1, h2])]
      · exact ⟨f, _, _, rfl, rfl, .inl rfl⟩
    obtain ⟨f', c', q', h1, h2, h3⟩ := step
    obtain ⟨r, h4, h5⟩ := fail_pk z k l (acc ++ [f']) c' q' hq2
    exact ⟨f' :: r, by rw [h1, h4]; simp, .cons h2 h3 h5⟩
theorem pk_names {l r : List F} (h : Pk l r) : r.map (·.name) = l.map (·.name) := by
  induction h with
  | nil => rfl
  | cons hn _ _ ih => simp [hn, ih]
theorem get_view (v : F → Option B) (n : B) {f : F} {l : List F} (hr : ∀ x ∈ l, f.name < x.name) : getP n (viewL v (f :: l)) = if f.name = n then v f else getP n (viewL v l) := by
  have hn : f.name = n → getP n (viewL v l) = none := fun e => getP_gt fun y hy => by
    obtain ⟨g, hg, h1, _⟩ := view_mem hy
    rw [← h1, ← e]
    exact hr g hg
  rw [view_cons]
  cases hv : v f with
  | none =>
    simp only [Option.map_none, Option.toList_none, List.nil_append]
    by_cases e : f.name = n
    · rw [if_pos e, hn e]
    · rw [if_neg e]
  | some s =>
    simp only [Option.map_some, Option.toList_some, List.cons_append, List.nil_append]
    rw [getP_cons]
theorem pk_get {l r : List F} (h : Pk l r) (hl : Ris l) : ∀ n, getP n (nowL r) = getP n (nowL l) ∨ getP n (nowL r) = getP n (sureL l) := by
  induction h with
  | nil => exact fun n => .inl rfl
  | @cons f f' l r hn hi h ih =>
    intro n
    obtain ⟨h1, h2⟩ := List.pairwise_cons.1 hl
    have h3 : ∀ x ∈ r, f'.name < x.name := fun x hx => by
      have h4 : x.name ∈ l.map (·.name) := by rw [← pk_names h]; exact List.mem_map.2 ⟨x, hx, rfl⟩
      obtain ⟨y, hy, e⟩ := List.mem_map.1 h4
      rw [hn, ← e]
      exact h1 y hy
    unfold nowL sureL at *
    rw [get_view _ n h3, get_view _ n h1, get_view _ n h1, hn]
    by_cases e : f.name = n
    · rw [if_pos e, if_pos e, if_pos e]; exact hi
    · rw [if_neg e, if_neg e, if_neg e]; exact ih h2 n
theorem pk_ris {l r : List F} (h : Pk l r) (hl : Ris l) : Ris r := by
  have e := pk_names h
  have h1 : (l.map (·.name)).Pairwise (· < ·) := List.pairwise_map.2 hl
  rw [← e] at h1
  exact List.pairwise_map.1 h1
/-- What a loss of power leaves where nothing can be torn. -/
theorem fail_qt (z k : Int) {l : List F} (hq : Qt l) (hl : Ris l) : ∃ P', settleL (failL z k l) = mk P' ∧ RisP P' ∧ ∀ n, getP n P' = getP n (nowL l) ∨ getP n P' = getP n (sureL l) := by
  obtain ⟨r, h1, h2⟩ := fail_pk z k l [] 0 0 hq
  refine ⟨nowL r, ?_, now_ris (pk_ris h2 hl), pk_get h2 hl⟩
  unfold failL fst_
  rw [h1, List.nil_append, settle_mk]
theorem swp_pm (f : FA) (room : Int) (P : PP) : ∀ (xs : List B) (l : List F) (ch : Nat), Okl okN l → Qt l → sureL l = P → (∀ n, getP n (nowL l) = none ∨ getP n (nowL l) = getP n P) → (ch : Int) ≤ f.at_ → (∀ x ∈ xs, okN x = true) →
    (∃ P' ch', swpN ⟨l, false, false, room, ch, some f⟩ xs = (dm P' room ch', 7) ∧ RisP P' ∧ ch' ≤ ch + xs.length ∧ ∀ n, getP n P' = getP n P ∨ (getP n P' = none ∧ (n ∈ xs ∨ getP n (nowL l) = none))) ∨
    (∃ l', swpN ⟨l, false, false, room, ch, some f⟩ xs = (⟨l', false, false, room, ch + xs.length, some f⟩, 0) ∧ RisP (nowL l') ∧ ((ch + xs.length : Nat) : Int) ≤ f.at_ ∧ ∀ n, getP n (nowL l') = if n ∈ xs then none else getP n (nowL l))
  | [], l, ch, hl, _, _, _, hc, _ => .inr ⟨l, rfl, now_ris hl.ris, by simpa using hc, fun n => by simp⟩
  | x :: r, l, ch, hl, hq, hs, hn, hc, hx => by
    by_cases hf : f.at_ = (ch : Int)
    · left
      obtain ⟨P', h1, h2, h3⟩ := fail_qt f.keep f.torn hq hl.ris
      have h4 : remN ⟨l, false, false, room, ch, some f⟩ x = (dm P' room ch, 7) := by
        unfold remN chgN hitN
        simp only [Bool.false_eq_true, if_false]
        rw [if_pos hf]
        show (({ (⟨l, false, false, room, ch, some f⟩ : DN) with dead := true, l := settleL (failL f.keep f.torn l), pl := none } : DN), 7) = _
        rw [h1]
        rfl
      refine ⟨P', ch, ?_, h2, by omega, fun n => ?_⟩
      · unfold swpN
        rw [h4, if_neg (by simp)]
      · rcases h3 n with h5 | h5
        · rcases hn n with h6 | h6
          · exact .inr ⟨h5.trans h6, .inr h6⟩
          · exact .inl (h5.trans h6)
        · rw [hs] at h5; exact .inl h5
    · have h1 : remN ⟨l, false, false, room, ch, some f⟩ x = (⟨lay x none 4 l, false, false, room, ch + 1, some f⟩, 0) := by
        unfold remN chgN hitN
        simp only [Bool.false_eq_true, if_false]
        rw [if_neg hf]
      have hxo := hx x (List.mem_cons_self ..)
      have hnow : ∀ n, getP n (nowL (lay x none 4 l)) = if n = x then none else getP n (nowL l) := fun n => by
        rw [lay_now x none 4 l hl.ris, getP_put]
      have e1 : swpN ⟨l, false, false, room, ch, some f⟩ (x :: r) = swpN ⟨lay x none 4 l, false, false, room, ch + 1, some f⟩ r := by
        conv => lhs; unfold swpN
        rw [h1, if_pos rfl]
      rw [e1]
      rcases swp_pm f room P r (lay x none 4 l) (ch + 1) (lay_ok hl hxo) (qt_rem hq hl.ris x) (by rw [lay_sure x none 4 l hl.ris, hs]) (fun n => by
        rw [hnow]
        split
        · exact .inl rfl
        · exact hn n) (by push_cast; omega) (fun y hy => hx y (List.mem_cons_of_mem _ hy)) with ⟨P', ch', k1, k2, k3, k4⟩ | ⟨l', k1, k2, k3, k4⟩
      · refine .inl ⟨P', ch', k1, k2, by simp only [List.length_cons]; omega, fun n => ?_⟩
        rcases k4 n with k5 | ⟨k5, k6⟩
        · exact .inl k5
        · refine .inr ⟨k5, ?_⟩
          rcases k6 with k6 | k6
          · exact .inl (List.mem_cons_of_mem _ k6)
          · rw [hnow] at k6
            by_cases e : n = x
            · exact .inl (e ▸ List.mem_cons_self ..)
            · rw [if_neg e] at k6; exact .inr k6
      · refine .inr ⟨l', ?_, k2, ?_, fun n => ?_⟩
        · rw [k1, List.length_cons, Nat.add_assoc, Nat.add_comm 1]
        · rw [List.length_cons]; omega
        · rw [k4, hnow]
          by_cases e1 : n = x
          · simp [e1]
          · simp [e1]
/-- A part of a disk. -/
theorem part_filter {P P' : PP} (h : RisP P) (h' : RisP P') (hn : ∀ n, getP n P' = getP n P ∨ getP n P' = none) : P' = P.filter fun x => (getP x.1 P').isSome := ext_P h' (h.filter _) fun n => by
  cases hq : getP n P' with
  | none =>
    cases hq2 : getP n (P.filter fun x => (getP x.1 P').isSome) with
    | none => rfl
    | some s =>
      have := (List.mem_filter.1 ((getP_mem (h.filter _)).1 hq2)).2
      simp only [hq] at this
      cases this
  | some s =>
    rcases hn n with h1 | h1
    · rw [hq] at h1
      exact ((getP_mem (h.filter _)).2 (List.mem_filter.2 ⟨(getP_mem h).1 h1.symm, by simp [hq]⟩)).symm
    · rw [hq] at h1; cases h1
/-- What a disk with a fall that is planned is behind a sweep: swept, or without power, with some of the others left. -/
theorem sweep_pm (g : Nat) {P : PP} (h : RisP P) (hP : ∀ x ∈ P, okN x.1 = true) (room : Int) (ch : Nat) (f : FA) (hf : (ch : Int) ≤ f.at_) :
    (∃ ch', ch' ≤ ch + P.length ∧ (ch' : Int) ≤ f.at_ ∧ sweepN g (pm P room ch f) = (pm (P.filter fun x => !othK g x.1) room ch' f, 0)) ∨
    (∃ P' ch', ch' ≤ ch + P.length ∧ sweepN g (pm P room ch f) = (dm P' room ch', 7) ∧ RisP P' ∧ ∀ n, getP n P' = getP n P ∨ (getP n P' = none ∧ othK g n = true)) := by
  have hnm : namesL (pm P room ch f).l = P.map (·.1) := names_mk P
  have hall : ∀ x ∈ othL g (pm P room ch f), okN x = true := fun x hx => by
    unfold othL at hx
    rw [hnm] at hx
    obtain ⟨h1, _⟩ := List.mem_filter.1 hx
    obtain ⟨y, h2, rfl⟩ := List.mem_map.1 h1
    exact hP y h2
  have hlen : (othL g (pm P room ch f)).length ≤ P.length := by
    unfold othL
    rw [hnm]
    exact Nat.le_trans (List.length_filter_le ..) (by simp)
  have hmem : ∀ n, n ∈ othL g (pm P room ch f) ↔ n ∈ P.map (·.1) ∧ othK g n = true := fun n => by
    unfold othL
    rw [hnm, List.mem_filter]
  by_cases h0 : othL g (pm P room ch f) = []
  · refine .inl ⟨ch, by omega, hf, ?_⟩
    have : P.filter (fun x => !othK g x.1) = P := List.filter_eq_self.2 fun x hx => by
      cases ho : othK g x.1 with
      | false => rfl
      | true =>
        have := (hmem x.1).2 ⟨List.mem_map.2 ⟨x, hx, rfl⟩, ho⟩
        rw [h0] at this
        cases this
    rw [this]
    unfold sweepN
    rw [if_pos h0]
  · have hsure : sureL (mk P) = P := by
      have := settle_sure (mk P)
      rw [settle_mk, now_mk] at this
      exact this
    rcases swp_pm f room P (othL g (pm P room ch f)) (mk P) ch (mk_ok h hP) (qt_mk P) hsure (fun n => by rw [now_mk]; exact .inr rfl) hf hall with ⟨P', ch', k1, k2, k3, k4⟩ | ⟨l', k1, k2, k3, k4⟩
    · refine .inr ⟨P', ch', by omega, ?_, k2, fun n => ?_⟩
      · unfold sweepN
        rw [if_neg h0]
        change (if (swpN ⟨mk P, false, false, room, ch, some f⟩ (othL g (pm P room ch f))).2 = 0 then synN (swpN ⟨mk P, false, false, room, ch, some f⟩ (othL g (pm P room ch f))).1 else swpN ⟨mk P, false, false, room, ch, some f⟩ (othL g (pm P room ch f))) = _
        rw [k1, if_neg (by simp)]
      · rcases k4 n with k5 | ⟨k5, k6⟩
        · exact .inl k5
        · rcases k6 with k6 | k6
          · exact .inr ⟨k5, ((hmem n).1 k6).2⟩
          · rw [now_mk] at k6; exact .inl (k5.trans k6.symm)
    · refine .inl ⟨ch + (othL g (pm P room ch f)).length, by omega, k3, ?_⟩
      have e : nowL l' = P.filter fun x => !othK g x.1 := ext_P k2 (h.filter _) fun n => by
        rw [k4, now_mk]
        cases hq : getP n P with
        | none =>
          rw [show getP n (P.filter fun x => !othK g x.1) = none from ?_]
          · simp
          · cases hq2 : getP n (P.filter fun x => !othK g x.1) with
            | none => rfl
            | some s =>
              have := (getP_mem (h.filter _)).1 hq2
              rw [(getP_mem h).2 (List.mem_filter.1 this).1] at hq
              cases hq
        | some s =>
          have hin := (getP_mem h).1 hq
          have hn : n ∈ P.map (·.1) := List.mem_map.2 ⟨_, hin, rfl⟩
          cases ho : othK g n with
          | true =>
            rw [if_pos ((hmem n).2 ⟨hn, ho⟩)]
            cases hq2 : getP n (P.filter fun x => !othK g x.1) with
            | none => rfl
            | some s2 =>
              have := (List.mem_filter.1 ((getP_mem (h.filter _)).1 hq2)).2
              simp [ho] at this
          | false =>
            rw [if_neg (fun hh => by rw [((hmem n).1 hh).2] at ho; cases ho)]
            exact ((getP_mem (h.filter _)).2 (List.mem_filter.2 ⟨hin, by simp [ho]⟩)).symm
      unfold sweepN
      rw [if_neg h0]
      change (if (swpN ⟨mk P, false, false, room, ch, some f⟩ (othL g (pm P room ch f))).2 = 0 then synN (swpN ⟨mk P, false, false, room, ch, some f⟩ (othL g (pm P room ch f))).1 else _) = _
      rw [k1, if_pos rfl, syn_pm, e]
end Go.Proofs.YtaiiojbakmminaaGreatDoor
