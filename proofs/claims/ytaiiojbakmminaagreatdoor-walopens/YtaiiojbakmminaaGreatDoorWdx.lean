/- A log that was played on a synced disk: what Reset and Add leave, and that Open gives it back. A new disk, a loss of power, Up; Open of a new disk. Add and Open of a log that was played on a synced disk. A disk that holds a generation beside what is left of others; what Open gives back of it. -/
import Derived.Test.YtaiiojbakmminaaGreatDoorWpz
namespace Go.Proofs.YtaiiojbakmminaaGreatDoor
open Go Go.RowKit
def addP (L : LG) (P : PP) (l : List B) : PP := if addC L = true then putP (segN L.g (L.segs + 1)) (some (frs l)) P else putP (segN L.g L.segs) (some (kbyt (getP (segN L.g L.segs) P) ++ frs l)) P
theorem add_cm (L : LG) {P : PP} (h : RisP P) (room : Int) (ch : Nat) (l : List B) : addN L (cm P room ch) l = (addL L l, (cm (addP L P l) room (ch + 1), 0)) := by
  unfold addN addR addP addK
  cases hc : addC L with
  | true =>
    have h1 : (wriN (cm P room ch) (segN L.g (L.segs + 1)) (frs l)).2 = 0 := by rw [wri_cm]
    have h2 := syn_wri h room ch (segN L.g (L.segs + 1)) (frs l)
    simp [h1, h2]
  | false =>
    have h1 : (appN (cm P room ch) (segN L.g L.segs) (frs l)).2 = 0 := by rw [app_cm h]
    have h2 := syn_app h room ch (segN L.g L.segs) (frs l)
    simp [h1, h2]
/-- A log, what its disk holds, the records of its base, and those of its segments. -/
structure Py (L : LG) (P : PP) (lb : List B) (ls : List (List B)) : Prop where
  ld : Ld P L.g (frs (L.snap :: lb)) (ls.map frs)
  recs : L.recs = lb ++ ls.flatten
  segs : L.segs = ls.length
  last : L.last = (frs (ls.getLast?.getD [])).length
  short : ∀ x ∈ ls.flatten, x.length ≤ 2147483647
theorem py_reset (L : LG) (s : B) (l : List B) (hg : L.g < 99) : Py (becL L (L.g + 1) s l) [(baseN (L.g + 1), frs [s] ++ frs l)] l [] :=
  ⟨by
    have e : frs (s :: l) = frs [s] ++ frs l := frs_app [s] l
    show Ld _ (L.g + 1) (frs (s :: l)) []
    rw [e]
    exact ld_base _ _ (by omega) (by omega), by simp [becL], rfl, rfl, fun x hx => by simp at hx⟩
theorem py_add {L : LG} {P : PP} {lb : List B} {ls : List (List B)} (h : Py L P lb ls) (l : List B) (hl : ∀ x ∈ l, x.length ≤ 2147483647) (hn : ls.length < 97) : ∃ ls', Py (addL L l) (addP L P l) lb ls' ∧ ls'.flatten = ls.flatten ++ l := by
  cases hc : addC L with
  | true =>
    refine ⟨ls ++ [l], ⟨?_, ?_, ?_, ?_, ?_⟩, by simp⟩
    · unfold addP
      rw [if_pos hc]
      have := ld_more h.ld (frs l) (by simpa using hn)
      rw [List.length_map, ← h.segs] at this
      rw [List.map_append]
      exact this
    · show L.recs ++ l = _
      rw [h.recs]; simp
    · show addK L = _
      unfold addK
      rw [if_pos hc, h.segs]; simp
    · show addJ L + _ = _
      unfold addJ
      rw [if_pos hc]; simp
    · intro x hx
      simp at hx
      rcases hx with ⟨y, h1, h2⟩ | h2
      · exact h.short x (List.mem_flatten.2 ⟨y, h1, h2⟩)
      · exact hl x h2
  | false =>
    have hne : ls ≠ [] := fun e => by
      unfold addC at hc
      rw [h.segs, e] at hc
      simp at hc
    obtain ⟨ts, u, rfl⟩ : ∃ ts u, ls = ts ++ [u] := ⟨ls.dropLast, ls.getLast hne, (List.dropLast_concat_getLast hne).symm⟩
    have hsg : L.segs = ts.length + 1 := by rw [h.segs]; simp
    have hld := h.ld
    rw [List.map_append, List.map_singleton] at hld
    have hget : getP (segN L.g (ts.length + 1)) P = some (frs u) := hld.seg ts.length (frs u) (by simp)
    refine ⟨ts ++ [u ++ l], ⟨?_, ?_, ?_, ?_, ?_⟩, by simp⟩
    · unfold addP
      rw [if_neg (by simp [hc]), hsg, hget]
      have := ld_app hld (frs l)
      rw [List.length_map] at this
      rw [List.map_append, List.map_singleton, frs_app]
      exact this
    · show L.recs ++ l = _
      rw [h.recs]; simp
    · show addK L = _
      unfold addK
      rw [if_neg (by simp [hc]), hsg]; simp
    · show addJ L + _ = _
      unfold addJ
      rw [if_neg (by simp [hc]), h.last]; simp [frs_app]
    · intro x hx
      simp at hx
      rcases hx with ⟨y, h1, h2⟩ | h2 | h2
      · exact h.short x (by simp; exact .inl ⟨y, h1, h2⟩)
      · exact h.short x (by simp; exact .inr h2)
      · exact hl x h2
theorem unf_all {ls : List (List B)} (h : ∀ x ∈ ls.flatten, x.length ≤ 2147483647) : ∀ k ∈ ls, unfT (frs k) = (k, (frs k).length) := fun k hk => unfT_frs k fun x hx => h x (List.mem_flatten.2 ⟨k, hk, hx⟩)
theorem map_unf {ls : List (List B)} (h : ∀ k ∈ ls, unfT (frs k) = (k, (frs k).length)) : ((ls.map frs).map fun t => (unfT t).1) = ls := by
  rw [List.map_map]
  conv => rhs; rw [← List.map_id ls]
  exact List.map_congr_left fun k hk => by simp [h k hk]
/-- Reading gives back the log. -/
theorem py_seg {L : LG} {P : PP} {lb : List B} {ls : List (List B)} (h : Py L P lb ls) : segL ⟨L.most, L.g, L.snap, lb, 0, 0⟩ (ls.map frs) (ls.map frs).length = L := by
  have h1 := h.recs
  have h2 := h.segs
  have h3 := h.last
  obtain ⟨a1, a2, a3, a4, a5, a6⟩ := L
  simp only at h1 h2 h3 ⊢
  subst h1 h2 h3
  unfold segL
  rw [List.take_length, map_unf (unf_all h.short)]
  rcases List.eq_nil_or_concat ls with rfl | ⟨ts, u, rfl⟩
  · simp [frs]
  · simp
end Go.Proofs.YtaiiojbakmminaaGreatDoor
namespace Go.Proofs.YtaiiojbakmminaaGreatDoor
open Go Go.RowKit
theorem newD (w : World) : Calls Tryz.prog 9 #[] w fun e w' => e = .returned (.pointer (some ⟨w.heap.size, 0, none⟩)) ∧ Below w.heap.size w w' ∧ DD w' w.heap.size none (cm [] 0 0) :=
  (new_any w).mono fun _ _ h => ⟨h.1, h.2.1, ⟨_, h.2.2, ⟨none, 0, rfl⟩⟩⟩
theorem crashD (p : Nat) (b : Option Nat) (m : DN) (z k : Int) (w : World) (hD : DD w p b m) (hm : Okn m) (hpl : m.pl = none) (hd : m.dead = false) :
    Calls Tryz.prog 14 #[.pointer (some ⟨p, 0, none⟩), .int .i64 z, .int .i64 k] w fun e w' => e = .returned (.tuple #[]) ∧ ∃ b', Chg w w' p b b' ∧ DD w' p b' { m with dead := true, l := settleL (failL z k m.l) } := by
  obtain ⟨v, hK, hP⟩ := hD.out
  rw [hpl] at hP
  have h1 := hm.len
  refine (crash_any p b (m.lo v) z k w hK (by show m.l.length ≤ _; omega) hm.by_).mono ?_
  rintro e w' ⟨h2, b', h3, h4⟩
  refine ⟨h2, b', h3, ⟨v, ?_, ?_⟩⟩
  · unfold craD at h4
    rw [if_neg (by rw [show (m.lo v).dead = m.dead from rfl, hd]; simp)] at h4
    exact h4
  · show PLs w' v m.pl
    rw [hpl]
    exact hP
theorem upD (p : Nat) (b : Option Nat) (m : DN) (w : World) (hD : DD w p b m) (hpl : m.pl = none) :
    Calls Tryz.prog 15 #[.pointer (some ⟨p, 0, none⟩)] w fun e w' => e = .returned (.bool m.dead) ∧ Chg w w' p b b ∧ DD w' p b { m with dead := false } := by
  obtain ⟨v, hK, hP⟩ := hD.out
  rw [hpl] at hP
  refine (up_any p b (m.lo v) w hK).mono ?_
  rintro e w' ⟨h2, h3, h4⟩
  refine ⟨h2, h3, ⟨v, h4, ?_⟩⟩
  show PLs w' v m.pl
  rw [hpl]
  exact hP
theorem cm_okn {P : PP} (h : RisP P) (hP : ∀ x ∈ P, okN x.1 = true) (room : Int) (ch : Nat) (hl : P.length ≤ 999000) (hu : usedP P ≤ 100000000000) (hc : ch ≤ 999000) : Okn (cm P room ch) := by
  refine ⟨mk_ok h hP, by show (mk P).length ≤ _; rw [mk_len]; exact hl, by show usedL (mk P) ≤ _; rw [used_mk]; exact hu, hc, (fun e => by cases e), (fun f hf => ?_), (fun f e => by cases e)⟩
  obtain ⟨x, hx, rfl⟩ := List.mem_map.1 (show f ∈ mk P from hf)
  have : x.2.length ≤ usedP P := by
    clear h hP hl hc hu hf
    induction P with
    | nil => cases hx
    | cons y r ih =>
      have e : usedP (y :: r) = y.2.length + usedP r := by simp [usedP]
      rw [e]
      rcases List.mem_cons.1 hx with rfl | h2
      · omega
      · have := ih h2; omega
  show (kbyt (some x.2)).length ≤ _ ∧ (kbyt (some x.2)).length ≤ _
  have e : (kbyt (some x.2)).length = x.2.length := rfl
  rw [e]
  omega
/-- Open of a new disk. -/
theorem open_new (p : Nat) (z : Int) (hz : 1 ≤ z) (w : World) (hD : DD w p none (cm [] 0 0)) (hp : 2 ≤ p) (hG : Gw w) : ∃ ch, ch ≤ 4 ∧
    Calls Tryz.prog 10 #[.pointer (some ⟨p, 0, none⟩), .int .i64 z] w (OpP w p none (⟨z, 1, [], [], 0, 0⟩, (cm [(baseN 1, frs [[]] ++ frs [])] 0 ch, 0)) 0) := by
  obtain ⟨ch, h1, h2⟩ := reset_cm ⟨z, 0, [], [], 0, 0⟩ (P := []) (by simp [RisP]) (fun x hx => by cases hx) 0 0 [] [] (by show 0 < 99; omega) (fun x hx => by cases hx)
  have hm : Okn (cm [] 0 0) := cm_okn (by simp [RisP]) (fun x hx => by cases hx) 0 0 (by simp) (by simp [usedP]) (by omega)
  refine ⟨ch, by simpa using h1, ?_⟩
  refine open_any p 0 none (cm [] 0 0) z _ 0 hz w hD hp (fun k e => by cases e) hG hm rfl ?_ ?_ fun q w' hK' hG' => ?_
  · show Nms preB (namesL (mk []))
    rw [names_mk]
    exact ⟨by simp, fun x hx => by simp at hx, fun x hx => by simp at hx⟩
  · show newP (namesL (mk [])) = _
    rw [names_mk]
    simp [newP, numsP, fmI, srtI]
  · have := begin0_any q p none none ⟨z, 0, [], [], 0, 0⟩ (cm [] 0 0) w' hK' hG' rfl ⟨by show 0 < 99; omega, by simp [cm, mk], by simp [cm], by
      have e1 : (frs [[]]).length ≤ 100 := by rw [frs_one]; simp [frame_len]
      have e2 : frs [] = [] := rfl
      have e3 : usedL (cm [] 0 0).l = 0 := by show usedL (mk []) = 0; rw [used_mk]; simp [usedP]
      rw [e2, e3]; simp; omega, hm⟩
    rw [h2] at this
    exact this
end Go.Proofs.YtaiiojbakmminaaGreatDoor
namespace Go.Proofs.YtaiiojbakmminaaGreatDoor
open Go Go.RowKit
theorem used_addP {L : LG} {P : PP} (h : RisP P) (l : List B) : usedP (addP L P l) ≤ usedP P + (frs l).length := by
  unfold addP
  split
  · have := usedP_put (n := segN L.g (L.segs + 1)) (c := some (frs l)) h
    have e : (kbyt (some (frs l))).length = (frs l).length := rfl
    rw [e] at this
    omega
  · have := usedP_put (n := segN L.g L.segs) (c := some (kbyt (getP (segN L.g L.segs) P) ++ frs l)) h
    have e : (kbyt (some (kbyt (getP (segN L.g L.segs) P) ++ frs l))).length = (kbyt (getP (segN L.g L.segs) P)).length + (frs l).length := List.length_append
    rw [e] at this
    omega
theorem usedP_get {P : PP} (h : RisP P) (n : B) : (kbyt (getP n P)).length ≤ usedP P := by
  have := usedP_wo (n := n) h
  omega
theorem py_last {L : LG} {P : PP} {lb : List B} {ls : List (List B)} (h : Py L P lb ls) : L.last ≤ usedP P := by
  rw [h.last]
  rcases List.eq_nil_or_concat ls with rfl | ⟨ts, u, rfl⟩
  · simp [frs]
  · have h1 := h.ld.seg ts.length (frs u) (by simp)
    have h2 := usedP_get h.ld.ris (segN L.g (ts.length + 1))
    rw [h1] at h2
    simpa [kbyt] using h2
theorem py_okn {L : LG} {P : PP} {lb : List B} {ls : List (List B)} (h : Py L P lb ls) (room : Int) (ch : Nat) (hu : usedP P ≤ 1000000000) (hc : ch ≤ 900000) : Okn (cm P room ch) := by
  have h1 := h.ld.len
  have h2 := h.ld.n
  exact cm_okn h.ld.ris (ld_ok h.ld) room ch (by omega) (by omega) (by omega)
/-- Add of a log that was played. -/
theorem add_py {L : LG} {P : PP} {lb : List B} {ls : List (List B)} (h : Py L P lb ls) (q p : Nat) (b rb : Option Nat) (room : Int) (ch : Nat) (l : List B) (ad : Option Addr) (cap : Nat) (w : World) (hK : WK w q p b rb L (cm P room ch)) (hG : Gw w) (hT : TA w ad l) (hsep : ∀ a, ad = some a → some a.block ≠ rb)
    (hu : usedP P ≤ 1000000000) (hc : ch ≤ 900000) (hf : (frs l).length ≤ 1000000000) (hr : L.recs.length + l.length ≤ 1000000) :
    Calls Tryz.prog 16 #[.pointer (some ⟨q, 0, none⟩), .slice ad l.length cap] w (RsP w q p b rb (addL L l, (cm (addP L P l) room (ch + 1), 0))) := by
  have h1 := h.ld.len
  have h2 := h.ld.n
  have h3 := h.segs
  have h4 := py_last h
  rw [List.length_map] at h1 h2
  have := add_any q p b rb L (cm P room ch) l ad cap w hK hG ⟨h.ld.g2, by omega, by show (mk P).length ≤ _; rw [mk_len]; omega, by show ch ≤ _; omega, by show usedL (mk P) + _ ≤ _; rw [used_mk]; omega, by omega, hr, py_okn h room ch hu hc⟩ hT hsep
  rw [add_cm L h.ld.ris] at this
  exact this
/-- Open of a log that was played. -/
theorem open_py {L : LG} {P : PP} {lb : List B} {ls : List (List B)} (h : Py L P lb ls) (p : Nat) (b : Option Nat) (room : Int) (ch : Nat) (hz : 1 ≤ L.most) (w : World) (hD : DD w p b (cm P room ch)) (hp : 2 ≤ p) (hb2 : ∀ k, b = some k → 2 ≤ k) (hG : Gw w) (hu : usedP P ≤ 4000000) (hc : ch ≤ 900000) (hr : L.recs.length ≤ 400000) :
    Calls Tryz.prog 10 #[.pointer (some ⟨p, 0, none⟩), .int .i64 L.most] w (OpP w p b (L, (cm P room ch, 0)) 0) := by
  have hm := py_okn h room ch (by omega) hc
  have hun := unf_all h.short
  have hrl : lb.length + ls.flatten.length ≤ 400000 := by
    have := h.recs
    rw [this, List.length_append] at hr
    exact hr
  have := open_ld p L.g b (cm P room ch) L.most P L.snap lb (ls.map frs) hz w h.ld rfl hD hp hb2 hG hm rfl hc ?_ ?_ (by omega) ?_
  · rw [py_seg h] at this
    exact this
  · have h1 := usedP_get h.ld.ris (baseN L.g)
    rw [h.ld.base] at h1
    exact Nat.le_trans h1 hu
  · intro t ht
    obtain ⟨k, hk, rfl⟩ := List.mem_map.1 ht
    obtain ⟨i, hi⟩ := List.getElem?_of_mem ht
    have h1 := usedP_get h.ld.ris (segN L.g (i + 1))
    rw [h.ld.seg i _ hi] at h1
    exact ⟨Nat.le_trans h1 hu, by rw [hun k hk]⟩
  · rw [map_unf hun]
    omega
end Go.Proofs.YtaiiojbakmminaaGreatDoor
namespace Go.Proofs.YtaiiojbakmminaaGreatDoor
open Go Go.RowKit
/-- A name of another generation, or of a base that was not moved. -/
inductive Oth (g : Nat) : B → Prop
  | base (k : Nat) (h1 : 1 ≤ k) (h : k < g) : Oth g (baseN k)
  | new (k : Nat) (h : k < 100) : Oth g (newN k)
  | seg (k m : Nat) (hk : k < 100) (hm : m < 100) (hne : k ≠ g) : Oth g (segN k m)
theorem Oth.wn {g : Nat} {x : B} (h : Oth g x) (hg : g < 100) : WN x := by
  cases h with
  | base k h1 h => exact WN.base _ (by omega)
  | new k h => exact WN.new _ h
  | seg k m hk hm hne => exact WN.seg _ _ hk hm
theorem Oth.oth {g : Nat} {x : B} (h : Oth g x) (hg : g < 100) : othK g x = true := by
  cases h with
  | base k h1 h => rw [oth_base hg (by omega)]; simp; omega
  | new k h => exact oth_new hg
  | seg k m hk hm hne => rw [oth_seg hg hk]; simp; omega
/-- A disk holds a generation: its base, its segments, and perhaps others. -/
structure Dx (P : PP) (g : Nat) (bt : B) (txs : List B) : Prop where
  ris : RisP P
  g1 : 1 ≤ g
  g2 : g < 100
  n : txs.length < 98
  base : getP (baseN g) P = some bt
  seg : ∀ (i : Nat) (t : B), txs[i]? = some t → getP (segN g (i + 1)) P = some t
  only : ∀ x ∈ P, x.1 = baseN g ∨ (∃ i, i < txs.length ∧ x.1 = segN g (i + 1)) ∨ Oth g x.1
  len : P.length ≤ 300
theorem ld_dx {P : PP} {g : Nat} {bt : B} {txs : List B} (h : Ld P g bt txs) : Dx P g bt txs := by
  have h1 := h.len
  have h2 := h.n
  exact ⟨h.ris, h.g1, h.g2, h.n, h.base, h.seg, fun x hx => (h.only x hx).imp_right .inl, by omega⟩
theorem dx_wn {P : PP} {g : Nat} {bt : B} {txs : List B} (h : Dx P g bt txs) : ∀ x ∈ P, WN x.1 := fun x hx => by
  have h2 := h.n
  have h3 := h.g2
  rcases h.only x hx with e | ⟨i, hi, e⟩ | e
  · rw [e]; exact WN.base _ h3
  · rw [e]; exact WN.seg _ _ h3 (by omega)
  · exact e.wn h3
theorem dx_ok {P : PP} {g : Nat} {bt : B} {txs : List B} (h : Dx P g bt txs) : ∀ x ∈ P, okN x.1 = true := fun x hx => (dx_wn h x hx).ok
theorem dx_none {P : PP} {g : Nat} {bt : B} {txs : List B} (h : Dx P g bt txs) (k : Nat) (hk : k < 100) (hk2 : txs.length < k) : getP (segN g k) P = none := by
  cases hq : getP (segN g k) P with
  | none => rfl
  | some s =>
    have h2 := h.n
    have h3 := h.g2
    rcases h.only _ ((getP_mem h.ris).1 hq) with e | ⟨i, hi, e⟩ | e
    · exact absurd e.symm (base_seg _ _ _)
    · have := (seg_inj h.g2 h.g2 hk (by omega) e).2
      omega
    · have := e.oth h3
      rw [oth_seg h3 h3] at this
      simp at this
theorem new_atoi : ∀ n : Fin 100, Lib.atoi (dg n.val ++ dotNew) = none := by decide +kernel
theorem numK_new {k : Nat} (h : k < 100) : numK preB (newN k) = none := by
  unfold numK
  rw [if_pos (preB_new k)]
  have e : Lib.trimPrefix (newN k) preB = dg k ++ dotNew := by
    unfold newN baseN
    rw [List.append_assoc, trim_app]
  rw [e, new_atoi ⟨k, h⟩]
theorem dx_num {P : PP} {g : Nat} {bt : B} {txs : List B} (h : Dx P g bt txs) : ∀ x ∈ P, ∀ n, numK preB x.1 = some n → n ≤ g := fun x hx n hn => by
  have h3 := h.g2
  rcases h.only x hx with e | ⟨i, hi, e⟩ | e
  · rw [e, show baseN g = preB ++ dg g from rfl, numK_app h3 h.g1] at hn
    cases hn; exact Nat.le_refl _
  · rw [e, numK_seg] at hn; cases hn
  · generalize x.1 = y at *
    cases e with
    | base k h1 h4 =>
      rw [show baseN k = preB ++ dg k from rfl, numK_app (by omega) h1] at hn
      cases hn; omega
    | new k h4 => rw [numK_new h4] at hn; cases hn
    | seg k m hk hm hne => rw [numK_seg] at hn; cases hn
theorem last_max {l : List Int} {g : Int} (hm : g ∈ l) (hle : ∀ x ∈ l, x ≤ g) : (srtI l).getLast?.getD 0 = g := by
  have hp : (srtI l).Perm l := List.mergeSort_perm _ _
  have hs : (srtI l).Pairwise (fun x y => decide (x ≤ y) = true) := List.pairwise_mergeSort (fun a b c h1 h2 => by simp at *; omega) (fun a b => by simp; omega) l
  have hin : g ∈ srtI l := hp.mem_iff.2 hm
  have hle2 : ∀ x ∈ srtI l, x ≤ g := fun x hx => hle x (hp.mem_iff.1 hx)
  generalize srtI l = s at *
  rcases List.eq_nil_or_concat s with rfl | ⟨r, u, rfl⟩
  · cases hin
  · have e : (r ++ [u]).getLast?.getD 0 = u := by simp
    rw [List.concat_eq_append] at *
    rw [e]
    have h1 : u ≤ g := hle2 u (by simp)
    rcases List.mem_append.1 hin with h2 | h2
    · rw [List.pairwise_append] at hs
      have := hs.2.2 g h2 u (by simp)
      simp at this
      omega
    · exact (List.mem_singleton.1 h2).symm
theorem dx_newest {P : PP} {g : Nat} {bt : B} {txs : List B} (h : Dx P g bt txs) : newP (namesL (mk P)) = (g : Int) := by
  rw [names_mk]
  unfold newP numsP fmI
  refine last_max ?_ fun z hz => ?_
  · refine List.mem_map.2 ⟨g, List.mem_filterMap.2 ⟨baseN g, List.mem_map.2 ⟨(baseN g, bt), (getP_mem h.ris).1 h.base, rfl⟩, ?_⟩, rfl⟩
    exact numK_app h.g2 h.g1
  · obtain ⟨n, hn, rfl⟩ := List.mem_map.1 hz
    obtain ⟨y, hy, hy2⟩ := List.mem_filterMap.1 hn
    obtain ⟨x, hx, rfl⟩ := List.mem_map.1 hy
    have := dx_num h x hx n hy2
    show (n : Int) ≤ g
    omega
theorem dx_nms {P : PP} {g : Nat} {bt : B} {txs : List B} (h : Dx P g bt txs) : Nms preB (namesL (mk P)) := by
  have h2 := h.len
  have h3 := h.g2
  rw [names_mk]
  refine ⟨by rw [List.length_map]; omega, fun x hx => ?_, fun x hx hp z hz => ?_⟩
  · obtain ⟨y, hy, rfl⟩ := List.mem_map.1 hx
    have := (dx_wn h y hy).len
    omega
  · obtain ⟨y, hy, rfl⟩ := List.mem_map.1 hx
    rcases h.only y hy with e | ⟨i, _, e⟩ | e
    · rw [e, show baseN g = preB ++ dg g from rfl, trim_app, dg_atoi h.g2] at hz
      cases hz
      omega
    · rw [e, preB_seg] at hp
      cases hp
    · generalize y.1 = x at *
      cases e with
      | base k h1 h4 =>
        rw [show baseN k = preB ++ dg k from rfl, trim_app, dg_atoi (by omega)] at hz
        cases hz
        omega
      | new k h4 =>
        have e : Lib.trimPrefix (newN k) preB = dg k ++ dotNew := by
          unfold newN baseN
          rw [List.append_assoc, trim_app]
        rw [e, new_atoi ⟨k, h4⟩] at hz
        cases hz
      | seg k m hk hm hne => rw [preB_seg] at hp; cases hp
/-- What one generation holds, and nothing else. -/
def onlyP (g : Nat) (bt : B) : List B → PP
  | [] => [(baseN g, bt)]
  | t :: r => putP (segN g (r.length + 1)) (some t) (onlyP g bt r)
theorem only_ld {g : Nat} (bt : B) (h1 : 1 ≤ g) (h2 : g < 100) : ∀ (r : List B), r.length < 98 → Ld (onlyP g bt r) g bt r.reverse
  | [], _ => ld_base g bt h1 h2
  | t :: r, hl => by
    have h := only_ld bt h1 h2 r (by simp at hl; omega)
    have := ld_more h t (by simp at hl ⊢; omega)
    rw [List.length_reverse] at this
    rw [List.reverse_cons]
    exact this
/-- What is left when the others are taken away. -/
theorem dx_filter {P : PP} {g : Nat} {bt : B} {txs : List B} (h : Dx P g bt txs) : Ld (P.filter fun x => !othK g x.1) g bt txs := by
  have h3 := h.g2
  have hn := h.n
  have hL := only_ld bt h.g1 h.g2 txs.reverse (by rw [List.length_reverse]; exact h.n)
  rw [List.reverse_reverse] at hL
  have e : (P.filter fun x => !othK g x.1) = onlyP g bt txs.reverse := ext_P (h.ris.filter _) hL.ris fun n => by
    cases hq : getP n (onlyP g bt txs.reverse) with
    | some s =>
      have hin := (getP_mem hL.ris).1 hq
      have hsame : getP n P = some s := by
        rcases hL.only _ hin with e | ⟨i, hi, e⟩
        · simp only at e
          subst e
          rw [hL.base] at hq
          rw [h.base, hq]
        · simp only at e
          subst e
          obtain ⟨t, ht⟩ : ∃ t, txs[i]? = some t := ⟨_, List.getElem?_eq_getElem hi⟩
          rw [hL.seg i t ht] at hq
          rw [h.seg i t ht, hq]
      refine (getP_mem (h.ris.filter _)).2 (List.mem_filter.2 ⟨(getP_mem h.ris).1 hsame, ?_⟩)
      have := ld_calm hL _ hin
      simp only at this
      simp [this]
    | none =>
      cases hq2 : getP n (P.filter fun x => !othK g x.1) with
      | none => rfl
      | some s =>
        obtain ⟨h5, h6⟩ := List.mem_filter.1 ((getP_mem (h.ris.filter _)).1 hq2)
        rcases h.only _ h5 with e | ⟨i, hi, e⟩ | e
        · simp only at e
          subst e
          rw [hL.base] at hq; cases hq
        · simp only at e
          subst e
          obtain ⟨t, ht⟩ : ∃ t, txs[i]? = some t := ⟨_, List.getElem?_eq_getElem hi⟩
          rw [hL.seg i t ht] at hq; cases hq
        · have := e.oth h3
          simp only at this h6
          rw [this] at h6
          cases h6
  rw [e]
  exact hL
theorem used_filter (f : B × B → Bool) : ∀ P : PP, usedP (P.filter f) ≤ usedP P
  | [] => Nat.le_refl _
  | x :: r => by
    have ih := used_filter f r
    have e : usedP (x :: r) = x.2.length + usedP r := by simp [usedP]
    rw [List.filter_cons, e]
    split
    · have e2 : usedP (x :: r.filter f) = x.2.length + usedP (r.filter f) := by simp [usedP]
      omega
    · omega
theorem dx_okn {P : PP} {g : Nat} {bt : B} {txs : List B} (h : Dx P g bt txs) (room : Int) (ch : Nat) (hu : usedP P ≤ 1000000000) (hc : ch ≤ 900000) : Okn (cm P room ch) := by
  have h1 := h.len
  exact cm_okn h.ris (dx_ok h) room ch (by omega) (by omega) (by omega)
set_option maxRecDepth 100000 in
/-- Open of a disk that holds a generation beside others, where all segments are right. -/
theorem open_dx (p g : Nat) (b : Option Nat) (room : Int) (ch : Nat) (z : Int) (P : PP) (s : B) (l txs : List B) (hz : 1 ≤ z) (w : World) (hX : Dx P g (frs (s :: l)) txs) (hD : DD w p b (cm P room ch)) (hp : 2 ≤ p) (hb2 : ∀ k, b = some k → 2 ≤ k) (hG : Gw w) (hc : ch ≤ 800000) (hu : usedP P ≤ 4000000)
    (htl : ∀ t ∈ txs, (unfT t).2 = t.length) (hll : l.length ≤ 500000) (hfew : ((txs.map fun t => (unfT t).1).flatten).length ≤ 400000) :
    ∃ ch', ch' ≤ ch + 300 ∧ Calls Tryz.prog 10 #[.pointer (some ⟨p, 0, none⟩), .int .i64 z] w (OpP w p b (segL ⟨z, g, s, l, 0, 0⟩ txs txs.length, (cm (P.filter fun x => !othK g x.1) room ch', 0)) 0) := by
  have hm := dx_okn hX room ch (by omega) (by omega)
  have hg1 := hX.g1
  have hg2 := hX.g2
  have hn := hX.n
  have hlen := hX.len
  obtain ⟨ch', hc', hsw⟩ := sweep_cm g hX.ris (dx_ok hX) room ch
  refine ⟨ch', by omega, ?_⟩
  have hat : ∀ n, atL n (cm P room ch).l = getP n P := fun n => at_mk hX.ris
  have hmlen : (cm P room ch).l.length ≤ 1000 := by show (mk P).length ≤ _; rw [mk_len]; omega
  have hbl : (frs (s :: l)).length ≤ 4000000 := by
    have h1 := usedP_get hX.ris (baseN g)
    rw [hX.base] at h1
    exact Nat.le_trans h1 hu
  have hS : Segs g (cm P room ch) txs := ⟨hn, fun i t ht => ⟨by rw [hat]; exact hX.seg i t ht, by
    have h1 := usedP_get hX.ris (segN g (i + 1))
    rw [hX.seg i t ht] at h1
    exact Nat.le_trans h1 hu⟩, by rw [hat]; exact dx_none hX _ (by omega) (by omega), hfew⟩
  refine open_any p g b (cm P room ch) z _ 0 hz w hD hp hb2 hG hm rfl (dx_nms hX) (dx_newest hX) fun q w' hK' hG' => ?_
  have HH := begin_any q p b none ⟨z, g, [], [], 0, 0⟩ (cm P room ch) (⟨z, g, s, l, 0, 0⟩, (cm P room ch, 0)) (segL ⟨z, g, s, l, 0, 0⟩ txs txs.length, (cm P room ch, 0)) w' hK' hG' (by show g ≠ 0; omega) hm
    (fun w1 b1 rb1 hK1 hG1 => (readBase_ok q p b1 rb1 ⟨z, g, [], [], 0, 0⟩ (cm P room ch) (frs (s :: l)) s l w1 hK1 hG1 hg2 hm rfl (by show atL (baseN g) _ = _; rw [hat]; exact hX.base) hbl (unfT_frs (s :: l) (fun x hx => by have := frs_mem hx; omega))).mono fun e w2 h => Ltp_rs h)
    (fun _ w1 b1 rb1 hK1 hG1 => (readSegs_ok q p b1 rb1 ⟨z, g, s, l, 0, 0⟩ (cm P room ch) txs w1 hK1 hG1 hg2 hm rfl rfl hll hS htl).mono fun e w2 h => Ltp_rs h)
    (fun _ _ => ⟨hg2, hmlen, by show ch ≤ _; omega, hm⟩)
  have e1 : bgR (⟨z, g, s, l, 0, 0⟩, (cm P room ch, 0)) (segL ⟨z, g, s, l, 0, 0⟩ txs txs.length, (cm P room ch, 0)) = (segL ⟨z, g, s, l, 0, 0⟩ txs txs.length, (cm (P.filter fun x => !othK g x.1) room ch', 0)) := by
    unfold bgR
    rw [if_neg (by simp), if_neg (by simp)]
    show (_, sweepN g (cm P room ch)) = _
    rw [hsw]
  have e2 : bgT (usedL (cm P room ch).l) (⟨z, g, s, l, 0, 0⟩, (cm P room ch, 0)) (segL ⟨z, g, s, l, 0, 0⟩ txs txs.length, (cm P room ch, 0)) = 0 := by
    unfold bgT
    rw [if_neg (by simp), if_neg (by simp)]
    show (usedL (cm P room ch).l : Int) - (usedL (cm P room ch).l : Int) = 0
    omega
  rw [e1, e2] at HH
  exact HH
end Go.Proofs.YtaiiojbakmminaaGreatDoor
