/- A log that was played on a synced disk: what Reset and Add leave, and that Open gives it back. A new disk, a loss of power, Up; Open of a new disk. Add and Open of a log that was played on a synced disk. What awake of the law does: a record is there behind a crash. What same of the law tells of like texts. -/
import Derived.Test.YtaiiojbakmminaaGreatDoorWpz
namespace Go.Proofs.YtaiiojbakmminaaGreatDoor
open Go Go.RowKit
def addP (L : LG) (P : PP) (l : List B) : PP := if addC L = true then putP (segN L.g (L.segs + 1)) (some (frs l)) P else putP (segN L.g L.segs) (some (kbyt (getP (segN L.g L.segs) P) ++ frs l)) P
theorem add_cm (L : LG) {P : PP} (h : RisP P) (room : Int) (ch : Nat) (l : List B) : addN L (cm P room ch) l = (addL L l, (cm (addP L P l) room (ch + 1), 0)) := by
  unfold addN addR addP addK
  cases hc : addC L with
  | true =>
    have h1 : (wriN (cm P room ch) (segN L.g (L.segs + 1)) (frs l)).2 = 0 := by rw [wri_cm]
    have h2 := syn_wri h room ch (segN L.g (L.segs + 1)) (frs l)
    simp [h1, h2]
  | false =>
    have h1 : (appN (cm P room ch) (segN L.g L.segs) (frs l)).2 = 0 := by rw [app_cm h]
    have h2 := syn_app h room ch (segN L.g L.segs) (frs l)
    simp [h1, h2]
/-- A log, what its disk holds, the records of its base, and those of its segments. -/
structure Py (L : LG) (P : PP) (lb : List B) (ls : List (List B)) : Prop where
  ld : Ld P L.g (frs (L.snap :: lb)) (ls.map frs)
  recs : L.recs = lb ++ ls.flatten
  segs : L.segs = ls.length
  last : L.last = (frs (ls.getLast?.getD [])).length
  short : ∀ x ∈ ls.flatten, x.length ≤ 2147483647
theorem py_reset (L : LG) (s : B) (l : List B) (hg : L.g < 99) : Py (becL L (L.g + 1) s l) [(baseN (L.g + 1), frs [s] ++ frs l)] l [] :=
  ⟨by
    have e : frs (s :: l) = frs [s] ++ frs l := frs_app [s] l
    show Ld _ (L.g + 1) (frs (s :: l)) []
    rw [e]
    exact ld_base _ _ (by omega) (by omega), by simp [becL], rfl, rfl, fun x hx => by simp at hx⟩
theorem py_add {L : LG} {P : PP} {lb : List B} {ls : List (List B)} (h : Py L P lb ls) (l : List B) (hl : ∀ x ∈ l, x.length ≤ 2147483647) (hn : ls.length < 97) : ∃ ls', Py (addL L l) (addP L P l) lb ls' ∧ ls'.flatten = ls.flatten ++ l := by
  cases hc : addC L with
  | true =>
    refine ⟨ls ++ [l], ⟨?_, ?_, ?_, ?_, ?_⟩, by simp⟩
    · unfold addP
      rw [if_pos hc]
      have := ld_more h.ld (frs l) (by simpa using hn)
      rw [List.length_map, ← h.segs] at this
      rw [List.map_append]
      exact this
    · show L.recs ++ l = _
      rw [h.recs]; simp
    · show addK L = _
      unfold addK
      rw [if_pos hc, h.segs]; simp
    · show addJ L + _ = _
      unfold addJ
      rw [if_pos hc]; simp
    · intro x hx
      simp at hx
      rcases hx with ⟨y, h1, h2⟩ | h2
      · exact h.short x (List.mem_flatten.2 ⟨y, h1, h2⟩)
      · exact hl x h2
  | false =>
    have hne : ls ≠ [] := fun e => by
      unfold addC at hc
      rw [h.segs, e] at hc
      simp at hc
    obtain ⟨ts, u, rfl⟩ : ∃ ts u, ls = ts ++ [u] := ⟨ls.dropLast, ls.getLast hne, (List.dropLast_concat_getLast hne).symm⟩
    have hsg : L.segs = ts.length + 1 := by rw [h.segs]; simp
    have hld := h.ld
    rw [List.map_append, List.map_singleton] at hld
    have hget : getP (segN L.g (ts.length + 1)) P = some (frs u) := hld.seg ts.length (frs u) (by simp)
    refine ⟨ts ++ [u ++ l], ⟨?_, ?_, ?_, ?_, ?_⟩, by simp⟩
    · unfold addP
      rw [if_neg (by simp [hc]), hsg, hget]
      have := ld_app hld (frs l)
      rw [List.length_map] at this
      rw [List.map_append, List.map_singleton, frs_app]
      exact this
    · show L.recs ++ l = _
      rw [h.recs]; simp
    · show addK L = _
      unfold addK
      rw [if_neg (by simp [hc]), hsg]; simp
    · show addJ L + _ = _
      unfold addJ
      rw [if_neg (by simp [hc]), h.last]; simp [frs_app]
    · intro x hx
      simp at hx
      rcases hx with ⟨y, h1, h2⟩ | h2 | h2
      · exact h.short x (by simp; exact .inl ⟨y, h1, h2⟩)
      · exact h.short x (by simp; exact .inr h2)
      · exact hl x h2
theorem unf_all {ls : List (List B)} (h : ∀ x ∈ ls.flatten, x.length ≤ 2147483647) : ∀ k ∈ ls, unfT (frs k) = (k, (frs k).length) := fun k hk => unfT_frs k fun x hx => h x (List.mem_flatten.2 ⟨k, hk, hx⟩)
theorem map_unf {ls : List (List B)} (h : ∀ k ∈ ls, unfT (frs k) = (k, (frs k).length)) : ((ls.map frs).map fun t => (unfT t).1) = ls := by
  rw [List.map_map]
  conv => rhs; rw [← List.map_id ls]
  exact List.map_congr_left fun k hk => by simp [h k hk]
/-- Reading gives back the log. -/
theorem py_seg {L : LG} {P : PP} {lb : List B} {ls : List (List B)} (h : Py L P lb ls) : segL ⟨L.most, L.g, L.snap, lb, 0, 0⟩ (ls.map frs) (ls.map frs).length = L := by
  have h1 := h.recs
  have h2 := h.segs
  have h3 := h.last
  obtain ⟨a1, a2, a3, a4, a5, a6⟩ := L
  simp only at h1 h2 h3 ⊢
  subst h1 h2 h3
  unfold segL
  rw [List.take_length, map_unf (unf_all h.short)]
  rcases List.eq_nil_or_concat ls with rfl | ⟨ts, u, rfl⟩
  · simp [frs]
  · simp
end Go.Proofs.YtaiiojbakmminaaGreatDoor
namespace Go.Proofs.YtaiiojbakmminaaGreatDoor
open Go Go.RowKit
theorem newD (w : World) : Calls Tryz.prog 9 #[] w fun e w' => e = .returned (.pointer (some ⟨w.heap.size, 0, none⟩)) ∧ Below w.heap.size w w' ∧ DD w' w.heap.size none (cm [] 0 0) :=
  (new_any w).mono fun _ _ h => ⟨h.1, h.2.1, ⟨_, h.2.2, ⟨none, 0, rfl⟩⟩⟩
theorem crashD (p : Nat) (b : Option Nat) (m : DN) (z k : Int) (w : World) (hD : DD w p b m) (hm : Okn m) (hpl : m.pl = none) (hd : m.dead = false) :
    Calls Tryz.prog 14 #[.pointer (some ⟨p, 0, none⟩), .int .i64 z, .int .i64 k] w fun e w' => e = .returned (.tuple #[]) ∧ ∃ b', Chg w w' p b b' ∧ DD w' p b' { m with dead := true, l := settleL (failL z k m.l) } := by
  obtain ⟨v, hK, hP⟩ := hD.out
  rw [hpl] at hP
  have h1 := hm.len
  refine (crash_any p b (m.lo v) z k w hK (by show m.l.length ≤ _; omega) hm.by_).mono ?_
  rintro e w' ⟨h2, b', h3, h4⟩
  refine ⟨h2, b', h3, ⟨v, ?_, ?_⟩⟩
  · unfold craD at h4
    rw [if_neg (by rw [show (m.lo v).dead = m.dead from rfl, hd]; simp)] at h4
    exact h4
  · show PLs w' v m.pl
    rw [hpl]
    exact hP
theorem upD (p : Nat) (b : Option Nat) (m : DN) (w : World) (hD : DD w p b m) (hpl : m.pl = none) :
    Calls Tryz.prog 15 #[.pointer (some ⟨p, 0, none⟩)] w fun e w' => e = .returned (.bool m.dead) ∧ Chg w w' p b b ∧ DD w' p b { m with dead := false } := by
  obtain ⟨v, hK, hP⟩ := hD.out
  rw [hpl] at hP
  refine (up_any p b (m.lo v) w hK).mono ?_
  rintro e w' ⟨h2, h3, h4⟩
  refine ⟨h2, h3, ⟨v, h4, ?_⟩⟩
  show PLs w' v m.pl
  rw [hpl]
  exact hP
theorem cm_okn {P : PP} (h : RisP P) (hP : ∀ x ∈ P, okN x.1 = true) (room : Int) (ch : Nat) (hl : P.length ≤ 999000) (hu : usedP P ≤ 100000000000) (hc : ch ≤ 999000) : Okn (cm P room ch) := by
  refine ⟨mk_ok h hP, by show (mk P).length ≤ _; rw [mk_len]; exact hl, by show usedL (mk P) ≤ _; rw [used_mk]; exact hu, hc, (fun e => by cases e), (fun f hf => ?_), (fun f e => by cases e)⟩
  obtain ⟨x, hx, rfl⟩ := List.mem_map.1 (show f ∈ mk P from hf)
  have : x.2.length ≤ usedP P := by
    clear h hP hl hc hu hf
    induction P with
    | nil => cases hx
    | cons y r ih =>
      have e : usedP (y :: r) = y.2.length + usedP r := by simp [usedP]
      rw [e]
      rcases List.mem_cons.1 hx with rfl | h2
      · omega
      · have := ih h2; omega
  show (kbyt (some x.2)).length ≤ _ ∧ (kbyt (some x.2)).length ≤ _
  have e : (kbyt (some x.2)).length = x.2.length := rfl
  rw [e]
  omega
/-- Open of a new disk. -/
theorem open_new (p : Nat) (z : Int) (hz : 1 ≤ z) (w : World) (hD : DD w p none (cm [] 0 0)) (hp : 2 ≤ p) (hG : Gw w) : ∃ ch, ch ≤ 4 ∧
    Calls Tryz.prog 10 #[.pointer (some ⟨p, 0, none⟩), .int .i64 z] w (OpP w p none (⟨z, 1, [], [], 0, 0⟩, (cm [(baseN 1, frs [[]] ++ frs [])] 0 ch, 0)) 0) := by
  obtain ⟨ch, h1, h2⟩ := reset_cm ⟨z, 0, [], [], 0, 0⟩ (P := []) (by simp [RisP]) (fun x hx => by cases hx) 0 0 [] [] (by show 0 < 99; omega) (fun x hx => by cases hx)
  have hm : Okn (cm [] 0 0) := cm_okn (by simp [RisP]) (fun x hx => by cases hx) 0 0 (by simp) (by simp [usedP]) (by omega)
  refine ⟨ch, by simpa using h1, ?_⟩
  refine open_any p 0 none (cm [] 0 0) z _ 0 hz w hD hp (fun k e => by cases e) hG hm rfl ?_ ?_ fun q w' hK' hG' => ?_
  · show Nms preB (namesL (mk []))
    rw [names_mk]
    exact ⟨by simp, fun x hx => by simp at hx, fun x hx => by simp at hx⟩
  · show newP (namesL (mk [])) = _
    rw [names_mk]
    simp [newP, numsP, fmI, srtI]
  · have := begin0_any q p none none ⟨z, 0, [], [], 0, 0⟩ (cm [] 0 0) w' hK' hG' rfl ⟨by show 0 < 99; omega, by simp [cm, mk], by simp [cm], by
      have e1 : (frs [[]]).length ≤ 100 := by rw [frs_one]; simp [frame_len]
      have e2 : frs [] = [] := rfl
      have e3 : usedL (cm [] 0 0).l = 0 := by show usedL (mk []) = 0; rw [used_mk]; simp [usedP]
      rw [e2, e3]; simp; omega, hm⟩
    rw [h2] at this
    exact this
end Go.Proofs.YtaiiojbakmminaaGreatDoor
namespace Go.Proofs.YtaiiojbakmminaaGreatDoor
open Go Go.RowKit
theorem used_addP {L : LG} {P : PP} (h : RisP P) (l : List B) : usedP (addP L P l) ≤ usedP P + (frs l).length := by
  unfold addP
  split
  · have := usedP_put (n := segN L.g (L.segs + 1)) (c := some (frs l)) h
    have e : (kbyt (some (frs l))).length = (frs l).length := rfl
    rw [e] at this
    omega
  · have := usedP_put (n := segN L.g L.segs) (c := some (kbyt (getP (segN L.g L.segs) P) ++ frs l)) h
    have e : (kbyt (some (kbyt (getP (segN L.g L.segs) P) ++ frs l))).length = (kbyt (getP (segN L.g L.segs) P)).length + (frs l).length := List.length_append
    rw [e] at this
    omega
theorem usedP_get {P : PP} (h : RisP P) (n : B) : (kbyt (getP n P)).length ≤ usedP P := by
  have := usedP_wo (n := n) h
  omega
theorem py_last {L : LG} {P : PP} {lb : List B} {ls : List (List B)} (h : Py L P lb ls) : L.last ≤ usedP P := by
  rw [h.last]
  rcases List.eq_nil_or_concat ls with rfl | ⟨ts, u, rfl⟩
  · simp [frs]
  · have h1 := h.ld.seg ts.length (frs u) (by simp)
    have h2 := usedP_get h.ld.ris (segN L.g (ts.length + 1))
    rw [h1] at h2
    simpa [kbyt] using h2
theorem py_okn {L : LG} {P : PP} {lb : List B} {ls : List (List B)} (h : Py L P lb ls) (room : Int) (ch : Nat) (hu : usedP P ≤ 1000000000) (hc : ch ≤ 900000) : Okn (cm P room ch) := by
  have h1 := h.ld.len
  have h2 := h.ld.n
  exact cm_okn h.ld.ris (ld_ok h.ld) room ch (by omega) (by omega) (by omega)
/-- Add of a log that was played. -/
theorem add_py {L : LG} {P : PP} {lb : List B} {ls : List (List B)} (h : Py L P lb ls) (q p : Nat) (b rb : Option Nat) (room : Int) (ch : Nat) (l : List B) (ad : Option Addr) (cap : Nat) (w : World) (hK : WK w q p b rb L (cm P room ch)) (hG : Gw w) (hT : TA w ad l) (hsep : ∀ a, ad = some a → some a.block ≠ rb)
    (hu : usedP P ≤ 1000000000) (hc : ch ≤ 900000) (hf : (frs l).length ≤ 1000000000) (hr : L.recs.length + l.length ≤ 1000000) :
    Calls Tryz.prog 16 #[.pointer (some ⟨q, 0, none⟩), .slice ad l.length cap] w (RsP w q p b rb (addL L l, (cm (addP L P l) room (ch + 1), 0))) := by
  have h1 := h.ld.len
  have h2 := h.ld.n
  have h3 := h.segs
  have h4 := py_last h
  rw [List.length_map] at h1 h2
  have := add_any q p b rb L (cm P room ch) l ad cap w hK hG ⟨h.ld.g2, by omega, by show (mk P).length ≤ _; rw [mk_len]; omega, by show ch ≤ _; omega, by show usedL (mk P) + _ ≤ _; rw [used_mk]; omega, by omega, hr, py_okn h room ch hu hc⟩ hT hsep
  rw [add_cm L h.ld.ris] at this
  exact this
/-- Open of a log that was played. -/
theorem open_py {L : LG} {P : PP} {lb : List B} {ls : List (List B)} (h : Py L P lb ls) (p : Nat) (b : Option Nat) (room : Int) (ch : Nat) (hz : 1 ≤ L.most) (w : World) (hD : DD w p b (cm P room ch)) (hp : 2 ≤ p) (hb2 : ∀ k, b = some k → 2 ≤ k) (hG : Gw w) (hu : usedP P ≤ 4000000) (hc : ch ≤ 900000) (hr : L.recs.length ≤ 400000) :
    Calls Tryz.prog 10 #[.pointer (some ⟨p, 0, none⟩), .int .i64 L.most] w (OpP w p b (L, (cm P room ch, 0)) 0) := by
  have hm := py_okn h room ch (by omega) hc
  have hun := unf_all h.short
  have hrl : lb.length + ls.flatten.length ≤ 400000 := by
    have := h.recs
    rw [this, List.length_append] at hr
    exact hr
  have := open_ld p L.g b (cm P room ch) L.most P L.snap lb (ls.map frs) hz w h.ld rfl hD hp hb2 hG hm rfl hc ?_ ?_ (by omega) ?_
  · rw [py_seg h] at this
    exact this
  · have h1 := usedP_get h.ld.ris (baseN L.g)
    rw [h.ld.base] at h1
    exact Nat.le_trans h1 hu
  · intro t ht
    obtain ⟨k, hk, rfl⟩ := List.mem_map.1 ht
    obtain ⟨i, hi⟩ := List.getElem?_of_mem ht
    have h1 := usedP_get h.ld.ris (segN L.g (i + 1))
    rw [h.ld.seg i _ hi] at h1
    exact ⟨Nat.le_trans h1 hu, by rw [hun k hk]⟩
  · rw [map_unf hun]
    omega
end Go.Proofs.YtaiiojbakmminaaGreatDoor
namespace Go.Proofs.YtaiiojbakmminaaGreatDoor
open Go Go.RowKit
theorem op_ok {w w' : World} {p : Nat} {b : Option Nat} {L : LG} {m : DN} {t : Int} {e : Ending} (h : OpP w p b (L, (m, 0)) t e w') : ∃ q b' rb', e = .returned (.tuple #[.pointer (some ⟨q, 0, none⟩), .int .i64 t, .int .i64 0]) ∧ w.heap.size ≤ q ∧ Wch w w' q p b none b' rb' ∧ WK w' q p b' rb' L m := by
  obtain ⟨q, b', rb', h1, h2, h3, h4⟩ := h
  exact ⟨q, b', rb', by simpa using h1, h2, h3, h4⟩
theorem wch_low {n : Nat} {w w' : World} {q p : Nat} {b rb b' rb' : Option Nat} (h : Wch w w' q p b rb b' rb') (hn : n ≤ w.heap.size) (hq : n ≤ q) (hp : n ≤ p) (hb : ∀ k, b = some k → n ≤ k) (hr : ∀ k, rb = some k → n ≤ k) : Below n w w' ∧ (∀ k, b' = some k → n ≤ k) ∧ (∀ k, rb' = some k → n ≤ k) :=
  ⟨⟨h.os, h.tape, h.output, h.size, fun k hk => h.block k (by omega) (by omega) (by omega) (fun e => by have := hb k e.symm; omega) (fun e => by have := hr k e.symm; omega)⟩, fun k e => by rcases h.newb k e with h1 | h1; exact hb k h1; omega, fun k e => by rcases h.newr k e with h1 | h1; exact hr k h1; omega⟩
theorem ts_one {w : World} {v : Value} {b : Option Nat} {x : B} (h : TS w v b [x]) : ∃ g o cap, v = .slice (some ⟨g, o, none⟩) 1 cap ∧ w.cell? ⟨g, o, none⟩ = some (.string ⟨x.toArray⟩) := by
  obtain ⟨a, cap, rfl, h1, _⟩ := h.sl
  obtain ⟨g, o, rfl, h2⟩ := h1 0 x rfl
  exact ⟨g, o, cap, rfl, h2⟩
theorem awk_open {L : LG} {P : PP} {lb : List B} {ls : List (List B)} (h : Py L P lb ls) (hz : L.most = 10) (p : Nat) (b : Option Nat) (ch : Nat) (w : World) (hD : DD w p b { { cm P 0 ch with dead := true, l := settleL (failL 0 0 (cm P 0 ch).l) } with dead := false }) (hp : 2 ≤ p) (hb2 : ∀ k, b = some k → 2 ≤ k) (hG : Gw w) (hu : usedP P ≤ 4000000) (hc : ch ≤ 900000) (hr : L.recs.length ≤ 400000) :
    Calls Tryz.prog 10 #[.pointer (some ⟨p, 0, none⟩), .int .i64 10] w (OpP w p b (L, (cm P 0 ch, 0)) 0) := by
  have e : ({ { cm P 0 ch with dead := true, l := settleL (failL 0 0 (cm P 0 ch).l) } with dead := false } : DN) = cm P 0 ch := by
    show (⟨settleL (failL 0 0 (mk P)), false, false, 0, ch, none⟩ : DN) = _
    rw [fail_mk]
    rfl
  rw [e] at hD
  have := open_py h p b 0 ch (by omega) w hD hp hb2 hG hu hc hr
  rw [hz] at this
  exact this
set_option maxRecDepth 100000 in
set_option maxHeartbeats 2000000 in
theorem awakeW (w : World) (hG : Gw w) : Calls Tryz.prog 11 #[] w fun e w' => e = .returned (.bool true) ∧ Below w.heap.size w w' := by
  have h2g := hG.two
  have HN := newD w
  go_enter Tryz.func11, Tryz.ntmps11
  go_upto_region 3 with (first
    | (go_at_call 9; refine HN.mono ?_; rintro e w1 ⟨rfl, hw1, hD1⟩; obtain ⟨ch1, hch1, HO1⟩ := open_new w.heap.size 10 (by omega) w1 hD1 h2g (hG.below hw1))
    | (go_at_call 10; refine HO1.mono ?_; intro e w2 hop; obtain ⟨q, b2, rb2, rfl, hq, hW2, hK2⟩ := op_ok hop; clear hop HO1))
  obtain ⟨hlo2, hbl2, hrl2⟩ := wch_low hW2 hw1.size (by have := hw1.size; omega) (Nat.le_refl _) (fun k e => by cases e) (fun k e => by cases e)
  have hB2 := hw1.trans hlo2
  have hG2 := hG.below hB2
  have hPy1 := py_reset ⟨10, 0, [], [], 0, 0⟩ [] [] (by show 0 < 99; omega)
  change Py ⟨10, 1, [], [], 0, 0⟩ [(baseN 1, frs [[]] ++ frs [])] [] [] at hPy1
  have hu1 : usedP [(baseN 1, frs [[]] ++ frs [])] ≤ 100 := by
    have e2 : frs [] = [] := rfl
    rw [e2, frs_one]
    simp [usedP, frame_len]
  have hf1 : (frs [[97]]).length ≤ 100 := by rw [frs_one]; simp [frame_len]
  obtain ⟨ls2, hPy2, hfl2⟩ := py_add hPy1 [[97]] (fun x hx => by rw [List.mem_singleton.1 hx]; decide) (by simp)
  have hu2 := used_addP (L := ⟨10, 1, [], [], 0, 0⟩) hPy1.ld.ris [[97]]
  have hB3 : Below w2.heap.size w2 (w2.alloc (.cells #[.string ⟨#[97]⟩] 9)) := (Below.refl _ _).alloc (Nat.le_refl _) _
  have hTA : TA (w2.alloc (.cells #[.string ⟨#[97]⟩] 9)) (some ⟨w2.heap.size, 0, none⟩) [[97]] := ⟨.inr ⟨w2.heap.size, 0, #[.string ⟨#[97]⟩], (0, 0), rfl, (Blk.new _ _ _).out, fun j x hx => by
    match j, hx with
    | 0, hx => simp at hx; subst hx; rfl
    | j + 1, hx => simp at hx⟩⟩
  have HA := add_py hPy1 q w.heap.size b2 rb2 0 ch1 [[97]] (some ⟨w2.heap.size, 0, none⟩) 1 _ (hK2.below hB3) (hG2.below hB3) hTA (fun a e e2 => by cases e; have := hK2.rlt _ e2.symm; simp at this) (by omega) (by omega) (by omega) (by decide)
  have hrec2 : (addL ⟨10, 1, [], [], 0, 0⟩ [[97]]).recs = [[97]] := rfl
  have hmost2 : (addL ⟨10, 1, [], [], 0, 0⟩ [[97]]).most = 10 := rfl
  generalize hL2 : addL ⟨10, 1, [], [], 0, 0⟩ [[97]] = L2 at *
  generalize hP2 : addP ⟨10, 1, [], [], 0, 0⟩ [(baseN 1, frs [[]] ++ frs [])] [[97]] = P2 at *
  have hB2a := hB2.trans (hB3.mono hB2.size)
  have hok2 := py_okn hPy2 0 (ch1 + 1) (by omega) (by omega)
  go_wp2_with (first
    | (go_at_call 16; refine HA.mono ?_; rintro e w4 ⟨rfl, b4, rb4, hW4, hK4⟩; clear HA; have hK4 : WK w4 q w.heap.size b4 rb4 L2 (cm P2 0 (ch1 + 1)) := hK4; obtain ⟨hlo4, hbl4, hrl4⟩ := wch_low hW4 hB2a.size (Nat.le_trans hw1.size hq) (Nat.le_refl _) hbl2 hrl2; have hB4 := hB2a.trans hlo4; obtain ⟨rv4, _, _, hD4⟩ := hK4.out; have HCr := crashD w.heap.size b4 (cm P2 0 (ch1 + 1)) 0 0 w4 hD4 hok2 rfl rfl)
    | (go_at_call 14; refine HCr.mono ?_; rintro e w5 ⟨rfl, b5, hC5, hD5⟩; clear HCr; obtain ⟨hlo5, hbl5, _⟩ := wch_low (Wch.chg (q := w.heap.size) (rb := none) hC5) hB4.size (Nat.le_refl _) (Nat.le_refl _) hbl4 (fun k e => by cases e); have hB5 := hB4.trans hlo5; have HUp := upD w.heap.size b5 _ w5 hD5 rfl)
    | (go_at_call 15; refine HUp.mono ?_; rintro e w6 ⟨rfl, hC6, hD6⟩; clear HUp; obtain ⟨hlo6, _, _⟩ := wch_low (Wch.chg (q := w.heap.size) (rb := none) hC6) hB5.size (Nat.le_refl _) (Nat.le_refl _) hbl5 (fun k e => by cases e); have hB6 := hB5.trans hlo6; have HO2 := awk_open hPy2 hmost2 w.heap.size b5 (ch1 + 1) w6 hD6 h2g (fun k e => Nat.le_trans h2g (hbl5 k e)) (hG.below hB6) (by omega) (by omega) (by rw [hrec2]; decide))
    | (go_at_call 10; refine HO2.mono ?_; intro e w7 hop; obtain ⟨q7, b7, rb7, rfl, hq7, hW7, hK7⟩ := op_ok hop; clear hop HO2; obtain ⟨hlo7, _, _⟩ := wch_low hW7 hB6.size (Nat.le_trans hB6.size hq7) (Nat.le_refl _) hbl5 (fun k e => by cases e); have hB7 := hB6.trans hlo7; have HLn := lenL_log q7 w.heap.size b7 rb7 L2 _ w7 hK7; have HAl := allL_log q7 w.heap.size b7 rb7 L2 _ w7 hK7 (by rw [hrec2]; decide); rw [hrec2] at HLn HAl)
    | (go_at_call 18; refine HLn.mono ?_; rintro e wx ⟨rfl, hwx⟩; have hwx2 := hwx.symm; subst hwx2; clear hwx HLn)
    | (go_at_call 20; refine HAl.mono ?_; rintro e w8 ⟨v8, rb8, rfl, hw8, hT8, _⟩; clear HAl; obtain ⟨g8, o8, c8, rfl, hc8⟩ := ts_one hT8; have hB8 := hB7.trans (hw8.mono hB7.size)))
  go_ret
  exact ⟨rfl, hB8⟩
end Go.Proofs.YtaiiojbakmminaaGreatDoor
namespace Go.Proofs.YtaiiojbakmminaaGreatDoor
open Go Go.RowKit
set_option maxRecDepth 100000 in
set_option maxHeartbeats 1000000 in
theorem same_true (l : List B) (a1 a2 : Option Addr) (c1 c2 : Nat) (w : World) (h1 : TA w a1 l) (h2 : TA w a2 l) (hl : l.length ≤ 1000000) :
    Calls Tryz.prog 19 #[.slice a1 l.length c1, .slice a2 l.length c2] w fun e w' => e = .returned (.bool true) ∧ Below w.heap.size w w' := by
  go_enter Tryz.func19, Tryz.ntmps19
  go_wp2_with fail
  go_loopw [5] (fun v5 wl => ∃ i : Nat, i ≤ l.length ∧ v5 = .int .i64 i ∧ Below w.heap.size w wl) (fun v5 _ => l.length - (intOf v5).toNat)
  case atStart => exact ⟨0, by omega, rfl, Below.refl _ _⟩
  case round =>
    obtain ⟨i, hil, rfl, hB⟩ := hrel
    by_cases hlt : i < l.length
    · have hz2 : (i : Int) < (l.length : Int) := by omega
      obtain ⟨x, hx⟩ : ∃ x, l[i]? = some x := ⟨_, List.getElem?_eq_getElem hlt⟩
      obtain ⟨g1, o1, rfl, hg1, k1⟩ := h1.at i x hx
      obtain ⟨g2, o2, rfl, hg2, k2⟩ := h2.at i x hx
      have hc1 : wr.drew.cell? ⟨g1, o1 + i, none⟩ = some (.string ⟨x.toArray⟩) := (hB.cell (p := ⟨g1, o1 + i, none⟩) hg1).trans k1
      have hc2 : wr.drew.cell? ⟨g2, o2 + i, none⟩ = some (.string ⟨x.toArray⟩) := (hB.cell (p := ⟨g2, o2 + i, none⟩) hg2).trans k2
      have hBd := hB.drew
      have hw1 : IntKind.i64.wrap ((i : Int) + 1) = (i : Int) + 1 := by rw [IntKind.wrap_i64]; omega
      clear hx k1 k2
      go_wp2_with fail
      refine wp_region_held_drew (S := fun w' : World => w'.cell? ⟨g1, o1 + i, none⟩ = some (.string ⟨x.toArray⟩) ∧ w'.cell? ⟨g2, o2 + i, none⟩ = some (.string ⟨x.toArray⟩)) (by kernel_rfl) (⟨hc1, hc2⟩) (fun hH => ?_)
      try go_frame
      refine wpAnyH_take (i := 0) (oi := ⟨some 17, _, _, _, _, _⟩) (v := .slice (some ⟨g1, o1, none⟩) l.length c1) rfl (by kernel_rfl) (by kernel_rfl) (by kernel_rfl) (fun _ _ _ h => h) (Or.inl ⟨by rfl, fun w hSw => by go_simp⟩) hH ?_
      try simp only [Act.put, List.setIfInBounds_toArray, List.set_cons_zero, List.set_cons_succ]
      refine wpAnyH_take (i := 1) (oi := ⟨some 18, _, _, _, _, _⟩) (v := .int .i64 (i : Nat)) rfl (by kernel_rfl) (by kernel_rfl) (by kernel_rfl) (fun _ _ _ h => h) (Or.inl ⟨by rfl, fun w hSw => by go_simp⟩) hH ?_
      try simp only [Act.put, List.setIfInBounds_toArray, List.set_cons_zero, List.set_cons_succ]
      refine wpAnyH_take (i := 2) (oi := ⟨some 19, _, _, _, _, _⟩) (v := .pointer (some ⟨g1, o1 + i, none⟩)) rfl (by kernel_rfl) (by kernel_rfl) (by kernel_rfl) (fun _ _ _ h => h) (Or.inl ⟨by rfl, fun w hSw => by go_simp⟩) hH ?_
      try simp only [Act.put, List.setIfInBounds_toArray, List.set_cons_zero, List.set_cons_succ]
      refine wpAnyH_take (i := 3) (oi := ⟨some 20, _, _, _, _, _⟩) (v := .string ⟨x.toArray⟩) rfl (by kernel_rfl) (by kernel_rfl) (by kernel_rfl) (fun _ _ _ h => h) (Or.inl ⟨by rfl, fun w hSw => run_loadC _ _ rfl _ _ rfl _ Tryz.underlying9 rfl _ hSw.1⟩) hH ?_
      try simp only [Act.put, List.setIfInBounds_toArray, List.set_cons_zero, List.set_cons_succ]
      refine wpAnyH_take (i := 4) (oi := ⟨some 21, _, _, _, _, _⟩) (v := .slice (some ⟨g2, o2, none⟩) l.length c2) rfl (by kernel_rfl) (by kernel_rfl) (by kernel_rfl) (fun _ _ _ h => h) (Or.inl ⟨by rfl, fun w hSw => by go_simp⟩) hH ?_
      try simp only [Act.put, List.setIfInBounds_toArray, List.set_cons_zero, List.set_cons_succ]
      refine wpAnyH_take (i := 5) (oi := ⟨some 22, _, _, _, _, _⟩) (v := .int .i64 (i : Nat)) rfl (by kernel_rfl) (by kernel_rfl) (by kernel_rfl) (fun _ _ _ h => h) (Or.inl ⟨by rfl, fun w hSw => by go_simp⟩) hH ?_
      try simp only [Act.put, List.setIfInBounds_toArray, List.set_cons_zero, List.set_cons_succ]
      refine wpAnyH_take (i := 6) (oi := ⟨some 23, _, _, _, _, _⟩) (v := .pointer (some ⟨g2, o2 + i, none⟩)) rfl (by kernel_rfl) (by kernel_rfl) (by kernel_rfl) (fun _ _ _ h => h) (Or.inl ⟨by rfl, fun w hSw => by go_simp⟩) hH ?_
      try simp only [Act.put, List.setIfInBounds_toArray, List.set_cons_zero, List.set_cons_succ]
      refine wpAnyH_take (i := 7) (oi := ⟨some 24, _, _, _, _, _⟩) (v := .string ⟨x.toArray⟩) rfl (by kernel_rfl) (by kernel_rfl) (by kernel_rfl) (fun _ _ _ h => h) (Or.inl ⟨by rfl, fun w hSw => run_loadC _ _ rfl _ _ rfl _ Tryz.underlying9 rfl _ hSw.2⟩) hH ?_
      try simp only [Act.put, List.setIfInBounds_toArray, List.set_cons_zero, List.set_cons_succ]
      refine wpAnyH_take (i := 8) (oi := ⟨some 25, _, _, _, _, _⟩) (v := .bool false) rfl (by kernel_rfl) (by kernel_rfl) (by kernel_rfl) (fun _ _ _ h => h) (Or.inl ⟨by rfl, fun w hSw => by go_simp⟩) hH ?_
      try simp only [Act.put, List.setIfInBounds_toArray, List.set_cons_zero, List.set_cons_succ]
      refine wpAnyH_done (by kernel_rfl) ?_ _
      try simp only [Act.put]
      try go_simp
      go_wp2_with fail
      go_roundw
      case rel => exact ⟨i + 1, by omega, by go_num, hBd⟩
      case measure => simp [intOf]; omega
    · have hz2 : ¬ (i : Int) < (l.length : Int) := by omega
      go_wp2_with fail
      go_ret
      exact ⟨rfl, hB⟩
end Go.Proofs.YtaiiojbakmminaaGreatDoor
