/- Slices of entries that are made one's own. Who takes part by the last entry that says so. latest, Members, upTo, latestUpTo of a replica. -/
import Derived.Test.YtnhlejdilldfaaaGreatRce
import Derived.Deep.RegionWith
namespace Go.Proofs.YtnhlejdilldfaaaGreat
open Go Go.RowKit Go.Maps
/-- What cloneEntries leaves. -/
def CeP (w : World) (l : List LE) (e : Ending) (w' : World) : Prop := ∃ v, e = .returned v ∧ Below w.heap.size w w' ∧ (∀ r, slBlk v = some r → w.heap.size ≤ r) ∧ LG (fun k => NewB w w' k ∧ slBlk v ≠ some k) w' v l
/-- An entry's cells from a place on, its members where P says. -/
def At4 (P : Nat → Prop) (w : World) (cur : Array Value) (j : Nat) (x : LE) : Prop := ∃ ma mc, (∀ q u, (lec x (.slice ma x.mem.length mc)).toList[q]? = some u → cur[j * 4 + q]? = some u) ∧ IF P w ma x.mem ∧ x.mem.length ≤ 17592186044416
theorem At4.kept {P P' : Nat → Prop} {w w' : World} {cur : Array Value} {j : Nat} {x : LE} (h : At4 P w cur j x) (hk : ∀ k, P k → w'.heap[k]? = w.heap[k]?) (hP : ∀ k, P k → P' k) : At4 P' w' cur j x := by
  obtain ⟨ma, mc, h1, h2, h3⟩ := h
  exact ⟨ma, mc, h1, h2.kept hk hP, h3⟩
/-- Other cells are put. -/
theorem At4.spl {P : Nat → Prop} {w : World} {cur : Array Value} {i j : Nat} {x : LE} (h : At4 P w cur j x) (hne : i ≠ j) (vs : List Value) (hv : vs.length = 4) (hs : i * 4 + 4 ≤ cur.size) : At4 P w (spl cur (i * 4) vs) j x := by
  obtain ⟨ma, mc, h1, h2⟩ := h
  refine ⟨ma, mc, fun q u hq => ?_, h2⟩
  have hql := (List.getElem?_eq_some_iff.1 hq).1
  simp only [lec, List.length_cons, List.length_nil] at hql
  rw [spl_get _ _ _ _ (by omega), if_neg (by omega)]
  exact h1 q u hq
theorem lg_of {F : Nat → Prop} {w : World} {g cap : Nat} {l : List LE} {cur : Array Value} (hB : Blk w g cur 29) (hc : l.length ≤ cap) (hs : cap * 4 ≤ cur.size) (h : ∀ j (hj : j < l.length), At4 F w cur j l[j]) : LG F w (.slice (some ⟨g, 0, none⟩) l.length cap) l := by
  have hc2 : ∀ i : Fin l.length, ∃ p : Option Addr × Nat, (∀ q u, (lec l[i] (.slice p.1 l[i].mem.length p.2)).toList[q]? = some u → cur[i.1 * 4 + q]? = some u) ∧ IF F w p.1 l[i].mem ∧ l[i].mem.length ≤ 17592186044416 := fun i => by
    obtain ⟨ma, mc, h1, h2, h3⟩ := h i i.2
    exact ⟨(ma, mc), h1, h2, h3⟩
  obtain ⟨f, hf⟩ := Classical.axiomOfChoice hc2
  have hlen : ∀ x ∈ (List.ofFn fun i : Fin l.length => (lec l[i] (.slice (f i).1 l[i].mem.length (f i).2)).toList), x.length = 4 := fun x hx => by
    obtain ⟨i, rfl⟩ := List.mem_ofFn.1 hx
    rfl
  refine ⟨List.ofFn fun i : Fin l.length => (lec l[i] (.slice (f i).1 l[i].mem.length (f i).2)).toList, ⟨hlen, .inr ⟨g, cap, Nat.zero_le _, by simp, cur, hB.out, by simpa using hc, hs, fun j v hv => ?_⟩⟩, by simp, fun i hi => ?_⟩
  · have hjl := (List.getElem?_eq_some_iff.1 hv).1
    rw [flat_len hlen, List.length_ofFn] at hjl
    have hd := Nat.div_add_mod j 4
    have hm := Nat.mod_lt j (show 4 > 0 by decide)
    have hq : j / 4 < l.length := by omega
    have := (hf ⟨j / 4, hq⟩).1 (j % 4) v
    rw [show j / 4 * 4 + j % 4 = j by omega] at this
    refine this ?_
    have h5 := flat_get hlen (j / 4) (by simpa using hq) (j % 4) ((lec l[j / 4] (.slice (f ⟨j / 4, hq⟩).1 l[j / 4].mem.length (f ⟨j / 4, hq⟩).2)).toList[j % 4]'(by simp [lec]; omega)) (by rw [List.getElem_ofFn]; exact List.getElem?_eq_getElem _)
    rw [show j / 4 * 4 + j % 4 = j by omega, hv] at h5
    rw [List.getElem?_eq_getElem (by simp [lec]; omega)]
    exact h5.symm
  · refine ⟨(f ⟨i, hi⟩).1, (f ⟨i, hi⟩).2, ?_, (hf ⟨i, hi⟩).2⟩
    rw [List.getElem?_ofFn, dif_pos hi]
    rfl
theorem lg_nil {F : Nat → Prop} {w : World} {v : Value} {ls : List (List Value)} (h : GL w 29 4 0 v ls) (h0 : ls.length = 0) : LG F w v [] := ⟨ls, h, h0, fun i hi => by simp at hi⟩
theorem scloneE_blk (b : Addr) (l : List LE) (cap : Nat) (w : World) (h : EA w (some b) l) (h0 : 0 < l.length) (hl : l.length ≤ 137438953472) :
    Calls Tryz.prog 102 #[.slice (some b) l.length cap] w fun e w' => ∃ g cp cur, e = .returned (.slice (some ⟨g, 0, none⟩) l.length cp) ∧ Below w.heap.size w w' ∧ w.heap.size ≤ g ∧ Blk w' g cur 29 ∧ l.length ≤ cp ∧ cp * 4 ≤ cur.size ∧ ∀ j (hj : j < l.length), At4 (fun k => k < w.heap.size) w' cur j l[j] := by
  refine (scloneE b l cap w h hl).mono ?_
  rintro e w1 ⟨v, ls, rfl, hw1, hG, hll, hls⟩
  rcases hG.2 with ⟨rfl, _⟩ | ⟨g, cp, hg, rfl, hS⟩
  · rw [List.length_nil] at hll; omega
  rw [hll]
  obtain ⟨cur0, k1, k2, k3, k4⟩ := hS.out
  rw [hll] at k2
  refine ⟨g, cp, cur0, rfl, hw1, hg, ⟨k1⟩, k2, k3, fun j hj => ?_⟩
  obtain ⟨ma, mc, m1, m2, m3⟩ := hls j hj
  have hjl : j < ls.length := by omega
  have he : ls[j] = (lec l[j] (.slice ma l[j].mem.length mc)).toList := by
    rw [List.getElem?_eq_getElem hjl] at m1
    exact Option.some.inj m1
  exact ⟨ma, mc, fun q u hq => k4 _ _ (flat_get hG.1 j hjl q u (by rw [he]; exact hq)), (IF.of (F := fun k => k < w.heap.size) m2 (fun _ _ _ hk => hk)).kept (fun k hk => hw1.block k hk) (fun _ h => h), m3⟩
/-- How far cloneEntries has come. -/
def CeI (w : World) (g cp : Nat) (l : List LE) (i : Nat) (wl : World) : Prop := Below w.heap.size w wl ∧ w.heap.size ≤ g ∧ ∃ cur, Blk wl g cur 29 ∧ l.length ≤ cp ∧ cp * 4 ≤ cur.size ∧ (∀ j (hj : j < l.length), j < i → At4 (fun k => w.heap.size ≤ k ∧ k < wl.heap.size ∧ k ≠ g) wl cur j l[j]) ∧ ∀ j (hj : j < l.length), i ≤ j → At4 (fun k => k < w.heap.size) wl cur j l[j]
theorem CeI.step {w wl w3 w4 : World} {g cp i : Nat} {l : List LE} {x : LE} {a : Option Addr} {c : Nat} {P : Nat → Prop} {cur : Array Value} (hi : i < l.length) (hx : l[i] = x) (hw1 : Below w.heap.size w wl) (hg : w.heap.size ≤ g) (hB : Blk wl g cur 29) (hcp : l.length ≤ cp) (hcs : cp * 4 ≤ cur.size) (hd : ∀ j (hj : j < l.length), j < i → At4 (fun k => w.heap.size ≤ k ∧ k < wl.heap.size ∧ k ≠ g) wl cur j l[j]) (hn : ∀ j (hj : j < l.length), i ≤ j → At4 (fun k => k < w.heap.size) wl cur j l[j])
    (hw : Below wl.heap.size wl w3) (hI : IF P w3 a x.mem) (hP : ∀ k, P k → wl.heap.size ≤ k ∧ k < w3.heap.size) (hml : x.mem.length ≤ 17592186044416) (hg4 : w3.grownBy w4 (some g)) (hs4 : w4.heap.size = w3.heap.size) (hB4 : Blk w4 g (spl cur (i * 4) (lec x (.slice a x.mem.length c)).toList) 29) : CeI w g cp l (i + 1) w4 := by
  have hgl := hB.lt
  have hk4 : ∀ k, k < wl.heap.size → k ≠ g → w4.heap[k]? = wl.heap[k]? := fun k hk hne => (hg4.block k (Nat.lt_of_lt_of_le hk hw.size) (fun e => hne (Option.some.inj e))).trans (hw.block k hk)
  have hsz : i * 4 + 4 ≤ cur.size := by omega
  refine ⟨bl_gr (hw1.trans (hw.mono hw1.size)) hg4 hg, hg, _, hB4, hcp, by rw [spl_size]; exact hcs, fun j hj hji => ?_, fun j hj hji => ?_⟩
  · by_cases he : j = i
    · subst he
      rw [hx]
      refine ⟨a, c, fun q u hq => ?_, hI.kept (fun k hk => hg4.block k (hP k hk).2 (fun e => by have h1 := Option.some.inj e; have := (hP k hk).1; omega)) (fun k hk => ⟨by have := (hP k hk).1; have := hw1.size; omega, by have := (hP k hk).2; omega, fun e => by have := (hP k hk).1; omega⟩), hml⟩
      have hql := (List.getElem?_eq_some_iff.1 hq).1
      have hl4 : (lec x (.slice a x.mem.length c)).toList.length = 4 := rfl
      rw [spl_get _ _ _ _ (by omega), if_pos (by omega), show j * 4 + q - j * 4 = q by omega]
      exact hq
    · exact ((hd j hj (by omega)).kept (P' := fun k => w.heap.size ≤ k ∧ k < w4.heap.size ∧ k ≠ g) (fun k hk => hk4 k hk.2.1 hk.2.2) (fun k hk => ⟨hk.1, Nat.lt_of_lt_of_le hk.2.1 (Nat.le_trans hw.size (Nat.le_of_eq hs4.symm)), hk.2.2⟩)).spl (fun e => he e.symm) _ rfl hsz
  · exact ((hn j hj (by omega)).kept (P' := fun k => k < w.heap.size) (fun k hk => hk4 k (Nat.lt_of_lt_of_le hk hw1.size) (fun e => by omega)) (fun k hk => hk)).spl (by omega) _ rfl hsz
set_option maxRecDepth 100000 in
set_option maxHeartbeats 1000000 in
theorem cloneEntries_some (b : Addr) (l : List LE) (cap : Nat) (w : World) (h : EA w (some b) l) (h0 : 0 < l.length) (hl : l.length ≤ 137438953472) :
    Calls Tryz.prog 85 #[.slice (some b) l.length cap] w (CeP w l) := by
  have HC := scloneE_blk b l cap w h h0 hl
  go_enter Tryz.func85, Tryz.ntmps85
  go_wp2_with (go_at_call 102; refine HC.mono ?_; rintro e w1 ⟨g, cp, cur0, rfl, hw1, hg, hB0, hcp, hcs, hat⟩; clear HC)
  have hI0 : CeI w g cp l 0 w1 := ⟨hw1, hg, cur0, hB0, hcp, hcs, fun j hj h => absurd h (Nat.not_lt_zero _), fun j hj _ => hat j hj⟩
  clear hw1 hg hB0 hcp hcs hat h
  go_loopw [10] (fun v10 wl => ∃ i : Nat, i ≤ l.length ∧ v10 = .int .i64 i ∧ CeI w g cp l i wl) (fun v10 _ => l.length - (intOf v10).toNat)
  case atStart => exact ⟨0, by omega, rfl, hI0⟩
  case round =>
    obtain ⟨i, hil, rfl, hI⟩ := hrel
    by_cases hlt : i < l.length
    · obtain ⟨hw1, hg, cur, hB, hcp, hcs, hd, hn⟩ := hI
      obtain ⟨ma, mc, m1, m2, m3⟩ := hn i hlt (Nat.le_refl _)
      have e0 := (hB.cell (i * 4)).trans (m1 0 _ rfl)
      have e1 := (hB.cell _).trans (m1 1 _ rfl)
      have e2 := (hB.cell _).trans (m1 2 _ rfl)
      have e3 := (hB.cell _).trans (m1 3 _ rfl)
      have hz1 : (0 : Int) ≤ (i : Int) := by omega
      have hz2 : (i : Int) < (l.length : Int) := by omega
      have hd1 : decide ((i : Int) < (l.length : Int)) = true := decide_eq_true hz2
      have HE := fun (w0 : World) w2 (hA : IA w0 ma l[i].mem) (hb : Below w0.heap.size w0 w2) => cloneEntry_any l[i] ma mc w2 (hA.below hb) m3
      have hle : ∀ v : Value, i * 4 + (#[Value.int .i64 l[i].term, .string ⟨l[i].s.toArray⟩, .bool l[i].conf, v] : Array Value).size ≤ cur.size := fun v => by show i * 4 + 4 ≤ _; omega
      have HS := fun x (hx : l[i] = x) => @CeI.step w _ (i := i) (l := l) (x := x) (cp := cp) (cur := cur) (hi := hlt) (hx := hx) (hw1 := hw1) (hg := hg) (hB := hB) (hcp := hcp) (hcs := hcs) (hd := hd) (hn := hn)
      replace HS := HS _ rfl
      generalize l[i] = x at *
      clear hn m1 hd
      go_wp2_with (first
        | (go_at_call 64; refine (HE _ _ m2.ia (bl_al (Below.refl _ _) _)).mono ?_; rintro e w3 ⟨y, c, rfl, hIy, hw3⟩; have hB3 := (hB.alloc _).belowSize hw3; clear HE)
        | (with_reducible refine at_list ?_; refine wpList_storePart (op := ⟨none, .store 29 (.tmp 19) (.tmp 18), _, _, _, _⟩) rfl _ _ _ rfl g (i * 4) #[.int .i64 x.term, .string ⟨x.s.toArray⟩, .bool x.conf, .slice y x.mem.length c] rfl rfl _ _ hB3 (hle _) (lecI x _) (lecO ..) ?_; intro w4 hg4 hs4 hB4))
      have hfin := HS _ _ _ _ _ (bl_ca (bl_al (Below.refl _ _) _) hw3) hIy (fun k hk => ⟨by have := hk.1; simp at this; omega, hk.2⟩) m3 hg4 hs4 hB4
      clear HS
      go_roundw
      case rel => exact ⟨i + 1, by omega, by go_num, hfin⟩
      case measure => simp [intOf]; omega
    · obtain rfl : i = l.length := by omega
      have hz2 : ¬ ((l.length : Int) < (l.length : Int)) := by omega
      obtain ⟨hw1, hg, cur, hB, hcp, hcs, hd, hn⟩ := hI
      have hlg := lg_of hB hcp hcs (fun j hj => (hd j hj hj).kept (P' := fun k => NewB w _ k ∧ slBlk (.slice (some ⟨g, 0, none⟩) l.length cp) ≠ some k) (fun _ _ => rfl) (fun k hk => ⟨⟨hk.1, hk.2.1⟩, fun e => hk.2.2 (Option.some.inj e).symm⟩))
      clear hd hn
      go_wp2_with fail
      go_ret
      exact ⟨_, rfl, hw1, fun r e => by cases e; exact hg, hlg⟩
set_option maxRecDepth 100000 in
theorem cloneEntries_none (cap : Nat) (w : World) : Calls Tryz.prog 85 #[.slice none 0 cap] w (CeP w []) := by
  have HC := scloneE_nil cap w
  go_enter Tryz.func85, Tryz.ntmps85
  go_wp2_with (go_at_call 102; refine HC.mono ?_; rintro e w1 ⟨rfl, hw1⟩; replace hw1 := hw1.symm; subst hw1; clear HC)
  go_loopw [10] (fun v10 wl => v10 = .int .i64 0 ∧ wl = w) (fun _ _ => 0)
  case atStart => exact ⟨rfl, rfl⟩
  case round =>
    obtain ⟨rfl, hw⟩ := hrel
    replace hw := hw.symm
    subst hw
    go_wp2_with fail
    go_ret
    exact ⟨_, rfl, Below.refl _ _, fun r e => (by cases e), lg_nil (GL.nil _ _ _ _) rfl⟩
set_option maxRecDepth 100000 in
theorem cloneEntries_zero (b : Addr) (cap : Nat) (w : World) : Calls Tryz.prog 85 #[.slice (some b) 0 cap] w (CeP w []) := by
  have HC : Calls Tryz.prog 102 #[.slice (some b) 0 cap] w fun e w' => ∃ a c, e = .returned (.slice a 0 c) ∧ Below w.heap.size w w' ∧ GL w' 29 4 w.heap.size (.slice a 0 c) [] := by
    refine (scloneE b [] cap w (fun i hi => by simp at hi) (by decide)).mono ?_
    rintro e w1 ⟨v, ls, rfl, hw1, hG, hll, hls⟩
    obtain rfl : ls = [] := List.length_eq_zero_iff.1 hll
    obtain ⟨a, c, rfl, _⟩ := hG.sl
    exact ⟨a, c, rfl, hw1, hG⟩
  go_enter Tryz.func85, Tryz.ntmps85
  go_wp2_with (go_at_call 102; refine HC.mono ?_; rintro e w1 ⟨a, c, rfl, hw1, hG⟩; clear HC)
  go_loopw [10] (fun v10 wl => v10 = .int .i64 0 ∧ wl = w1) (fun _ _ => 0)
  case atStart => exact ⟨rfl, rfl⟩
  case round =>
    obtain ⟨rfl, hw⟩ := hrel
    replace hw := hw.symm
    subst hw
    have hlt := fun r e => (hG.lt r e).1
    have hlg := lg_nil (F := fun k => NewB w w1 k ∧ slBlk (.slice a 0 c) ≠ some k) ⟨hG.1, hG.2.imp id (fun ⟨g, cap, _, h⟩ => ⟨g, cap, Nat.zero_le _, h⟩)⟩ rfl
    clear hG
    go_wp2_with fail
    go_ret
    exact ⟨_, rfl, hw1, hlt, hlg⟩
theorem cloneEntries_any (a : Option Addr) (l : List LE) (cap : Nat) (w : World) (h : EA w a l) (hl : l.length ≤ 137438953472) :
    Calls Tryz.prog 85 #[.slice a l.length cap] w (CeP w l) := by
  by_cases h0 : 0 < l.length
  · obtain ⟨g, o, rfl⟩ := h.ex h0
    exact cloneEntries_some _ l cap w h h0 hl
  · obtain rfl : l = [] := List.length_eq_zero_iff.1 (by omega)
    cases a with
    | none => exact cloneEntries_none cap w
    | some b => exact cloneEntries_zero b cap w
end Go.Proofs.YtnhlejdilldfaaaGreat
namespace Go.Proofs.YtnhlejdilldfaaaGreat
open Go Go.RowKit Go.Maps
set_option maxRecDepth 100000 in
set_option maxHeartbeats 800000 in
theorem latestF (base : List Int) (l : List LE) (a b : Option Addr) (ca cb : Nat) (w : World) (hA : IA w a base) (hb : base.length ≤ 17592186044416) (hE : EA w b l) (hl : l.length ≤ 17592186044416) : Calls Tryz.prog 100 #[.slice a base.length ca, .slice b l.length cb] w fun e w' => ∃ (x : Option Addr) (c : Nat), e = .returned (.tuple #[.slice x (ltM base l l.length).1.length c, .int .i64 ((ltM base l l.length).2 : Int)]) ∧ IF (NewB w w') w' x (ltM base l l.length).1 ∧ Below w.heap.size w w' := by
  have HC := fun (m : List Int) x c w (h : IA w x m) (hm : m.length ≤ 17592186044416) => sclF x m c w h hm
  obtain ⟨R, hR0⟩ : ∃ R, ltM base l l.length = R := ⟨_, rfl⟩
  rw [hR0]
  have hR : Hid (ltM base l l.length = R) := hR0
  clear hR0
  have hBel := Below.refl w.heap.size w
  go_enter Tryz.func100, Tryz.ntmps100
  go_wp2_with fail
  go_loopw [6] (fun v6 wl => ∃ i : Nat, i ≤ l.length ∧ v6 = .int .i64 i ∧ Hid (ltM base l i = R) ∧ wl = w) (fun v6 _ => (intOf v6).toNat)
  case atStart => exact ⟨l.length, by omega, rfl, hR, rfl⟩
  case round =>
    obtain ⟨i, hil, rfl, hI, hw⟩ := hrel
    have hw2 := hw.symm
    subst hw2
    clear hw
    by_cases h0 : 0 < i
    · obtain ⟨j, rfl⟩ : ∃ j, i = j + 1 := ⟨i - 1, by omega⟩
      have hj : j < l.length := by omega
      obtain ⟨g, o, rfl⟩ := hE.ex (by omega)
      obtain ⟨ma, cm, c2, c3, hIm, hml⟩ := hE.at j hj
      have hz0 : (0 : Int) < ((j + 1 : Nat) : Int) := by omega
      have hz1 : (0 : Int) ≤ (j : Int) := by omega
      have hz2 : (j : Int) < (l.length : Int) := by omega
      have hw1 : IntKind.i64.wrap (((j + 1 : Nat) : Int) - 1) = (j : Int) := by rw [IntKind.wrap_i64]; omega
      have hw2 : IntKind.i64.wrap (j : Int) = (j : Int) := by rw [IntKind.wrap_i64]; omega
      have hd : decide ((0 : Int) < (j : Int) + 1) = true := decide_eq_true (by omega)
      cases hc : l[j].conf with
      | true =>
        have hy := ltM_yes (base := base) hj hc
        rw [hI.out] at hy
        rw [hc] at c2
        generalize l[j].mem = mm at *
        subst hy
        have H1 := HC _ ma cm _ hIm hml
        clear hc hI hR HC hE
        go_wp2_with (go_at_call 61; refine H1.mono ?_; rintro e w1 ⟨x, c, rfl, h1, h2⟩; clear H1)
        go_ret2
        exact ⟨x, ⟨c, rfl⟩, h1, h2⟩
      | false =>
        have hy := ltM_no (base := base) hj hc
        have hI2 : Hid (ltM base l j = R) := by show _ = _; rw [← hy]; exact hI.out
        rw [hc] at c2
        clear hc hI hy hR
        go_wp2_with fail
        go_roundw
        case rel => exact ⟨j, by omega, by go_num, hI2, by trivial⟩
        case measure => simp [intOf]
    · obtain rfl : i = 0 := by omega
      have hy : R = (base, 0) := by rw [← hI.out]; rfl
      subst hy
      have H1 := HC _ a ca _ hA (Nat.le_trans hb (by decide))
      clear hI hR HC hE
      go_wp2_with (go_at_call 61; refine H1.mono ?_; rintro e w1 ⟨x, c, rfl, h1, h2⟩; clear H1)
      go_ret2
      exact ⟨x, ⟨c, rfl⟩, h1, h2⟩
end Go.Proofs.YtnhlejdilldfaaaGreat
namespace Go.Proofs.YtnhlejdilldfaaaGreat
open Go Go.RowKit Go.Maps
theorem ltM_le (base : List Int) (l : List LE) : ∀ i, (ltM base l i).2 ≤ i
  | 0 => Nat.le_refl _
  | i + 1 => by
    show (if h : i < l.length then bif l[i].conf then (l[i].mem, i + 1) else ltM base l i else ltM base l i).2 ≤ _
    by_cases h : i < l.length
    · rw [dif_pos h]
      cases l[i].conf
      · exact Nat.le_succ_of_le (ltM_le base l i)
      · exact Nat.le_refl _
    · rw [dif_neg h]
      exact Nat.le_succ_of_le (ltM_le base l i)
section
variable (F : Nat → Prop) (nb : Nat) (M : NM) (lb : Option Nat) (w : World) (N : RN)
set_option maxRecDepth 100000 in
theorem latestN (h : ND F nb M lb w N) (hb : Bnd N) : Calls Tryz.prog 73 #[.pointer (some ⟨nb, 0, none⟩)] w fun e w' => ∃ x c, e = .returned (.tuple #[.slice x N.mems.length c, .int .i64 N.confAt]) ∧ IF (NewB w w') w' x N.mems ∧ Below w.heap.size w w' := by
  have hd := h.drew
  have c3 := h.c3
  have d3 := hd.c3
  obtain ⟨lv, c7, hL, _⟩ := hd.c7
  obtain ⟨a, cap, rfl, hlc, hE, _⟩ := hL.sl
  obtain ⟨ba, ca, c6, hI⟩ := hd.c6
  have HL := latestF N.k.bconf N.k.log ba a ca cap w.drew hI.ia hb.bconf hE (Nat.le_trans hb.log (by decide))
  have hw : ∀ n : Nat, n ≤ N.k.log.length → IntKind.i64.wrap (N.k.bi + (n : Nat)) = N.k.bi + (n : Nat) := fun n hn => by
    have h1 := hb.bi
    have h2 := hb.last
    rw [IntKind.wrap_i64]
    omega
  replace hw := hw _ (ltM_le N.k.bconf N.k.log N.k.log.length)
  have hc : N.confAt = N.k.bi + ((ltM N.k.bconf N.k.log N.k.log.length).2 : Nat) := rfl
  have hm : N.mems = (ltM N.k.bconf N.k.log N.k.log.length).1 := rfl
  rw [hc, hm]
  have hc3 : ∀ w2, Below w.heap.size w w2 → w2.cell? ⟨nb, 3, none⟩ = some (.int .i64 N.k.bi) := fun w2 hb => (h.below hb).c3
  clear hc hm hE hI
  generalize ltM N.k.bconf N.k.log N.k.log.length = R at *
  obtain ⟨R1, R2⟩ := R
  go_enter Tryz.func73, Tryz.ntmps73
  go_upto_region 1 with fail
  go_cut [4, 5] from 4 to 19 (fun v4 v5 wx => ∃ x c, v4 = .slice x R1.length c ∧ v5 = .int .i64 (R2 : Nat) ∧ IF (NewB w wx) wx x R1 ∧ Below w.heap.size w wx)
  case first =>
    go_region_with (go_at_call 100; refine HL.mono ?_; rintro e w1 ⟨x, c, rfl, hI, hw1⟩)
    all_goals go_wp2_with fail
    all_goals go_meet
    all_goals exact ⟨x, c, rfl, rfl, hI.kept (fun _ _ => rfl) (fun _ hk => hk), bl_ca (Below.refl _ _).drew hw1⟩
  case rest =>
    obtain ⟨x, c, rfl, rfl, hI, hw1⟩ := hcut
    have e3 := hc3 _ hw1
    have hw2 := hw1.drew
    clear hc3 HL
    go_wp2_with fail
    go_quiet (fail)
    go_wp2_with fail
    go_ret2
    exact ⟨x, c, rfl, hI.kept (fun _ _ => rfl) (fun _ hk => hk), bl_drn hw1 _⟩
set_option maxRecDepth 100000 in
theorem membersN (h : ND F nb M lb w N) (hb : Bnd N) : Calls Tryz.prog 36 #[.pointer (some ⟨nb, 0, none⟩)] w fun e w' => ∃ x c, e = .returned (.slice x N.mems.length c) ∧ IF (NewB w w') w' x N.mems ∧ Below w.heap.size w w' := by
  have HN := none_any F nb M lb w N h
  have HL := latestN F nb M lb w N h hb
  generalize N.mems = R1 at *
  go_enter Tryz.func36, Tryz.ntmps36
  go_wp2_with (first
    | (go_at_call 63; refine HN.mono ?_; rintro e w1 ⟨rfl, hw1⟩; replace hw1 := hw1.symm; subst hw1; clear HN)
    | (go_at_call 73; refine HL.mono ?_; rintro e w1 ⟨x, c, rfl, hI, hw1⟩; clear HL))
  go_ret
  exact ⟨x, c, rfl, hI, hw1⟩
theorem LG.take {F : Nat → Prop} {w : World} {a : Option Addr} {n cap : Nat} {l : List LE} (h : LG F w (.slice a n cap) l) (k : Nat) (hk : k ≤ l.length) : LG F w (.slice a k k) (l.take k) := by
  obtain ⟨ls, hG, hl, hls⟩ := h
  refine ⟨ls.take k, ⟨fun x hx => hG.1 x (List.mem_of_mem_take hx), ?_⟩, by rw [List.length_take, List.length_take, hl], fun i hi => ?_⟩
  · rcases hG.2 with ⟨rfl, e⟩ | ⟨g, cp, h1, e, cur, h2, h3, h4, h5⟩
    · cases e
      obtain rfl : k = 0 := by simp at hl; omega
      exact .inl ⟨rfl, rfl⟩
    · cases e
      refine .inr ⟨g, k, h1, by rw [List.length_take]; congr 1; omega, cur, h2, by rw [List.length_take]; omega, by omega, fun j v hj => h5 j v ?_⟩
      have h6 : (ls.take k).flatten ++ (ls.drop k).flatten = ls.flatten := by rw [← List.flatten_append, List.take_append_drop]
      rw [← h6, List.getElem?_append_left (List.getElem?_eq_some_iff.1 hj).1]
      exact hj
  · rw [List.length_take] at hi
    obtain ⟨ma, mc, h1, h2⟩ := hls i (by omega)
    rw [List.getElem_take]
    exact ⟨ma, mc, by rw [List.getElem?_take_of_lt (by omega)]; exact h1, h2⟩
set_option maxRecDepth 100000 in
theorem upTo_any (h : ND F nb M lb w N) (hb : Bnd N) (i : Int) (hi : N.k.bi ≤ i) (hl : i ≤ N.last) : Calls Tryz.prog 103 #[.pointer (some ⟨nb, 0, none⟩), .int .i64 i] w fun e w' => ∃ a, e = .returned (.slice a (N.upTo i).length (N.upTo i).length) ∧ LG F w (.slice a (N.upTo i).length (N.upTo i).length) (N.upTo i) ∧ slBlk (.slice a 0 0) = lb ∧ w' = w := by
  have c3 := h.c3
  obtain ⟨lv, c7, hL, hB⟩ := h.c7
  obtain ⟨a, cap, rfl, hc, _, _⟩ := hL.sl
  obtain ⟨k, rfl⟩ : ∃ k : Nat, i = N.k.bi + k := ⟨(i - N.k.bi).toNat, by omega⟩
  have hk : k ≤ N.k.log.length := by unfold RN.last at hl; omega
  have hu : N.upTo (N.k.bi + k) = N.k.log.take k := by unfold RN.upTo; rw [show (N.k.bi + (k : Int) - N.k.bi).toNat = k by omega]
  have hul : (N.upTo (N.k.bi + k)).length = k := by rw [hu, List.length_take]; omega
  rw [hul, hu]
  have hT := hL.take k hk
  have h1 := hb.bi
  have h2 := hb.last
  have hw1 : IntKind.i64.wrap (N.k.bi + (k : Int) - N.k.bi) = (k : Int) := by rw [IntKind.wrap_i64]; omega
  have hz1 : (0 : Int) ≤ (k : Int) := by omega
  have hz2 : k ≤ cap := by omega
  have hz3 : (k : Int) ≤ (cap : Int) := by omega
  have hB2 : slBlk (.slice a 0 0) = lb := by rw [← hB]; cases a <;> rfl
  clear hL hu hul hB hi hl
  go_enter Tryz.func103, Tryz.ntmps103
  go_wp2_with fail
  go_ret
  exact ⟨a, rfl, hT, hB2, rfl⟩
end
end Go.Proofs.YtnhlejdilldfaaaGreat
