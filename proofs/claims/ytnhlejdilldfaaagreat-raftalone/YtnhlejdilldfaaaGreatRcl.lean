/- Slices of entries that are made one's own. -/
import Derived.Test.YtnhlejdilldfaaaGreatRce
namespace Go.Proofs.YtnhlejdilldfaaaGreat
open Go Go.RowKit Go.Maps
/-- What cloneEntries leaves. -/
def CeP (w : World) (l : List LE) (e : Ending) (w' : World) : Prop := ∃ v, e = .returned v ∧ Below w.heap.size w w' ∧ (∀ r, slBlk v = some r → w.heap.size ≤ r) ∧ LG (fun k => NewB w w' k ∧ slBlk v ≠ some k) w' v l
/-- An entry's cells from a place on, its members where P says. -/
def At4 (P : Nat → Prop) (w : World) (cur : Array Value) (j : Nat) (x : LE) : Prop := ∃ ma mc, (∀ q u, (lec x (.slice ma x.mem.length mc)).toList[q]? = some u → cur[j * 4 + q]? = some u) ∧ IF P w ma x.mem ∧ x.mem.length ≤ 17592186044416
theorem At4.kept {P P' : Nat → Prop} {w w' : World} {cur : Array Value} {j : Nat} {x : LE} (h : At4 P w cur j x) (hk : ∀ k, P k → w'.heap[k]? = w.heap[k]?) (hP : ∀ k, P k → P' k) : At4 P' w' cur j x := by
  obtain ⟨ma, mc, h1, h2, h3⟩ := h
  exact ⟨ma, mc, h1, h2.kept hk hP, h3⟩
/-- Other cells are put. -/
theorem At4.spl {P : Nat → Prop} {w : World} {cur : Array Value} {i j : Nat} {x : LE} (h : At4 P w cur j x) (hne : i ≠ j) (vs : List Value) (hv : vs.length = 4) (hs : i * 4 + 4 ≤ cur.size) : At4 P w (spl cur (i * 4) vs) j x := by
  obtain ⟨ma, mc, h1, h2⟩ := h
  refine ⟨ma, mc, fun q u hq => ?_, h2⟩
  have hql := (List.getElem?_eq_some_iff.1 hq).1
  simp only [lec, List.length_cons, List.length_nil] at hql
  rw [spl_get _ _ _ _ (by omega), if_neg (by omega)]
  exact h1 q u hq
theorem lg_of {F : Nat → Prop} {w : World} {g cap : Nat} {l : List LE} {cur : Array Value} (hB : Blk w g cur 29) (hc : l.length ≤ cap) (hs : cap * 4 ≤ cur.size) (h : ∀ j (hj : j < l.length), At4 F w cur j l[j]) : LG F w (.slice (some ⟨g, 0, none⟩) l.length cap) l := by
  have hc2 : ∀ i : Fin l.length, ∃ p : Option Addr × Nat, (∀ q u, (lec l[i] (.slice p.1 l[i].mem.length p.2)).toList[q]? = some u → cur[i.1 * 4 + q]? = some u) ∧ IF F w p.1 l[i].mem ∧ l[i].mem.length ≤ 17592186044416 := fun i => by
    obtain ⟨ma, mc, h1, h2, h3⟩ := h i i.2
    exact ⟨(ma, mc), h1, h2, h3⟩
  obtain ⟨f, hf⟩ := Classical.axiomOfChoice hc2
  have hlen : ∀ x ∈ (List.ofFn fun i : Fin l.length => (lec l[i] (.slice (f i).1 l[i].mem.length (f i).2)).toList), x.length = 4 := fun x hx => by
    obtain ⟨i, rfl⟩ := List.mem_ofFn.1 hx
    rfl
  refine ⟨List.ofFn fun i : Fin l.length => (lec l[i] (.slice (f i).1 l[i].mem.length (f i).2)).toList, ⟨hlen, .inr ⟨g, cap, Nat.zero_le _, by simp, cur, hB.out, by simpa using hc, hs, fun j v hv => ?_⟩⟩, by simp, fun i hi => ?_⟩
  · have hjl := (List.getElem?_eq_some_iff.1 hv).1
    rw [flat_len hlen, List.length_ofFn] at hjl
    have hd := Nat.div_add_mod j 4
    have hm := Nat.mod_lt j (show 4 > 0 by decide)
    have hq : j / 4 < l.length := by omega
    have := (hf ⟨j / 4, hq⟩).1 (j % 4) v
    rw [show j / 4 * 4 + j % 4 = j by omega] at this
    refine this ?_
    have h5 := flat_get hlen (j / 4) (by simpa using hq) (j % 4) ((lec l[j / 4] (.slice (f ⟨j / 4, hq⟩).1 l[j / 4].mem.length (f ⟨j / 4, hq⟩).2)).toList[j % 4]'(by simp [lec]; omega)) (by rw [List.getElem_ofFn]; exact List.getElem?_eq_getElem _)
    rw [show j / 4 * 4 + j % 4 = j by omega, hv] at h5
    rw [List.getElem?_eq_getElem (by simp [lec]; omega)]
    exact h5.symm
  · refine ⟨(f ⟨i, hi⟩).1, (f ⟨i, hi⟩).2, ?_, (hf ⟨i, hi⟩).2⟩
    rw [List.getElem?_ofFn, dif_pos hi]
    rfl
theorem lg_nil {F : Nat → Prop} {w : World} {v : Value} {ls : List (List Value)} (h : GL w 29 4 0 v ls) (h0 : ls.length = 0) : LG F w v [] := ⟨ls, h, h0, fun i hi => by simp at hi⟩
theorem scloneE_blk (b : Addr) (l : List LE) (cap : Nat) (w : World) (h : EA w (some b) l) (h0 : 0 < l.length) (hl : l.length ≤ 137438953472) :
    Calls Tryz.prog 102 #[.slice (some b) l.length cap] w fun e w' => ∃ g cp cur, e = .returned (.slice (some ⟨g, 0, none⟩) l.length cp) ∧ Below w.heap.size w w' ∧ w.heap.size ≤ g ∧ Blk w' g cur 29 ∧ l.length ≤ cp ∧ cp * 4 ≤ cur.size ∧ ∀ j (hj : j < l.length), At4 (fun k => k < w.heap.size) w' cur j l[j] := by
  refine (scloneE b l cap w h hl).mono ?_
  rintro e w1 ⟨v, ls, rfl, hw1, hG, hll, hls⟩
  rcases hG.2 with ⟨rfl, _⟩ | ⟨g, cp, hg, rfl, hS⟩
  · rw [List.length_nil] at hll; omega
  rw [hll]
  obtain ⟨cur0, k1, k2, k3, k4⟩ := hS.out
  rw [hll] at k2
  refine ⟨g, cp, cur0, rfl, hw1, hg, ⟨k1⟩, k2, k3, fun j hj => ?_⟩
  obtain ⟨ma, mc, m1, m2, m3⟩ := hls j hj
  have hjl : j < ls.length := by omega
  have he : ls[j] = (lec l[j] (.slice ma l[j].mem.length mc)).toList := by
    rw [List.getElem?_eq_getElem hjl] at m1
    exact Option.some.inj m1
  exact ⟨ma, mc, fun q u hq => k4 _ _ (flat_get hG.1 j hjl q u (by rw [he]; exact hq)), (IF.of (F := fun k => k < w.heap.size) m2 (fun _ _ _ hk => hk)).kept (fun k hk => hw1.block k hk) (fun _ h => h), m3⟩
/-- How far cloneEntries has come. -/
def CeI (w : World) (g cp : Nat) (l : List LE) (i : Nat) (wl : World) : Prop := Below w.heap.size w wl ∧ w.heap.size ≤ g ∧ ∃ cur, Blk wl g cur 29 ∧ l.length ≤ cp ∧ cp * 4 ≤ cur.size ∧ (∀ j (hj : j < l.length), j < i → At4 (fun k => w.heap.size ≤ k ∧ k < wl.heap.size ∧ k ≠ g) wl cur j l[j]) ∧ ∀ j (hj : j < l.length), i ≤ j → At4 (fun k => k < w.heap.size) wl cur j l[j]
theorem CeI.step {w wl w3 w4 : World} {g cp i : Nat} {l : List LE} {x : LE} {a : Option Addr} {c : Nat} {P : Nat → Prop} {cur : Array Value} (hi : i < l.length) (hx : l[i] = x) (hw1 : Below w.heap.size w wl) (hg : w.heap.size ≤ g) (hB : Blk wl g cur 29) (hcp : l.length ≤ cp) (hcs : cp * 4 ≤ cur.size) (hd : ∀ j (hj : j < l.length), j < i → At4 (fun k => w.heap.size ≤ k ∧ k < wl.heap.size ∧ k ≠ g) wl cur j l[j]) (hn : ∀ j (hj : j < l.length), i ≤ j → At4 (fun k => k < w.heap.size) wl cur j l[j])
    (hw : Below wl.heap.size wl w3) (hI : IF P w3 a x.mem) (hP : ∀ k, P k → wl.heap.size ≤ k ∧ k < w3.heap.size) (hml : x.mem.length ≤ 17592186044416) (hg4 : w3.grownBy w4 (some g)) (hs4 : w4.heap.size = w3.heap.size) (hB4 : Blk w4 g (spl cur (i * 4) (lec x (.slice a x.mem.length c)).toList) 29) : CeI w g cp l (i + 1) w4 := by
  have hgl := hB.lt
  have hk4 : ∀ k, k < wl.heap.size → k ≠ g → w4.heap[k]? = wl.heap[k]? := fun k hk hne => (hg4.block k (Nat.lt_of_lt_of_le hk hw.size) (fun e => hne (Option.some.inj e))).trans (hw.block k hk)
  have hsz : i * 4 + 4 ≤ cur.size := by omega
  refine ⟨bl_gr (hw1.trans (hw.mono hw1.size)) hg4 hg, hg, _, hB4, hcp, by rw [spl_size]; exact hcs, fun j hj hji => ?_, fun j hj hji => ?_⟩
  · by_cases he : j = i
    · subst he
      rw [hx]
      refine ⟨a, c, fun q u hq => ?_, hI.kept (fun k hk => hg4.block k (hP k hk).2 (fun e => by have h1 := Option.some.inj e; have := (hP k hk).1; omega)) (fun k hk => ⟨by have := (hP k hk).1; have := hw1.size; omega, by have := (hP k hk).2; omega, fun e => by have := (hP k hk).1; omega⟩), hml⟩
      have hql := (List.getElem?_eq_some_iff.1 hq).1
      have hl4 : (lec x (.slice a x.mem.length c)).toList.length = 4 := rfl
      rw [spl_get _ _ _ _ (by omega), if_pos (by omega), show j * 4 + q - j * 4 = q by omega]
      exact hq
    · exact ((hd j hj (by omega)).kept (P' := fun k => w.heap.size ≤ k ∧ k < w4.heap.size ∧ k ≠ g) (fun k hk => hk4 k hk.2.1 hk.2.2) (fun k hk => ⟨hk.1, Nat.lt_of_lt_of_le hk.2.1 (Nat.le_trans hw.size (Nat.le_of_eq hs4.symm)), hk.2.2⟩)).spl (fun e => he e.symm) _ rfl hsz
  · exact ((hn j hj (by omega)).kept (P' := fun k => k < w.heap.size) (fun k hk => hk4 k (Nat.lt_of_lt_of_le hk hw1.size) (fun e => by omega)) (fun k hk => hk)).spl (by omega) _ rfl hsz
set_option maxRecDepth 100000 in
set_option maxHeartbeats 1000000 in
theorem cloneEntries_some (b : Addr) (l : List LE) (cap : Nat) (w : World) (h : EA w (some b) l) (h0 : 0 < l.length) (hl : l.length ≤ 137438953472) :
    Calls Tryz.prog 85 #[.slice (some b) l.length cap] w (CeP w l) := by
  have HC := scloneE_blk b l cap w h h0 hl
  go_enter Tryz.func85, Tryz.ntmps85
  go_wp2_with (go_at_call 102; refine HC.mono ?_; rintro e w1 ⟨g, cp, cur0, rfl, hw1, hg, hB0, hcp, hcs, hat⟩; clear HC)
  have hI0 : CeI w g cp l 0 w1 := ⟨hw1, hg, cur0, hB0, hcp, hcs, fun j hj h => absurd h (Nat.not_lt_zero _), fun j hj _ => hat j hj⟩
  clear hw1 hg hB0 hcp hcs hat h
  go_loopw [10] (fun v10 wl => ∃ i : Nat, i ≤ l.length ∧ v10 = .int .i64 i ∧ CeI w g cp l i wl) (fun v10 _ => l.length - (intOf v10).toNat)
  case atStart => exact ⟨0, by omega, rfl, hI0⟩
  case round =>
    obtain ⟨i, hil, rfl, hI⟩ := hrel
    by_cases hlt : i < l.length
    · obtain ⟨hw1, hg, cur, hB, hcp, hcs, hd, hn⟩ := hI
      obtain ⟨ma, mc, m1, m2, m3⟩ := hn i hlt (Nat.le_refl _)
      have e0 := (hB.cell (i * 4)).trans (m1 0 _ rfl)
      have e1 := (hB.cell _).trans (m1 1 _ rfl)
      have e2 := (hB.cell _).trans (m1 2 _ rfl)
      have e3 := (hB.cell _).trans (m1 3 _ rfl)
      have hz1 : (0 : Int) ≤ (i : Int) := by omega
      have hz2 : (i : Int) < (l.length : Int) := by omega
      have hd1 : decide ((i : Int) < (l.length : Int)) = true := decide_eq_true hz2
      have HE := fun (w0 : World) w2 (hA : IA w0 ma l[i].mem) (hb : Below w0.heap.size w0 w2) => cloneEntry_any l[i] ma mc w2 (hA.below hb) m3
      have hle : ∀ v : Value, i * 4 + (#[Value.int .i64 l[i].term, .string ⟨l[i].s.toArray⟩, .bool l[i].conf, v] : Array Value).size ≤ cur.size := fun v => by show i * 4 + 4 ≤ _; omega
      have HS := fun x (hx : l[i] = x) => @CeI.step w _ (i := i) (l := l) (x := x) (cp := cp) (cur := cur) (hi := hlt) (hx := hx) (hw1 := hw1) (hg := hg) (hB := hB) (hcp := hcp) (hcs := hcs) (hd := hd) (hn := hn)
      replace HS := HS _ rfl
      generalize l[i] = x at *
      clear hn m1 hd
      go_wp2_with (first
        | (go_at_call 64; refine (HE _ _ m2.ia (bl_al (Below.refl _ _) _)).mono ?_; rintro e w3 ⟨y, c, rfl, hIy, hw3⟩; have hB3 := (hB.alloc _).belowSize hw3; clear HE)
        | (with_reducible refine at_list ?_; refine wpList_storePart (op := ⟨none, .store 29 (.tmp 19) (.tmp 18), _, _, _, _⟩) rfl _ _ _ rfl g (i * 4) #[.int .i64 x.term, .string ⟨x.s.toArray⟩, .bool x.conf, .slice y x.mem.length c] rfl rfl _ _ hB3 (hle _) (lecI x _) (lecO ..) ?_; intro w4 hg4 hs4 hB4))
      have hfin := HS _ _ _ _ _ (bl_ca (bl_al (Below.refl _ _) _) hw3) hIy (fun k hk => ⟨by have := hk.1; simp at this; omega, hk.2⟩) m3 hg4 hs4 hB4
      clear HS
      go_roundw
      case rel => exact ⟨i + 1, by omega, by go_num, hfin⟩
      case measure => simp [intOf]; omega
    · obtain rfl : i = l.length := by omega
      have hz2 : ¬ ((l.length : Int) < (l.length : Int)) := by omega
      obtain ⟨hw1, hg, cur, hB, hcp, hcs, hd, hn⟩ := hI
      have hlg := lg_of hB hcp hcs (fun j hj => (hd j hj hj).kept (P' := fun k => NewB w _ k ∧ slBlk (.slice (some ⟨g, 0, none⟩) l.length cp) ≠ some k) (fun _ _ => rfl) (fun k hk => ⟨⟨hk.1, hk.2.1⟩, fun e => hk.2.2 (Option.some.inj e).symm⟩))
      clear hd hn
      go_wp2_with fail
      go_ret
      exact ⟨_, rfl, hw1, fun r e => by cases e; exact hg, hlg⟩
set_option maxRecDepth 100000 in
theorem cloneEntries_none (cap : Nat) (w : World) : Calls Tryz.prog 85 #[.slice none 0 cap] w (CeP w []) := by
  have HC := scloneE_nil cap w
  go_enter Tryz.func85, Tryz.ntmps85
  go_wp2_with (go_at_call 102; refine HC.mono ?_; rintro e w1 ⟨rfl, hw1⟩; replace hw1 := hw1.symm; subst hw1; clear HC)
  go_loopw [10] (fun v10 wl => v10 = .int .i64 0 ∧ wl = w) (fun _ _ => 0)
  case atStart => exact ⟨rfl, rfl⟩
  case round =>
    obtain ⟨rfl, hw⟩ := hrel
    replace hw := hw.symm
    subst hw
    go_wp2_with fail
    go_ret
    exact ⟨_, rfl, Below.refl _ _, fun r e => (by cases e), lg_nil (GL.nil _ _ _ _) rfl⟩
set_option maxRecDepth 100000 in
theorem cloneEntries_zero (b : Addr) (cap : Nat) (w : World) : Calls Tryz.prog 85 #[.slice (some b) 0 cap] w (CeP w []) := by
  have HC : Calls Tryz.prog 102 #[.slice (some b) 0 cap] w fun e w' => ∃ a c, e = .returned (.slice a 0 c) ∧ Below w.heap.size w w' ∧ GL w' 29 4 w.heap.size (.slice a 0 c) [] := by
    refine (scloneE b [] cap w (fun i hi => by simp at hi) (by decide)).mono ?_
    rintro e w1 ⟨v, ls, rfl, hw1, hG, hll, hls⟩
    obtain rfl : ls = [] := List.length_eq_zero_iff.1 hll
    obtain ⟨a, c, rfl, _⟩ := hG.sl
    exact ⟨a, c, rfl, hw1, hG⟩
  go_enter Tryz.func85, Tryz.ntmps85
  go_wp2_with (go_at_call 102; refine HC.mono ?_; rintro e w1 ⟨a, c, rfl, hw1, hG⟩; clear HC)
  go_loopw [10] (fun v10 wl => v10 = .int .i64 0 ∧ wl = w1) (fun _ _ => 0)
  case atStart => exact ⟨rfl, rfl⟩
  case round =>
    obtain ⟨rfl, hw⟩ := hrel
    replace hw := hw.symm
    subst hw
    have hlt := fun r e => (hG.lt r e).1
    have hlg := lg_nil (F := fun k => NewB w w1 k ∧ slBlk (.slice a 0 c) ≠ some k) ⟨hG.1, hG.2.imp id (fun ⟨g, cap, _, h⟩ => ⟨g, cap, Nat.zero_le _, h⟩)⟩ rfl
    clear hG
    go_wp2_with fail
    go_ret
    exact ⟨_, rfl, hw1, hlt, hlg⟩
theorem cloneEntries_any (a : Option Addr) (l : List LE) (cap : Nat) (w : World) (h : EA w a l) (hl : l.length ≤ 137438953472) :
    Calls Tryz.prog 85 #[.slice a l.length cap] w (CeP w l) := by
  by_cases h0 : 0 < l.length
  · obtain ⟨g, o, rfl⟩ := h.ex h0
    exact cloneEntries_some _ l cap w h h0 hl
  · obtain rfl : l = [] := List.length_eq_zero_iff.1 (by omega)
    cases a with
    | none => exact cloneEntries_none cap w
    | some b => exact cloneEntries_zero b cap w
end Go.Proofs.YtnhlejdilldfaaaGreat
