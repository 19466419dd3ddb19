/- What slices.Insert of one number leaves. -/
import Derived.Test.YtcaoibdimeajfaaCow
namespace Go.Proofs.Ytcaoibdimeajfaa
open Go Go.RowKit
theorem nmV_one (l : List Int) : ∀ v ∈ nmV l, v.oneCell' = true := fun v hv => by
  obtain ⟨x, _, rfl⟩ := List.mem_map.1 hv
  rfl
/-- Numbers that are put into cells stand there. -/
theorem ia_set {g : Nat} {w' : World} {m : List Int} (h : ∀ j x, m[j]? = some x → w'.cell? ⟨g, j, none⟩ = some (.int .i64 x)) : IA w' (some ⟨g, 0, none⟩) m := fun j x hx => ⟨g, 0, rfl, by rw [Nat.zero_add]; exact h j x hx⟩
theorem VS.isSome {w : World} {t : TypeId} {g cap : Nat} {l : List Value} (h : VS w t g cap l) (j : Nat) (hj : j < cap) : (w.cell? ⟨g, j, none⟩).isSome = true := by
  obtain ⟨cur, fr, h1, _, h3, _, _⟩ := h.out
  simp [World.cell?, h1, show j < cur.size by omega]
theorem VS.frozen {w : World} {t : TypeId} {g cap : Nat} {l : List Value} (h : VS w t g cap l) (j : Nat) (hj : j < cap) : w.frozen? ⟨g, j, none⟩ = false := by
  obtain ⟨cur, fr, h1, _, h3, h4, _⟩ := h.out
  rcases h4 with rfl | h4
  · simp [World.frozen?, h1]
  · simp [World.frozen?, h1]
    omega
theorem VS.shape {w : World} {t : TypeId} {g cap : Nat} {l : List Value} (h : VS w t g cap l) : ∃ n, w.shape? g = some (t, n) ∧ cap ≤ n := by
  obtain ⟨cur, fr, h1, _, h3, _, _⟩ := h.out
  exact ⟨cur.size, by simp [World.shape?, h1], h3⟩
theorem below_setI {B g : Nat} (hg : B ≤ g) {w0 : World} : ∀ (vs : List Value) (o : Nat) (w : World), Below B w0 w → Below B w0 (w.setCells g o vs)
  | [], _, _, h => h
  | v :: r, o, _, h => below_setI hg r (o + 1) _ (h.setCell (p := ⟨g, o, none⟩) hg v)
theorem cellS {w : World} {g o : Nat} {vs : List Value} (hs : ∀ j, j < vs.length → (w.cell? ⟨g, o + j, none⟩).isSome = true) (j : Nat) (v : Value) (h : (o ≤ j ∧ j < o + vs.length ∧ vs[j - o]? = some v) ∨ ((j < o ∨ o + vs.length ≤ j) ∧ w.cell? ⟨g, j, none⟩ = some v)) :
    (w.setCells g o vs).cell? ⟨g, j, none⟩ = some v := by
  rcases h with ⟨h1, h2, h3⟩ | ⟨h1, h2⟩
  · have := World.cell?_setCells_in g vs o w hs (j - o) (by omega)
    rw [show o + (j - o) = j by omega] at this
    rw [this, ← h3, List.getElem?_eq_getElem]
  · rw [World.cell?_setCells_out g vs o w ⟨g, j, none⟩ (fun _ _ => h1)]
    exact h2
theorem ins_get {l : List Int} {k : Int} {i : Nat} (hi : i ≤ l.length) {j : Nat} {x : Int} (h : (l.take i ++ k :: l.drop i)[j]? = some x) : (j < i ∧ l[j]? = some x) ∨ (j = i ∧ x = k) ∨ (i < j ∧ l[j - 1]? = some x ∧ (l.drop i)[j - (i + 1)]? = some x) := by
  have ht : (l.take i).length = i := by rw [List.length_take]; omega
  rcases Nat.lt_trichotomy j i with hj | hj | hj
  · rw [List.getElem?_append_left (by omega), List.getElem?_take, if_pos hj] at h
    exact .inl ⟨hj, h⟩
  · rw [List.getElem?_append_right (by omega), ht, hj, Nat.sub_self] at h
    exact .inr (.inl ⟨hj, by simpa using h.symm⟩)
  · rw [List.getElem?_append_right (by omega), ht, show j - i = (j - (i + 1)) + 1 by omega, List.getElem?_cons_succ] at h
    refine .inr (.inr ⟨hj, ?_, h⟩)
    rw [List.getElem?_drop] at h
    rw [← h]
    congr 1
    omega
/-- slices.Insert of one number. -/
theorem insI_any (l : List Int) (k : Int) (B : Nat) (sl : Value) (vb i : Nat) (w : World) (hV : VL w 3 B sl (nmV l)) (hB : B ≤ w.heap.size) (hc : capOk sl) (hv : Blk w vb #[.int .i64 k] 3) (hvb : ∀ g n c, sl = .slice (some ⟨g, 0, none⟩) n c → vb ≠ g) (hi : i ≤ l.length) (hl : l.length ≤ 1000) :
    Calls Try.prog 22 #[sl, .int .i64 (i : Nat), .slice (some ⟨vb, 0, none⟩) 1 1] w fun e w' => ∃ b c, e = .returned (.slice b (l.length + 1) c) ∧ IA w' b (l.take i ++ k :: l.drop i) ∧ Below B w w' := by
  have hvs : ∀ j v, ([Value.int .i64 k] : List Value)[j]? = some v → w.cell? ⟨vb, 0 + j, none⟩ = some v := fun j v hj => by
    rw [Nat.zero_add, hv.cell]
    simpa using hj
  have h1v : ∀ v ∈ ([Value.int .i64 k] : List Value), v.oneCell' = true := fun v hv => by rw [List.mem_singleton.1 hv]; rfl
  have hlen : (nmV l).length = l.length := List.length_map ..
  have hget : ∀ j x, l[j]? = some x → (nmV l)[j]? = some (Value.int .i64 x) := fun j x hx => by rw [List.getElem?_map, hx]; rfl
  rcases hV with ⟨hn, rfl⟩ | ⟨g, cap, hg, rfl, hS⟩
  · obtain rfl : l = [] := List.map_eq_nil_iff.1 hn
    obtain rfl : i = 0 := by simpa using hi
    refine (Any2.slices_Insert_int_end_grow insL none 0 0 vb 0 1 1 [] [.int .i64 k] w (by omega) (by omega) (by omega) (by omega) rfl rfl (fun _ => rfl) (fun a h => by cases h) hvs h1v).mono fun e w' ⟨h1, h2⟩ => ?_
    subst h2
    refine ⟨_, _, h1, fun j x hx => ⟨w.heap.size, 0, rfl, ?_⟩, (Below.refl _ w).drew.alloc hB _⟩
    have hj : j = 0 := by
      have := (List.getElem?_eq_some_iff.1 hx).1
      simpa using this
    subst hj
    simp at hx
    subst hx
    have hb := (Blk.new w.drew (([] ++ [Value.int .i64 k]).toArray ++ Builtin.zeroCells (Value.int .i64 0).cells (grownCap w (0 + 1) 0 (ins_ren.t 3) - (0 + 1))) (ins_ren.t 3)).cell 0
    refine hb.trans ?_
    rw [Array.getElem?_append_left (by simp)]
    rfl
  · rw [hlen] at hvb ⊢
    have hcc : cap ≤ 9223372036854775807 := by rw [hlen] at hc; exact hc
    have hle : l.length ≤ cap := by obtain ⟨_, _, _, h2, _⟩ := hS.out; rw [hlen] at h2; exact h2
    have hne : vb ≠ g := hvb g _ _ rfl
    have hcs : ∀ j v, (nmV l)[j]? = some v → w.cell? ⟨g, 0 + j, none⟩ = some v := fun j v hj => by rw [Nat.zero_add]; exact hS.cell j v hj
    by_cases he : i = l.length
    · subst he
      rw [List.take_length, List.drop_length]
      by_cases hroom : l.length + 1 ≤ cap
      · refine (Any2.slices_Insert_int_end_room insL g 0 l.length cap vb 0 1 1 [.int .i64 k] w (by omega) hroom hcc rfl (fun j hj => hS.isSome _ (by omega)) (fun j hj => hS.frozen _ (by omega)) hvs h1v).mono fun e w' ⟨h1, h2⟩ => ?_
        subst h2
        refine ⟨_, _, h1, ia_set fun j x hx => ?_, below_setI hg _ _ _ (Below.refl _ _)⟩
        rw [Nat.zero_add]
        have hx2 : (l.take l.length ++ k :: l.drop l.length)[j]? = some x := by rw [List.take_length, List.drop_length]; exact hx
        refine cellS (fun q hq => hS.isSome _ (by have : q < 1 := hq; omega)) j _ ?_
        rcases ins_get (Nat.le_refl _) hx2 with ⟨h3, h4⟩ | ⟨rfl, rfl⟩ | ⟨h3, h4, _⟩
        · exact .inr ⟨.inl h3, hS.cell j _ (hget j x h4)⟩
        · exact .inl ⟨Nat.le_refl _, Nat.lt_succ_self _, by rw [Nat.sub_self]; rfl⟩
        · have := (List.getElem?_eq_some_iff.1 h4).1
          omega
      · refine (Any2.slices_Insert_int_end_grow insL (some ⟨g, 0, none⟩) l.length cap vb 0 1 1 (nmV l) [.int .i64 k] w (by omega) hle (by omega) (by omega) hlen rfl (fun h => by cases h) (fun a h => by cases h; intro j v hj; rw [Addr.add_mid]; exact hcs j v hj) hvs h1v).mono fun e w' ⟨h1, h2⟩ => ?_
        subst h2
        refine ⟨_, _, h1, fun j x hx => ⟨w.heap.size, 0, rfl, ?_⟩, (Below.refl _ w).drew.alloc hB _⟩
        have hx2 : (l.take l.length ++ k :: l.drop l.length)[j]? = some x := by rw [List.take_length, List.drop_length]; exact hx
        have hj : j < l.length + 1 := by
          have := (List.getElem?_eq_some_iff.1 hx).1
          simpa using this
        have hb := (Blk.new w.drew ((nmV l ++ [Value.int .i64 k]).toArray ++ Builtin.zeroCells (Value.int .i64 0).cells (grownCap w (l.length + 1) cap (ins_ren.t 3) - (l.length + 1))) (ins_ren.t 3)).cell j
        rw [Nat.zero_add]
        refine hb.trans ?_
        rw [Array.getElem?_append_left (by simpa using hj), List.getElem?_toArray]
        have e : nmV l ++ [Value.int .i64 k] = nmV (l ++ [k]) := by simp
        rw [e, List.getElem?_map, hx]
        rfl
    · have hil : i < l.length := by omega
      by_cases hroom : l.length + 1 ≤ cap
      · obtain ⟨nb, hsb, hnb⟩ := hS.shape
        refine (Any2.slices_Insert_int_shift insL g 0 l.length cap i vb 0 1 1 (nmV l) [.int .i64 k] w hil (by omega) hroom hcc hne hlen rfl hcs (fun j hj => by rw [Nat.zero_add]; exact hS.isSome _ (by omega)) (fun j hj => by rw [Nat.zero_add]; exact hS.frozen _ (by omega)) hvs (nmV_one l) h1v 3 3 1 nb (by simp [World.shape?, hv.out]) hsb (by omega) (hv.frozen 0) (hv.frozen 1)).mono fun e w' ⟨h1, h2⟩ => ?_
        subst h2
        have hs1 : ∀ q, q < cap → (w.drew.cell? ⟨g, q, none⟩).isSome = true := fun q hq => hS.isSome q hq
        refine ⟨_, _, h1, ia_set fun j x hx => ?_, below_setI hg _ _ _ (below_setI hg _ _ _ (Below.refl _ w).drew)⟩
        rw [Nat.zero_add, Nat.zero_add]
        have hdl : ((nmV l).drop i).length = l.length - i := by rw [List.length_drop, hlen]
        have hs2 : ∀ q, q < cap → ((w.drew.setCells g (i + 1) ((nmV l).drop i)).cell? ⟨g, q, none⟩).isSome = true := fun q hq => isSome_setCells g _ _ _ (fun q hq => hs1 _ (by rw [hdl] at hq; omega)) q (hs1 q hq)
        refine cellS (fun q hq => hs2 _ (by have : q < 1 := hq; omega)) j _ ?_
        rcases ins_get hi hx with ⟨h3, h4⟩ | ⟨rfl, rfl⟩ | ⟨h3, h4, h5⟩
        · refine .inr ⟨.inl h3, cellS (fun q hq => hs1 _ (by rw [hdl] at hq; omega)) j _ (.inr ⟨.inl (by omega), hS.cell j _ (hget j x h4)⟩)⟩
        · exact .inl ⟨Nat.le_refl _, Nat.lt_succ_self _, by rw [Nat.sub_self]; rfl⟩
        · have hjl := (List.getElem?_eq_some_iff.1 h4).1
          refine .inr ⟨.inr h3, cellS (fun q hq => hs1 _ (by rw [hdl] at hq; omega)) j _ (.inl ⟨h3, by rw [hdl]; omega, ?_⟩)⟩
          rw [show (nmV l).drop i = nmV (l.drop i) from (List.map_drop ..).symm, List.getElem?_map, h5]
          rfl
      · refine (Any2.slices_Insert_int_grow insL g 0 l.length cap i vb 0 1 1 (nmV l) [.int .i64 k] w hil (by omega) hle (by omega) (by omega) hlen rfl hcs hvs (nmV_one l) h1v).mono fun e w' ⟨h1, h2⟩ => ?_
        subst h2
        refine ⟨_, _, h1, fun j x hx => ⟨w.heap.size, 0, rfl, ?_⟩, below_setI hB _ _ _ (below_setI hB _ _ _ ((Below.refl _ w).alloc hB _).drew).drew⟩
        rw [Nat.zero_add]
        have hge : l.length + 1 ≤ grownCap w (l.length + 1) cap (ins_ren.t 3) := grownCap_ge w _ _ _
        generalize grownCap w (l.length + 1) cap (ins_ren.t 3) = G at *
        have hdl : ((nmV l).drop i).length = l.length - i := by rw [List.length_drop, hlen]
        have htl : ((nmV l).take i).length = i := by rw [List.length_take, hlen]; omega
        have hc : (Value.int .i64 0).cells.size = 1 := rfl
        have hsz : (((nmV l).take i).toArray ++ Builtin.zeroCells (Value.int .i64 0).cells (l.length + 1 - i) ++ Builtin.zeroCells (Value.int .i64 0).cells (G - (l.length + 1))).size = G := by
          simp only [Array.size_append, List.size_toArray, htl, size_zeroCells, hc]
          omega
        have hb := Blk.new w (((nmV l).take i).toArray ++ Builtin.zeroCells (Value.int .i64 0).cells (l.length + 1 - i) ++ Builtin.zeroCells (Value.int .i64 0).cells (G - (l.length + 1))) (ins_ren.t 3)
        have hc1 : ∀ q, q < i → ∀ x, l[q]? = some x → (((nmV l).take i).toArray ++ Builtin.zeroCells (Value.int .i64 0).cells (l.length + 1 - i) ++ Builtin.zeroCells (Value.int .i64 0).cells (G - (l.length + 1)))[q]? = some (Value.int .i64 x) := fun q hq x hx => by
          rw [Array.append_assoc, Array.getElem?_append_left (by simp only [List.size_toArray, htl]; exact hq), List.getElem?_toArray, List.getElem?_take, if_pos hq]
          exact hget q x hx
        generalize (((nmV l).take i).toArray ++ Builtin.zeroCells (Value.int .i64 0).cells (l.length + 1 - i) ++ Builtin.zeroCells (Value.int .i64 0).cells (G - (l.length + 1))) = C at *
        have hs1 : ∀ q, q < G → ((w.alloc (.cells C (ins_ren.t 3))).drew.cell? ⟨w.heap.size, q, none⟩).isSome = true := fun q hq => by
          have := hb.cell q
          rw [Array.getElem?_eq_getElem (by omega)] at this
          exact (congrArg Option.isSome this).trans rfl
        have hs2 : ∀ q, q < G → (((w.alloc (.cells C (ins_ren.t 3))).drew.setCells w.heap.size i [Value.int .i64 k]).drew.cell? ⟨w.heap.size, q, none⟩).isSome = true := fun q hq => isSome_setCells w.heap.size _ _ _ (fun q hq => hs1 _ (by have : q < 1 := hq; omega)) q (hs1 q hq)
        refine cellS (fun q hq => hs2 _ (by rw [hdl] at hq; omega)) j _ ?_
        rcases ins_get hi hx with ⟨h3, h4⟩ | ⟨rfl, rfl⟩ | ⟨h3, h4, h5⟩
        · exact .inr ⟨.inl (by omega), cellS (w := (w.alloc (.cells C (ins_ren.t 3))).drew) (fun q hq => hs1 _ (by have : q < 1 := hq; omega)) j _ (.inr ⟨.inl h3, (hb.cell j).trans (hc1 j h3 x h4)⟩)⟩
        · exact .inr ⟨.inl (by omega), cellS (w := (w.alloc (.cells C (ins_ren.t 3))).drew) (fun q hq => hs1 _ (by have : q < 1 := hq; omega)) j _ (.inl ⟨Nat.le_refl _, Nat.lt_succ_self _, by rw [Nat.sub_self]; rfl⟩)⟩
        · have hjl := (List.getElem?_eq_some_iff.1 h4).1
          refine .inl ⟨h3, by rw [hdl]; omega, ?_⟩
          rw [show (nmV l).drop i = nmV (l.drop i) from (List.map_drop ..).symm, List.getElem?_map, h5]
          rfl
end Go.Proofs.Ytcaoibdimeajfaa
