/- What the landed Has, With and Without do. -/
import Derived.Test.YtcaoibdimeajfaaCin
import Derived.Test.YtcaoibdimeajfaaCls
namespace Go.Proofs.Ytcaoibdimeajfaa
open Go Go.RowKit
theorem Ris.len {l : List Int} (h : Ris l) : l.length ≤ 16 := by
  have := rising_len l 0 15 (by decide) h.each h.up
  omega
theorem has_any : HasC := fun l a cap k w hA hR hk => by
  have hl := hR.len
  have H := contains_any l a cap k w hA (by omega)
  generalize decide (k ∈ l) = q at *
  go_enter Try.func9, Try.ntmps9
  go_wp2_with (go_at_call 18; refine H.mono ?_; rintro e w1 ⟨rfl, h1⟩)
  go_ret
  exact ⟨rfl, h1⟩
section
variable {P : Program} {ops : Array Oper} {rest : List Oper} {op : Oper} {a : Act} {w : World} {Q : Exit → Act → World → Prop}
theorem wpList_boxI (hgd : op.guard = none) (ty : TypeId) (x : Operand) (ho : op.op = .box ty x) (k : Int) (hx : a.eval x = .int .i64 k)
    (h : ∀ w1 : World, Below w.heap.size w w1 → w1.heap.size = w.heap.size + 1 → Blk w1 w.heap.size #[.int .i64 k] ty → wpList P ops Q rest (a.put op.dst (.pointer (some ⟨w.heap.size, 0, none⟩))) w1) : wpList P ops Q (op :: rest) a w := by
  refine wpList_run hgd _ _ ?_ (h _ ((Below.refl _ _).alloc (Nat.le_refl _) _) (by simp) (Blk.new w _ _))
  unfold execOp
  simp only [ho, hx]
  rfl
end
theorem with1_any (x k : Int) (b : Nat) (w : World) (h : w.cell? ⟨b, 0, none⟩ = some (.int .i64 k)) :
    Calls Try.prog 21 #[.int .i64 x, .pointer (some ⟨b, 0, none⟩)] w fun e w' => e = .returned (.bool (decide (k < x))) ∧ w' = w := by
  go_enter Try.func21, Try.ntmps21
  go_wp2_with fail
  go_ret
  exact ⟨rfl, rfl⟩
theorem without1_any (x k : Int) (b : Nat) (w : World) (h : w.cell? ⟨b, 0, none⟩ = some (.int .i64 k)) :
    Calls Try.prog 24 #[.int .i64 x, .pointer (some ⟨b, 0, none⟩)] w fun e w' => e = .returned (.bool (x == k)) ∧ w' = w := by
  go_enter Try.func24, Try.ntmps24
  go_wp2_with fail
  go_ret
  exact ⟨rfl, rfl⟩
/-- Where one that is not in a rising list would stand. -/
structure Spot (l : List Int) (k : Int) (i : Nat) : Prop where
  le : i ≤ l.length
  low : ∀ j, j < i → l.getD j 0 ≤ k
  high : i < l.length → k < l.getD i 0
theorem getD_mem {l : List Int} {j : Nat} (h : j < l.length) : l.getD j 0 ∈ l := by
  rw [List.getD_eq_getElem?_getD, List.getElem?_eq_getElem h]
  exact List.getElem_mem h
theorem mem_getD {l : List Int} {x : Int} (h : x ∈ l) : ∃ j, j < l.length ∧ l.getD j 0 = x := by
  obtain ⟨j, hj, rfl⟩ := List.mem_iff_getElem.1 h
  exact ⟨j, hj, by rw [List.getD_eq_getElem?_getD, List.getElem?_eq_getElem hj]; rfl⟩
theorem ris_getD {l : List Int} (h : l.Pairwise (· < ·)) {i j : Nat} (hij : i < j) (hj : j < l.length) : l.getD i 0 < l.getD j 0 := by
  rw [List.getD_eq_getElem?_getD, List.getD_eq_getElem?_getD, List.getElem?_eq_getElem hj, List.getElem?_eq_getElem (by omega)]
  exact List.pairwise_iff_getElem.1 h i j (by omega) hj hij
theorem Spot.ris {l : List Int} {k : Int} {i : Nat} (h : Spot l k i) (hr : l.Pairwise (· < ·)) (hk : k ∉ l) : (l.take i ++ k :: l.drop i).Pairwise (· < ·) := by
  have hlow : ∀ x ∈ l.take i, x < k := fun x hx => by
    obtain ⟨j, hj, rfl⟩ := List.mem_iff_getElem.1 hx
    rw [List.length_take] at hj
    rw [List.getElem_take]
    have h1 := h.low j (by omega)
    rw [List.getD_eq_getElem?_getD, List.getElem?_eq_getElem (by omega)] at h1
    have h1 : l[j] ≤ k := h1
    have h2 : l[j] ≠ k := fun e => hk (by rw [← e]; exact List.getElem_mem _)
    omega
  have hhigh : ∀ x ∈ l.drop i, k < x := fun x hx => by
    obtain ⟨j, hj, rfl⟩ := List.mem_iff_getElem.1 hx
    rw [List.length_drop] at hj
    rw [List.getElem_drop]
    have h1 := h.high (by omega)
    have h2 : l.getD i 0 ≤ l.getD (i + j) 0 := by
      by_cases h0 : j = 0
      · subst h0; exact Int.le_refl _
      · exact Int.le_of_lt (ris_getD hr (by omega) (by omega))
    have h3 : l.getD (i + j) 0 = l[i + j] := by rw [List.getD_eq_getElem?_getD, List.getElem?_eq_getElem (by omega)]; rfl
    omega
  rw [List.pairwise_append, List.pairwise_cons]
  refine ⟨hr.sublist (List.take_sublist ..), ⟨hhigh, hr.sublist (List.drop_sublist ..)⟩, fun x hx y hy => ?_⟩
  have h1 := hlow x hx
  rcases List.mem_cons.1 hy with rfl | hy
  · exact h1
  · have := hhigh y hy
    omega
theorem mem_ins {l : List Int} {k : Int} {i : Nat} (x : Int) : x ∈ l.take i ++ k :: l.drop i ↔ x ∈ l ∨ x = k := by
  have h : x ∈ l ↔ x ∈ l.take i ∨ x ∈ l.drop i := by rw [← List.mem_append, List.take_append_drop]
  rw [List.mem_append, List.mem_cons, h]
  constructor
  · rintro (h | h | h)
    · exact .inl (.inl h)
    · exact .inr h
    · exact .inl (.inr h)
  · rintro ((h | h) | h)
    · exact .inl h
    · exact .inr (.inr h)
    · exact .inr (.inl h)
/-- What IndexFunc tells With. -/
theorem spot_any (l : List Int) (a : Option Addr) (cap : Nat) (k : Int) (b : Nat) (w : World) (hA : IA w a l) (hl : l.length ≤ 16) (hb : Blk w b #[.int .i64 k] 3) :
    Calls Try.prog 20 #[.slice a l.length cap, .func (.func 21) #[] #[.pointer (some ⟨b, 0, none⟩)]] w fun e w' => (∃ z, e = .returned (.int .i64 z) ∧ ((z = -1 ∧ Spot l k l.length) ∨ ∃ i : Nat, z = (i : Int) ∧ i < l.length ∧ Spot l k i)) ∧ Below w.heap.size w w' := by
  by_cases h0 : 0 < l.length
  · obtain ⟨g, o, rfl⟩ := hA.ex h0
    have hg : ∀ j, j < l.length → l[j]! = l.getD j 0 := fun j hj => by rw [getElem!_pos l j hj, List.getD_eq_getElem?_getD, List.getElem?_eq_getElem hj]; rfl
    have hP : PredAt Try.prog 21 #[.pointer (some ⟨b, 0, none⟩)] (fun x : Int => Value.int .i64 x) (fun x => decide (k < x)) w := fun W x hW => (with1_any x k b W (by rw [hW.cell hb.lt, hb.cell]; rfl)).mono fun e w' ⟨h1, h2⟩ => ⟨h1, 0, h2⟩
    refine (AnyE.slices_IndexFunc (P := Try.prog) (ρ := del_ren) { delL with } (fun x : Int => Value.int .i64 x) (fun x => decide (k < x)) 21 #[.pointer (some ⟨b, 0, none⟩)] (enters_of Try.func21 (by kernel_rfl) rfl) g o l.length cap l w hP (Nat.le_refl _) (by omega) (fun j hj => by rw [hg j hj]; exact hA.cell hj)).mono fun e w' ⟨h1, q, h2⟩ => ?_
    subst h2
    refine ⟨⟨_, h1, ?_⟩, below_draws (Below.refl _ _) q⟩
    rw [List.take_length]
    rcases idxByFrom_spec (fun (_ y : Int) => decide (k < y)) default l 0 with ⟨e1, h3⟩ | ⟨i, hi, e1, h3, h4⟩
    · refine .inl ⟨e1, Nat.le_refl _, fun j hj => ?_, fun h => absurd h (Nat.lt_irrefl _)⟩
      have h5 := of_decide_eq_false (h3 j hj)
      rw [hg j hj] at h5
      omega
    · refine .inr ⟨i, by rw [Nat.zero_add] at e1; exact e1, hi, Nat.le_of_lt hi, fun j hj => ?_, fun _ => ?_⟩
      · have h5 := of_decide_eq_false (h4 j hj)
        rw [hg j (by omega)] at h5
        omega
      · have h5 := of_decide_eq_true h3
        rw [hg i hi] at h5
        exact h5
  · obtain rfl : l = [] := List.length_eq_zero_iff.1 (by omega)
    refine (AnyE.slices_IndexFunc_empty (P := Try.prog) (ρ := del_ren) { delL with } a cap _ w).mono fun e w' ⟨h1, h2⟩ => ?_
    subst h2
    exact ⟨⟨-1, h1, .inl ⟨rfl, Nat.le_refl _, fun j hj => absurd hj (Nat.not_lt_zero _), fun h => absurd h (Nat.lt_irrefl _)⟩⟩, Below.refl _ _⟩
theorem Spot.uniq {l : List Int} {k : Int} {i j : Nat} (h1 : Spot l k i) (h2 : Spot l k j) : i = j := by
  rcases Nat.lt_trichotomy i j with h | h | h
  · have := h2.low i h
    have := h1.high (by have := h2.le; omega)
    omega
  · exact h
  · have := h1.low j h
    have := h2.high (by have := h1.le; omega)
    omega
theorem spot_ex (l : List Int) (k : Int) : ∃ i, Spot l k i := by
  refine ⟨l.findIdx fun y => decide (k < y), List.findIdx_le_length, fun j hj => ?_, fun h => ?_⟩
  · have hl : l.findIdx (fun y => decide (k < y)) ≤ l.length := List.findIdx_le_length
    have := List.not_of_lt_findIdx hj
    rw [List.getD_eq_getElem?_getD, List.getElem?_eq_getElem (by omega)]
    simpa using this
  · have := List.findIdx_getElem (xs := l) (p := fun y => decide (k < y)) (w := h)
    rw [List.getD_eq_getElem?_getD, List.getElem?_eq_getElem h]
    simpa using this
theorem spot_at {l : List Int} {a : Option Addr} {cap : Nat} {k : Int} {b : Nat} {w : World} {i : Nat} (hs : Spot l k i) (hA : IA w a l) (hl : l.length ≤ 16) (hb : Blk w b #[.int .i64 k] 3) (z : Int) (hz : z = if i < l.length then (i : Int) else -1) :
    Calls Try.prog 20 #[.slice a l.length cap, .func (.func 21) #[] #[.pointer (some ⟨b, 0, none⟩)]] w fun e w' => e = .returned (.int .i64 z) ∧ Below w.heap.size w w' := by
  refine (spot_any l a cap k b w hA hl hb).mono fun e w' ⟨⟨y, h1, h2⟩, h3⟩ => ⟨?_, h3⟩
  subst hz
  rw [h1]
  rcases h2 with ⟨rfl, h⟩ | ⟨j, rfl, hj, h⟩
  · obtain rfl := hs.uniq h
    rw [if_neg (Nat.lt_irrefl _)]
  · obtain rfl := hs.uniq h
    rw [if_pos hj]
theorem nmV_ia {w : World} {t : TypeId} {lo : Nat} {sl : Value} {l : List Int} (h : VL w t lo sl (nmV l)) : ∃ a cap, sl = .slice a l.length cap ∧ IA w a l := h.ia
/-- One number is put into a slice of its own. -/
theorem ins_new {l : List Int} {k : Int} {B c i : Nat} {a : Option Addr} {w : World} (hV : VL w 3 B (.slice a l.length c) (nmV l)) (hB : B ≤ w.heap.size) (hc : capOk (.slice a l.length c)) (hi : i ≤ l.length) (hl : l.length ≤ 16) :
    Calls Try.prog 22 #[.slice a l.length c, .int .i64 (i : Nat), .slice (some ⟨w.heap.size, 0, none⟩) 1 1] (w.alloc (.cells #[.int .i64 k] 3)) fun e w' => ∃ b c, e = .returned (.slice b (l.length + 1) c) ∧ IA w' b (l.take i ++ k :: l.drop i) ∧ Below B w w' := by
  have hb := Blk.new w #[.int .i64 k] 3
  have h1 : Below w.heap.size w (w.alloc (.cells #[.int .i64 k] 3)) := (Below.refl _ _).alloc (Nat.le_refl _) _
  have hne : ∀ g n c', (Value.slice a l.length c) = .slice (some ⟨g, 0, none⟩) n c' → w.heap.size ≠ g := fun g n c' e => by
    rcases hV with ⟨_, e2⟩ | ⟨g2, _, _, e2, h3⟩
    · rw [e2] at e; cases e
    · rw [e2] at e
      cases e
      have := h3.lt
      omega
  exact (insI_any l k B _ w.heap.size i _ (hV.below h1) (Nat.le_trans hB h1.size) hc hb hne hi (by omega)).mono fun e w' ⟨b, c', h2, h3, h4⟩ => ⟨b, c', h2, h3, (h1.mono hB).trans h4⟩
theorem boxc {w : World} {b : Nat} {v : Value} {t : TypeId} (h : Blk w b #[v] t) : w.cell? ⟨b, 0, none⟩ = some v := by rw [h.cell]; rfl
set_option maxRecDepth 100000 in
set_option maxHeartbeats 1000000 in
theorem with_any : WithC := fun l a cap k w hA hR hk => by
  have hl := hR.len
  have HC := fun w1 (h : IA w1 a l) => sclone_own a l cap w1 h (by omega)
  have HH := fun w1 (h : IA w1 a l) => has_any l a cap k w1 h hR hk
  obtain ⟨i, hS⟩ := spot_ex l k
  have hBel := Below.refl w.heap.size w
  have hr := hR.up
  clear hR
  by_cases hm : k ∈ l
  · rw [decide_eq_true hm] at HH
    have hP : Hid (∀ x, x ∈ l ↔ x ∈ l ∨ x = k) := fun x => ⟨.inl, fun h => h.elim id fun e => e ▸ hm⟩
    clear hm hS hk
    go_enter Try.func11, Try.ntmps11
    go_wp2_with (first
      | (go_at_call 19; refine (HC _ hA).mono ?_; rintro e w2 ⟨sl, rfl, hV, h2, hc⟩; clear HC; obtain ⟨a2, c2, rfl, hI2⟩ := nmV_ia hV; replace hBel := hBel.trans (h2.mono hBel.size); replace hA := hA.below h2; replace hb := hb.belowSize h2; have bc := boxc hb)
      | (go_at_call 9; refine (HH _ hA).mono ?_; rintro e w3 ⟨rfl, h3⟩; clear HH; replace hBel := hBel.trans (h3.mono hBel.size); replace hV := hV.below h3)
      | (with_reducible refine at_list ?_; refine wpList_boxI (op := ⟨some 3, _, _, _, _, _⟩) rfl _ _ rfl k rfl ?_; intro w1 h1 hs1 hb; clear hs1; replace hBel := h1; replace hA := hA.below h1; have hle := h1.size))
    go_ret
    exact ⟨l, _, _, rfl, hI2.below h3, hr, hP.out, hBel⟩
  · rw [decide_eq_false hm] at HH
    have hP : Hid (∀ x, x ∈ l.take i ++ k :: l.drop i ↔ x ∈ l ∨ x = k) := fun x => mem_ins x
    have hQ : Hid ((l.take i ++ k :: l.drop i).Pairwise (· < ·)) := hS.ris hr hm
    have hL : Hid (l.length + 1 = (l.take i ++ k :: l.drop i).length) := by
      have := hS.le
      show _ = _
      simp
      omega
    have hil := hS.le
    have HX := fun b w1 (h : IA w1 a l) (hb : Blk w1 b #[.int .i64 k] 3) z hz => spot_at (cap := cap) hS h hl hb z hz
    clear hm hS hr
    have HI := fun B c a2 w1 h1 h2 h3 => ins_new (l := l) (k := k) (B := B) (c := c) (a := a2) (w := w1) (i := i) h1 h2 h3 hil hl
    by_cases hlt : i < l.length
    · have HS := fun b w1 (h : IA w1 a l) (hb : Blk w1 b #[.int .i64 k] 3) => HX b w1 h hb (i : Int) (by rw [if_pos hlt])
      clear HX
      have hz0 : (0 : Int) ≤ (i : Int) := by omega
      go_enter Try.func11, Try.ntmps11
      go_wp2_with (first
        | (go_at_call 19; refine (HC _ hA).mono ?_; rintro e w2 ⟨sl, rfl, hV, h2, hc⟩; clear HC; obtain ⟨a2, c2, rfl, hI2⟩ := nmV_ia hV; replace hBel := hBel.trans (h2.mono hBel.size); replace hA := hA.below h2; replace hb := hb.belowSize h2; have bc := boxc hb)
        | (go_at_call 9; refine (HH _ hA).mono ?_; rintro e w3 ⟨rfl, h3⟩; clear HH; replace hBel := hBel.trans (h3.mono hBel.size); replace hV := hV.below h3; replace hA := hA.below h3; replace hb := hb.belowSize h3; replace bc := boxc hb)
        | (go_at_call 20; refine (HS _ _ hA hb).mono ?_; rintro e w4 ⟨rfl, h4⟩; clear HS; replace hBel := hBel.trans (h4.mono hBel.size); have hle2 := Nat.le_trans h2.size (Nat.le_trans h3.size h4.size); replace hV := hV.below h4; replace hb := hb.belowSize h4; replace bc := boxc hb)
        | (with_reducible refine at_list ?_; refine wpList_boxI (op := ⟨some 3, _, _, _, _, _⟩) rfl _ _ rfl k rfl ?_; intro w1 h1 hs1 hb; clear hs1; replace hBel := h1; replace hA := hA.below h1; have hle := h1.size)
        | (go_at_call 22; refine (HI _ _ _ _ hV hle2 hc).mono ?_; rintro e w5 ⟨b5, c5, rfl, hI5, h5⟩; clear HI; replace hBel := hBel.trans (h5.mono hle)))
      go_ret
      exact ⟨_, b5, c5, by rw [← hL.out]; rfl, hI5, hQ.out, hP.out, hBel⟩
    · obtain rfl : i = l.length := by omega
      have HS := fun b w1 (h : IA w1 a l) (hb : Blk w1 b #[.int .i64 k] 3) => HX b w1 h hb (-1) (by rw [if_neg hlt])
      clear HX
      go_enter Try.func11, Try.ntmps11
      go_wp2_with (first
        | (go_at_call 19; refine (HC _ hA).mono ?_; rintro e w2 ⟨sl, rfl, hV, h2, hc⟩; clear HC; obtain ⟨a2, c2, rfl, hI2⟩ := nmV_ia hV; replace hBel := hBel.trans (h2.mono hBel.size); replace hA := hA.below h2; replace hb := hb.belowSize h2; have bc := boxc hb)
        | (go_at_call 9; refine (HH _ hA).mono ?_; rintro e w3 ⟨rfl, h3⟩; clear HH; replace hBel := hBel.trans (h3.mono hBel.size); replace hV := hV.below h3; replace hA := hA.below h3; replace hb := hb.belowSize h3; replace bc := boxc hb)
        | (go_at_call 20; refine (HS _ _ hA hb).mono ?_; rintro e w4 ⟨rfl, h4⟩; clear HS; replace hBel := hBel.trans (h4.mono hBel.size); have hle2 := Nat.le_trans h2.size (Nat.le_trans h3.size h4.size); replace hV := hV.below h4; replace hb := hb.belowSize h4; replace bc := boxc hb)
        | (with_reducible refine at_list ?_; refine wpList_boxI (op := ⟨some 3, _, _, _, _, _⟩) rfl _ _ rfl k rfl ?_; intro w1 h1 hs1 hb; clear hs1; replace hBel := h1; replace hA := hA.below h1; have hle := h1.size)
        | (go_at_call 22; refine (HI _ _ _ _ hV hle2 hc).mono ?_; rintro e w5 ⟨b5, c5, rfl, hI5, h5⟩; clear HI; replace hBel := hBel.trans (h5.mono hle)))
      go_ret
      exact ⟨_, b5, c5, by rw [← hL.out]; rfl, hI5, hQ.out, hP.out, hBel⟩
theorem VS.holds {α : Type} [Inhabited α] {enc : α → Value} {w : World} {t : TypeId} {g cap : Nat} {l : List α} (h : VS w t g cap (l.map enc)) : Go.Sort.Holds enc w g 0 l.toArray := by
  obtain ⟨cur, fr, h1, h2, h3, h4, h5⟩ := h.out
  intro j hj
  have hj' : j < l.length := by simpa using hj
  rw [List.length_map] at h2
  refine ⟨?_, ?_⟩
  · rw [Nat.zero_add]
    refine h.cell j _ ?_
    rw [List.getElem?_map, List.getElem?_eq_getElem hj', getElem!_pos l.toArray j hj]
    simp
  · rw [Nat.zero_add]
    simp only [World.frozen?, h1]
    rcases h4 with h4 | h4
    · rw [h4]; simp
    · simp; intro h; omega
theorem VS.put {α : Type} [Inhabited α] {enc : α → Value} {w : World} {t : TypeId} {g cap n : Nat} {l l' : List α} (h : VS w t g cap (l.map enc)) (hl : l'.length = l.length) : VS (Go.Sort.putRow enc (Go.Sort.ahead w n) g 0 l'.toArray) t g cap (l'.map enc) := by
  obtain ⟨cur, fr, h1, h2, h3, h4, h5⟩ := h.out
  rw [List.length_map] at h2
  have hh : (Go.Sort.putRow enc (Go.Sort.ahead w n) g 0 l'.toArray).heap[g]? = some (.cells (Go.Sort.putCells enc 0 l'.toArray cur) t fr) := by
    unfold Go.Sort.putRow Go.Sort.mapBlock
    show ((Go.Sort.ahead w n).heap.modify g _)[g]? = _
    have : (Go.Sort.ahead w n).heap[g]? = some (.cells cur t fr) := h1
    rw [Array.getElem?_modify, if_pos rfl, this]
    rfl
  have hz : (Go.Sort.putCells enc 0 l'.toArray cur).size = cur.size := by simp [Go.Sort.putCells]
  refine ⟨_, fr, hh, by rw [List.length_map]; omega, by rw [hz]; exact h3, by rw [hz]; exact h4, ?_⟩
  intro j v hv
  have hj := (List.getElem?_eq_some_iff.1 hv).1
  rw [List.length_map] at hj
  unfold Go.Sort.putCells
  rw [Array.getElem?_mapIdx, Array.getElem?_eq_getElem (by omega), Option.map_some, if_pos ⟨by omega, by simpa using hj⟩]
  rw [List.getElem?_map, List.getElem?_eq_getElem hj] at hv
  rw [← hv, Nat.sub_zero, getElem!_pos l'.toArray j (by simpa using hj)]
  simp
theorem below_put {α : Type} [Inhabited α] {enc : α → Value} {B g n : Nat} {w : World} {d : Array α} (hg : B ≤ g) : Below B w (Go.Sort.putRow enc (Go.Sort.ahead w n) g 0 d) := by
  refine ⟨rfl, rfl, rfl, Nat.le_of_eq (Go.Sort.size_putRow enc _ g 0 d).symm, fun k hk => ?_⟩
  unfold Go.Sort.putRow Go.Sort.mapBlock
  show ((Go.Sort.ahead w n).heap.modify g _)[k]? = _
  rw [Array.getElem?_modify, if_neg (by omega)]
  rfl
/-- What DeleteFunc leaves for Without. -/
theorem delI_none (b : Nat) (w : World) : Calls Try.prog 23 #[.slice none 0 0, .func (.func 24) #[] #[.pointer (some ⟨b, 0, none⟩)]] w fun e w' => e = .returned (.slice none 0 0) ∧ w' = w := by
  have H := fun fv w => AnyE.slices_IndexFunc_empty (P := Try.prog) (ρ := del_ren) { delL with } none 0 fv w
  go_enter Try.func23, Try.ntmps23
  go_wp2_with (go_at_call 20; refine (H _ _).mono ?_; rintro e w1 ⟨rfl, h1⟩; replace h1 := h1.symm; subst h1)
  go_ret
  exact ⟨rfl, rfl⟩
theorem delI_any (l : List Int) (k : Int) (B : Nat) (sl : Value) (b : Nat) (w : World) (hV : VL w 3 B sl (nmV l)) (hb : Blk w b #[.int .i64 k] 3) (hbB : b < B) (hl : l.length ≤ 16) :
    Calls Try.prog 23 #[sl, .func (.func 24) #[] #[.pointer (some ⟨b, 0, none⟩)]] w fun e w' => ∃ a c, e = .returned (.slice a (l.filter fun x => !(x == k)).length c) ∧ IA w' a (l.filter fun x => !(x == k)) ∧ Below B w w' := by
  rcases hV with ⟨hn, rfl⟩ | ⟨g, cap, hg, rfl, hS⟩
  · obtain rfl : l = [] := List.map_eq_nil_iff.1 hn
    exact (delI_none b w).mono fun e w' ⟨h1, h2⟩ => ⟨none, 0, h1, fun i x hx => by simp at hx, by rw [h2]; exact Below.refl _ _⟩
  · have hlen : (nmV l).length = l.length := List.length_map ..
    rw [hlen]
    have hle : l.length ≤ cap := by obtain ⟨_, _, _, h2, _⟩ := hS.out; rw [hlen] at h2; exact h2
    have hP : PredAt Try.prog 24 #[.pointer (some ⟨b, 0, none⟩)] (fun x : Int => Value.int .i64 x) (fun x => x == k) w := fun W x hW => (without1_any x k b W (by rw [hW.cell hb.lt, hb.cell]; rfl)).mono fun e w' ⟨h1, h2⟩ => ⟨h1, 0, h2⟩
    have hO : PredOver Try.prog 24 #[.pointer (some ⟨b, 0, none⟩)] (fun x : Int => Value.int .i64 x) (fun x => x == k) g 0 l.toArray.size w := fun n os dk x hd => (without1_any x k b _ (by
      unfold sortWorld
      rw [Go.Sort.cell?_grow _ _ _ (by rw [Go.Sort.size_putRow]; exact hb.lt), Go.Sort.cell?_putRow_other _ _ _ _ _ _ (.inl (by show b ≠ g; omega)), Go.Sort.cell?_ahead, hb.cell]
      rfl)).mono fun e w' ⟨h1, h2⟩ => ⟨h1, 0, h2⟩
    have hD := AnyE.slices_DeleteFunc (P := Try.prog) (ρ := del_ren) delL (fun x : Int => Value.int .i64 x) (fun _ => rfl) (fun x => x == k) 24 #[.pointer (some ⟨b, 0, none⟩)] (enters_of Try.func24 (by kernel_rfl) rfl) 0 Try.zeroValue3 g 0 cap l.toArray w hP hO hS.holds (by simp; omega) (by simpa using hle)
    rw [List.size_toArray] at hD
    refine hD.mono fun e w' ⟨h1, q, h2⟩ => ?_
    subst h2
    have h3 : VS (Go.Sort.putRow (fun x : Int => Value.int .i64 x) (Go.Sort.ahead w q) g 0 ((l.filter fun x => !(x == k)) ++ List.replicate (l.length - (l.filter fun x => !(x == k)).length) 0).toArray) 3 g cap (nmV ((l.filter fun x => !(x == k)) ++ List.replicate (l.length - (l.filter fun x => !(x == k)).length) 0)) := hS.put (by
      have := List.length_filter_le (fun x => !(x == k)) l
      simp only [List.length_append, List.length_replicate]
      omega)
    refine ⟨_, _, h1, fun j x hx => ⟨g, 0, rfl, ?_⟩, below_put hg⟩
    rw [Nat.zero_add]
    refine h3.cell j _ ?_
    rw [List.getElem?_map, List.getElem?_append_left (List.getElem?_eq_some_iff.1 hx).1, hx]
    rfl
set_option maxRecDepth 100000 in
set_option maxHeartbeats 1000000 in
theorem without_any : WithoutC := fun l a cap k w hA hR hk => by
  have hl := hR.len
  have HC := fun w1 (h : IA w1 a l) => sclone_own a l cap w1 h (by omega)
  have HD := fun B sl b w1 h1 h3 h4 => delI_any l k B sl b w1 h1 h3 h4 hl
  have hBel := Below.refl w.heap.size w
  have hr := hR.up.sublist (List.filter_sublist (p := fun x => !(x == k)) (l := l))
  have hP : Hid (∀ x, x ∈ (l.filter fun x => !(x == k)) ↔ x ∈ l ∧ x ≠ k) := fun x => by
    rw [List.mem_filter]
    simp
  clear hR hk
  generalize (l.filter fun x => !(x == k)) = m at *
  have hQ : Hid (m.Pairwise (· < ·)) := hr
  clear hr
  go_enter Try.func12, Try.ntmps12
  go_wp2_with (first
    | (go_at_call 19; refine (HC _ hA).mono ?_; rintro e w2 ⟨sl, rfl, hV, h2, hc⟩; clear HC; replace hBel := hBel.trans (h2.mono hBel.size); replace hb := hb.belowSize h2; have hlt := hlt0)
    | (go_at_call 23; refine (HD _ _ _ _ hV hb hlt).mono ?_; rintro e w5 ⟨b5, c5, rfl, hI5, h5⟩; clear HD; replace hBel := hBel.trans (h5.mono hle))
    | (with_reducible refine at_list ?_; refine wpList_boxI (op := ⟨some 3, _, _, _, _, _⟩) rfl _ _ rfl k rfl ?_; intro w1 h1 hs1 hb; have hlt0 := hb.lt; clear hs1; replace hBel := h1; replace hA := hA.below h1; have hle := h1.size))
  go_ret
  exact ⟨m, b5, c5, rfl, hI5, hQ.out, hP.out, hBel⟩
end Go.Proofs.Ytcaoibdimeajfaa
