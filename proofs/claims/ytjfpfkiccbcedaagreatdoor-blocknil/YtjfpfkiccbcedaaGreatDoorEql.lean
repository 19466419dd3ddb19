/- What All does. What Encode does. What maps.Equal and Same do. -/
import Derived.Test.YtjfpfkiccbcedaaGreatDoorApr
import Derived.RangeFuncNested
import Derived.RangeFuncBound
import Derived.RangeFuncCalls
import Derived.RangeFuncLeaves
import Derived.Shelf.Abstract
import Derived.Shelf.RegionOpen
import Derived.OwnWalkIn
import Derived.TacticsInMore
import Derived.LoopNIn
import Derived.LoopIn
namespace Go.Proofs.YtjfpfkiccbcedaaGreatDoor
open Go Go.RowKit Go.Maps
theorem getM_at {m : List KV} (h : Ris m) {p : KV} (hp : p ∈ m) : getM m p.1 = some p.2 := by
  unfold getM
  induction m with
  | nil => cases hp
  | cons q r ih =>
    rw [List.find?_cons]
    rcases List.mem_cons.1 hp with e | hr
    · subst e
      simp
    · have hne : (q.1 == p.1) = false := by
        rw [beq_eq_false_iff_ne]
        intro e
        have := (List.pairwise_cons.1 h).1 p hr
        rw [e, Go.WideAt.bytes_irrefl] at this
        cases this
      rw [hne]
      exact ih (List.pairwise_cons.1 h).2 hr
end Go.Proofs.YtjfpfkiccbcedaaGreatDoor
namespace Go.Proofs.YtjfpfkiccbcedaaGreatDoor
open Go Go.RowKit Go.Maps Go.Shelf
attribute [local go_sem] Oper.semAt_some
theorem Blk.turn {w w' : World} {b : Nat} {c : Array Value} {t : TypeId} {row : Option Nat} (h : Blk w b c t) (hg : w.grownBy w' row) (hr : ∀ r, row = some r → ∃ o : Obj, w.heap[r]? = some o ∧ o.isCells = false) : Blk w' b c t := h.grown hg (fun e => by
  obtain ⟨o, ho, hc⟩ := hr b e.symm
  rw [h.out] at ho
  cases ho
  cases hc)
end Go.Proofs.YtjfpfkiccbcedaaGreatDoor
namespace Go.Proofs.YtjfpfkiccbcedaaGreatDoor
open Go Go.RowKit Go.Maps
theorem Blk.one {w : World} {b : Nat} {v : Value} {t : TypeId} (h : Blk w b #[v] t) : w.cell? ⟨b, 0, none⟩ = some v := h.cell 0
theorem ris_ne {p q : KV} (h : bytesBefore p.1 q.1 = true) : p ≠ q := fun e => by
  subst e
  rw [Go.WideAt.bytes_irrefl] at h
  cases h
theorem ris_sub_len : ∀ (m2 m1 : List KV), Ris m1 → Ris m2 → (∀ p ∈ m1, p ∈ m2) → m1.length ≤ m2.length
  | [], m1, _, _, h => by
    cases m1 with
    | nil => simp
    | cons p r => exact absurd (h p (List.mem_cons_self ..)) (by simp)
  | q :: r2, [], _, _, _ => by simp
  | q :: r2, p :: r1, h1, h2, h => by
    have h1' := List.pairwise_cons.1 h1
    have h2' := List.pairwise_cons.1 h2
    by_cases e : p = q
    · have := ris_sub_len r2 r1 h1'.2 h2'.2 (fun x hx => by
        rcases List.mem_cons.1 (h x (List.mem_cons_of_mem _ hx)) with e2 | hx2
        · exact absurd (e.trans e2.symm) (ris_ne (h1'.1 x hx))
        · exact hx2)
      simp
      exact this
    · have hp : p ∈ r2 := (List.mem_cons.1 (h p (List.mem_cons_self ..))).resolve_left e
      have hqp := h2'.1 p hp
      have := ris_sub_len r2 (p :: r1) h1 h2'.2 (fun x hx => by
        rcases List.mem_cons.1 (h x hx) with e2 | hx2
        · subst e2
          rcases List.mem_cons.1 hx with e3 | hx3
          · exact absurd e3.symm e
          · have h5 := Go.WideShapes.bytes_trans _ _ _ hqp (h1'.1 x hx3)
            rw [Go.WideAt.bytes_irrefl] at h5
            cases h5
        · exact hx2)
      exact Nat.le_trans this (by simp)
theorem ris_sub_eq : ∀ (m1 m2 : List KV), Ris m1 → Ris m2 → m1.length = m2.length → (∀ p ∈ m1, p ∈ m2) → m1 = m2
  | [], m2, _, _, hl, _ => by
    cases m2 with
    | nil => rfl
    | cons q r => simp at hl
  | p :: r1, [], _, _, hl, _ => by simp at hl
  | p :: r1, q :: r2, h1, h2, hl, h => by
    have h1' := List.pairwise_cons.1 h1
    have h2' := List.pairwise_cons.1 h2
    by_cases e : p = q
    · subst e
      rw [ris_sub_eq r1 r2 h1'.2 h2'.2 (by simpa using hl) (fun x hx => by
        rcases List.mem_cons.1 (h x (List.mem_cons_of_mem _ hx)) with e2 | hx2
        · exact absurd e2.symm (ris_ne (h1'.1 x hx))
        · exact hx2)]
    · have hp : p ∈ r2 := (List.mem_cons.1 (h p (List.mem_cons_self ..))).resolve_left e
      have hqp := h2'.1 p hp
      have := ris_sub_len r2 (p :: r1) h1 h2'.2 (fun x hx => by
        rcases List.mem_cons.1 (h x hx) with e2 | hx2
        · subst e2
          rcases List.mem_cons.1 hx with e3 | hx3
          · exact absurd e3.symm e
          · have h5 := Go.WideShapes.bytes_trans _ _ _ hqp (h1'.1 x hx3)
            rw [Go.WideAt.bytes_irrefl] at h5
            cases h5
        · exact hx2)
      simp at hl this
      omega
theorem getM_mem {m : List KV} {k v : List UInt8} (h : getM m k = some v) : (k, v) ∈ m := by
  unfold getM at h
  cases hf : m.find? (fun p => p.1 == k) with
  | none => rw [hf] at h; cases h
  | some p =>
    rw [hf] at h
    have h1 := List.find?_some hf
    have h2 := List.mem_of_find?_eq_some hf
    have e : p = (k, v) := Prod.ext (by simpa using h1) (by simpa using h)
    rw [← e]
    exact h2
/-- What was looked at is there. -/
def GoodTo (m1 m2 : List KV) (left : Lit → Bool) : Prop := ∀ p ∈ m1, left (.string p.1) = false → getM m2 p.1 = some p.2
theorem good_all {m1 m2 : List KV} {left : Lit → Bool} (h : GoodTo m1 m2 left) (hl : ∀ k, left k = false) (h1 : Ris m1) (h2 : Ris m2) (hn : m1.length = m2.length) : m1 = m2 :=
  ris_sub_eq m1 m2 h1 h2 hn (fun p hp => getM_mem (h p hp (hl _)))
theorem good_bad {m1 m2 : List KV} {k v : List UInt8} (h : getM m1 k = some v) (hb : getM m2 k ≠ some v) : m1 ≠ m2 := fun e => hb (by rw [← e]; exact h)
theorem at_get {m : List KV} {k : List UInt8} {y : DataW Unit} (h : ∀ zd, (dm m).atKey (.string k) zd = y) : ∃ v, getM m k = some v ∧ y = .lit (.string v) := by
  have h1 := Maps.has_true_of_atKey h
  rw [dm_has] at h1
  obtain ⟨v, hv⟩ := Option.isSome_iff_exists.1 h1
  refine ⟨v, hv, ?_⟩
  have := h (.lit (.string []))
  rw [dm_at, hv] at this
  exact this.symm
theorem good_start (m1 m2 : List KV) (h1 : Ris m1) : GoodTo m1 m2 (Maps.has (dm m1)) := fun p hp hl => by
  rw [dm_has, getM_at h1 hp] at hl
  cases hl
theorem good_step {m1 m2 : List KV} {left : Lit → Bool} {k v : List UInt8} (h : GoodTo m1 m2 left) (hr : Ris m1) (h1 : getM m1 k = some v) (h2 : getM m2 k = some v) : GoodTo m1 m2 (fun z => left z && !z.sameKey (.string k)) := fun p hp hl => by
  simp only [Bool.and_eq_false_iff] at hl
  rcases hl with hl | hl
  · exact h p hp hl
  · have e : p.1 = k := by simpa [Lit.sameKey] using hl
    have h3 := getM_at hr hp
    rw [e, h1] at h3
    rw [e, h2, Option.some.inj h3]
set_option maxHeartbeats 1000000 in
set_option maxRecDepth 100000 in
theorem equal_any (b1 b2 : Nat) (m1 m2 : List KV) (w : World) (h1 : MB w b1 m1) (h2 : MB w b2 m2) :
    Calls Tryz.prog 117 #[.map (some b1), .map (some b2)] w fun e w' => e = .returned (.bool (decide (m1 = m2))) ∧ Below w.heap.size w w' := by
  have h1' : w.ownsMap Tryz.prog 9 hld b1 m1.length (dm m1) := h1
  have hr1 := h1.ris K9
  have hr2 := h2.ris K9
  have hb2 := h2.lt
  by_cases hsz : m1.length = m2.length
  · generalize hres : decide (m1 = m2) = res
    have RES : Hid (decide (m1 = m2) = res) := hres
    clear hres
    have HSZ : Hid (m1.length = m2.length) := hsz
    have hszb : ((m1.length : Int) != (m2.length : Int)) = false := by rw [hsz]; simp
    clear hsz
    go_enter Tryz.func117, Tryz.ntmps117
    go_wp2_with (first
      | (at_range; refine wpList_range_own _ rfl _ 94 rfl 9 106 K9 Tryz.underlying94 hld b1 m1.length _ rfl h1' ?_; intro w0 hrg0 hg0 hs0; clear hs0)
      | (with_reducible refine at_list ?_; first
        | (refine wpList_lenM (o := ⟨some 10, _, _, _, _, _⟩) rfl _ rfl b1 m1 rfl h1 ?_)
        | (refine wpList_lenM (o := ⟨some 12, _, _, _, _, _⟩) rfl _ rfl b2 m2 rfl h2 ?_)))
    go_frame
    have hB0 : Below w.heap.size w w0 := ⟨hg0.os, hg0.tape, hg0.output, hg0.size, fun k hk => hg0.block k hk (by simp)⟩
    go_loopw [16] (fun _ wr => ∃ (left : Lit → Bool) (cnt : Nat), wr.ranges Tryz.prog 9 hld b1 w.heap.size m1.length (dm m1) left cnt ∧ MB wr b2 m2 ∧ Below w.heap.size w wr ∧ Hid (GoodTo m1 m2 left))
      (fun _ wr => wr.rangeLeft b1 w.heap.size)
    case atStart => exact ⟨_, _, hrg0, h2.below hB0, hB0, good_start m1 m2 hr1⟩
    case round =>
      obtain ⟨left, cnt, hrg, h2r, hBr, G⟩ := hrel
      go_wp2_with (first
        | (at_next; refine wpList_next_ranges _ rfl _ rfl 9 K9 hld encStr hv (fun key kl h => invK h) (fun v y h => invV h) b1 w.heap.size m1.length _ _ _ rfl hrg ?_ ?_))
      · intro hc0 hl0
        go_wp2
        go_ret
        exact ⟨by rw [← RES.out, decide_eq_true (good_all G.out hl0 hr1 hr2 HSZ.out)]; rfl, hBr⟩
      · intro x c kl yd yp w1 cnt1 hkey hlx hv1 hat hrg1 hlt hg1 hs1 hen
        clear hs1
        obtain ⟨x', ex, rfl, hxl⟩ := Maps.keyOf_str Tryz.underlying9 hkey
        obtain rfl : x = x' := encStr_inj ex
        obtain ⟨v, hgv, hyv⟩ := at_get hat
        obtain ⟨c', ec, ey, hcl⟩ := hld_inv hv1
        obtain rfl : c = c' := by simpa using ec
        simp only [Prod.mk.injEq] at ey
        rw [ey.1] at hyv
        simp only [DataW.lit.injEq, Lit.string.injEq] at hyv
        subst hyv
        clear hv1 ey ex ec hlx hat
        have hBr1 : Below w.heap.size w w1 := hBr.grown hg1 hBr.size (fun k e => by have := Option.some.inj e; omega)
        have h21 : MB w1 b2 m2 := h2r.kept hg1 (fun e => by have := Option.some.inj e; omega)
        have tok1 : True := trivial
        have HG : Hid (getM m1 x = some c) := hgv
        clear hgv
        cases hg2x : getM m2 x with
        | none =>
          have hbad : Hid (m1 ≠ m2) := good_bad HG.out (by rw [hg2x]; simp)
          go_wp2_with (with_reducible refine at_list ?_; first
            | (refine wpList_lookM (o := ⟨some 24, _, _, _, _, _⟩) rfl _ _ rfl b2 m2 rfl h23 x rfl hxl ?_; rw [hg2x])
            | (refine wpList_allocRow (op := ⟨some 6, _, _, _, _, _⟩) rfl _ rfl _ zHeld.1 ?_; intro w2 hw2 hs2 hb2; replace hs2 := hs2.symm)
            | (have tk := tok1; refine wpList_storeHeld (op := ⟨none, _, _, _, _, _⟩) rfl _ _ rfl w1.heap.size rfl c rfl _ hb2 ?_; intro w3 hg3 hs3 hb3 c3; replace hs3 := hs3.symm; clear tok1; have hB3 : Below w1.heap.size w1 w3 := hw2.trans (below_of_grown hg3 (Nat.le_refl _) hw2.size); have h23 : MB w3 b2 m2 := h21.below hB3)
            | (refine wpList_allocRow (op := ⟨some 7, _, _, _, _, _⟩) rfl _ rfl _ zHeld.1 ?_; intro w4 hw4 hs4 hb4; replace hs4 := hs4.symm; have c4 : w4.cell? ⟨w3.heap.size, 0, none⟩ = some (.string ⟨#[]⟩) := hb4.one; have f4 := hb4.frozen 0))
          go_ret
          have hB5 : Below w1.heap.size w1 (w4.setCell ⟨w3.heap.size, 0, none⟩ (.string ⟨#[]⟩)) := hB3.trans ((hw4.mono hB3.size).trans (below_of_grown (grown_setCell _ _ _ _) hB3.size (Nat.le_trans hB3.size hw4.size)))
          exact ⟨by rw [← RES.out, decide_eq_false hbad.out]; rfl, hBr1.trans (hB5.mono hBr1.size)⟩
        | some v2 =>
          by_cases hvc : c = v2
          · subst hvc
            have hstep := good_step G.out hr1 HG.out hg2x
            have HSt : Hid (GoodTo m1 m2 (fun z => left z && !z.sameKey (.string x))) := hstep
            clear hstep
            go_wp2_with (with_reducible refine at_list ?_; first
              | (refine wpList_lookM (o := ⟨some 24, _, _, _, _, _⟩) rfl _ _ rfl b2 m2 rfl h23 x rfl hxl ?_; rw [hg2x])
              | (refine wpList_allocRow (op := ⟨some 6, _, _, _, _, _⟩) rfl _ rfl _ zHeld.1 ?_; intro w2 hw2 hs2 hb2; replace hs2 := hs2.symm)
              | (have tk := tok1; refine wpList_storeHeld (op := ⟨none, _, _, _, _, _⟩) rfl _ _ rfl w1.heap.size rfl c rfl _ hb2 ?_; intro w3 hg3 hs3 hb3 c3; replace hs3 := hs3.symm; clear tok1; have hB3 : Below w1.heap.size w1 w3 := hw2.trans (below_of_grown hg3 (Nat.le_refl _) hw2.size); have h23 : MB w3 b2 m2 := h21.below hB3)
              | (refine wpList_allocRow (op := ⟨some 7, _, _, _, _, _⟩) rfl _ rfl _ zHeld.1 ?_; intro w4 hw4 hs4 hb4; replace hs4 := hs4.symm; have hc4 := hb3.belowSize hw4)
              | (refine wpList_storeHeld (op := ⟨none, _, _, _, _, _⟩) rfl _ _ rfl w3.heap.size rfl c rfl _ hb4 ?_; intro w5 hg5 hs5 hb5 c5; replace hs5 := hs5.symm; have hc5 := hc4.grown hg5 (fun e => absurd (Option.some.inj e) (Nat.ne_of_lt hb3.lt)); have c6 : w5.cell? ⟨w1.heap.size, 0, none⟩ = some (.string ⟨c.toArray⟩) := hc5.one; have hB5 : Below w1.heap.size w1 w5 := hB3.trans ((hw4.mono hB3.size).trans (below_of_grown hg5 hB3.size (Nat.le_trans hB3.size hw4.size)))))
            have hrg5 := hrg1.kept (row := none) (grown_of_below hB5) (by simp) (by simp)
            exact ⟨⟨_, cnt1, hrg5, h21.below hB5, hBr1.trans (hB5.mono hBr1.size), HSt⟩, by rw [hrg5.left_eq, hrg.left_eq]; exact hlt⟩
          · have hbad : Hid (m1 ≠ m2) := good_bad HG.out (by rw [hg2x]; intro e; exact hvc (Option.some.inj e).symm)
            have hvb : (c == v2) = false := by rw [beq_eq_false_iff_ne]; exact hvc
            go_wp2_with (with_reducible refine at_list ?_; first
              | (refine wpList_lookM (o := ⟨some 24, _, _, _, _, _⟩) rfl _ _ rfl b2 m2 rfl h23 x rfl hxl ?_; rw [hg2x])
              | (refine wpList_allocRow (op := ⟨some 6, _, _, _, _, _⟩) rfl _ rfl _ zHeld.1 ?_; intro w2 hw2 hs2 hb2; replace hs2 := hs2.symm)
              | (have tk := tok1; refine wpList_storeHeld (op := ⟨none, _, _, _, _, _⟩) rfl _ _ rfl w1.heap.size rfl c rfl _ hb2 ?_; intro w3 hg3 hs3 hb3 c3; replace hs3 := hs3.symm; clear tok1; have hB3 : Below w1.heap.size w1 w3 := hw2.trans (below_of_grown hg3 (Nat.le_refl _) hw2.size); have h23 : MB w3 b2 m2 := h21.below hB3)
              | (refine wpList_allocRow (op := ⟨some 7, _, _, _, _, _⟩) rfl _ rfl _ zHeld.1 ?_; intro w4 hw4 hs4 hb4; replace hs4 := hs4.symm; have hc4 := hb3.belowSize hw4)
              | (refine wpList_storeHeld (op := ⟨none, _, _, _, _, _⟩) rfl _ _ rfl w3.heap.size rfl v2 rfl _ hb4 ?_; intro w5 hg5 hs5 hb5 c5; replace hs5 := hs5.symm; have hc5 := hc4.grown hg5 (fun e => absurd (Option.some.inj e) (Nat.ne_of_lt hb3.lt)); have c6 : w5.cell? ⟨w1.heap.size, 0, none⟩ = some (.string ⟨c.toArray⟩) := hc5.one; have hB5 : Below w1.heap.size w1 w5 := hB3.trans ((hw4.mono hB3.size).trans (below_of_grown hg5 hB3.size (Nat.le_trans hB3.size hw4.size)))))
            go_ret
            exact ⟨by rw [← RES.out, decide_eq_false hbad.out]; rfl, hBr1.trans (hB5.mono hBr1.size)⟩
  · have hne : (m1.length : Int) ≠ (m2.length : Int) := fun e => hsz (by exact_mod_cast e)
    have hszb : ((m1.length : Int) != (m2.length : Int)) = true := by simpa using hne
    have RES : Hid (decide (m1 = m2) = false) := decide_eq_false (fun e => hsz (by rw [e]))
    rw [RES.out]
    clear hsz
    go_enter Tryz.func117, Tryz.ntmps117
    go_wp2_with (with_reducible refine at_list ?_; first
        | (refine wpList_lenM (o := ⟨some 10, _, _, _, _, _⟩) rfl _ rfl b1 m1 rfl h1 ?_)
        | (refine wpList_lenM (o := ⟨some 12, _, _, _, _, _⟩) rfl _ rfl b2 m2 rfl h2 ?_))
    go_ret
    exact ⟨rfl, Below.refl _ _⟩
set_option maxRecDepth 100000 in
theorem same_st (a b : Nat) (m1 m2 : List KV) (w : World) (h1 : ST w a m1) (h2 : ST w b m2) : Calls Tryz.prog 68 #[.pointer (some ⟨a, 0, none⟩), .pointer (some ⟨b, 0, none⟩)] w fun e w' => e = .returned (.bool (decide (m1 = m2))) ∧ Below w.heap.size w w' := by
  obtain ⟨ma, hA, hMa⟩ := h1.out
  obtain ⟨mb, hB, hMb⟩ := h2.out
  have HE := equal_any ma mb m1 m2 w.drew hMa.drew hMb.drew
  have ca := hA.one
  have cb := hB.one
  generalize decide (m1 = m2) = res at *
  go_enter Tryz.func68, Tryz.ntmps68
  go_wp2_with fail
  go_region_held3 (fun w' => w'.cell? ⟨a, 0, none⟩ = some (.map (some ma)) ∧ w'.cell? ⟨b, 0, none⟩ = some (.map (some mb))) ((go_split_ands; exact ⟨by assumption, by assumption⟩)) ((go_at_call 117; refine HE.mono ?_; rintro e w2 ⟨rfl, hw2⟩; have da := cell_keep (w := w.drew) hw2 ca; have db := cell_keep (w := w.drew) hw2 cb))
  go_wp2_with fail
  go_ret
  exact ⟨rfl, (Below.refl _ _).drew.trans hw2⟩
end Go.Proofs.YtjfpfkiccbcedaaGreatDoor
