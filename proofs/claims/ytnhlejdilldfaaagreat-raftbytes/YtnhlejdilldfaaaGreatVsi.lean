/- What NewReader, Unframe and the plain Unframe do. What a reader takes where it is known what stands there. A slice of values of one cell each that grows, or nil: what it holds, and appending to it. -/
import Derived.Test.YtnhlejdilldfaaaGreatRc
import Derived.Test.YtnhlejdilldfaaaGreatWf
import Derived.Test.YtnhlejdilldfaaaGreatBsl
import Derived.Deep.AppendSrc
namespace Go.Proofs.YtnhlejdilldfaaaGreat
open Go Go.RowKit
theorem R.bytes_good {r : R} {n : Nat} (hk : r.ok) (h : (r.bytes (n : Nat)).1.err = 0) : r.err = 0 ∧ r.pos + n ≤ r.s.length ∧ r.bytes (n : Nat) = (⟨r.s, r.pos + n, 0⟩, (r.s.drop r.pos).take n) ∧ (r.bytes (n : Nat)).2.length = n := by
  unfold R.ok at hk
  by_cases he : r.err = 0
  · unfold R.bytes at *
    rw [if_neg (by simpa using he)] at *
    have h0 : ¬ ((n : Nat) : Int) < 0 := by omega
    rw [if_neg h0] at *
    by_cases h1 : (r.s.length : Int) - r.pos < (n : Nat)
    · rw [if_pos h1] at h
      simp at h
    · rw [if_neg h1]
      refine ⟨he, by omega, ?_, ?_⟩
      · rw [he]; rfl
      · simp only [List.length_take, List.length_drop]; omega
  · rw [R.bytes_keep _ he] at h
    exact absurd h he
theorem built69 (s : List UInt8) : Tryz.prog.built 93 [(0, .string ⟨s.toArray⟩)] = some (rc s 0 0) := by kernel_rfl
set_option maxRecDepth 100000 in
set_option maxHeartbeats 400000 in
theorem newr_any (s : List UInt8) (w : World) : Calls Tryz.prog 13 #[.string ⟨s.toArray⟩] w fun e w' => e = .returned (.pointer (some ⟨w.heap.size, 0, none⟩)) ∧ Below w.heap.size w w' ∧ RD w' w.heap.size ⟨s, 0, 0⟩ := by
  go_enter Tryz.func13, Tryz.ntmps13
  go_wp2_with (with_reducible refine at_list ?_; first
    | (refine wpList_build (o := ⟨some 4, _, _, _, _, _⟩) rfl _ _ rfl (built69 s) ?_)
    | (refine wpList_boxRow (op := ⟨some 5, _, _, _, _, _⟩) rfl _ _ rfl (rc s 0 0) rfl ?_; intro w1 hw1 hs1 hb1; replace hs1 := hs1.symm))
  go_ret
  exact ⟨rfl, hw1, ⟨hb1⟩⟩
theorem extract_dropTo (l : List UInt8) (n m : Nat) (h : m = l.length) : (ByteArray.mk l.toArray).extract n m = ⟨(l.drop n).toArray⟩ := by
  subst h
  have : ((ByteArray.mk l.toArray).extract n l.length).data = (l.drop n).toArray := by
    apply Array.ext'
    simp [ByteArray.extract, ByteArray.copySlice]
    rw [List.take_of_length_le (by simp)]
  rw [show (ByteArray.mk l.toArray).extract n l.length = ⟨((ByteArray.mk l.toArray).extract n l.length).data⟩ from rfl, this]
theorem extract_drop (l : List UInt8) (n : Nat) : (ByteArray.mk l.toArray).extract n l.length = ⟨(l.drop n).toArray⟩ := extract_dropTo l n _ rfl
attribute [local go_sem] extract_drop n32_wrap64
end Go.Proofs.YtnhlejdilldfaaaGreat
namespace Go.Proofs.YtnhlejdilldfaaaGreat
open Go Go.RowKit
theorem mid_take (a b c : List UInt8) : ((a ++ (b ++ c)).drop a.length).take b.length = b := by
  rw [List.drop_left, List.take_left]
theorem R.bytes_at (a b c : List UInt8) : (⟨a ++ (b ++ c), a.length, 0⟩ : R).bytes (b.length : Nat) = (⟨a ++ (b ++ c), a.length + b.length, 0⟩, b) := by
  unfold R.bytes
  rw [if_neg (by simp), if_neg (by omega), if_neg (by simp only [List.length_append]; omega)]
  simp only [Int.toNat_natCast]
  rw [mid_take]
theorem R.number_at (a b c : List UInt8) (n : Int) (hn : n = (b.length : Nat)) (h : b.length ≤ 8) : (⟨a ++ (b ++ c), a.length, 0⟩ : R).number n = (⟨a ++ (b ++ c), a.length + b.length, 0⟩, val b) := by
  subst hn
  unfold R.number
  rw [show (⟨a ++ (b ++ c), a.length, 0⟩ : R).early (b.length : Nat) = ⟨a ++ (b ++ c), a.length, 0⟩ from if_neg (by omega), R.bytes_at]
theorem R.count_at (a c : List UInt8) (n : Nat) (m : Int) (hn : n < 4294967296) (hm : (n : Int) ≤ m) : (⟨a ++ (num n 4 ++ c), a.length, 0⟩ : R).count m = (⟨a ++ (num n 4 ++ c), a.length + 4, 0⟩, n) := by
  have hN := R.number_at a (num n 4) c 4 (by rw [num_length]; rfl) (by rw [num_length]; omega)
  rw [num_length, num_four n hn] at hN
  rw [R.count_in (by rw [hN]; omega), hN]
theorem R.text_at (a t c : List UInt8) (m : Int) (ht : t.length < 4294967296) (hm : (t.length : Int) ≤ m) : (⟨a ++ ((num t.length 4 ++ t) ++ c), a.length, 0⟩ : R).text m = (⟨a ++ ((num t.length 4 ++ t) ++ c), a.length + (4 + t.length), 0⟩, t) := by
  have hC := R.count_at a (t ++ c) t.length m ht hm
  rw [← List.append_assoc (num t.length 4) t c] at hC
  have hB := R.bytes_at (a ++ num t.length 4) t c
  rw [List.append_assoc a, ← List.append_assoc (num t.length 4) t c, List.length_append, num_length] at hB
  rw [R.text_good (by rw [hC, hB]), hC, hB, Nat.add_assoc]
theorem R.bool_at (a c : List UInt8) (b : UInt8) (h : b.toNat ≤ 1) : (⟨a ++ ([b] ++ c), a.length, 0⟩ : R).bool = (⟨a ++ ([b] ++ c), a.length + 1, 0⟩, decide (b.toNat = 1)) := by
  have hN := R.number_at a [b] c 1 rfl (by simp)
  have hv : val [b] = b.toNat := by simp [val]
  rw [hv] at hN
  rw [R.bool_in (by rw [hN]; simp; omega), hN]
  rfl
end Go.Proofs.YtnhlejdilldfaaaGreat
namespace Go.Proofs.YtnhlejdilldfaaaGreat
open Go Go.RowKit
/-- Block g holds a slice's values l, with room for cap. -/
structure VS (w : World) (t : TypeId) (g cap : Nat) (l : List Value) : Prop where
  out : ∃ (cur : Array Value) (fr : Nat × Nat), w.heap[g]? = some (.cells cur t fr) ∧ l.length ≤ cap ∧ cap ≤ cur.size ∧ (fr = (0, 0) ∨ cur.size ≤ fr.1) ∧ ∀ (j : Nat) (v : Value), l[j]? = some v → cur[j]? = some v
/-- The value sl is a slice of the values l, from block lo on, or nil where there are none. -/
def VL (w : World) (t : TypeId) (lo : Nat) (sl : Value) (l : List Value) : Prop :=
  (l = [] ∧ sl = .slice none 0 0) ∨ ∃ g cap, lo ≤ g ∧ sl = .slice (some ⟨g, 0, none⟩) l.length cap ∧ VS w t g cap l
theorem VS.lt {w : World} {t : TypeId} {g cap : Nat} {l : List Value} (h : VS w t g cap l) : g < w.heap.size := by
  obtain ⟨cur, fr, h1, _⟩ := h.out
  exact (Array.getElem?_eq_some_iff.1 h1).1
theorem VS.cell {w : World} {t : TypeId} {g cap : Nat} {l : List Value} (h : VS w t g cap l) (j : Nat) (v : Value) (hv : l[j]? = some v) : w.cell? ⟨g, j, none⟩ = some v := by
  obtain ⟨cur, fr, h1, _, _, _, h4⟩ := h.out
  simp [World.cell?, h1, h4 j v hv]
theorem VS.below {w w' : World} {t : TypeId} {g cap : Nat} {l : List Value} (h : VS w t g cap l) (hb : Below w.heap.size w w') : VS w' t g cap l := by
  obtain ⟨cur, fr, h1, hr⟩ := h.out
  exact ⟨cur, fr, by rw [hb.block g h.lt]; exact h1, hr⟩
theorem VS.grown {w w' : World} {t : TypeId} {g cap : Nat} {l : List Value} {row : Option Nat} (h : VS w t g cap l) (hb : w.grownBy w' row) (hr : some g ≠ row) : VS w' t g cap l := by
  obtain ⟨cur, fr, h1, hr'⟩ := h.out
  exact ⟨cur, fr, by rw [hb.block g h.lt hr]; exact h1, hr'⟩
theorem VS.drew {w : World} {t : TypeId} {g cap : Nat} {l : List Value} (h : VS w t g cap l) : VS w.drew t g cap l := ⟨h.out⟩
theorem VL.below {w w' : World} {t : TypeId} {lo : Nat} {sl : Value} {l : List Value} (h : VL w t lo sl l) (hb : Below w.heap.size w w') : VL w' t lo sl l := by
  rcases h with h | ⟨g, cap, h1, h2, h3⟩
  · exact .inl h
  · exact .inr ⟨g, cap, h1, h2, h3.below hb⟩
theorem VL.nil (w : World) (t : TypeId) (lo : Nat) : VL w t lo (.slice none 0 0) [] := .inl ⟨rfl, rfl⟩
section
variable {P : Program} {ops : Array Oper} {rest : List Oper} {op : Oper} {a : Act} {w : World} {Q : Exit → Act → World → Prop}
theorem run_appendVL (st ty t : TypeId) (lo : Nat) (sl : Value) (l : List Value) (hlo : lo ≤ w.heap.size) (hsl : VL w t lo sl l) (g2 c : Nat) (x : Value) (t2 : TypeId) (hx1 : x.oneCell' = true) (hb2 : Blk w g2 #[x] t2) (i : TypeInfo) (z : Value) (hz1 : z.cells.size = 1)
    (hu : P.underlying st = some (.slice t)) (hi : P.info? t = some i) (hz : i.zero = some z) (hs : i.size = 1) (hby : i.bytes ≤ 256) (hlen : l.length ≤ 1000000) :
    ∃ (w1 : World) (sl1 : Value), (Builtin.append_ #[st, st] ty #[sl, .slice (some ⟨g2, 0, none⟩) 1 c]).run P w = .ok sl1 w1 ∧ Below lo w w1 ∧ VL w1 t lo sl1 (l ++ [x]) := by
  have hsrc : Src P i.size st (.slice (some ⟨g2, 0, none⟩) 1 c) 1 [x] w :=
    Src.ofSlice w hu ⟨g2, 0, none⟩ 1 c _ (by rw [hs]; rfl) (fun j u hj => by
      rw [Addr.add_mid, Nat.zero_add, hb2.cell]
      have hjn : j = 0 := by have := (List.getElem?_eq_some_iff.1 hj).1; simp at this; exact this
      subst hjn
      simpa using hj)
      (fun u hu => by rw [List.mem_singleton.1 hu]; exact hx1)
  have hgrow : ∀ (base : Option Addr) (cap : Nat), cap < l.length + 1 → (Builtin.firstCells i.size l.length (.slice base l.length cap)).run P w.drew = .ok l.toArray w.drew →
      ∃ (w1 : World) (sl1 : Value), (Builtin.append_ #[st, st] ty #[.slice base l.length cap, .slice (some ⟨g2, 0, none⟩) 1 c]).run P w = .ok sl1 w1 ∧ Below lo w w1 ∧ VL w1 t lo sl1 (l ++ [x]) := by
    intro base cap hcap hold
    have hr := run_append_grow_src (P := P) w st st ty t i _ hu hi hz base l.length cap _ hold _ 1 _ hsrc hcap (by omega) (growslice_fits hcap (Nat.le_trans (Nat.mul_le_mul (show l.length + 1 ≤ 1000001 by omega) hby) (by decide)))
    have hge : l.length + 1 ≤ grownCap w (l.length + 1) cap t := grownCap_ge w _ _ _
    refine ⟨_, _, hr, (Below.refl lo w).drew.alloc hlo _, .inr ⟨w.heap.size, _, hlo, by rw [List.length_append]; rfl, ?_⟩⟩
    refine ⟨_, (0, 0), heap_alloc_last w.drew _, by rw [List.length_append]; exact hge, ?_, .inl rfl, ?_⟩
    · simp only [Array.size_append, List.size_toArray, List.length_append, List.length_singleton, size_zeroCells, hz1]
      omega
    · intro j v hj
      have hjl := (List.getElem?_eq_some_iff.1 hj).1
      rw [Array.getElem?_append_left (by simpa using hjl)]
      simpa using hj
  rcases hsl with ⟨rfl, rfl⟩ | ⟨g, cap, hg, rfl, hS⟩
  · exact hgrow none 0 (by simp) (run_firstCells_none (w := w.drew) i.size 0 0 0)
  · by_cases hroom : l.length + 1 ≤ cap
    · obtain ⟨cur, fr, h1, h2, h4, hfr, h5⟩ := hS.out
      have hr := run_append_room_src (P := P) w st st ty t i hu hi g 0 l.length cap _ 1 _ hsrc hroom
        (fun j hj => by
          rw [hs, Nat.mul_one, Nat.zero_add]
          simp only [World.cell?, h1]
          rw [Array.getElem?_eq_getElem (by simp at hj; omega)]; rfl)
        (fun j hj => by
          rw [hs, Nat.mul_one, Nat.zero_add]
          simp only [World.frozen?, h1]
          simp at hj
          rcases hfr with hfr | hfr
          · rw [hfr]; simp
          · simp; intro h; omega)
      rw [hs, Nat.mul_one, Nat.zero_add] at hr
      have hgr := grown_setCells g [x] l.length w
      have hset : (w.setCells g l.length [x]).heap[g]? = some (.cells (spl cur l.length [x]) t fr) := by
        simp [World.setCells, World.setCell, Array.getElem?_modify, h1, spl]
      refine ⟨_, _, hr, below_of_grown hgr hg hlo, .inr ⟨g, cap, hg, by rw [List.length_append]; rfl, ?_⟩⟩
      refine ⟨_, fr, hset, by rw [List.length_append]; exact hroom, by rw [spl_size]; exact h4, by rw [spl_size]; exact hfr, ?_⟩
      intro j v hj
      rw [spl_get _ _ _ _ (by simp; omega)]
      by_cases hjl : j < l.length
      · rw [if_neg (by simp; omega)]
        rw [List.getElem?_append_left hjl] at hj
        exact h5 j v hj
      · have hj3 := (List.getElem?_eq_some_iff.1 hj).1
        rw [List.length_append, List.length_singleton] at hj3
        obtain rfl : j = l.length := by omega
        rw [if_pos (by simp)]
        rw [List.getElem?_append_right (by omega)] at hj
        simpa using hj
    · exact hgrow (some ⟨g, 0, none⟩) cap (by omega) (run_firstCells_some w.drew i.size l.length ⟨g, 0, none⟩ l.length cap _ (by rw [hs]; simp) (fun j u hj => by
        rw [Addr.add_mid, Nat.zero_add]; exact hS.drew.cell j u hj))
theorem wpList_appendVL (hgd : op.guard = none) (x y : Operand) (st t : TypeId) (ho : op.op = .call { callee := .builtin .append, args := #[x, y], argTypes := #[st, st] })
    (lo : Nat) (sl : Value) (l : List Value) (hlo : lo ≤ w.heap.size) (hx : a.eval x = sl) (hsl : VL w t lo sl l) (g2 c : Nat) (hy : a.eval y = .slice (some ⟨g2, 0, none⟩) 1 c) (o : Value) (t2 : TypeId) (ho1 : o.oneCell' = true) (hb2 : Blk w g2 #[o] t2) (i : TypeInfo) (z : Value) (hz1 : z.cells.size = 1)
    (hu : P.underlying st = some (.slice t)) (hi : P.info? t = some i) (hz : i.zero = some z) (hs : i.size = 1) (hby : i.bytes ≤ 256) (hlen : l.length ≤ 1000000)
    (h : ∀ (w1 : World) (sl1 : Value), Below lo w w1 → VL w1 t lo sl1 (l ++ [o]) → wpList P ops Q rest (a.put op.dst sl1) w1) : wpList P ops Q (op :: rest) a w := by
  obtain ⟨w1, sl1, hr, hb, hl⟩ := run_appendVL (P := P) (w := w) st op.type t lo sl l hlo hsl g2 c o t2 ho1 hb2 i z hz1 hu hi hz hs hby hlen
  refine wpList_run hgd _ _ ?_ (h w1 sl1 hb hl)
  unfold execOp
  simp only [ho]
  simp [resolve, invoke, builtin, hx, hy, hr, Result.andThen]
end
end Go.Proofs.YtnhlejdilldfaaaGreat
