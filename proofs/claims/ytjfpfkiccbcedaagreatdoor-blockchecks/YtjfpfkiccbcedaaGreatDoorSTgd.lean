/- The bytes of a digest, and appending a string where there is room. What Sum of a digest, New and Sum do. A digest that may be new, what Write and Sum do to it. What Tagged does. -/
import Derived.Test.YtjfpfkiccbcedaaGreatDoorSWf
namespace Go.Proofs.YtjfpfkiccbcedaaGreatDoor.Sh
open Go Go.RowKit

theorem digC_one (H : S8) (fb : Nat → UInt8) (t : Nat) : (digC H fb t).all (·.oneCell') = true := by
  rw [Array.all_eq_true_iff_forall_mem]
  intro v hv
  simp only [digC, Array.mem_ofFn] at hv
  obtain ⟨i, rfl⟩ := hv
  split
  · rfl
  · split <;> rfl

theorem row8_splice (f : Nat → UInt8) (m n : Nat) (l : List UInt8) (h : n + l.length ≤ m) : spl (row8 f m) n (l.map fun b => Value.int .u8 (b.toNat : Int)) = row8 (putB f n l) m := by
  apply Array.ext_getElem?
  intro j
  rw [spl_get _ _ _ _ (by simp [row8_size]; omega)]
  simp only [List.length_map]
  by_cases h1 : n ≤ j ∧ j < n + l.length
  · rw [if_pos h1, row8_get _ _ _ (by omega), putB, if_pos h1, List.getElem?_map, List.getElem?_eq_getElem (by omega), List.getD_eq_getElem?_getD, List.getElem?_eq_getElem (by omega)]
    rfl
  · rw [if_neg h1]
    by_cases h2 : j < m
    · rw [row8_get _ _ _ h2, row8_get _ _ _ h2, putB, if_neg h1]
    · rw [row8_none _ _ _ (by omega), row8_none _ _ _ (by omega)]

/-- The byte j of a digest whose words are s. -/
def outB (s : S8) (j : Nat) : UInt8 := byteAt (s.at (j / 4)).toNat 4 (j % 4)
def outTo (s : S8) (i : Nat) : Nat → UInt8 := fun j => if j < 4 * i then outB s j else 0
theorem outTo_zero (s : S8) (m : Nat) : row8 (outTo s 0) m = row8 (fun _ => 0) m := row8_congr fun j _ => by unfold outTo; rw [if_neg (by omega)]
theorem be_length (n m : Nat) : (be n m).length = m := by simp [be]
theorem outTo_succ (s : S8) (i : Nat) : putB (outTo s i) (4 * i) (be (s.at i).toNat 4) = outTo s (i + 1) := by
  funext j
  unfold putB outTo
  rw [be_length]
  by_cases h : 4 * i ≤ j ∧ j < 4 * i + 4
  · rw [if_pos h, if_pos (by omega), List.getD_eq_getElem?_getD, outB, show j / 4 = i from by omega, show j % 4 = j - 4 * i from by omega]
    simp [be, show j - 4 * i < 4 from by omega]
  · rw [if_neg h]
    by_cases h2 : j < 4 * i
    · rw [if_pos h2, if_pos (by omega)]
    · rw [if_neg h2, if_neg (by omega)]
/-- The words behind a text that is filled up. -/
def hashAll (m : List UInt8) : S8 := hashTo (m ++ padL m.length) ((m ++ padL m.length).length / 64)
/-- THE DIGEST. -/
def digest (m : List UInt8) : List UInt8 := (List.range 32).map (outB (hashAll m))
theorem digest_length (m : List UInt8) : (digest m).length = 32 := by simp [digest]

section
variable {P : Program} {ops : Array Oper} {rest : List Oper} {op : Oper} {a : Act} {w : World} {Q : Exit → Act → World → Prop}
theorem wpList_appendStr (hgd : op.guard = none) (x y : Operand) (t tx : TypeId) (ho : op.op = .call { callee := .builtin .append, args := #[x, y], argTypes := #[t, tx] })
    (b n cap : Nat) (hx : a.eval x = .slice (some ⟨b, 0, none⟩) n cap) (l : List UInt8) (hy : a.eval y = .string ⟨l.toArray⟩)
    (e : TypeId) (i : TypeInfo) (hu : P.underlying t = some (.slice e)) (hux : P.underlying tx = some .string) (hi : P.info? e = some i) (hs : i.size = 1)
    (f : Nat → UInt8) (m : Nat) (ty : TypeId) (hb : Blk w b (row8 f m) ty) (hcap : n + l.length ≤ cap) (hm : n + l.length ≤ m)
    (h : ∀ w1 : World, w.grownBy w1 (some b) → w1.heap.size = w.heap.size → Blk w1 b (row8 (putB f n l) m) ty → wpList P ops Q rest (a.put op.dst (.slice (some ⟨b, 0, none⟩) (n + l.length) cap)) w1) :
    wpList P ops Q (op :: rest) a w := by
  have hsz : (ByteArray.mk l.toArray).size = l.length := mk_size l
  have hbc : byteCells (ByteArray.mk l.toArray) = l.map fun b => Value.int .u8 (b.toNat : Int) := by simp [byteCells]
  have hsrc := Src.ofString (P := P) w hux (ByteArray.mk l.toArray)
  rw [hsz, hbc] at hsrc
  have hr := run_append_room_src (P := P) w t tx op.type e i hu hi b 0 n cap (.string ⟨l.toArray⟩) l.length (l.map fun b => Value.int .u8 (b.toNat : Int)) (by rw [hs]; exact hsrc) hcap
    (fun j hj => by rw [hs, Nat.mul_one, Nat.zero_add]; exact (hb.there n l.length (by rw [row8_size]; omega) j (by simpa using hj)).1)
    (fun j hj => by rw [hs, Nat.mul_one, Nat.zero_add]; exact (hb.there n l.length (by rw [row8_size]; omega) j (by simpa using hj)).2)
  rw [hs, Nat.mul_one, Nat.zero_add] at hr
  have hb2 := hb.setCells (l.map fun b => Value.int .u8 (b.toNat : Int)) n
  rw [row8_splice f m n l hm] at hb2
  refine wpList_run hgd _ _ ?_ (h _ (grown_setCells _ _ _ _) (size_setCells _ _ _ _) hb2)
  unfold execOp
  simp only [ho]
  simp [resolve, invoke, builtin, hx, hy, hr, Result.andThen]
end
end Go.Proofs.YtjfpfkiccbcedaaGreatDoor.Sh
namespace Go.Proofs.YtjfpfkiccbcedaaGreatDoor.Sh
open Go.RowKit
theorem wrap64_n32 (x : BitVec 32) : IntKind.u64.wrap (n32 x) = n32 x := by
  rw [IntKind.wrap_u64]; have := n32_nonneg x; have := n32_lt x; omega
attribute [local go_sem] wrap64_n32
def S0 : S8 := ⟨0, 0, 0, 0, 0, 0, 0, 0⟩
theorem z49 : (∀ w, (zeroValue 191).run Tryz.prog w = .ok (.agg (digC S0 (fun _ => 0) 0)) w) ∧ (Tryz.prog.info? 191).map (·.size) = some 73 := zero_of_info (by kernel_rfl)
theorem i49 (H : S8) (fb : Nat → UInt8) (t : Nat) : (Tryz.prog.info? 191).map (·.size) = some (digC H fb t).size := by rw [digC_size]; exact z49.2

set_option maxRecDepth 100000 in
set_option maxHeartbeats 1000000 in
theorem dsum_any (b : Nat) (m : List UInt8) (H : S8) (fb : Nat → UInt8) (w : World) (hG : Glob w) (hm : m.length ≤ 549755813888)
    (hb : Blk w b (digC H fb m.length) 191) (hH : m.length = 0 ∨ H = hashTo m (m.length / 64)) (ht : ∀ j, j < m.length % 64 → fb j = m.getD (64 * (m.length / 64) + j) 0) :
    Calls Tryz.prog 88 #[.pointer (some ⟨b, 0, none⟩)] w fun e w' => e = .returned (.string ⟨(digest m).toArray⟩) ∧ Below w.heap.size w w' := by
  have HH : Hid (m.length = 0 ∨ H = hashTo m (m.length / 64)) := hH
  clear hH
  have HT : Hid (∀ j, j < m.length % 64 → fb j = m.getD (64 * (m.length / 64) + j) 0) := ht
  clear ht
  have hpl : (padL m.length).length ≤ 128 := by unfold padL noughts; simp [be_length]; omega
  obtain ⟨i5', hi5, hz5, hs5, hb5⟩ := info5
  go_enter Tryz.func88, Tryz.ntmps88
  go_wp2_with (first
    | (go_at_call 129; refine (ending_any _ _ (by omega)).mono ?_; rintro e w3 ⟨rfl, hw3⟩)
    | (go_at_call 86; refine (write_any w.heap.size m (padL m.length) H fb _ (((hG.belowSize hw1).grown hg2 (by have := hG.two; omega)).belowSize hw3) hG.two (by omega) (hb2.belowSize hw3) HH.out HT.out).mono ?_; rintro e w4 ⟨rfl, ⟨H', fb', hD⟩, hg4⟩)
    | (with_reducible refine at_list ?_; first
      | (refine wpList_loadRow (op := ⟨some 11, _, _, _, _, _⟩) rfl _ _ rfl b rfl _ _ hb _ Tryz.underlying191 rfl (i49 _ _ _) ?_)
      | (refine wpList_allocRow (op := ⟨some 3, _, _, _, _, _⟩) rfl _ rfl _ z49.1 ?_; intro w1 hw1 hs1 hb1)
      | (refine wpList_storeRow rfl _ _ _ rfl w.heap.size _ rfl rfl _ _ hb1 (by rw [digC_size, digC_size]) (i49 _ _ _) (digC_one _ _ _) ?_; intro w2 hg2 hs2 hb2)
      | (refine wpList_loadCell (op := ⟨some 15, _, _, _, _, _⟩) rfl _ _ rfl b 72 rfl _ _ ((hb.belowSize hw1).grown hg2 (by simp; have := hb.lt; omega)) _ Tryz.underlying42 rfl _ (digC_taken _ _ _) ?_)
      | (refine wpList_makeB rfl _ _ _ rfl 0 32 rfl rfl (by omega) (by omega) _ _ Tryz.underlying57 hi5 hz5 hs5 hb5 ?_; intro w5 hw5 hs5' hb5')
      | (refine wpList_loadPart (op := ⟨some 20, _, _, _, _, _⟩) rfl _ _ rfl w.heap.size 0 8 rfl _ _ (hD.blk.belowSize hw5) (by rw [digC_size]; omega) _ Tryz.underlying188 rfl z40.2 ?_; rw [digC_words])))
  have hB2 : Below w.heap.size w w2 := hw1.trans (below_of_grown hg2 (Nat.le_refl _) (by omega))
  have hB3 : Below w.heap.size w w3 := hB2.trans (hw3.mono hB2.size)
  have hB4 : Below w.heap.size w w4 := hB3.trans (below_of_grown hg4 (Nat.le_refl _) hB3.size)
  have hB5 : Below w.heap.size w w5 := hB4.trans (hw5.mono hB4.size)
  have hgs : w.heap.size ≤ w4.heap.size := hB4.size
  have HW : Hid (hashAll m = H') := hD.words.symm
  have hsz : w5.heap.size = w4.heap.size + 1 := hs5'
  generalize w4.heap.size = G at *
  clear hB2 hB3 hB4 hw1 hg2 hw3 hg4 hw5 hD hb2 hb1 hs1 hs2 hs5' hb HH HT hG hpl hz5 hb5
  go_loopw [4, 21] (fun v4 v21 wl => ∃ i : Nat, i ≤ 8 ∧ v21 = .int .i64 i ∧ v4 = .slice (some ⟨G, 0, none⟩) (4 * i) 32 ∧ Below w.heap.size w wl ∧ G < wl.heap.size ∧ Blk wl G (row8 (outTo H' i) 32) 5) (fun _ v21 _ => 8 - (intOf v21).toNat)
  case atStart => exact ⟨0, by omega, rfl, rfl, hB5, by omega, by rw [outTo_zero]; exact hb5'⟩
  case round =>
    obtain ⟨i, hi, rfl, rfl, hB, hz, hbk⟩ := hrel
    clear hB5 hsz hb5'
    by_cases hlt : i < 8
    · go_wp2_with (first
        | (go_at_call 87; refine (number_any (H'.at i).toNat 4 _ (by omega) (by omega)).mono ?_; rintro e w6 ⟨rfl, hw6⟩)
        | (with_reducible refine at_list ?_; first
          | (refine wpList_indexW rfl _ _ _ rfl H'.at 8 rfl i rfl _ Tryz.underlying188 _ Tryz.underlying187 rfl i38 hlt ?_)
          | (refine wpList_appendStr rfl _ _ _ _ rfl G (4 * i) 32 rfl (be (H'.at i).toNat 4) rfl _ _ Tryz.underlying57 Tryz.underlying9 hi5 hs5 _ _ _ (hbk.below hw6 hz) (by rw [be_length]; omega) (by rw [be_length]; omega) ?_; intro w7 hg7 hs7 hb7; rw [outTo_succ] at hb7; rw [be_length])))
      go_roundw
      case rel => exact ⟨i + 1, by omega, by go_num, by rw [show 4 * (i + 1) = 4 * i + 4 from by omega], (hB.trans (hw6.mono hB.size)).trans (below_of_grown hg7 hgs (by have := hB.size; have := hw6.size; omega)), by have := hw6.size; omega, hb7⟩
      case measure => simp [intOf]; omega
    · have hbk2 : Blk wr G (row8 (outTo H' 8) 32) 5 := by
        rw [show i = 8 from by omega] at hbk
        exact hbk
      clear hbk
      go_wp2_with (with_reducible refine at_list ?_; first
        | (refine wpList_bytesString rfl _ _ _ rfl G (4 * i) 32 rfl _ Tryz.underlying57 Tryz.underlying5 Tryz.underlying9 _ _ _ hbk2 (by omega) ?_))
      go_ret
      refine ⟨?_, hB⟩
      show Ending.returned (.string (strF (outTo H' 8) (4 * i))) = _
      rw [show 4 * i = 32 from by omega]
      have e : (List.range 32).map (outTo H' 8) = digest m := by
        unfold digest
        rw [HW.out]
        apply List.map_congr_left
        intro j hj
        unfold outTo
        rw [if_pos (by simp at hj; omega)]
      unfold strF
      rw [e]

theorem wpList_build0 {P : Program} {ops : Array Oper} {rest : List Oper} {op : Oper} {a : Act} {w : World} {Q : Exit → Act → World → Prop} (hgd : op.guard = none) (t : TypeId) (ho : op.op = .build t #[]) (c : Array Value) (hb : P.built t [] = some c)
    (h : wpList P ops Q rest (a.put op.dst (.agg c)) w) : wpList P ops Q (op :: rest) a w :=
  wpList_build hgd t #[] ho (by rw [Array.map_empty, Array.toList_empty, hb]; rfl) (by
    rw [Array.map_empty, Array.toList_empty, hb]; exact h)
theorem built49 : Tryz.prog.built 191 [] = some (digC S0 (fun _ => 0) 0) := by kernel_rfl
set_option maxRecDepth 100000 in
set_option maxHeartbeats 400000 in
theorem new_any (w : World) : Calls Tryz.prog 85 #[] w fun e w' => e = .returned (.pointer (some ⟨w.heap.size, 0, none⟩)) ∧ Below w.heap.size w w' ∧ w'.heap.size = w.heap.size + 1 ∧ Blk w' w.heap.size (digC S0 (fun _ => 0) 0) 191 := by
  go_enter Tryz.func85, Tryz.ntmps85
  go_wp2_with (with_reducible refine at_list ?_; first
    | (refine wpList_build0 rfl _ rfl _ built49 ?_)
    | (refine wpList_boxRow rfl _ _ rfl (digC S0 (fun _ => 0) 0) rfl ?_; intro w1 hw1 hs1 hb1))
  go_ret
  exact ⟨rfl, hw1, hs1, hb1⟩

end Go.Proofs.YtjfpfkiccbcedaaGreatDoor.Sh
namespace Go.Proofs.YtjfpfkiccbcedaaGreatDoor.Sh
open Go.RowKit
/-- Block b holds a digest that has taken m in, or a new one. -/
structure DigZ (w : World) (b : Nat) (m : List UInt8) : Prop where
  out : ∃ (H : S8) (fb : Nat → UInt8), Blk w b (digC H fb m.length) 191 ∧ (m.length = 0 ∨ H = hashTo m (m.length / 64)) ∧ ∀ j, j < m.length % 64 → fb j = m.getD (64 * (m.length / 64) + j) 0
theorem DigZ.below {w w' : World} {b : Nat} {m : List UInt8} (h : DigZ w b m) (hb : Below w.heap.size w w') : DigZ w' b m := by
  obtain ⟨H, fb, h1, h2⟩ := h.out
  exact ⟨H, fb, h1.belowSize hb, h2⟩
theorem DigZ.new {w : World} {b : Nat} (h : Blk w b (digC S0 (fun _ => 0) 0) 191) : DigZ w b [] := by
  refine ⟨S0, fun _ => 0, ?_, ?_, ?_⟩
  · rw [List.length_nil]; exact h
  · exact .inl List.length_nil
  · intro j hj; simp at hj
theorem writeZ (b : Nat) (m s : List UInt8) (w : World) (hG : Glob w) (hb0 : 2 ≤ b) (hm : m.length + s.length ≤ 1099511627776) (h : DigZ w b m) :
    Calls Tryz.prog 86 #[.pointer (some ⟨b, 0, none⟩), .string ⟨s.toArray⟩] w fun e w' => e = .returned (.tuple #[]) ∧ DigZ w' b (m ++ s) ∧ w.grownBy w' (some b) := by
  obtain ⟨H, fb, h1, h2, h3⟩ := h.out
  refine (write_any b m s H fb w hG hb0 hm h1 h2 h3).mono ?_
  rintro e w' ⟨he, ⟨H', fb', hD⟩, hg⟩
  exact ⟨he, ⟨H', fb', hD.blk, .inr hD.words, hD.tail⟩, hg⟩
theorem dsumZ (b : Nat) (m : List UInt8) (w : World) (hG : Glob w) (hm : m.length ≤ 549755813888) (h : DigZ w b m) :
    Calls Tryz.prog 88 #[.pointer (some ⟨b, 0, none⟩)] w fun e w' => e = .returned (.string ⟨(digest m).toArray⟩) ∧ Below w.heap.size w w' := by
  obtain ⟨H, fb, h1, h2, h3⟩ := h.out
  exact dsum_any b m H fb w hG hm h1 h2 h3
end Go.Proofs.YtjfpfkiccbcedaaGreatDoor.Sh
namespace Go.Proofs.YtjfpfkiccbcedaaGreatDoor.Sh
open Go.RowKit
/-- What Tagged digests: the purpose, and the first n of the parts, each with its length. -/
def tagTo (p : UInt8) (ss : List (List UInt8)) : Nat → List UInt8
  | 0 => [p]
  | n + 1 => tagTo p ss n ++ be (ss.getD n []).length 4 ++ ss.getD n []
theorem tagTo_le (p : UInt8) (ss : List (List UInt8)) (n : Nat) : ∀ k, (tagTo p ss n).length ≤ (tagTo p ss (n + k)).length
  | 0 => Nat.le_refl _
  | k + 1 => by
    have := tagTo_le p ss n k
    rw [← Nat.add_assoc, tagTo, List.length_append, List.length_append]
    omega
theorem tagTo_ge (p : UInt8) (ss : List (List UInt8)) : ∀ n, 4 * n + 1 ≤ (tagTo p ss n).length
  | 0 => by simp [tagTo]
  | n + 1 => by
    have := tagTo_ge p ss n
    rw [tagTo, List.length_append, List.length_append, be_length]
    omega
theorem be_one (p : UInt8) : be p.toNat 1 = [p] := by
  simp [be, byteAt, List.range_succ]
set_option maxRecDepth 100000 in
set_option maxHeartbeats 1000000 in
theorem tagged_any (p : UInt8) (b o len cap : Nat) (ss : List (List UInt8)) (w : World) (hG : Glob w) (hc : ∀ i, i < len → w.cell? ⟨b, o + i, none⟩ = some (.string ⟨(ss.getD i []).toArray⟩)) (hlen : (tagTo p ss len).length ≤ 549755813888) :
    Calls Tryz.prog 47 #[.int .u8 (n8 p), .slice (some ⟨b, o, none⟩) len cap] w fun e w' => e = .returned (.string ⟨(digest (tagTo p ss len)).toArray⟩) ∧ Below w.heap.size w w' := by
  have hp0 := n8_nonneg p
  have hp1 := n8_le p
  have hln : len ≤ 549755813888 := by have := tagTo_ge p ss len; omega
  go_enter Tryz.func47, Tryz.ntmps47
  go_wp2_with (first
    | (go_at_call 85; refine (new_any _).mono ?_; rintro e w1 ⟨rfl, hw1, hs1, hb1⟩; replace hs1 := hs1.symm)
    | (go_at_call 87; refine (number_any p.toNat 1 _ (by omega) (by omega)).mono ?_; rintro e w2 ⟨rfl, hw2⟩)
    | (go_at_call 86; rw [be_one]; refine (writeZ w.heap.size [] [p] _ ((hG.belowSize hw1).belowSize hw2) hG.two (by simp) ((DigZ.new hb1).below hw2)).mono ?_; rintro e w3 ⟨rfl, hZ3, hg3⟩))
  have hB3 : Below w.heap.size w w3 := (hw1.trans (hw2.mono hw1.size)).trans (below_of_grown hg3 (Nat.le_refl _) (by have := hw1.size; have := hw2.size; omega))
  have hG3 := hG.belowSize hB3
  have hD2 := hG.two
  have hlt0 := hb1.lt
  clear hw1 hw2 hs1 hb1 hg3 hlt0
  go_loopw [16] (fun v16 wl => ∃ n : Nat, n ≤ len ∧ v16 = .int .i64 n ∧ Below w.heap.size w wl ∧ Glob wl ∧ DigZ wl w.heap.size (tagTo p ss n)) (fun v16 _ => len - (intOf v16).toNat)
  case atStart => exact ⟨0, by omega, rfl, hB3, hG3, hZ3⟩
  case round =>
    clear hB3 hG3 hZ3
    obtain ⟨n, hn, rfl, hB, hGr, hZ⟩ := hrel
    by_cases hlt : n < len
    · obtain ⟨t, ht⟩ : ∃ t, t = ss.getD n [] := ⟨_, rfl⟩
      have hcw := hc n hlt
      rw [← ht] at hcw
      have hbl := World.block_lt_of_cell? w _ hcw
      have hcr : wr.cell? ⟨b, o + n, none⟩ = some (.string ⟨t.toArray⟩) := by rw [hB.cell (p := ⟨b, o + n, none⟩) hbl]; exact hcw
      have HT : Hid (tagTo p ss (n + 1) = tagTo p ss n ++ be t.length 4 ++ t) := by rw [tagTo, ht]; exact rfl
      have hl1 := tagTo_le p ss (n + 1) (len - (n + 1))
      rw [show n + 1 + (len - (n + 1)) = len from by omega, HT.out, List.length_append, List.length_append, be_length] at hl1
      clear ht hcw hc
      go_wp2_with (first
        | (go_at_call 87; refine (number_any t.length 4 _ (by omega) (by omega)).mono ?_; rintro e w2 ⟨rfl, hw2⟩)
        | (go_at_call_of 86 (Value.string ⟨(be t.length 4).toArray⟩); refine (writeZ w.heap.size (tagTo p ss n) (be t.length 4) _ (hGr.belowSize hw2) hD2 (by rw [be_length]; omega) (hZ.below hw2)).mono ?_; rintro e w4 ⟨rfl, hZ4, hg4⟩)
        | (go_at_call_of 86 (Value.string ⟨t.toArray⟩); refine (writeZ w.heap.size (tagTo p ss n ++ be t.length 4) t _ ((hGr.belowSize hw2).grown hg4 hD2) hD2 (by rw [List.length_append, be_length]; omega) hZ4).mono ?_; rintro e w5 ⟨rfl, hZ5, hg5⟩))
      go_roundw
      case rel =>
        have hB2 := hB.trans (hw2.mono hB.size)
        have hB4 := hB2.trans (below_of_grown hg4 (Nat.le_refl _) hB2.size)
        exact ⟨n + 1, by omega, by go_num, hB4.trans (below_of_grown hg5 (Nat.le_refl _) hB4.size), ((hGr.belowSize hw2).grown hg4 hD2).grown hg5 hD2, by rw [HT.out]; exact hZ5⟩
      case measure => simp [intOf]; omega
    · have hZl : DigZ wr w.heap.size (tagTo p ss len) := by rw [show len = n from by omega]; exact hZ
      clear hZ
      go_wp2_with (go_at_call 88; refine (dsumZ w.heap.size (tagTo p ss len) _ hGr hlen hZl).mono ?_; rintro e w5 ⟨rfl, hw5⟩)
      go_ret
      exact ⟨rfl, hB.trans (hw5.mono hB.size)⟩
end Go.Proofs.YtjfpfkiccbcedaaGreatDoor.Sh
