/- What few, the plain Of, Hash, Empty, Bit and half do. -/
import Derived.Test.YtmeolaeoaoldoaaDoorKvl
import Derived.Test.YtmeolaeoaoldoaaDoorSRtg
import Derived.Deep.RegionHeld3
namespace Go.Proofs.YtmeolaeoaoldoaaDoor.Sh
open Go Go.RowKit
/-- The digest of parts for a purpose. -/
def TgD (p : UInt8) (ss : List (List UInt8)) : List UInt8 := digest (tagTo p ss ss.length)
theorem TgD_len (p : UInt8) (ss : List (List UInt8)) : (TgD p ss).length = 32 := digest_length _
theorem tag1 (p : UInt8) (x : List UInt8) : (tagTo p [x] 1).length = 5 + x.length := by simp [tagTo, be_length]; omega
theorem tag2 (p : UInt8) (x y : List UInt8) : (tagTo p [x, y] 2).length = 9 + x.length + y.length := by simp [tagTo, be_length]; omega
theorem rtag_any (p : UInt8) (ss : List (List UInt8)) (g cap : Nat) (w : World) (h : XA w (some ⟨g, 0, none⟩) ss) (hlen : (tagTo p ss ss.length).length ≤ 549755813888) :
    Calls Tryd.prog 33 #[.int .u8 (n8 p), .slice (some ⟨g, 0, none⟩) ss.length cap] w fun e w' => e = .returned (.string ⟨(TgD p ss).toArray⟩) ∧ Below w.heap.size w w' :=
  rtagged_any p g 0 ss.length cap ss w (fun i hi => by
    have := h.at i hi
    rw [this, List.getD_eq_getElem?_getD, List.getElem?_eq_getElem hi]
    rfl) hlen
theorem ext60 (s : List UInt8) : (ByteArray.mk s.toArray).extract 0 60 = ByteArray.mk (s.take 60).toArray := by
  apply ByteArray.ext
  simp
section
attribute [local go_sem] ext60
set_option maxRecDepth 100000 in
theorem few7_any (s : List UInt8) (w : World) (hs : s.length ≤ 9223372036854775807) : Calls Tryd.prog 20 #[.string ⟨s.toArray⟩] w fun e w' => e = .returned (.string ⟨(s.take 60).toArray⟩) ∧ w' = w := by
  by_cases h : 60 < s.length
  · go_enter Tryd.func20, Tryd.ntmps20
    go_wp2_with fail
    go_ret
    exact ⟨rfl, rfl⟩
  · rw [List.take_of_length_le (by omega)]
    go_enter Tryd.func20, Tryd.ntmps20
    go_wp2_with fail
    go_ret
    exact ⟨rfl, rfl⟩
end
set_option maxRecDepth 100000 in
theorem empty7_any (w : World) : Calls Tryd.prog 27 #[] w fun e w' => e = .returned (.string ⟨emptyD.toArray⟩) ∧ w' = w := by
  go_enter Tryd.func27, Tryd.ntmps27
  go_wp2_with fail
  go_ret
  exact ⟨rfl, rfl⟩
theorem tsl2 (x y : List UInt8) (w : World) : (Instr.buildSlice 48 2 #[(0, sv x), (1, sv y)]).run Tryd.prog w = .ok (.slice (some ⟨w.heap.size, 0, none⟩) 2 2) (w.alloc (.cells #[sv x, sv y] 9)) := by
  simp [Instr.buildSlice, run_underlying Tryd.underlying48, sizeOf_run i9, Sem.run_bind, Instr.fill, newRow, Tryd.zeroValue9, Value.cells, range2K, sv]
theorem XA.blk1 {w : World} {g : Nat} {x : List UInt8} (h : Blk w g #[sv x] 9) : XA w (some ⟨g, 0, none⟩) [x] := fun i hi => ⟨g, 0, rfl, by
  obtain rfl : i = 0 := by simp at hi; omega
  exact h.cell 0⟩
theorem XA.blk2 {w : World} {g : Nat} {x y : List UInt8} (h : Blk w g #[sv x, sv y] 9) : XA w (some ⟨g, 0, none⟩) [x, y] := fun i hi => ⟨g, 0, rfl, by
  match i, hi with
  | 0, _ => exact h.cell 0
  | 1, _ => exact h.cell 1⟩
section
variable {ops : Array Oper} {rest : List Oper} {op : Oper} {a : Act} {w : World} {Q : Exit → Act → World → Prop}
theorem wpList_tsl2 (hgd : op.guard = none) (x y : Operand) (ho : op.op = .buildSlice 48 2 #[(0, x), (1, y)]) (u v : List UInt8) (hx : a.eval x = .string ⟨u.toArray⟩) (hy : a.eval y = .string ⟨v.toArray⟩)
    (h : ∀ w1 : World, Below w.heap.size w w1 → w1.heap.size = w.heap.size + 1 → Blk w1 w.heap.size #[sv u, sv v] 9 → wpList Tryd.prog ops Q rest (a.put op.dst (.slice (some ⟨w.heap.size, 0, none⟩) 2 2)) w1) : wpList Tryd.prog ops Q (op :: rest) a w :=
  wpList_buildTx hgd 48 2 #[(0, x), (1, y)] ho #[sv u, sv v] (fun w => by
    have e : (#[(0, x), (1, y)] : Array (Nat × Operand)).map (fun (i, x) => (i, a.eval x)) = #[(0, sv u), (1, sv v)] := by simp [hx, hy, sv]
    rw [e]; exact tsl2 u v w) h
end
set_option maxRecDepth 100000 in
set_option maxHeartbeats 1000000 in
theorem of_any (k v : List UInt8) (w : World) (hk : k.length ≤ 1000000) (hv : v.length ≤ 1000000) : Calls Tryd.prog 22 #[.string ⟨k.toArray⟩, .string ⟨v.toArray⟩] w fun e w' => e = .returned (.agg (kvc (ofD TgD k v))) ∧ Below w.heap.size w w' := by
  have H1 := fun w1 g (h : XA w1 (some ⟨g, 0, none⟩) [k]) => rtag_any 80 [k] g 1 w1 h (by rw [show [k].length = 1 from rfl, tag1]; omega)
  have H2 := fun w1 g (h : XA w1 (some ⟨g, 0, none⟩) [v]) => rtag_any 86 [v] g 1 w1 h (by rw [show [v].length = 1 from rfl, tag1]; omega)
  show Calls _ _ _ _ fun e w' => e = .returned (.agg (kvc (TgD 80 [k], TgD 86 [v]))) ∧ _
  generalize TgD 80 [k] = x at *
  generalize TgD 86 [v] = y at *
  go_enter Tryd.func22, Tryd.ntmps22
  go_wp2_with (first
    | (go_at_call 33; refine (H1 _ _ (XA.blk1 hb2)).mono ?_; clear H1; rintro e w3 ⟨rfl, hw3⟩; replace HB := HB.trans (hw3.mono HB.size); replace hz := hz.belowSize hw3)
    | (go_at_call 33; refine (H2 _ _ (XA.blk1 hb4)).mono ?_; rintro e w5 ⟨rfl, hw5⟩; replace HB := HB.trans (hw5.mono HB.size); replace hz := hz.belowSize hw5)
    | (with_reducible refine at_list ?_; first
      | (refine wpList_allocRow (op := ⟨some 4, _, _, _, _, _⟩) rfl _ rfl _ zLf.1 ?_; intro w1 hw1 hs1 hz; replace hs1 := hs1.symm; have HB := hw1)
      | (refine wpList_tsl1 (op := ⟨some 6, _, _, _, _, _⟩) rfl _ rfl k rfl ?_; intro w2 hw2 hs2 hb2; replace hs2 := hs2.symm; replace HB := HB.trans (hw2.mono HB.size); replace hz := hz.belowSize hw2)
      | (refine wpList_tsl1 (op := ⟨some 9, _, _, _, _, _⟩) rfl _ rfl v rfl ?_; intro w4 hw4 hs4 hb4; replace hs4 := hs4.symm; replace HB := HB.trans (hw4.mono HB.size); replace hz := hz.belowSize hw4)
      | (refine wpList_storeRow (op := ⟨none, .store 52 (.tmp 4) (.tmp 11), _, _, _, _⟩) rfl _ _ _ rfl w.heap.size #[.string ⟨x.toArray⟩, .string ⟨y.toArray⟩] rfl rfl _ _ hz (by simp [kvc]) (by simpa using zLf.2) (by simp [Value.oneCell']) ?_; intro w6 hg6 hs6 hz6; replace HB := HB.trans (below_of_grown hg6 (Nat.le_refl _) HB.size))))
  refine bodyPost_ret (v := .agg (kvc (x, y))) ?_ rfl ⟨rfl, HB⟩
  exact results_cell_row rfl _ _ w.heap.size _ _ _ _ rfl hz6.out Tryd.underlying52 rfl (by exact zLf.2)
theorem blk2c {w : World} {b : Nat} {x y : Value} {t : TypeId} (h : Blk w b #[x, y] t) : w.cell? ⟨b, 0, none⟩ = some x ∧ w.cell? ⟨b, 1, none⟩ = some y := ⟨h.cell 0, h.cell 1⟩
set_option maxRecDepth 100000 in
set_option maxHeartbeats 1000000 in
theorem hash7_any (x : LF) (w : World) (h1 : x.1.length ≤ 1000000) (h2 : x.2.length ≤ 1000000) : Calls Tryd.prog 31 #[.agg (kvc x)] w fun e w' => e = .returned (.string ⟨(hashL TgD x).toArray⟩) ∧ Below w.heap.size w w' := by
  obtain ⟨p, v⟩ := x
  have H1 := fun w1 g (h : XA w1 (some ⟨g, 0, none⟩) [p, v]) => rtag_any 76 [p, v] g 2 w1 h (by rw [show [p, v].length = 2 from rfl, tag2]; simp only at h1 h2; omega)
  show Calls _ _ #[.agg #[.string ⟨p.toArray⟩, .string ⟨v.toArray⟩]] _ fun e w' => e = .returned (.string ⟨(TgD 76 [p, v]).toArray⟩) ∧ _
  generalize TgD 76 [p, v] = y at *
  go_enter Tryd.func31, Tryd.ntmps31
  go_wp2_with (first
    | (go_at_call 33; refine (H1 _ _ (XA.blk2 hb2)).mono ?_; rintro e w3 ⟨rfl, hw3⟩)
    | (with_reducible refine at_list ?_; first
      | (refine wpList_boxRow (op := ⟨some 1, _, _, _, _, _⟩) rfl _ _ rfl #[.string ⟨p.toArray⟩, .string ⟨v.toArray⟩] rfl ?_; intro w1 hw1 hs1 hb1; replace hs1 := hs1.symm; obtain ⟨q0, q1⟩ := blk2c hb1)
      | (refine wpList_tsl2 (op := ⟨some 7, _, _, _, _, _⟩) rfl _ _ rfl p v rfl rfl ?_; intro w2 hw2 hs2 hb2; replace hs2 := hs2.symm)))
  go_ret
  have hB2 := hw1.trans (hw2.mono hw1.size)
  exact ⟨rfl, hB2.trans (hw3.mono hB2.size)⟩
theorem bit_half (a m : Nat) : a / 2 ^ m / 2 = a / 2 ^ (m + 1) := by rw [Nat.div_div_eq_div_mul, Nat.pow_succ]
theorem idxB (l : List UInt8) (k : Nat) (h : k < (ByteArray.mk l.toArray).size) : (((ByteArray.mk l.toArray)[k]'h).toNat : Int) = n8 (l.getD k 0) := by
  have hk : k < l.length := by rw [mk_size] at h; exact h
  have e : (ByteArray.mk l.toArray)[k]'h = l.getD k 0 := by
    show l.toArray[k] = _
    rw [List.getD_eq_getElem?_getD, List.getElem?_eq_getElem hk]
    simp
  rw [e]; rfl
section
attribute [local go_sem] idxB
set_option maxRecDepth 100000 in
set_option maxHeartbeats 1000000 in
theorem bit_any (p : List UInt8) (i : Nat) (w : World) (hi : i < 8 * p.length) (hp : p.length ≤ 1000000) : Calls Tryd.prog 34 #[.string ⟨p.toArray⟩, .int .i64 i] w fun e w' => e = .returned (.int .i64 (bitD p i)) ∧ w' = w := by
  have hq : i / 8 < p.length := by omega
  have hB := UInt8.toNat_lt (p.getD (i / 8) 0)
  have hn8 : Hid (n8 (p.getD (i / 8) 0) = ((p.getD (i / 8) 0).toNat : Int)) := rfl
  have hR : Hid (bitD p i = (p.getD (i / 8) 0).toNat / 2 ^ (7 - i % 8) % 2) := rfl
  obtain ⟨q, e1⟩ : ∃ q, i / 8 = q := ⟨_, rfl⟩
  obtain ⟨r, e2⟩ : ∃ r, i % 8 = r := ⟨_, rfl⟩
  have hr7 : r ≤ 7 := by omega
  have h1 : IntKind.i64.wrap ((i : Int) / 8) = (q : Int) := by rw [IntKind.wrap_i64]; omega
  have h2 : IntKind.i64.wrap ((i : Int) % 8) = (r : Int) := by rw [IntKind.wrap_i64]; omega
  have h3 : (i : Int) / 8 = (q : Int) := by omega
  have h4 : (i : Int) % 8 = (r : Int) := by omega
  rw [e1] at hq hB hn8
  rw [e1, e2] at hR
  clear e1 e2 hi
  have hz1 : (0 : Int) ≤ (q : Int) := by omega
  have hz2 : (q : Int) < (p.length : Int) := by omega
  go_enter Tryd.func34, Tryd.ntmps34
  go_wp2_with fail
  have hg : p.getD q 0 = p[q] := by rw [List.getD_eq_getElem?_getD, List.getElem?_eq_getElem hq]; rfl
  have hn9 : n8 p[q] = ((p[q]).toNat : Int) := rfl
  rw [hg] at hB hR
  rw [hn9]
  clear hn9 hn8 hg
  generalize (p[q]).toNat = B at *
  go_loopw [5, 6] (fun v5 v6 wl => ∃ m : Nat, m ≤ 7 - r ∧ v5 = .int .u8 ((B / 2 ^ m : Nat) : Int) ∧ v6 = .int .i64 (7 - (m : Int)) ∧ Hid (wl = w)) (fun _ v6 _ => (intOf v6).toNat)
  case atStart => exact ⟨0, by omega, by rw [Nat.pow_zero, Nat.div_one], rfl, rfl⟩
  case round =>
    obtain ⟨m, hm, rfl, rfl, hwl⟩ := hrel
    have hD : Hid (B / 2 ^ m / 2 = B / 2 ^ (m + 1)) := bit_half B m
    have hE : Hid (m = 7 - r → bitD p i = B / 2 ^ m % 2) := fun h => by rw [h]; exact hR.out
    have hle : B / 2 ^ m ≤ B := Nat.div_le_self _ _
    generalize B / 2 ^ m = c at *
    by_cases hlt : r < 7 - m
    · have hc1 : (r : Int) < 7 - (m : Int) := by omega
      have hw : IntKind.i64.wrap (7 - (m : Int) - 1) = 7 - (m : Int) - 1 := by rw [IntKind.wrap_i64]; omega
      have hw2 : IntKind.u8.wrap ((c : Int) / 2) = ((c / 2 : Nat) : Int) := by rw [IntKind.wrap_u8]; omega
      go_wp2_with fail
      go_roundw
      case rel => exact ⟨m + 1, by omega, by rw [← hD.out, show ((c / 2 : Nat) : Int) = (c : Int) / 2 by omega], by rw [show (7 : Int) - ((m + 1 : Nat) : Int) = 7 - (m : Int) - 1 by omega], hwl⟩
      case measure => simp [intOf]; omega
    · have hc1 : ¬ ((r : Int) < 7 - (m : Int)) := by omega
      have hE2 : Hid (bitD p i = c % 2) := hE.out (by omega)
      have hw2 : IntKind.u8.wrap ((c : Int) % 2) = ((c % 2 : Nat) : Int) := by rw [IntKind.wrap_u8]; omega
      go_wp2_with fail
      go_ret
      exact ⟨by rw [hE2.out, show ((c % 2 : Nat) : Int) = (c : Int) % 2 by omega]; rfl, hwl.out⟩
end
end Go.Proofs.YtmeolaeoaoldoaaDoor.Sh
