/- What smt's digests do, and halves in memory: count, hash, isLeafAt, side. Halves in memory: count, hash, isLeafAt, side, alone, joined, opened. Halves in memory: alone, joined, opened. The way of a path: a function that is ranged over. -/
import Derived.Test.YtmbdhngoldganaaGreatDoorLft
import Derived.Deep.RegionHeld3
namespace Go.Proofs.YtmbdhngoldganaaGreatDoor.Sh
open Go Go.RowKit
theorem stag_any (p : UInt8) (ss : List (List UInt8)) (g cap : Nat) (w : World) (hG : Glob w) (h : XA w (some ⟨g, 0, none⟩) ss) (hlen : (tagTo p ss ss.length).length ≤ 549755813888) :
    Calls Tryz.prog 120 #[.int .u8 (n8 p), .slice (some ⟨g, 0, none⟩) ss.length cap] w fun e w' => e = .returned (.string ⟨(TgD p ss).toArray⟩) ∧ Below w.heap.size w w' :=
  tagged_any p g 0 ss.length cap ss w hG (fun i hi => by
    have := h.at i hi
    rw [this, List.getD_eq_getElem?_getD, List.getElem?_eq_getElem hi]
    rfl) hlen
set_option maxRecDepth 100000 in
theorem spath_any (k : List UInt8) (w : World) (hG : Glob w) (hk : k.length ≤ 1000000) : Calls Tryz.prog 124 #[.string ⟨k.toArray⟩] w fun e w' => e = .returned (.string ⟨(TgD 80 [k]).toArray⟩) ∧ Below w.heap.size w w' := by
  have H1 := fun w1 g (hG : Glob w1) (h : XA w1 (some ⟨g, 0, none⟩) [k]) => stag_any 80 [k] g 1 w1 hG h (by rw [show [k].length = 1 from rfl, tag1]; omega)
  generalize TgD 80 [k] = x at *
  go_enter Tryz.func124, Tryz.ntmps124
  go_wp2_with (first
    | (go_at_call 120; refine (H1 _ _ (hG.belowSize hw2) (XA.blk1 hb2)).mono ?_; rintro e w3 ⟨rfl, hw3⟩)
    | (with_reducible refine at_list ?_; refine wpList_tsl1 (op := ⟨some 4, _, _, _, _, _⟩) rfl _ rfl k rfl ?_; intro w2 hw2 hs2 hb2; replace hs2 := hs2.symm))
  go_ret
  exact ⟨rfl, hw2.trans (hw3.mono hw2.size)⟩
set_option maxRecDepth 100000 in
theorem sval_any (k : List UInt8) (w : World) (hG : Glob w) (hk : k.length ≤ 1000000) : Calls Tryz.prog 138 #[.string ⟨k.toArray⟩] w fun e w' => e = .returned (.string ⟨(TgD 86 [k]).toArray⟩) ∧ Below w.heap.size w w' := by
  have H1 := fun w1 g (hG : Glob w1) (h : XA w1 (some ⟨g, 0, none⟩) [k]) => stag_any 86 [k] g 1 w1 hG h (by rw [show [k].length = 1 from rfl, tag1]; omega)
  generalize TgD 86 [k] = x at *
  go_enter Tryz.func138, Tryz.ntmps138
  go_wp2_with (first
    | (go_at_call 120; refine (H1 _ _ (hG.belowSize hw2) (XA.blk1 hb2)).mono ?_; rintro e w3 ⟨rfl, hw3⟩)
    | (with_reducible refine at_list ?_; refine wpList_tsl1 (op := ⟨some 4, _, _, _, _, _⟩) rfl _ rfl k rfl ?_; intro w2 hw2 hs2 hb2; replace hs2 := hs2.symm))
  go_ret
  exact ⟨rfl, hw2.trans (hw3.mono hw2.size)⟩
set_option maxRecDepth 100000 in
theorem sjoin_any (p v : List UInt8) (w : World) (hG : Glob w) (h1 : p.length ≤ 1000000) (h2 : v.length ≤ 1000000) : Calls Tryz.prog 197 #[.string ⟨p.toArray⟩, .string ⟨v.toArray⟩] w fun e w' => e = .returned (.string ⟨(joinD TgD p v).toArray⟩) ∧ Below w.heap.size w w' := by
  have H1 := fun w1 g (hG : Glob w1) (h : XA w1 (some ⟨g, 0, none⟩) [p, v]) => stag_any 74 [p, v] g 2 w1 hG h (by rw [show [p, v].length = 2 from rfl, tag2]; omega)
  show Calls _ _ _ _ fun e w' => e = .returned (.string ⟨(TgD 74 [p, v]).toArray⟩) ∧ _
  generalize TgD 74 [p, v] = y at *
  go_enter Tryz.func197, Tryz.ntmps197
  go_wp2_with (first
    | (go_at_call 120; refine (H1 _ _ (hG.belowSize hw2) (XA.blk2 hb2)).mono ?_; rintro e w3 ⟨rfl, hw3⟩)
    | (with_reducible refine at_list ?_; refine wpList_tsl2 (op := ⟨some _, .buildSlice 28 2 _, _, _, _, _⟩) rfl _ _ rfl p v rfl rfl ?_; intro w2 hw2 hs2 hb2; replace hs2 := hs2.symm))
  go_ret
  exact ⟨rfl, hw2.trans (hw3.mono hw2.size)⟩
set_option maxRecDepth 100000 in
theorem sleaf_any (p v : List UInt8) (w : World) (hG : Glob w) (h1 : p.length ≤ 1000000) (h2 : v.length ≤ 1000000) : Calls Tryz.prog 169 #[.agg #[.string ⟨p.toArray⟩, .string ⟨v.toArray⟩]] w fun e w' => e = .returned (.string ⟨(hashL TgD (p, v)).toArray⟩) ∧ Below w.heap.size w w' := by
  have H1 := fun w1 g (hG : Glob w1) (h : XA w1 (some ⟨g, 0, none⟩) [p, v]) => stag_any 76 [p, v] g 2 w1 hG h (by rw [show [p, v].length = 2 from rfl, tag2]; omega)
  show Calls _ _ #[.agg #[.string ⟨p.toArray⟩, .string ⟨v.toArray⟩]] _ fun e w' => e = .returned (.string ⟨(TgD 76 [p, v]).toArray⟩) ∧ _
  generalize TgD 76 [p, v] = y at *
  go_enter Tryz.func169, Tryz.ntmps169
  go_wp2_with (first
    | (go_at_call 120; refine (H1 _ _ ((hG.belowSize hw1).belowSize hw2) (XA.blk2 hb2)).mono ?_; rintro e w3 ⟨rfl, hw3⟩)
    | (with_reducible refine at_list ?_; first
      | (refine wpList_boxRow (op := ⟨some 1, _, _, _, _, _⟩) rfl _ _ rfl #[.string ⟨p.toArray⟩, .string ⟨v.toArray⟩] rfl ?_; intro w1 hw1 hs1 hb1; replace hs1 := hs1.symm; obtain ⟨q0, q1⟩ := blk2c hb1)
      | (refine wpList_tsl2 (op := ⟨some 7, _, _, _, _, _⟩) rfl _ _ rfl p v rfl rfl ?_; intro w2 hw2 hs2 hb2; replace hs2 := hs2.symm)))
  go_ret
  have hB2 := hw1.trans (hw2.mono hw1.size)
  exact ⟨rfl, hB2.trans (hw3.mono hB2.size)⟩
theorem rep32 : Lib.repeatL (ByteArray.mk #[0]).data.toList 32 = emptyD := by decide
set_option maxRecDepth 100000 in
theorem sempty_any (w : World) : Calls Tryz.prog 184 #[] w fun e w' => e = .returned (.string ⟨emptyD.toArray⟩) ∧ Below w.heap.size w w' := by
  have H := repeat_any ⟨#[0]⟩ 32 w (by decide) (by decide)
  rw [rep32] at H
  generalize emptyD = z at *
  go_enter Tryz.func184, Tryz.ntmps184
  go_wp2_with (go_at_call 200; refine H.mono ?_; rintro e w1 ⟨rfl, hw1⟩)
  go_ret
  exact ⟨rfl, hw1⟩
end Go.Proofs.YtmbdhngoldganaaGreatDoor.Sh
namespace Go.Proofs.YtmbdhngoldganaaGreatDoor.Sh
open Go Go.RowKit
/-- The cells of a half. -/
def halfC (d : List UInt8) (n : Nat) (p v : List UInt8) (l r : Option Addr) : Array Value := #[.string ⟨d.toArray⟩, .int .i64 n, .string ⟨p.toArray⟩, .string ⟨v.toArray⟩, .pointer l, .pointer r]
/-- At an address lies a half of the leaves of t. -/
def HF (w : World) : Tr → Option Addr → Prop
  | .emp, q => q = none
  | .lf x, q => ∃ b, q = some ⟨b, 0, none⟩ ∧ Blk w b (halfC (hashL TgD x) 1 x.1 x.2 none none) 196 ∧ x.1.length = 32 ∧ x.2.length = 32
  | .nd l r, q => ∃ b pl pr, q = some ⟨b, 0, none⟩ ∧ Blk w b (halfC ((Tr.nd l r).hash TgD) (l.cnt + r.cnt) [] [] pl pr) 196 ∧ HF w l pl ∧ HF w r pr ∧ 2 ≤ l.cnt + r.cnt
theorem HF.keep {w w' : World} (hk : ∀ i c, Blk w i c 196 → Blk w' i c 196) : ∀ {t : Tr} {q : Option Addr}, HF w t q → HF w' t q
  | .emp, _, h => h
  | .lf _, _, ⟨b, h1, h2, h3⟩ => ⟨b, h1, hk _ _ h2, h3⟩
  | .nd _ _, _, ⟨b, pl, pr, h1, h2, h3, h4, h5⟩ => ⟨b, pl, pr, h1, hk _ _ h2, HF.keep hk h3, HF.keep hk h4, h5⟩
theorem HF.below {w w' : World} {t : Tr} {q : Option Addr} (h : HF w t q) (hb : Below w.heap.size w w') : HF w' t q := h.keep fun _ _ h1 => h1.belowSize hb
theorem HF.drew {w : World} {t : Tr} {q : Option Addr} (h : HF w t q) : HF w.drew t q := h.keep fun _ _ h1 => h1.drew
theorem HF.alloc {w : World} {t : Tr} {q : Option Addr} (h : HF w t q) (o : Obj) : HF (w.alloc o) t q := h.keep fun _ _ h1 => h1.alloc o
/-- What is written into a block of another type leaves halves as they are. -/
theorem Blk.apart {w : World} {i b : Nat} {c d : Array Value} {t u : TypeId} (h : Blk w i c t) (k : Blk w b d u) (ht : t ≠ u) : i ≠ b := fun e => by
  subst e
  have h2 := k.out
  rw [h.out] at h2
  simp only [Option.some.injEq, Obj.cells.injEq] at h2
  exact ht h2.2.1
theorem HF.grown {w w' : World} {t : Tr} {q : Option Addr} {b : Nat} {d : Array Value} {u : TypeId} (h : HF w t q) (hg : w.grownBy w' (some b)) (k : Blk w b d u) (hu : 196 ≠ u) : HF w' t q :=
  h.keep fun _ _ h1 => h1.grown hg (fun e => h1.apart k hu (Option.some.inj e))
theorem HF.out {w : World} {t : Tr} {q : Option Addr} (h : HF w t q) : (t = .emp ∧ q = none) ∨ ∃ b p v l r, q = some ⟨b, 0, none⟩ ∧ Blk w b (halfC (t.hash TgD) t.cnt p v l r) 196 ∧ 1 ≤ t.cnt ∧ t ≠ .emp := by
  cases t with
  | emp => exact .inl ⟨rfl, h⟩
  | lf x =>
    obtain ⟨b, h1, h2, _⟩ := h
    exact .inr ⟨b, _, _, _, _, h1, h2, Nat.le_refl 1, (fun e => nomatch e)⟩
  | nd l r =>
    obtain ⟨b, pl, pr, h1, h2, _, _, h3⟩ := h
    exact .inr ⟨b, [], [], pl, pr, h1, by rw [Tr.cnt_nd]; exact h2, by rw [Tr.cnt_nd]; omega, (fun e => nomatch e)⟩
theorem half_cells {w : World} {b : Nat} {d : List UInt8} {n : Nat} {p v : List UInt8} {l r : Option Addr} {t : TypeId} (h : Blk w b (halfC d n p v l r) t) :
    w.cell? ⟨b, 0, none⟩ = some (.string ⟨d.toArray⟩) ∧ w.cell? ⟨b, 1, none⟩ = some (.int .i64 n) ∧ w.cell? ⟨b, 2, none⟩ = some (.string ⟨p.toArray⟩) ∧ w.cell? ⟨b, 3, none⟩ = some (.string ⟨v.toArray⟩) ∧ w.cell? ⟨b, 4, none⟩ = some (.pointer l) ∧ w.cell? ⟨b, 5, none⟩ = some (.pointer r) :=
  ⟨h.cell 0, h.cell 1, h.cell 2, h.cell 3, h.cell 4, h.cell 5⟩
set_option maxRecDepth 100000 in
theorem count_any (t : Tr) (q : Option Addr) (w : World) (h : HF w t q) : Calls Tryz.prog 157 #[.pointer q] w fun e w' => e = .returned (.int .i64 t.cnt) ∧ w' = w := by
  rcases h.out with ⟨rfl, rfl⟩ | ⟨b, p, v, l, r, rfl, hb, _, _⟩
  · go_enter Tryz.func157, Tryz.ntmps157
    go_wp2_with fail
    go_ret
    exact ⟨rfl, rfl⟩
  · obtain ⟨_, c1, _⟩ := half_cells hb
    generalize t.cnt = n at *
    go_enter Tryz.func157, Tryz.ntmps157
    go_wp2_with fail
    go_ret
    exact ⟨rfl, rfl⟩
set_option maxRecDepth 100000 in
theorem hhash_any (t : Tr) (q : Option Addr) (w : World) (h : HF w t q) : Calls Tryz.prog 148 #[.pointer q] w fun e w' => e = .returned (.string ⟨(t.hash TgD).toArray⟩) ∧ Below w.heap.size w w' := by
  rcases h.out with ⟨rfl, rfl⟩ | ⟨b, p, v, l, r, rfl, hb, _, _⟩
  · have H := sempty_any w
    show Calls _ _ _ _ fun e w' => e = .returned (.string ⟨emptyD.toArray⟩) ∧ _
    generalize emptyD = z at *
    go_enter Tryz.func148, Tryz.ntmps148
    go_wp2_with (go_at_call 184; refine H.mono ?_; rintro e w1 ⟨rfl, hw1⟩)
    go_ret
    exact ⟨rfl, hw1⟩
  · obtain ⟨c0, _⟩ := half_cells hb
    generalize t.hash TgD = z at *
    go_enter Tryz.func148, Tryz.ntmps148
    go_wp2_with fail
    go_ret
    exact ⟨rfl, Below.refl _ _⟩
/-- A half is the leaf of a path. -/
def isAtT (p : List UInt8) : Tr → Bool
  | .lf x => x.1 == p
  | _ => false
set_option maxRecDepth 100000 in
theorem isLeaf_any (t : Tr) (q : Option Addr) (p : List UInt8) (w : World) (h : HF w t q) (hc : t.cnt ≤ 1000000) : Calls Tryz.prog 165 #[.pointer q, .string ⟨p.toArray⟩] w fun e w' => e = .returned (.bool (isAtT p t)) ∧ w' = w := by
  have HC := count_any t q w h
  cases t with
  | emp =>
    obtain rfl : q = none := h
    rw [show Tr.emp.cnt = 0 from rfl] at HC
    go_enter Tryz.func165, Tryz.ntmps165
    go_wp2_with (go_at_call 157; refine HC.mono ?_; rintro e w1 ⟨rfl, hw1⟩; have hw1 := hw1.symm; subst hw1)
    go_ret
    exact ⟨rfl, rfl⟩
  | lf x =>
    obtain ⟨b, rfl, hb, _⟩ := h
    obtain ⟨_, _, c2, _⟩ := half_cells hb
    rw [show (Tr.lf x).cnt = 1 from rfl] at HC
    show Calls _ _ _ _ fun e w' => e = .returned (.bool (x.1 == p)) ∧ _
    generalize x.1 = y at *
    go_enter Tryz.func165, Tryz.ntmps165
    go_wp2_with (go_at_call 157; refine HC.mono ?_; rintro e w1 ⟨rfl, hw1⟩; have hw1 := hw1.symm; subst hw1)
    go_ret
    exact ⟨rfl, rfl⟩
  | nd l r =>
    obtain ⟨b, pl, pr, rfl, hb, _, _, h2⟩ := h
    rw [Tr.cnt_nd] at HC hc
    show Calls _ _ _ _ fun e w' => e = .returned (.bool false) ∧ _
    generalize l.cnt + r.cnt = n at *
    have hn : ((n : Int) == 1) = false := by rw [beq_eq_false_iff_ne]; omega
    go_enter Tryz.func165, Tryz.ntmps165
    go_wp2_with (go_at_call 157; refine HC.mono ?_; rintro e w1 ⟨rfl, hw1⟩; have hw1 := hw1.symm; subst hw1)
    go_ret
    exact ⟨rfl, rfl⟩
set_option maxRecDepth 100000 in
theorem and1 : ∀ c : Fin 256, bits .and .i64 ((c.1 : Nat) : Int) 1 = ((c.1 % 2 : Nat) : Int) := by decide +kernel
section
attribute [local go_sem] idxB
set_option maxRecDepth 100000 in
set_option maxHeartbeats 1000000 in
theorem side_any (p : List UInt8) (i : Nat) (w : World) (hi : i < 256) (hp : p.length = 32) : Calls Tryz.prog 191 #[.string ⟨p.toArray⟩, .int .i64 i] w fun e w' => e = .returned (.int .i64 (bitD p i)) ∧ w' = w := by
  have hq : i / 8 < p.length := by omega
  obtain ⟨q, e1⟩ : ∃ q, i / 8 = q := ⟨_, rfl⟩
  obtain ⟨r, e2⟩ : ∃ r, i % 8 = r := ⟨_, rfl⟩
  have hr7 : r ≤ 7 := by omega
  have h3 : (i : Int) / 8 = (q : Int) := by omega
  have h4 : (i : Int) % 8 = (r : Int) := by omega
  have hz1 : (0 : Int) ≤ (q : Int) := by omega
  have hz2 : (q : Int) < (p.length : Int) := by omega
  go_enter Tryz.func191, Tryz.ntmps191
  go_wp2_with fail
  have hB := UInt8.toNat_lt (p[q]?.getD 0)
  have hR : bitD p i = (p[q]?.getD 0).toNat / 2 ^ (7 - r) % 2 := by unfold bitD; rw [e1, e2, List.getD_eq_getElem?_getD]
  have hn9 : n8 (p[q]?.getD 0) / 2 ^ (7 - r) = (((p[q]?.getD 0).toNat / 2 ^ (7 - r) : Nat) : Int) := by unfold n8; simp
  rw [hn9]
  have hle := Nat.lt_of_le_of_lt (Nat.div_le_self (p[q]?.getD 0).toNat (2 ^ (7 - r))) hB
  clear hn9 hB
  generalize (p[q]?.getD 0).toNat / 2 ^ (7 - r) = c at *
  have hw : wrap64 (c : Int) = (c : Int) := by unfold wrap64; omega
  have ha := and1 ⟨c, hle⟩
  dsimp only at ha
  rw [hw, ha]
  go_ret
  exact ⟨by rw [hR]; rfl, rfl⟩
end
end Go.Proofs.YtmbdhngoldganaaGreatDoor.Sh
namespace Go.Proofs.YtmbdhngoldganaaGreatDoor.Sh
open Go Go.RowKit
theorem hashT_len (t : Tr) : (t.hash TgD).length = 32 := by
  cases t
  · rfl
  · exact TgD_len _ _
  · exact TgD_len _ _
set_option maxRecDepth 100000 in
set_option maxHeartbeats 1000000 in
theorem alone_any (x : LF) (w : World) (hG : Glob w) (h1 : x.1.length = 32) (h2 : x.2.length = 32) : Calls Tryz.prog 140 #[.agg #[.string ⟨x.1.toArray⟩, .string ⟨x.2.toArray⟩]] w fun e w' => ∃ q, e = .returned (.pointer q) ∧ HF w' (.lf x) q ∧ Below w.heap.size w w' := by
  have H := fun w1 (hG : Glob w1) => sleaf_any x.1 x.2 w1 hG (by omega) (by omega)
  obtain ⟨p, v⟩ := x
  dsimp only at *
  go_enter Tryz.func140, Tryz.ntmps140
  go_upto_region 1 with (with_reducible refine at_list ?_; refine wpList_boxRow (op := ⟨some 1, _, _, _, _, _⟩) rfl _ _ rfl #[.string ⟨p.toArray⟩, .string ⟨v.toArray⟩] rfl ?_; intro w1 hw1 hs1 hb1; replace hs1 := hs1.symm)
  have hd1 : Below w.heap.size w w1.drew := hw1.drew
  obtain ⟨q0, q1⟩ := blk2c hb1.drew
  have hb1d := hb1.drew
  have dd : w1.drew.cell? ⟨w.heap.size, 0, none⟩ = some (.string ⟨p.toArray⟩) ∧ w1.drew.cell? ⟨w.heap.size, 1, none⟩ = some (.string ⟨v.toArray⟩) := ⟨q0, q1⟩
  have hno : Hid (Blk w1.drew w.heap.size #[.string ⟨p.toArray⟩, .string ⟨v.toArray⟩] 75) := hb1d
  clear hb1d hb1 q0 q1
  go_region_held3 (fun W => W.cell? ⟨w.heap.size, 0, none⟩ = some (.string ⟨p.toArray⟩) ∧ W.cell? ⟨w.heap.size, 1, none⟩ = some (.string ⟨v.toArray⟩)) (first | assumption | (go_keep; done)) ((go_at_call 169; refine (H _ (hG.belowSize hd1)).mono ?_; rintro e w3 ⟨rfl, hw3⟩; have dd := blk2c (hno.out.belowSize hw3)))
  go_wp2_with fail
  go_ret
  have hB := hd1.trans (hw3.mono hd1.size)
  exact ⟨_, rfl, ⟨_, rfl, Blk.new _ _ _, h1, h2⟩, hB.alloc hB.size _⟩
set_option maxRecDepth 100000 in
set_option maxHeartbeats 2000000 in
theorem joined_any (l r : Tr) (pl pr : Option Addr) (w : World) (hG : Glob w) (hl : HF w l pl) (hr : HF w r pr) (cl : l.cnt ≤ 1000000) (cr : r.cnt ≤ 1000000) :
    Calls Tryz.prog 168 #[.agg #[.pointer pl, .pointer pr]] w fun e w' => ∃ q, e = .returned (.pointer q) ∧ HF w' (Tr.joinG l r) q ∧ Below w.heap.size w w' := by
  go_enter Tryz.func168, Tryz.ntmps168
  go_upto_region 1 with (with_reducible refine at_list ?_; refine wpList_boxRow (op := ⟨some 1, _, _, _, _, _⟩) rfl _ _ rfl #[.pointer pl, .pointer pr] rfl ?_; intro w1 hw1 hs1 hb1; replace hs1 := hs1.symm)
  have hd1 : Below w.heap.size w w1.drew := hw1.drew
  have dd : w1.drew.cell? ⟨w.heap.size, 0, none⟩ = some (.pointer pl) ∧ w1.drew.cell? ⟨w.heap.size, 1, none⟩ = some (.pointer pr) := blk2c hb1.drew
  have hbd : Hid (Blk w1.drew w.heap.size #[.pointer pl, .pointer pr] 194) := hb1.drew
  have hl1 := hl.below hd1
  have hr1 := hr.below hd1
  have hG1 := hG.belowSize hd1
  have HCl := count_any l pl w1.drew hl1
  have HCr := count_any r pr w1.drew hr1
  obtain ⟨n, hn⟩ : ∃ n, l.cnt = n := ⟨_, rfl⟩
  obtain ⟨m, hm⟩ : ∃ m, r.cnt = m := ⟨_, rfl⟩
  rw [hn] at HCl cl
  rw [hm] at HCr cr
  have hw : IntKind.i64.wrap ((n : Int) + (m : Int)) = (n : Int) + (m : Int) := by rw [IntKind.wrap_i64]; omega
  replace hn : Hid (l.cnt = n) := hn
  replace hm : Hid (r.cnt = m) := hm
  clear hb1 hs1
  go_region_held3 (fun W => W.cell? ⟨w.heap.size, 0, none⟩ = some (.pointer pl) ∧ W.cell? ⟨w.heap.size, 1, none⟩ = some (.pointer pr)) (first | assumption | (go_keep; done)) (first
    | (go_at_call 157; refine HCl.mono ?_; clear HCl; rintro e w3 ⟨rfl, hw3⟩; have hw3 := hw3.symm; subst hw3)
    | (go_at_call 157; refine HCr.mono ?_; clear HCr; rintro e w3 ⟨rfl, hw3⟩; have hw3 := hw3.symm; subst hw3))
  by_cases h2 : 1 < n + m
  · have h2i : (1 : Int) < (n : Int) + (m : Int) := by omega
    go_upto_region 3 with fail
    have hd2 : Below w.heap.size w w1.drew.drew := hd1.drew
    have dd2 : w1.drew.drew.cell? ⟨w.heap.size, 0, none⟩ = some (.pointer pl) ∧ w1.drew.drew.cell? ⟨w.heap.size, 1, none⟩ = some (.pointer pr) := blk2c hbd.out.drew
    have hbd2 : Hid (Blk w1.drew.drew w.heap.size #[.pointer pl, .pointer pr] 194) := hbd.out.drew
    have H1 := hhash_any l pl w1.drew.drew hl1.drew
    have H2 := fun w2 (h : Below w1.drew.drew.heap.size w1.drew.drew w2) => hhash_any r pr w2 (hr1.drew.below h)
    have HJ := fun w2 (h : Below w1.drew.drew.heap.size w1.drew.drew w2) => sjoin_any (l.hash TgD) (r.hash TgD) w2 (hG1.drew.belowSize h) (by rw [hashT_len]; omega) (by rw [hashT_len]; omega)
    have hjr : Hid (joinD TgD (l.hash TgD) (r.hash TgD) = (Tr.nd l r).hash TgD) := rfl
    generalize l.hash TgD = dl at *
    generalize r.hash TgD = dr at *
    generalize joinD TgD dl dr = dj at *
    clear dd hbd
    go_region_held3 (fun W => W.cell? ⟨w.heap.size, 0, none⟩ = some (.pointer pl) ∧ W.cell? ⟨w.heap.size, 1, none⟩ = some (.pointer pr)) (first | assumption | (go_keep; done)) (first
      | (go_at_call 148; refine H1.mono ?_; clear H1; rintro e w3 ⟨rfl, hw3⟩; have dd := blk2c (hbd2.out.belowSize hw3))
      | (go_at_call 148; refine (H2 _ hw3).mono ?_; clear H2; rintro e w4 ⟨rfl, hw4⟩; have hw4' := hw3.trans (hw4.mono hw3.size); have dd := blk2c (hbd2.out.belowSize hw4'))
      | (go_at_call 197; refine (HJ _ hw4').mono ?_; rintro e w5 ⟨rfl, hw5⟩; have hw5' := hw4'.trans (hw5.mono hw4'.size); have dd := blk2c (hbd2.out.belowSize hw5')))
    go_wp2_with fail
    go_ret
    have hB := hd2.trans (hw5'.mono hd2.size)
    refine ⟨_, rfl, ?_, hB.alloc hB.size _⟩
    rw [Tr.joinG_two (by rw [hn.out, hm.out]; omega)]
    refine ⟨_, pl, pr, rfl, ?_, (hl1.drew.below hw5').alloc _, (hr1.drew.below hw5').alloc _, by rw [hn.out, hm.out]; omega⟩
    rw [← hjr.out, hn.out, hm.out]
    have := Blk.new w5 (halfC dj (n + m) [] [] pl pr) 196
    exact this
  · have h2i : ¬ (1 : Int) < (n : Int) + (m : Int) := by omega
    obtain ⟨d0, d1⟩ := dd
    have hjl : ¬ 1 < l.cnt + r.cnt := by rw [hn.out, hm.out]; exact h2
    rcases hl.out with ⟨rfl, rfl⟩ | ⟨b, p, v, x, y, rfl, hb, _, hne⟩
    · replace hjl : Hid (Tr.joinG .emp r = r) := Tr.joinG_r hjl
      go_wp2_with fail
      go_ret
      exact ⟨_, rfl, by rw [hjl.out]; exact hr1, hd1⟩
    · replace hjl : Hid (Tr.joinG l r = l) := Tr.joinG_l hjl hne
      go_wp2_with fail
      go_ret
      exact ⟨_, rfl, by rw [hjl.out]; exact hl1, hd1⟩
theorem iPh : (Tryz.prog.info? 190).map (·.size) = some 1 := by kernel_rfl
theorem zAr : (∀ w, (zeroValue 194).run Tryz.prog w = .ok (.agg #[.pointer none, .pointer none]) w) ∧ (Tryz.prog.info? 194).map (·.size) = some 2 := zero_of_info (by kernel_rfl)
set_option maxRecDepth 100000 in
set_option maxHeartbeats 2000000 in
theorem opened_any (t : Tr) (q : Option Addr) (i : Nat) (w : World) (h : HF w t q) (hne : t ≠ .emp) (hc : t.cnt ≤ 1000000) (hi : i < 256) :
    Calls Tryz.prog 166 #[.pointer q, .int .i64 i] w fun e w' => ∃ pl pr, e = .returned (.agg #[.pointer pl, .pointer pr]) ∧ HF w' (Tr.openT i t).1 pl ∧ HF w' (Tr.openT i t).2 pr ∧ Below w.heap.size w w' := by
  cases t with
  | emp => exact absurd rfl hne
  | nd l r =>
    obtain ⟨b, pl, pr, rfl, hb, hl, hr, h2⟩ := h
    rw [Tr.cnt_nd] at hc
    show Calls _ _ _ _ fun e w' => ∃ pl pr, e = .returned (.agg #[.pointer pl, .pointer pr]) ∧ HF w' l pl ∧ HF w' r pr ∧ Below w.heap.size w w'
    generalize l.cnt + r.cnt = n at *
    have h2i : (1 : Int) < (n : Int) := by omega
    go_enter Tryz.func166, Tryz.ntmps166
    go_wp2_with (with_reducible refine at_list ?_; first
      | (refine wpList_allocRow (op := ⟨some 4, _, _, _, _, _⟩) rfl _ rfl _ zAr.1 ?_; intro w1 hw1 hs1 hz; replace hs1 := hs1.symm; obtain ⟨_, c1, _, _, c4, c5⟩ := half_cells (hb.belowSize hw1))
      | (refine wpList_storeRow (op := ⟨none, .store 194 (.tmp 4) (.tmp 14), _, _, _, _⟩) rfl _ _ _ rfl w.heap.size #[.pointer pl, .pointer pr] rfl rfl _ _ hz (by simp) (by simpa using zAr.2) (by simp [Value.oneCell']) ?_; intro w6 hg6 hs6 hz6; have HB := hw1.trans (below_of_grown hg6 (Nat.le_refl _) hw1.size)))
    refine bodyPost_ret (v := .agg #[.pointer pl, .pointer pr]) ?_ rfl ⟨pl, pr, rfl, hl.below HB, hr.below HB, HB⟩
    exact results_cell_row rfl _ _ w.heap.size _ _ _ _ rfl hz6.out Tryz.underlying194 rfl (by exact zAr.2)
  | lf x =>
    obtain ⟨b, rfl, hb, h1, h2⟩ := h
    have hbit := bitD_lt x.1 i
    have HS := fun w1 => side_any x.1 i w1 hi h1
    have hfin : ∀ {w' : World}, Below w.heap.size w w' → HF w' (.lf x) (some ⟨b, 0, none⟩) := fun hB => ⟨b, rfl, hb.belowSize hB, h1, h2⟩
    by_cases h0 : bitD x.1 i = 0
    · rw [show Tr.openT i (.lf x) = (.lf x, .emp) from if_pos h0]
      rw [h0] at HS
      dsimp only
      go_enter Tryz.func166, Tryz.ntmps166
      go_wp2_with (first
        | (go_at_call 191; refine (HS _).mono ?_; rintro e w3 ⟨rfl, hw3⟩; have hw3 := hw3.symm; subst hw3)
        | (with_reducible refine at_list ?_; first
          | (refine wpList_allocRow (op := ⟨some 4, _, _, _, _, _⟩) rfl _ rfl _ zAr.1 ?_; intro w1 hw1 hs1 hz; replace hs1 := hs1.symm; obtain ⟨_, c1, _⟩ := half_cells (hb.belowSize hw1))
          | (refine wpList_allocRow (op := ⟨some 5, _, _, _, _, _⟩) rfl _ rfl _ zAr.1 ?_; intro w2 hw2 hs2 hy; replace hs2 := hs2.symm; have hB2 := hw1.trans (hw2.mono hw1.size); obtain ⟨_, _, c2, _⟩ := half_cells (hb.belowSize hB2); have hne1 : w.heap.size ≠ w1.heap.size := Nat.ne_of_lt hz.lt)
          | (refine wpList_storeCell (op := ⟨none, .store 190 (.tmp 23) (.tmp 22), _, _, _, _⟩) rfl _ _ _ rfl w1.heap.size 0 rfl (.pointer (some ⟨b, 0, none⟩)) rfl _ _ hy (by exact iPh) (by simp [Value.cells]) (by simp [Value.oneCell']) (by simp) ?_; intro w4 hg4 hs4 hy4; obtain ⟨c5, c6⟩ := blk2c hy4; have hz4 := hz.belowSize hw2; replace hz4 := hz4.grown hg4 (fun e => absurd (Option.some.inj e) hne1))
          | (refine wpList_storeRow (op := ⟨none, .store 194 (.tmp 4) (.tmp 24), _, _, _, _⟩) rfl _ _ _ rfl w.heap.size #[.pointer (some ⟨b, 0, none⟩), .pointer none] rfl rfl _ _ hz4 (by simp) (by simpa using zAr.2) (by simp [Value.oneCell']) ?_; intro w6 hg6 hs6 hz6; have hB4 := hB2.trans (below_of_grown hg4 hw1.size hB2.size); have HB := hB4.trans (below_of_grown hg6 (Nat.le_refl _) hB4.size))))
      refine bodyPost_ret (v := .agg #[.pointer (some ⟨b, 0, none⟩), .pointer none]) ?_ rfl ⟨_, _, rfl, hfin HB, rfl, HB⟩
      exact results_cell_row rfl _ _ w.heap.size _ _ _ _ rfl hz6.out Tryz.underlying194 rfl (by exact zAr.2)
    · rw [show Tr.openT i (.lf x) = (.emp, .lf x) from if_neg h0]
      have h1' : bitD x.1 i = 1 := by omega
      rw [h1'] at HS
      dsimp only
      go_enter Tryz.func166, Tryz.ntmps166
      go_wp2_with (first
        | (go_at_call 191; refine (HS _).mono ?_; rintro e w3 ⟨rfl, hw3⟩; have hw3 := hw3.symm; subst hw3)
        | (with_reducible refine at_list ?_; first
          | (refine wpList_allocRow (op := ⟨some 4, _, _, _, _, _⟩) rfl _ rfl _ zAr.1 ?_; intro w1 hw1 hs1 hz; replace hs1 := hs1.symm; obtain ⟨_, c1, _⟩ := half_cells (hb.belowSize hw1))
          | (refine wpList_allocRow (op := ⟨some 5, _, _, _, _, _⟩) rfl _ rfl _ zAr.1 ?_; intro w2 hw2 hs2 hy; replace hs2 := hs2.symm; have hB2 := hw1.trans (hw2.mono hw1.size); obtain ⟨_, _, c2, _⟩ := half_cells (hb.belowSize hB2); have hne1 : w.heap.size ≠ w1.heap.size := Nat.ne_of_lt hz.lt)
          | (refine wpList_storeCell (op := ⟨none, .store 190 (.tmp 23) (.tmp 22), _, _, _, _⟩) rfl _ _ _ rfl w1.heap.size 1 rfl (.pointer (some ⟨b, 0, none⟩)) rfl _ _ hy (by exact iPh) (by simp [Value.cells]) (by simp [Value.oneCell']) (by simp) ?_; intro w4 hg4 hs4 hy4; obtain ⟨c5, c6⟩ := blk2c hy4; have hz4 := hz.belowSize hw2; replace hz4 := hz4.grown hg4 (fun e => absurd (Option.some.inj e) hne1))
          | (refine wpList_storeRow (op := ⟨none, .store 194 (.tmp 4) (.tmp 24), _, _, _, _⟩) rfl _ _ _ rfl w.heap.size #[.pointer none, .pointer (some ⟨b, 0, none⟩)] rfl rfl _ _ hz4 (by simp) (by simpa using zAr.2) (by simp [Value.oneCell']) ?_; intro w6 hg6 hs6 hz6; have hB4 := hB2.trans (below_of_grown hg4 hw1.size hB2.size); have HB := hB4.trans (below_of_grown hg6 (Nat.le_refl _) hB4.size))))
      refine bodyPost_ret (v := .agg #[.pointer none, .pointer (some ⟨b, 0, none⟩)]) ?_ rfl ⟨_, _, rfl, rfl, hfin HB, HB⟩
      exact results_cell_row rfl _ _ w.heap.size _ _ _ _ rfl hz6.out Tryz.underlying194 rfl (by exact zAr.2)
end Go.Proofs.YtmbdhngoldganaaGreatDoor.Sh
namespace Go.Proofs.YtmbdhngoldganaaGreatDoor.Sh
open Go Go.RowKit Go.Shelf
set_option maxRecDepth 100000 in
theorem way_any (p : List UInt8) (w : World) : Calls Tryz.prog 156 #[.string ⟨p.toArray⟩] w fun e w' => e = .returned (.func (.func 190) #[] #[.pointer (some ⟨w.heap.size, 0, none⟩)]) ∧ Blk w' w.heap.size #[.string ⟨p.toArray⟩] 9 ∧ Below w.heap.size w w' := by
  go_enter Tryz.func156, Tryz.ntmps156
  go_wp2_with fail
  go_ret
  exact ⟨rfl, Blk.new _ _ _, (Below.refl _ _).alloc (Nat.le_refl _) _⟩
abbrev encW (p : List UInt8) (i : Fin 256) : Array Value := #[.int .i64 ((i.1 : Nat) : Int), .int .i64 ((bitD p i.1 : Nat) : Int)]
def allW : List (Fin 256) := List.finRange 256
theorem allW_len : allW.length = 256 := List.length_finRange
theorem allW_take {k : Nat} (h : k < 256) : allW.take (k + 1) = allW.take k ++ [⟨k, h⟩] := by
  rw [List.take_succ_eq_append_getElem (by rw [allW_len]; exact h)]
  congr 2
  unfold allW
  rw [List.getElem_finRange]
  rfl
abbrev KpW (B : Nat) (p : List UInt8) (W W' : World) : Prop := Blk W B #[.string ⟨p.toArray⟩] 9 → Blk W' B #[.string ⟨p.toArray⟩] 9
section
attribute [local go_sem] Oper.semAt_some
set_option maxRecDepth 100000 in
set_option maxHeartbeats 2000000 in
theorem way1_in (n : Nat) (hn : 1 ≤ n) (l B : Nat) (p : List UInt8) (hp : p.length = 32) (J Jx : List (Fin 256) → World → Prop)
    (hY : ∀ pre x W, J pre W → pre.length < 256 → YieldAt Fence.wide (n - 1) Tryz.prog l (encW p x) W fun e W' =>
      (e = .returned (.bool true) ∧ J (pre ++ [x]) W' ∧ KpW B p W W') ∨ (e = .returned (.bool false) ∧ Jx (pre ++ [x]) W'))
    (W : World) (hI : Blk W B #[.string ⟨p.toArray⟩] 9) (h0 : J [] W) :
    CallsIn Fence.wide n Tryz.prog 190 #[.func (.yield l) #[] #[], .pointer (some ⟨B, 0, none⟩)] W fun e W' => (∃ v, e = .returned v) ∧
      ((∃ ys, ys = allW ∧ J ys W') ∨ (∃ pre, (∃ k, k ≤ 256 ∧ pre = allW.take k) ∧ Jx pre W')) := by
  refine callsIn_of_wp Tryz.func190 rfl trivial ?_ rfl
  simp only [Tryz.ntmps190, List.size_toArray, List.length_cons, List.length_nil, Nat.reduceAdd, Nat.reduceSub, Array.replicate_succ, Array.replicate_zero, List.push_toArray, List.append_toArray, List.nil_append, List.cons_append]
  gi_wp2
  gi_loopw [4] (fun i wr => ∃ k : Nat, k ≤ 256 ∧ i = .int .i64 k ∧ J (allW.take k) wr ∧ Blk wr B #[.string ⟨p.toArray⟩] 9)
    (fun i _ => 256 - (intOf i).toNat)
  case atStart => exact ⟨0, Nat.zero_le _, rfl, h0, hI⟩
  case round =>
    obtain ⟨k, hk, rfl, hJs, hIr⟩ := hrel
    by_cases hlt : k < 256
    · have hTk := allW_take hlt
      have HS := fun w1 => side_any p k w1 hlt hp
      obtain ⟨fn, tmps, assign, body, hy, hR⟩ := hY _ ⟨k, hlt⟩ wr hJs (by rw [List.length_take]; omega)
      rw [← hTk] at hR
      clear hTk
      dsimp only [encW] at hy
      generalize bitD p k = bt at *
      have hc : wr.cell? ⟨B, 0, none⟩ = some (.string ⟨p.toArray⟩) := hIr.cell 0
      have hi1 : (k : Int) < 256 := by omega
      gi_wp2_with (refine ⟨trivial, ?_⟩; gi_at_call 191; refine (callsIn_wide.2 (HS _)).mono ?_; rintro e w3 ⟨rfl, hw3⟩; have hw3 := hw3.symm; subst hw3)
      refine hR.mono ?_
      rintro e W3 (⟨rfl, hJ3, hk3⟩ | ⟨rfl, hJx3⟩)
      · gi_wp2
        go_roundw
        case rel => exact ⟨k + 1, by omega, by go_num, hJ3, hk3 hIr⟩
        case measure => simp [intOf]; omega
      · gi_wp2
        refine bodyPost_ret (results_none rfl _ _ _) rfl ?_
        exact ⟨⟨_, rfl⟩, .inr ⟨_, ⟨k + 1, by omega, rfl⟩, hJx3⟩⟩
    · obtain rfl : k = 256 := by omega
      gi_wp2
      go_end0
      exact ⟨⟨_, rfl⟩, .inl ⟨_, by rw [List.take_of_length_le (by rw [allW_len]; exact Nat.le_refl _)], hJs⟩⟩
end
theorem way_stops (n : Nat) (hn : 1 ≤ n) (B : Nat) (p : List UInt8) (hp : p.length = 32) (w : World) (hI : Blk w B #[.string ⟨p.toArray⟩] 9) :
    SeqStopsK Fence.wide n Tryz.prog 190 #[.pointer (some ⟨B, 0, none⟩)] (encW p) (KpW B p) (fun ys => ys = allW) (fun pre => ∃ k, k ≤ 256 ∧ pre = allW.take k) 256 w :=
  fun l J Jx W hW _ _ hY h0 => way1_in n hn l B p hp J Jx hY W (hI.belowSize hW) h0
theorem Blk.turn {w w' : World} {b : Nat} {c : Array Value} {t : TypeId} {row : Option Nat} (h : Blk w b c t) (hg : w.grownBy w' row) (hr : ∀ r, row = some r → ∃ o : Obj, w.heap[r]? = some o ∧ o.isCells = false) : Blk w' b c t := h.grown hg (fun e => by
  obtain ⟨o, ho, hc⟩ := hr b e.symm
  rw [h.out] at ho
  cases ho
  cases hc)
theorem kpW_t {B : Nat} {p : List UInt8} {A C D : World} (h : KpW B p A C) (k : KpW B p C D) : KpW B p A D := fun hi => k (h hi)
theorem kpW_b {B : Nat} {p : List UInt8} {w : World} (W : World) (l : Nat) (o o' : Obj) (_ : w.heap.size ≤ l) (h : W.heap[l]? = some o) (hc : o.isCells = false) (_ : o.isWalk = false) : KpW B p W (W.putObj l o') := fun hi => hi.turn (grownBy_putObj' W l o') (fun r e => by
  have e := Option.some.inj e
  subst e
  exact ⟨o, h, hc⟩)
end Go.Proofs.YtmbdhngoldganaaGreatDoor.Sh
