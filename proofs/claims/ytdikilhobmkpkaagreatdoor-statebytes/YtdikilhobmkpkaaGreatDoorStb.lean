/- What Value, KeyOf, NonceOf, Get, Last, Len, takeLast and lastOf do. -/
import Derived.Test.YtdikilhobmkpkaaGreatDoorSta
import Derived.Test.YtdikilhobmkpkaaGreatDoorAt
namespace Go.Proofs.YtdikilhobmkpkaaGreatDoor
open Go Go.RowKit Go.Maps
def kOf (s : List UInt8) : List UInt8 := [107] ++ s
def nOf (c : Nat) : List UInt8 := [110] ++ num c 8
theorem kOf_length (s : List UInt8) : (kOf s).length = s.length + 1 := by simp [kOf]
theorem nOf_length (c : Nat) : (nOf c).length = 9 := by simp [nOf, num_length]
/-- What a text has. -/
def valM (m : List KV) (s : List UInt8) : List UInt8 := (getM m s).getD []
def hasM (m : List KV) (s : List UInt8) : Bool := (getM m s).isSome
section
attribute [local go_sem] mkApp2
theorem mkApp107 (y : List UInt8) : (ByteArray.mk #[107] ++ ByteArray.mk y.toArray) = ByteArray.mk (kOf y).toArray := mkApp2 [107] y
theorem mkApp110 (y : List UInt8) : (ByteArray.mk #[110] ++ ByteArray.mk y.toArray) = ByteArray.mk ([110] ++ y).toArray := mkApp2 [110] y
attribute [local go_sem] mkApp107 mkApp110
theorem keyOf_any (s : List UInt8) (w : World) (h : s.length ≤ 9223372036854775000) : Calls Tryz.prog 19 #[.string ⟨s.toArray⟩] w fun e w' => e = .returned (.string ⟨(kOf s).toArray⟩) ∧ w' = w := by
  go_enter Tryz.func19, Tryz.ntmps19
  go_wp2
  go_ret
  exact ⟨rfl, rfl⟩
theorem rkeyOf_any (s : List UInt8) (w : World) (h : s.length ≤ 9223372036854775000) : Calls Tryz.prog 20 #[.string ⟨s.toArray⟩] w fun e w' => e = .returned (.string ⟨(kOf s).toArray⟩) ∧ w' = w := by
  go_enter Tryz.func20, Tryz.ntmps20
  go_wp2
  go_ret
  exact ⟨rfl, rfl⟩
theorem nonceOf_any (c : Nat) (w : World) : Calls Tryz.prog 21 #[.int .u64 c] w fun e w' => e = .returned (.string ⟨(nOf c).toArray⟩) ∧ Below w.heap.size w w' := by
  have HN := number_any c 8 w
  have hl := num_length 8 c
  unfold nOf
  rw [show cut8 8 = 8 from rfl] at HN
  generalize num c 8 = t at *
  go_enter Tryz.func21, Tryz.ntmps21
  go_wp2_with (go_at_call 52; refine HN.mono ?_; rintro e w1 ⟨rfl, hw1⟩)
  go_ret
  exact ⟨rfl, hw1⟩
theorem rnonceOf_any (c : Nat) (hc : c < 18446744073709551616) (w : World) : Calls Tryz.prog 22 #[.int .u64 c] w fun e w' => e = .returned (.string ⟨(nOf c).toArray⟩) ∧ Below w.heap.size w w' := by
  have HN := rnum_any c 8 w hc
  have hl := num_length 8 c
  unfold nOf
  rw [show cut8 8 = 8 from rfl] at HN
  generalize num c 8 = t at *
  go_enter Tryz.func22, Tryz.ntmps22
  go_wp2_with (go_at_call 53; refine HN.mono ?_; rintro e w1 ⟨rfl, hw1⟩)
  go_ret
  exact ⟨rfl, hw1⟩
end
section
variable {ops : Array Oper} {rest : List Oper} {op : Oper} {a : Act} {w : World} {Q : Exit → Act → World → Prop}
theorem wpList_storeHeld (hgd : op.guard = none) (x y : Operand) (ho : op.op = .store 65 x y) (b : Nat) (hx : a.eval x = .pointer (some ⟨b, 0, none⟩)) (v : List UInt8) (hy : a.eval y = .agg #[.string ⟨v.toArray⟩]) (u : ByteArray) (hb : Blk w b #[.string u] 65)
    (h : ∀ w1 : World, w.grownBy w1 (some b) → w1.heap.size = w.heap.size → Blk w1 b #[.string ⟨v.toArray⟩] 65 → w1.cell? ⟨b, 0, none⟩ = some (.string ⟨v.toArray⟩) → wpList Tryz.prog ops Q rest (a.put op.dst undef) w1) : wpList Tryz.prog ops Q (op :: rest) a w :=
  wpList_storeRow hgd _ x y ho b #[.string ⟨v.toArray⟩] hx hy _ _ hb rfl zHeld.2 (by simp [Value.oneCell']) (fun w1 h1 h2 h3 => h w1 h1 h2 h3 (h3.cell 0))
theorem wpList_loadHeld (hgd : op.guard = none) (x : Operand) (ho : op.op = .load 65 x) (b : Nat) (hx : a.eval x = .pointer (some ⟨b, 0, none⟩)) (v : List UInt8) (hb : Blk w b #[.string ⟨v.toArray⟩] 65)
    (h : wpList Tryz.prog ops Q rest (a.put op.dst (.agg #[.string ⟨v.toArray⟩])) w) : wpList Tryz.prog ops Q (op :: rest) a w :=
  wpList_loadRow hgd _ x ho b hx _ _ hb _ Tryz.underlying65 rfl zHeld.2 h
end
set_option maxRecDepth 100000 in
theorem value_st (b : Nat) (m : List KV) (s : List UInt8) (w : World) (h : ST w b m) (hs : s.length ≤ maxLen) : Calls Tryz.prog 14 #[.pointer (some ⟨b, 0, none⟩), .string ⟨s.toArray⟩] w fun e w' => e = .returned (.tuple #[.string ⟨(valM m s).toArray⟩, .bool (hasM m s)]) ∧ Below w.heap.size w w' := by
  obtain ⟨mb, h1, h2⟩ := h.out
  have HT := texts_any b mb w h1
  unfold valM hasM
  generalize hq : (getM m s).getD [] = vv
  have HQ : Hid ((getM m s).getD [] = vv) := hq
  clear hq
  generalize hq : (getM m s).isSome = bb
  have HB : Hid ((getM m s).isSome = bb) := hq
  clear hq
  go_enter Tryz.func14, Tryz.ntmps14
  go_wp2_with (first
    | (go_at_call 46; refine HT.mono ?_; rintro e w1 ⟨rfl, hw1⟩; have hw1 := hw1.symm; subst hw1)
    | (with_reducible refine at_list ?_; first
      | (refine wpList_lookM (o := ⟨some 12, _, _, _, _, _⟩) rfl _ _ rfl mb m rfl h2 s rfl hs ?_; rw [HQ.out, HB.out])
      | (refine wpList_allocRow (op := ⟨some 6, _, _, _, _, _⟩) rfl _ rfl _ zHeld.1 ?_; intro w2 hw2 hs2 hb2; replace hs2 := hs2.symm)
      | (refine wpList_storeHeld (op := ⟨none, _, _, _, _, _⟩) rfl _ _ rfl w.heap.size rfl vv rfl _ hb2 ?_; intro w3 hg3 hs3 hb3 c3; replace hs3 := hs3.symm)))

  go_ret2
  exact ⟨rfl, hw2.trans (below_of_grown hg3 (Nat.le_refl _) hw2.size)⟩
set_option maxRecDepth 100000 in
theorem value_nil (s : List UInt8) (w : World) (hs : s.length ≤ maxLen) : Calls Tryz.prog 14 #[.pointer none, .string ⟨s.toArray⟩] w fun e w' => e = .returned (.tuple #[.string ⟨#[]⟩, .bool false]) ∧ Below w.heap.size w w' := by
  have HT := texts_nil w
  go_enter Tryz.func14, Tryz.ntmps14
  go_wp2_with (first
    | (go_at_call 46; refine HT.mono ?_; rintro e w1 ⟨rfl, hw1⟩; have hw1 := hw1.symm; subst hw1)
    | (with_reducible refine at_list ?_; first
      | (refine wpList_lookN (o := ⟨some 12, _, _, _, _, _⟩) rfl _ _ rfl rfl s rfl hs ?_)
      | (refine wpList_allocRow (op := ⟨some 6, _, _, _, _, _⟩) rfl _ rfl _ zHeld.1 ?_; intro w2 hw2 hs2 hb2; replace hs2 := hs2.symm)
      | (refine wpList_storeHeld (op := ⟨none, _, _, _, _, _⟩) rfl _ _ rfl w.heap.size rfl [] rfl _ hb2 ?_; intro w3 hg3 hs3 hb3 c3; replace hs3 := hs3.symm)))
  go_ret2
  exact ⟨rfl, hw2.trans (below_of_grown hg3 (Nat.le_refl _) hw2.size)⟩
theorem get_st (b : Nat) (m : List KV) (s : List UInt8) (w : World) (h : ST w b m) (hs : s.length ≤ 9223372036854775000) : Calls Tryz.prog 13 #[.pointer (some ⟨b, 0, none⟩), .string ⟨s.toArray⟩] w fun e w' => e = .returned (.tuple #[.string ⟨(valM m (kOf s)).toArray⟩, .bool (hasM m (kOf s))]) ∧ Below w.heap.size w w' := by
  have HK := keyOf_any s w hs
  have HV := value_st b m (kOf s) w h (by rw [kOf_length]; unfold maxLen; omega)
  generalize valM m (kOf s) = vv at *
  generalize hasM m (kOf s) = bb at *
  generalize kOf s = ks at *
  go_enter Tryz.func13, Tryz.ntmps13
  go_wp2_with (first
    | (go_at_call 19; refine HK.mono ?_; rintro e w1 ⟨rfl, hw1⟩; have hw1 := hw1.symm; subst hw1)
    | (go_at_call 14; refine HV.mono ?_; rintro e w2 ⟨rfl, hw2⟩))
  go_ret2
  exact ⟨rfl, hw2⟩
theorem get_nil (s : List UInt8) (w : World) (hs : s.length ≤ 9223372036854775000) : Calls Tryz.prog 13 #[.pointer none, .string ⟨s.toArray⟩] w fun e w' => e = .returned (.tuple #[.string ⟨#[]⟩, .bool false]) ∧ Below w.heap.size w w' := by
  have HK := keyOf_any s w hs
  have HV := value_nil (kOf s) w (by rw [kOf_length]; unfold maxLen; omega)
  generalize kOf s = ks at *
  go_enter Tryz.func13, Tryz.ntmps13
  go_wp2_with (first
    | (go_at_call 19; refine HK.mono ?_; rintro e w1 ⟨rfl, hw1⟩; have hw1 := hw1.symm; subst hw1)
    | (go_at_call 14; refine HV.mono ?_; rintro e w2 ⟨rfl, hw2⟩))
  go_ret2
  exact ⟨rfl, hw2⟩
theorem len_st (b : Nat) (m : List KV) (w : World) (h : ST w b m) : Calls Tryz.prog 17 #[.pointer (some ⟨b, 0, none⟩)] w fun e w' => e = .returned (.int .i64 (m.length : Nat)) ∧ w' = w := by
  obtain ⟨mb, h1, h2⟩ := h.out
  have HT := texts_any b mb w h1
  go_enter Tryz.func17, Tryz.ntmps17
  go_wp2_with (first
    | (go_at_call 46; refine HT.mono ?_; rintro e w1 ⟨rfl, hw1⟩; have hw1 := hw1.symm; subst hw1)
    | (with_reducible refine at_list ?_; first
      | (refine wpList_lenM (o := ⟨some 5, _, _, _, _, _⟩) rfl _ rfl mb m rfl h2 ?_)))
  go_ret
  exact ⟨rfl, rfl⟩
theorem len_nil (w : World) : Calls Tryz.prog 17 #[.pointer none] w fun e w' => e = .returned (.int .i64 0) ∧ w' = w := by
  have HT := texts_nil w
  go_enter Tryz.func17, Tryz.ntmps17
  go_wp2_with (first
    | (go_at_call 46; refine HT.mono ?_; rintro e w1 ⟨rfl, hw1⟩; have hw1 := hw1.symm; subst hw1)
    | (with_reducible refine at_list ?_; first
      | (refine wpList_lenN (o := ⟨some 5, _, _, _, _, _⟩) rfl _ rfl rfl ?_)))
  go_ret
  exact ⟨rfl, rfl⟩
end Go.Proofs.YtdikilhobmkpkaaGreatDoor
