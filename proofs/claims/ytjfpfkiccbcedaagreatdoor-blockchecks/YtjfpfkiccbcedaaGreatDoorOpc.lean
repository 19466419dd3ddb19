/- A state's memory; what New, textsOf, Value, Get, KeyOf, NonceOf, Len do. What NewReader, Unframe and the plain Unframe do. What a reader takes where it is known what stands there. What Value, KeyOf, NonceOf, Get, Last, Len, takeLast and lastOf do. What takeLast, Last, isLast and lastOf do. Transactions, plainly: which may be, their bytes, and what a reader takes. Bytes that are read as a transaction are just its bytes, and its bytes are read as it. Operations and transactions in memory. -/
import Derived.Test.YtjfpfkiccbcedaaGreatDoorRow
import Derived.Test.YtjfpfkiccbcedaaGreatDoorWrb
import Derived.Test.YtjfpfkiccbcedaaGreatDoorRc
namespace Go.Proofs.YtjfpfkiccbcedaaGreatDoor
open Go Go.RowKit Go.Maps
theorem K9 : Keyed Tryz.prog 9 := string_keyed Tryz.underlying9
theorem zHeld : (∀ w, (zeroValue 106).run Tryz.prog w = .ok (.agg #[.string ⟨#[]⟩]) w) ∧ (Tryz.prog.info? 106).map (·.size) = some 1 := zero_of_info (by kernel_rfl)
theorem key9 {s : List UInt8} (h : s.length ≤ maxLen) : keyOf Tryz.prog 9 (.string ⟨s.toArray⟩) = some (.string s) := by
  have hs : (ByteArray.mk s.toArray).size ≤ maxLen := by show s.toArray.size ≤ _; simpa using h
  simp [keyOf, mapKey, Tryz.underlying9, hs]
/-- Block mb is a map that has the texts m. -/
abbrev MB (w : World) (mb : Nat) (m : List KV) : Prop := MP Tryz.prog 9 w mb m
section
variable {ops : Array Oper} {rest : List Oper} {o : Oper} {a : Act} {w : World} {Q : Exit → Act → World → Prop}
theorem wpList_lookM (hg : o.guard = none) (x y : Operand) (hop : o.op = Op.lookup 94 x y true) (b : Nat) (m : List KV) (hx : a.eval x = .map (some b)) (hown : MB w b m) (s : List UInt8) (hy : a.eval y = .string ⟨s.toArray⟩) (hs : s.length ≤ maxLen)
    (h : wpList Tryz.prog ops Q rest (a.put o.dst (.tuple #[hv ((getM m s).getD []), .bool (getM m s).isSome])) w) : wpList Tryz.prog ops Q (o :: rest) a w := by
  refine wpList_lookup_own_ok w hg x y _ hop 9 106 K9 Tryz.underlying94 hld (zHeld.1 _) (.lit (.string [])) [] (hld_mk (v := []) (by simp)) b _ (dm m) hx hown _ (.string s) hy (key9 hs) ?_
  intro v ps hv1
  obtain ⟨u, rfl, e, _⟩ := hld_inv hv1
  rw [dm_at] at e
  rw [dm_has]
  simp only [Prod.mk.injEq, DataW.lit.injEq, Lit.string.injEq] at e
  rw [← e.1]
  exact h
theorem wpList_lenM (hg : o.guard = none) (x : Operand) (hop : o.op = Op.call { callee := .builtin .len, args := #[x], argTypes := #[94] }) (b : Nat) (m : List KV) (hx : a.eval x = .map (some b)) (hown : MB w b m)
    (h : wpList Tryz.prog ops Q rest (a.put o.dst (.int .i64 (m.length : Nat))) w) : wpList Tryz.prog ops Q (o :: rest) a w := by
  refine wpList_len_own w hg x _ hop 9 106 Tryz.underlying94 hld b _ (dm m) hx hown ?_
  rw [dm_size]
  exact h
end
/-- Block b is a state that has the texts m. -/
structure ST (w : World) (b : Nat) (m : List KV) : Prop where
  out : ∃ mb, Blk w b #[.map (some mb)] 96 ∧ MB w mb m
theorem ST.lt {w : World} {b : Nat} {m : List KV} (h : ST w b m) : b < w.heap.size := by
  obtain ⟨mb, h1, _⟩ := h.out
  exact h1.lt
theorem ST.below {w w' : World} {b : Nat} {m : List KV} (h : ST w b m) (hb : Below w.heap.size w w') : ST w' b m := by
  obtain ⟨mb, h1, h2⟩ := h.out
  exact ⟨mb, h1.belowSize hb, h2.below hb⟩
theorem ST.kept {w w' : World} {b b' : Nat} {c : Array Value} {t : TypeId} {m : List KV} (h : ST w b m) (hb : w.grownBy w' (some b')) (hc : Blk w b' c t) (hne : b ≠ b') : ST w' b m := by
  obtain ⟨mb, h1, h2⟩ := h.out
  refine ⟨mb, h1.grown hb (fun e => hne (Option.some.inj e)), h2.kept hb (fun e => ?_)⟩
  have e := Option.some.inj e
  subst e
  obtain ⟨es, clock, h3, _⟩ := h2
  rw [hc.out] at h3
  cases h3
theorem ST.ris {w : World} {b : Nat} {m : List KV} (h : ST w b m) : Ris m := by
  obtain ⟨mb, _, h2⟩ := h.out
  exact h2.ris K9
theorem ST.max {w : World} {b : Nat} {m : List KV} (h : ST w b m) : ∀ p ∈ m, p.1.length ≤ maxLen ∧ p.2.length ≤ maxLen := by
  obtain ⟨mb, _, h2⟩ := h.out
  exact h2.max Tryz.underlying9
set_option maxRecDepth 100000 in
theorem new_any (w : World) : Calls Tryz.prog 14 #[] w fun e w' => e = .returned (.pointer (some ⟨w.heap.size + 1, 0, none⟩)) ∧ Below w.heap.size w w' ∧ ST w' (w.heap.size + 1) [] ∧ w'.heap.size = w.heap.size + 2 := by
  have hmm := @run_makeMap Tryz.prog
  go_enter Tryz.func14, Tryz.ntmps14
  go_wp2
  go_ret
  refine ⟨rfl, ((Below.refl _ w).alloc (Nat.le_refl _) _).alloc (by simp) _, ⟨w.heap.size, ?_, ?_⟩, by simp⟩
  · have := Blk.new (w.alloc (.map #[] 0)) #[.map (some w.heap.size)] 96
    simpa using this
  · exact MP.of (World.ownsMap.alloc (World.ownsMap_made w Tryz.prog 9 hld) _) rfl
theorem texts_any (b mb : Nat) (w : World) (h : Blk w b #[.map (some mb)] 96) : Calls Tryz.prog 91 #[.pointer (some ⟨b, 0, none⟩)] w fun e w' => e = .returned (.map (some mb)) ∧ w' = w := by
  have c0 := (h.cell 0).trans rfl
  go_enter Tryz.func91, Tryz.ntmps91
  go_wp2
  go_ret
  exact ⟨rfl, rfl⟩
end Go.Proofs.YtjfpfkiccbcedaaGreatDoor
namespace Go.Proofs.YtjfpfkiccbcedaaGreatDoor
open Go Go.RowKit
theorem built69 (s : List UInt8) : Tryz.prog.built 234 [(0, .string ⟨s.toArray⟩)] = some (rc s 0 0) := by kernel_rfl
set_option maxRecDepth 100000 in
set_option maxHeartbeats 400000 in
theorem newr_any (s : List UInt8) (w : World) : Calls Tryz.prog 142 #[.string ⟨s.toArray⟩] w fun e w' => e = .returned (.pointer (some ⟨w.heap.size, 0, none⟩)) ∧ Below w.heap.size w w' ∧ RD w' w.heap.size ⟨s, 0, 0⟩ := by
  go_enter Tryz.func142, Tryz.ntmps142
  go_wp2_with (with_reducible refine at_list ?_; first
    | (refine wpList_build (o := ⟨some 4, _, _, _, _, _⟩) rfl _ _ rfl (built69 s) ?_)
    | (refine wpList_boxRow (op := ⟨some 5, _, _, _, _, _⟩) rfl _ _ rfl (rc s 0 0) rfl ?_; intro w1 hw1 hs1 hb1; replace hs1 := hs1.symm))
  go_ret
  exact ⟨rfl, hw1, ⟨hb1⟩⟩
theorem extract_dropTo (l : List UInt8) (n m : Nat) (h : m = l.length) : (ByteArray.mk l.toArray).extract n m = ⟨(l.drop n).toArray⟩ := by
  subst h
  have : ((ByteArray.mk l.toArray).extract n l.length).data = (l.drop n).toArray := by
    apply Array.ext'
    simp [ByteArray.extract, ByteArray.copySlice]
    rw [List.take_of_length_le (by simp)]
  rw [show (ByteArray.mk l.toArray).extract n l.length = ⟨((ByteArray.mk l.toArray).extract n l.length).data⟩ from rfl, this]
theorem extract_drop (l : List UInt8) (n : Nat) : (ByteArray.mk l.toArray).extract n l.length = ⟨(l.drop n).toArray⟩ := extract_dropTo l n _ rfl
attribute [local go_sem] extract_drop n32_wrap64
end Go.Proofs.YtjfpfkiccbcedaaGreatDoor
namespace Go.Proofs.YtjfpfkiccbcedaaGreatDoor
open Go Go.RowKit
theorem mid_take (a b c : List UInt8) : ((a ++ (b ++ c)).drop a.length).take b.length = b := by
  rw [List.drop_left, List.take_left]
theorem R.bytes_at (a b c : List UInt8) : (⟨a ++ (b ++ c), a.length, 0⟩ : R).bytes (b.length : Nat) = (⟨a ++ (b ++ c), a.length + b.length, 0⟩, b) := by
  unfold R.bytes
  rw [if_neg (by simp), if_neg (by omega), if_neg (by simp only [List.length_append]; omega)]
  simp only [Int.toNat_natCast]
  rw [mid_take]
theorem R.number_at (a b c : List UInt8) (n : Int) (hn : n = (b.length : Nat)) (h : b.length ≤ 8) : (⟨a ++ (b ++ c), a.length, 0⟩ : R).number n = (⟨a ++ (b ++ c), a.length + b.length, 0⟩, val b) := by
  subst hn
  unfold R.number
  rw [show (⟨a ++ (b ++ c), a.length, 0⟩ : R).early (b.length : Nat) = ⟨a ++ (b ++ c), a.length, 0⟩ from if_neg (by omega), R.bytes_at]
end Go.Proofs.YtjfpfkiccbcedaaGreatDoor
namespace Go.Proofs.YtjfpfkiccbcedaaGreatDoor
open Go Go.RowKit Go.Maps
def kOf (s : List UInt8) : List UInt8 := [107] ++ s
def nOf (c : Nat) : List UInt8 := [110] ++ num c 8
theorem kOf_length (s : List UInt8) : (kOf s).length = s.length + 1 := by simp [kOf]
theorem nOf_length (c : Nat) : (nOf c).length = 9 := by simp [nOf, num_length]
/-- What a text has. -/
def valM (m : List KV) (s : List UInt8) : List UInt8 := (getM m s).getD []
def hasM (m : List KV) (s : List UInt8) : Bool := (getM m s).isSome
section
attribute [local go_sem] mkApp2
theorem mkApp107 (y : List UInt8) : (ByteArray.mk #[107] ++ ByteArray.mk y.toArray) = ByteArray.mk (kOf y).toArray := mkApp2 [107] y
theorem mkApp110 (y : List UInt8) : (ByteArray.mk #[110] ++ ByteArray.mk y.toArray) = ByteArray.mk ([110] ++ y).toArray := mkApp2 [110] y
attribute [local go_sem] mkApp107 mkApp110
theorem keyOf_any (s : List UInt8) (w : World) (h : s.length ≤ 9223372036854775000) : Calls Tryz.prog 110 #[.string ⟨s.toArray⟩] w fun e w' => e = .returned (.string ⟨(kOf s).toArray⟩) ∧ w' = w := by
  go_enter Tryz.func110, Tryz.ntmps110
  go_wp2
  go_ret
  exact ⟨rfl, rfl⟩
theorem nonceOf_any (c : Nat) (w : World) : Calls Tryz.prog 107 #[.int .u64 c] w fun e w' => e = .returned (.string ⟨(nOf c).toArray⟩) ∧ Below w.heap.size w w' := by
  have HN := number_any c 8 w
  have hl := num_length 8 c
  unfold nOf
  rw [show cut8 8 = 8 from rfl] at HN
  generalize num c 8 = t at *
  go_enter Tryz.func107, Tryz.ntmps107
  go_wp2_with (go_at_call 132; refine HN.mono ?_; rintro e w1 ⟨rfl, hw1⟩)
  go_ret
  exact ⟨rfl, hw1⟩
end
section
variable {ops : Array Oper} {rest : List Oper} {op : Oper} {a : Act} {w : World} {Q : Exit → Act → World → Prop}
theorem wpList_storeHeld (hgd : op.guard = none) (x y : Operand) (ho : op.op = .store 106 x y) (b : Nat) (hx : a.eval x = .pointer (some ⟨b, 0, none⟩)) (v : List UInt8) (hy : a.eval y = .agg #[.string ⟨v.toArray⟩]) (u : ByteArray) (hb : Blk w b #[.string u] 106)
    (h : ∀ w1 : World, w.grownBy w1 (some b) → w1.heap.size = w.heap.size → Blk w1 b #[.string ⟨v.toArray⟩] 106 → w1.cell? ⟨b, 0, none⟩ = some (.string ⟨v.toArray⟩) → wpList Tryz.prog ops Q rest (a.put op.dst undef) w1) : wpList Tryz.prog ops Q (op :: rest) a w :=
  wpList_storeRow hgd _ x y ho b #[.string ⟨v.toArray⟩] hx hy _ _ hb rfl zHeld.2 (by simp [Value.oneCell']) (fun w1 h1 h2 h3 => h w1 h1 h2 h3 (h3.cell 0))
theorem wpList_loadHeld (hgd : op.guard = none) (x : Operand) (ho : op.op = .load 106 x) (b : Nat) (hx : a.eval x = .pointer (some ⟨b, 0, none⟩)) (v : List UInt8) (hb : Blk w b #[.string ⟨v.toArray⟩] 106)
    (h : wpList Tryz.prog ops Q rest (a.put op.dst (.agg #[.string ⟨v.toArray⟩])) w) : wpList Tryz.prog ops Q (op :: rest) a w :=
  wpList_loadRow hgd _ x ho b hx _ _ hb _ Tryz.underlying106 rfl zHeld.2 h
end
set_option maxRecDepth 100000 in
theorem value_st (b : Nat) (m : List KV) (s : List UInt8) (w : World) (h : ST w b m) (hs : s.length ≤ maxLen) : Calls Tryz.prog 94 #[.pointer (some ⟨b, 0, none⟩), .string ⟨s.toArray⟩] w fun e w' => e = .returned (.tuple #[.string ⟨(valM m s).toArray⟩, .bool (hasM m s)]) ∧ Below w.heap.size w w' := by
  obtain ⟨mb, h1, h2⟩ := h.out
  have HT := texts_any b mb w h1
  unfold valM hasM
  generalize hq : (getM m s).getD [] = vv
  have HQ : Hid ((getM m s).getD [] = vv) := hq
  clear hq
  generalize hq : (getM m s).isSome = bb
  have HB : Hid ((getM m s).isSome = bb) := hq
  clear hq
  go_enter Tryz.func94, Tryz.ntmps94
  go_wp2_with (first
    | (go_at_call 91; refine HT.mono ?_; rintro e w1 ⟨rfl, hw1⟩; have hw1 := hw1.symm; subst hw1)
    | (with_reducible refine at_list ?_; first
      | (refine wpList_lookM (o := ⟨some 12, _, _, _, _, _⟩) rfl _ _ rfl mb m rfl h2 s rfl hs ?_; rw [HQ.out, HB.out])
      | (refine wpList_allocRow (op := ⟨some 6, _, _, _, _, _⟩) rfl _ rfl _ zHeld.1 ?_; intro w2 hw2 hs2 hb2; replace hs2 := hs2.symm)
      | (refine wpList_storeHeld (op := ⟨none, _, _, _, _, _⟩) rfl _ _ rfl w.heap.size rfl vv rfl _ hb2 ?_; intro w3 hg3 hs3 hb3 c3; replace hs3 := hs3.symm)))

  go_ret2
  exact ⟨rfl, hw2.trans (below_of_grown hg3 (Nat.le_refl _) hw2.size)⟩
theorem get_st (b : Nat) (m : List KV) (s : List UInt8) (w : World) (h : ST w b m) (hs : s.length ≤ 9223372036854775000) : Calls Tryz.prog 143 #[.pointer (some ⟨b, 0, none⟩), .string ⟨s.toArray⟩] w fun e w' => e = .returned (.tuple #[.string ⟨(valM m (kOf s)).toArray⟩, .bool (hasM m (kOf s))]) ∧ Below w.heap.size w w' := by
  have HK := keyOf_any s w hs
  have HV := value_st b m (kOf s) w h (by rw [kOf_length]; unfold maxLen; omega)
  generalize valM m (kOf s) = vv at *
  generalize hasM m (kOf s) = bb at *
  generalize kOf s = ks at *
  go_enter Tryz.func143, Tryz.ntmps143
  go_wp2_with (first
    | (go_at_call 110; refine HK.mono ?_; rintro e w1 ⟨rfl, hw1⟩; have hw1 := hw1.symm; subst hw1)
    | (go_at_call 94; refine HV.mono ?_; rintro e w2 ⟨rfl, hw2⟩))
  go_ret2
  exact ⟨rfl, hw2⟩
theorem len_st (b : Nat) (m : List KV) (w : World) (h : ST w b m) : Calls Tryz.prog 51 #[.pointer (some ⟨b, 0, none⟩)] w fun e w' => e = .returned (.int .i64 (m.length : Nat)) ∧ w' = w := by
  obtain ⟨mb, h1, h2⟩ := h.out
  have HT := texts_any b mb w h1
  go_enter Tryz.func51, Tryz.ntmps51
  go_wp2_with (first
    | (go_at_call 91; refine HT.mono ?_; rintro e w1 ⟨rfl, hw1⟩; have hw1 := hw1.symm; subst hw1)
    | (with_reducible refine at_list ?_; first
      | (refine wpList_lenM (o := ⟨some 5, _, _, _, _, _⟩) rfl _ rfl mb m rfl h2 ?_)))
  go_ret
  exact ⟨rfl, rfl⟩
end Go.Proofs.YtjfpfkiccbcedaaGreatDoor
namespace Go.Proofs.YtjfpfkiccbcedaaGreatDoor
open Go Go.RowKit Go.Maps
theorem To.belowNew {w w1 w2 : World} {b : Nat} {r : R} (h : Below w.heap.size w w1) (k : To w1 w2 b r) (hb : w.heap.size ≤ b) : Below w.heap.size w w2 := h.trans (below_of_grown k.grown hb h.size)
theorem takeLast_any (b : Nat) (r : R) (w : World) (h : RD w b r) (hk : r.ok) (hl : r.s.length ≤ 140737488355328) :
    Calls Tryz.prog 141 #[.pointer (some ⟨b, 0, none⟩)] w fun e w' => e = .returned (.tuple #[.int .u64 (r.number 8).2, .string ⟨((r.number 8).1.bytes 32).2.toArray⟩]) ∧ To w w' b ((r.number 8).1.bytes 32).1 := by
  have HN := number_r b r 8 w h hk hl
  have HH := fun w (h : RD w b (r.number 8).1) => hash_any b (r.number 8).1 w h (R.ok_number hk 8) (by rw [R.number_s]; exact hl)
  generalize ((r.number 8).1.bytes 32).2 = t at *
  generalize ((r.number 8).1.bytes 32).1 = u at *
  generalize (r.number 8).2 = n at *
  generalize (r.number 8).1 = r1 at *
  go_enter Tryz.func141, Tryz.ntmps141
  go_wp2_with (first
    | (go_at_call 168; refine HN.mono ?_; rintro e w1 ⟨rfl, hT1⟩)
    | (go_at_call 169; refine (HH _ hT1.rd).mono ?_; rintro e w2 ⟨rfl, hT2⟩))
  go_ret2
  exact ⟨rfl, hT1.trans hT2⟩
/-- A client's last number, out of what its text has. -/
def lastN (v : List UInt8) : Nat := ((⟨v, 0, 0⟩ : R).number 8).2
def lastD (v : List UInt8) : List UInt8 := ((((⟨v, 0, 0⟩ : R).number 8).1).bytes 32).2
/-- A client's last number. -/
def lastM (m : List KV) (c : Nat) : Nat := bif hasM m (nOf c) then lastN (valM m (nOf c)) else 0
def lastI (m : List KV) (c : Nat) : List UInt8 := bif hasM m (nOf c) then lastD (valM m (nOf c)) else []
theorem ok0 (v : List UInt8) : (⟨v, 0, 0⟩ : R).ok := Nat.zero_le _
set_option maxRecDepth 100000 in
theorem last_st (b : Nat) (m : List KV) (c : Nat) (w : World) (h : ST w b m) (hv1 : (valM m (nOf c)).length ≤ 140737488355328) :
    Calls Tryz.prog 106 #[.pointer (some ⟨b, 0, none⟩), .int .u64 c] w fun e w' => e = .returned (.tuple #[.int .u64 (lastM m c), .string ⟨(lastI m c).toArray⟩]) ∧ Below w.heap.size w w' := by
  have HN := nonceOf_any c w
  have HV := fun w (h : ST w b m) => value_st b m (nOf c) w h (by rw [nOf_length]; unfold maxLen; omega)
  have HR := fun w => newr_any (valM m (nOf c)) w
  have HT := fun rb w (h : RD w rb ⟨valM m (nOf c), 0, 0⟩) => takeLast_any rb _ w h (ok0 _) hv1
  unfold lastM lastI lastN lastD
  generalize valM m (nOf c) = vv at *
  generalize nOf c = nc at *
  generalize ((⟨vv, 0, 0⟩ : R).number 8).2 = n1 at *
  generalize ((((⟨vv, 0, 0⟩ : R).number 8).1).bytes 32).2 = d1 at *
  generalize hasM m nc = bb at *
  cases bb
  · go_enter Tryz.func106, Tryz.ntmps106
    go_wp2_with (first
      | (go_at_call 107; refine HN.mono ?_; rintro e w1 ⟨rfl, hw1⟩)
      | (go_at_call 94; refine (HV _ (h.below hw1)).mono ?_; rintro e w2 ⟨rfl, hw2⟩))
    go_ret2
    exact ⟨rfl, hw1.trans (hw2.mono hw1.size)⟩
  · go_enter Tryz.func106, Tryz.ntmps106
    go_wp2_with (first
      | (go_at_call 107; refine HN.mono ?_; rintro e w1 ⟨rfl, hw1⟩)
      | (go_at_call 94; refine (HV _ (h.below hw1)).mono ?_; rintro e w2 ⟨rfl, hw2⟩; have hB2 := hw1.trans (hw2.mono hw1.size))
      | (go_at_call 142; refine (HR _).mono ?_; rintro e w3 ⟨rfl, hw3, hR3⟩; have hB3 := hB2.trans (hw3.mono hB2.size))
      | (go_at_call 141; refine (HT _ _ hR3).mono ?_; rintro e w4 ⟨rfl, hT4⟩))
    go_ret2
    exact ⟨rfl, hT4.belowNew hB3 hB2.size⟩
/-- What a client's text has. -/
def lastB (n : Nat) (d : List UInt8) : List UInt8 := num n 8 ++ hash32 d
theorem lastB_length (n : Nat) (d : List UInt8) : (lastB n d).length = 40 := by simp [lastB, num_length, hash32_length]
theorem lastOf_any (n : Nat) (d : List UInt8) (w : World) : Calls Tryz.prog 111 #[.int .u64 n, .string ⟨d.toArray⟩] w fun e w' => e = .returned (.string ⟨(lastB n d).toArray⟩) ∧ Below w.heap.size w w' := by
  have HW := neww_any w
  have HN := fun w1 (h : WR w1 w.heap.size []) => wnumber_any w.heap.size [] n 8 w1 h (by simp)
  have HH := fun w1 (h : WR w1 w.heap.size (num n 8)) => whash_any w.heap.size (num n 8) d w1 h (by rw [num_length]; omega)
  have HA := fun w1 (h : WR w1 w.heap.size (num n 8 ++ hash32 d)) => wall_any w.heap.size _ w1 h
  rw [show cut8 8 = 8 from rfl] at HN
  unfold lastB
  have HE : Hid ([] ++ num n 8 = num n 8) := rfl
  generalize hash32 d = dd at *
  generalize num n 8 = nn at *
  go_enter Tryz.func111, Tryz.ntmps111
  go_wp2_with (first
    | (go_at_call 49; refine HW.mono ?_; rintro e w1 ⟨rfl, hw1, hW1⟩)
    | (go_at_call 90; refine (HN _ hW1).mono ?_; rintro e w2 ⟨rfl, hP2⟩; have hW2 := hP2.wr; rw [HE.out] at hW2)
    | (go_at_call 130; refine (HH _ hW2).mono ?_; rintro e w3 ⟨rfl, hP3⟩; have hW3 := hP3.wr)
    | (go_at_call 54; refine (HA _ hW3).mono ?_; rintro e w4 ⟨rfl, hw4⟩; have hw4 := hw4.symm; subst hw4))
  go_ret
  exact ⟨rfl, hw1.trans ((hP2.below.mono (Nat.le_refl _)).trans hP3.below)⟩
end Go.Proofs.YtjfpfkiccbcedaaGreatDoor
namespace Go.Proofs.YtjfpfkiccbcedaaGreatDoor
open Go
/-- An operation. -/
structure O where
  kind : Int
  key : List UInt8
  val : List UInt8
/-- A transaction. -/
structure TX where
  client : Nat
  nonce : Nat
  ops : List O
def okOp (o : O) : Bool := decide (o.key.length ≠ 0 ∧ o.key.length ≤ 32 ∧ (((o.kind = 1 ∨ o.kind = 3) ∧ o.val.length ≤ 64) ∨ ((o.kind = 2 ∨ o.kind = 4) ∧ o.val.length = 0)))
def okTx (t : TX) : Bool := decide (t.nonce ≠ 0 ∧ t.ops.length ≠ 0 ∧ t.ops.length ≤ 8) && t.ops.all okOp
def chk (t : TX) : Int := if okTx t = true then 0 else 40
def opB (o : O) : List UInt8 := num o.kind.toNat 1 ++ ((num o.key.length 4 ++ o.key) ++ (num o.val.length 4 ++ o.val))
def opsB (l : List O) : List UInt8 := l.flatMap opB
def hdB (c n k : Nat) : List UInt8 := num c 8 ++ (num n 8 ++ num k 4)
def txB (t : TX) : List UInt8 := hdB t.client t.nonce t.ops.length ++ opsB t.ops
theorem opsB_nil : opsB [] = [] := rfl
theorem opsB_snoc (l : List O) (o : O) : opsB (l ++ [o]) = opsB l ++ opB o := by simp [opsB]
theorem opsB_cons (l : List O) (o : O) : opsB (o :: l) = opB o ++ opsB l := by simp [opsB]
structure OkO (o : O) : Prop where
  k0 : 1 ≤ o.kind
  k1 : o.kind ≤ 4
  key0 : 1 ≤ o.key.length
  key1 : o.key.length ≤ 32
  val1 : o.val.length ≤ 64
theorem okOp_of {o : O} (h : okOp o = true) : OkO o := by
  unfold okOp at h
  have h := of_decide_eq_true h
  exact ⟨by omega, by omega, by omega, by omega, by omega⟩
structure OkT (t : TX) : Prop where
  nonce : t.nonce ≠ 0
  len0 : 1 ≤ t.ops.length
  len1 : t.ops.length ≤ 8
  each : ∀ o ∈ t.ops, okOp o = true
theorem okTx_of {t : TX} (h : okTx t = true) : OkT t := by
  unfold okTx at h
  rw [Bool.and_eq_true] at h
  have h1 := of_decide_eq_true h.1
  exact ⟨h1.1, by omega, h1.2.2, fun o ho => List.all_eq_true.1 h.2 o ho⟩
theorem OkT.okO {t : TX} (h : OkT t) {o : O} (ho : o ∈ t.ops) : OkO o := okOp_of (h.each o ho)
theorem chk_zero {t : TX} (h : okTx t = true) : chk t = 0 := if_pos h
theorem chk_not {t : TX} (h : ¬ okTx t = true) : chk t = 40 := if_neg h
theorem opB_length (o : O) : (opB o).length = 9 + o.key.length + o.val.length := by simp [opB, num_length]; omega
theorem opB_le {o : O} (h : OkO o) : (opB o).length ≤ 105 := by rw [opB_length]; have := h.key1; have := h.val1; omega
theorem opsB_le : ∀ (l : List O), (∀ o ∈ l, OkO o) → (opsB l).length ≤ 105 * l.length
  | [], _ => by simp [opsB]
  | o :: l, h => by
    have h1 := opB_le (h o (by simp))
    have h2 := opsB_le l (fun p hp => h p (by simp [hp]))
    rw [opsB_cons, List.length_append, List.length_cons]
    omega
theorem hdB_length (c n k : Nat) : (hdB c n k).length = 20 := by simp [hdB, num_length]
theorem txB_le {t : TX} (h : OkT t) : (txB t).length ≤ 860 := by
  have h1 := opsB_le t.ops (fun o ho => h.okO ho)
  have h2 := h.len1
  rw [txB, List.length_append, hdB_length]
  omega
end Go.Proofs.YtjfpfkiccbcedaaGreatDoor
namespace Go.Proofs.YtjfpfkiccbcedaaGreatDoor
open Go
end Go.Proofs.YtjfpfkiccbcedaaGreatDoor
namespace Go.Proofs.YtjfpfkiccbcedaaGreatDoor
open Go Go.RowKit
/-- The cells of an operation. -/
def opc (o : O) : Array Value := #[.int .i64 o.kind, .string ⟨o.key.toArray⟩, .string ⟨o.val.toArray⟩]
/-- The cells of a transaction whose operations are the slice sl. -/
def txc (c n : Nat) (sl : Value) : Array Value := #[.int .u64 (c : Nat), .int .u64 (n : Nat), sl]
theorem opc_size (o : O) : (opc o).size = 3 := rfl
theorem txc_size (c n : Nat) (sl : Value) : (txc c n sl).size = 3 := rfl
theorem opc_one (o : O) : (opc o).all (·.oneCell') = true := by simp [opc, Value.oneCell']
theorem txc_one (c n : Nat) (a : Option Addr) (len cap : Nat) : (txc c n (.slice a len cap)).all (·.oneCell') = true := by simp [txc, Value.oneCell']
theorem opc_g0 (o : O) : (opc o)[0]? = some (.int .i64 o.kind) := rfl
theorem opc_g1 (o : O) : (opc o)[1]? = some (.string ⟨o.key.toArray⟩) := rfl
theorem opc_g2 (o : O) : (opc o)[2]? = some (.string ⟨o.val.toArray⟩) := rfl
theorem txc_g0 (c n : Nat) (sl : Value) : (txc c n sl)[0]? = some (.int .u64 (c : Nat)) := rfl
theorem txc_g1 (c n : Nat) (sl : Value) : (txc c n sl)[1]? = some (.int .u64 (n : Nat)) := rfl
theorem txc_g2 (c n : Nat) (sl : Value) : (txc c n sl)[2]? = some sl := rfl
theorem zOp : (∀ w, (zeroValue 90).run Tryz.prog w = .ok (.agg (opc ⟨0, [], []⟩)) w) ∧ (Tryz.prog.info? 90).map (·.size) = some 3 := zero_of_info (by kernel_rfl)
theorem zTx : (∀ w, (zeroValue 60).run Tryz.prog w = .ok (.agg (txc 0 0 (.slice none 0 0))) w) ∧ (Tryz.prog.info? 60).map (·.size) = some 3 := zero_of_info (by kernel_rfl)
/-- The operations l lie at a. -/
def SL (w : World) (a : Option Addr) (l : List O) : Prop := ∀ i (h : i < l.length), ∃ g o, a = some ⟨g, o, none⟩ ∧ w.rangeAt g (o + i * 3) (opc l[i]).toList
theorem SL.below {w w' : World} {a : Option Addr} {l : List O} (h : SL w a l) (hb : Below w.heap.size w w') : SL w' a l := fun i hi => by
  obtain ⟨g, o, ha, hr⟩ := h i hi
  refine ⟨g, o, ha, fun j v hv => ?_⟩
  have h1 := hr j v hv
  rw [hb.cell (World.block_lt_of_cell? _ _ h1)]
  exact h1
theorem SL.nil (w : World) (a : Option Addr) : SL w a [] := fun i hi => by simp at hi
theorem SL.at {w : World} {g o : Nat} {l : List O} (h : SL w (some ⟨g, o, none⟩) l) (i : Nat) (hi : i < l.length) : w.rangeAt g (o + i * 3) (opc l[i]).toList := by
  obtain ⟨g', o', ha, hr⟩ := h i hi
  simp only [Option.some.injEq, Addr.mk.injEq, and_true] at ha
  rw [ha.1, ha.2]
  exact hr
theorem SL.ex {w : World} {a : Option Addr} {l : List O} (h : SL w a l) (h0 : l.length ≠ 0) : ∃ g o, a = some ⟨g, o, none⟩ := by
  obtain ⟨g, o, ha, _⟩ := h 0 (by omega)
  exact ⟨g, o, ha⟩
end Go.Proofs.YtjfpfkiccbcedaaGreatDoor
