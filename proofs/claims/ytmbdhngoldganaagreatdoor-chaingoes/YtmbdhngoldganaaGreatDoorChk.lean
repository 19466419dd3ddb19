/- What NewReader, Unframe and the plain Unframe do. What a reader takes where it is known what stands there. What Value, KeyOf, NonceOf, Get, Last, Len, takeLast and lastOf do. What takeLast, Last, isLast and lastOf do. Transactions, plainly: which may be, their bytes, and what a reader takes. Bytes that are read as a transaction are just its bytes, and its bytes are read as it. Operations and transactions in memory. What mayBe and the function that Check hands in do. What IndexFunc, ContainsFunc and Check do. -/
import Derived.Test.YtmbdhngoldganaaGreatDoorRc
import Derived.Test.YtmbdhngoldganaaGreatDoorSta
namespace Go.Proofs.YtmbdhngoldganaaGreatDoor
open Go Go.RowKit
theorem R.bytes_good {r : R} {n : Nat} (hk : r.ok) (h : (r.bytes (n : Nat)).1.err = 0) : r.err = 0 ∧ r.pos + n ≤ r.s.length ∧ r.bytes (n : Nat) = (⟨r.s, r.pos + n, 0⟩, (r.s.drop r.pos).take n) ∧ (r.bytes (n : Nat)).2.length = n := by
  unfold R.ok at hk
  by_cases he : r.err = 0
  · unfold R.bytes at *
    rw [if_neg (by simpa using he)] at *
    have h0 : ¬ ((n : Nat) : Int) < 0 := by omega
    rw [if_neg h0] at *
    by_cases h1 : (r.s.length : Int) - r.pos < (n : Nat)
    · rw [if_pos h1] at h
      simp at h
    · rw [if_neg h1]
      refine ⟨he, by omega, ?_, ?_⟩
      · rw [he]; rfl
      · simp only [List.length_take, List.length_drop]; omega
  · rw [R.bytes_keep _ he] at h
    exact absurd h he
theorem built69 (s : List UInt8) : Tryz.prog.built 157 [(0, .string ⟨s.toArray⟩)] = some (rc s 0 0) := by kernel_rfl
set_option maxRecDepth 100000 in
set_option maxHeartbeats 400000 in
theorem newr_any (s : List UInt8) (w : World) : Calls Tryz.prog 38 #[.string ⟨s.toArray⟩] w fun e w' => e = .returned (.pointer (some ⟨w.heap.size, 0, none⟩)) ∧ Below w.heap.size w w' ∧ RD w' w.heap.size ⟨s, 0, 0⟩ := by
  go_enter Tryz.func38, Tryz.ntmps38
  go_wp2_with (with_reducible refine at_list ?_; first
    | (refine wpList_build (o := ⟨some 4, _, _, _, _, _⟩) rfl _ _ rfl (built69 s) ?_)
    | (refine wpList_boxRow (op := ⟨some 5, _, _, _, _, _⟩) rfl _ _ rfl (rc s 0 0) rfl ?_; intro w1 hw1 hs1 hb1; replace hs1 := hs1.symm))
  go_ret
  exact ⟨rfl, hw1, ⟨hb1⟩⟩
theorem extract_dropTo (l : List UInt8) (n m : Nat) (h : m = l.length) : (ByteArray.mk l.toArray).extract n m = ⟨(l.drop n).toArray⟩ := by
  subst h
  have : ((ByteArray.mk l.toArray).extract n l.length).data = (l.drop n).toArray := by
    apply Array.ext'
    simp [ByteArray.extract, ByteArray.copySlice]
    rw [List.take_of_length_le (by simp)]
  rw [show (ByteArray.mk l.toArray).extract n l.length = ⟨((ByteArray.mk l.toArray).extract n l.length).data⟩ from rfl, this]
theorem extract_drop (l : List UInt8) (n : Nat) : (ByteArray.mk l.toArray).extract n l.length = ⟨(l.drop n).toArray⟩ := extract_dropTo l n _ rfl
attribute [local go_sem] extract_drop n32_wrap64
end Go.Proofs.YtmbdhngoldganaaGreatDoor
namespace Go.Proofs.YtmbdhngoldganaaGreatDoor
open Go Go.RowKit
end Go.Proofs.YtmbdhngoldganaaGreatDoor
namespace Go.Proofs.YtmbdhngoldganaaGreatDoor
open Go Go.RowKit Go.Maps
def kOf (s : List UInt8) : List UInt8 := [107] ++ s
def nOf (c : Nat) : List UInt8 := [110] ++ num c 8
theorem kOf_length (s : List UInt8) : (kOf s).length = s.length + 1 := by simp [kOf]
theorem nOf_length (c : Nat) : (nOf c).length = 9 := by simp [nOf, num_length]
/-- What a text has. -/
def valM (m : List KV) (s : List UInt8) : List UInt8 := (getM m s).getD []
def hasM (m : List KV) (s : List UInt8) : Bool := (getM m s).isSome
section
attribute [local go_sem] mkApp2
theorem mkApp107 (y : List UInt8) : (ByteArray.mk #[107] ++ ByteArray.mk y.toArray) = ByteArray.mk (kOf y).toArray := mkApp2 [107] y
theorem mkApp110 (y : List UInt8) : (ByteArray.mk #[110] ++ ByteArray.mk y.toArray) = ByteArray.mk ([110] ++ y).toArray := mkApp2 [110] y
attribute [local go_sem] mkApp107 mkApp110
theorem keyOf_any (s : List UInt8) (w : World) (h : s.length ≤ 9223372036854775000) : Calls Tryz.prog 114 #[.string ⟨s.toArray⟩] w fun e w' => e = .returned (.string ⟨(kOf s).toArray⟩) ∧ w' = w := by
  go_enter Tryz.func114, Tryz.ntmps114
  go_wp2
  go_ret
  exact ⟨rfl, rfl⟩
theorem nonceOf_any (c : Nat) (w : World) : Calls Tryz.prog 115 #[.int .u64 c] w fun e w' => e = .returned (.string ⟨(nOf c).toArray⟩) ∧ Below w.heap.size w w' := by
  have HN := number_any c 8 w
  have hl := num_length 8 c
  unfold nOf
  rw [show cut8 8 = 8 from rfl] at HN
  generalize num c 8 = t at *
  go_enter Tryz.func115, Tryz.ntmps115
  go_wp2_with (go_at_call 102; refine HN.mono ?_; rintro e w1 ⟨rfl, hw1⟩)
  go_ret
  exact ⟨rfl, hw1⟩
end
section
variable {ops : Array Oper} {rest : List Oper} {op : Oper} {a : Act} {w : World} {Q : Exit → Act → World → Prop}
theorem wpList_storeHeld (hgd : op.guard = none) (x y : Operand) (ho : op.op = .store 164 x y) (b : Nat) (hx : a.eval x = .pointer (some ⟨b, 0, none⟩)) (v : List UInt8) (hy : a.eval y = .agg #[.string ⟨v.toArray⟩]) (u : ByteArray) (hb : Blk w b #[.string u] 164)
    (h : ∀ w1 : World, w.grownBy w1 (some b) → w1.heap.size = w.heap.size → Blk w1 b #[.string ⟨v.toArray⟩] 164 → w1.cell? ⟨b, 0, none⟩ = some (.string ⟨v.toArray⟩) → wpList Tryz.prog ops Q rest (a.put op.dst undef) w1) : wpList Tryz.prog ops Q (op :: rest) a w :=
  wpList_storeRow hgd _ x y ho b #[.string ⟨v.toArray⟩] hx hy _ _ hb rfl zHeld.2 (by simp [Value.oneCell']) (fun w1 h1 h2 h3 => h w1 h1 h2 h3 (h3.cell 0))
theorem wpList_loadHeld (hgd : op.guard = none) (x : Operand) (ho : op.op = .load 164 x) (b : Nat) (hx : a.eval x = .pointer (some ⟨b, 0, none⟩)) (v : List UInt8) (hb : Blk w b #[.string ⟨v.toArray⟩] 164)
    (h : wpList Tryz.prog ops Q rest (a.put op.dst (.agg #[.string ⟨v.toArray⟩])) w) : wpList Tryz.prog ops Q (op :: rest) a w :=
  wpList_loadRow hgd _ x ho b hx _ _ hb _ Tryz.underlying164 rfl zHeld.2 h
end
set_option maxRecDepth 100000 in
theorem value_st (b : Nat) (m : List KV) (s : List UInt8) (w : World) (h : ST w b m) (hs : s.length ≤ maxLen) : Calls Tryz.prog 113 #[.pointer (some ⟨b, 0, none⟩), .string ⟨s.toArray⟩] w fun e w' => e = .returned (.tuple #[.string ⟨(valM m s).toArray⟩, .bool (hasM m s)]) ∧ Below w.heap.size w w' := by
  obtain ⟨mb, h1, h2⟩ := h.out
  have HT := texts_any b mb w h1
  unfold valM hasM
  generalize hq : (getM m s).getD [] = vv
  have HQ : Hid ((getM m s).getD [] = vv) := hq
  clear hq
  generalize hq : (getM m s).isSome = bb
  have HB : Hid ((getM m s).isSome = bb) := hq
  clear hq
  go_enter Tryz.func113, Tryz.ntmps113
  go_wp2_with (first
    | (go_at_call 129; refine HT.mono ?_; rintro e w1 ⟨rfl, hw1⟩; have hw1 := hw1.symm; subst hw1)
    | (with_reducible refine at_list ?_; first
      | (refine wpList_lookM (o := ⟨some 12, _, _, _, _, _⟩) rfl _ _ rfl mb m rfl h2 s rfl hs ?_; rw [HQ.out, HB.out])
      | (refine wpList_allocRow (op := ⟨some 6, _, _, _, _, _⟩) rfl _ rfl _ zHeld.1 ?_; intro w2 hw2 hs2 hb2; replace hs2 := hs2.symm)
      | (refine wpList_storeHeld (op := ⟨none, _, _, _, _, _⟩) rfl _ _ rfl w.heap.size rfl vv rfl _ hb2 ?_; intro w3 hg3 hs3 hb3 c3; replace hs3 := hs3.symm)))

  go_ret2
  exact ⟨rfl, hw2.trans (below_of_grown hg3 (Nat.le_refl _) hw2.size)⟩
theorem get_st (b : Nat) (m : List KV) (s : List UInt8) (w : World) (h : ST w b m) (hs : s.length ≤ 9223372036854775000) : Calls Tryz.prog 66 #[.pointer (some ⟨b, 0, none⟩), .string ⟨s.toArray⟩] w fun e w' => e = .returned (.tuple #[.string ⟨(valM m (kOf s)).toArray⟩, .bool (hasM m (kOf s))]) ∧ Below w.heap.size w w' := by
  have HK := keyOf_any s w hs
  have HV := value_st b m (kOf s) w h (by rw [kOf_length]; unfold maxLen; omega)
  generalize valM m (kOf s) = vv at *
  generalize hasM m (kOf s) = bb at *
  generalize kOf s = ks at *
  go_enter Tryz.func66, Tryz.ntmps66
  go_wp2_with (first
    | (go_at_call 114; refine HK.mono ?_; rintro e w1 ⟨rfl, hw1⟩; have hw1 := hw1.symm; subst hw1)
    | (go_at_call 113; refine HV.mono ?_; rintro e w2 ⟨rfl, hw2⟩))
  go_ret2
  exact ⟨rfl, hw2⟩
theorem len_st (b : Nat) (m : List KV) (w : World) (h : ST w b m) : Calls Tryz.prog 76 #[.pointer (some ⟨b, 0, none⟩)] w fun e w' => e = .returned (.int .i64 (m.length : Nat)) ∧ w' = w := by
  obtain ⟨mb, h1, h2⟩ := h.out
  have HT := texts_any b mb w h1
  go_enter Tryz.func76, Tryz.ntmps76
  go_wp2_with (first
    | (go_at_call 129; refine HT.mono ?_; rintro e w1 ⟨rfl, hw1⟩; have hw1 := hw1.symm; subst hw1)
    | (with_reducible refine at_list ?_; first
      | (refine wpList_lenM (o := ⟨some 5, _, _, _, _, _⟩) rfl _ rfl mb m rfl h2 ?_)))
  go_ret
  exact ⟨rfl, rfl⟩
end Go.Proofs.YtmbdhngoldganaaGreatDoor
namespace Go.Proofs.YtmbdhngoldganaaGreatDoor
open Go Go.RowKit Go.Maps
theorem To.belowNew {w w1 w2 : World} {b : Nat} {r : R} (h : Below w.heap.size w w1) (k : To w1 w2 b r) (hb : w.heap.size ≤ b) : Below w.heap.size w w2 := h.trans (below_of_grown k.grown hb h.size)
theorem takeLast_any (b : Nat) (r : R) (w : World) (h : RD w b r) (hk : r.ok) (hl : r.s.length ≤ 140737488355328) :
    Calls Tryz.prog 116 #[.pointer (some ⟨b, 0, none⟩)] w fun e w' => e = .returned (.tuple #[.int .u64 (r.number 8).2, .string ⟨((r.number 8).1.bytes 32).2.toArray⟩]) ∧ To w w' b ((r.number 8).1.bytes 32).1 := by
  have HN := number_r b r 8 w h hk hl
  have HH := fun w (h : RD w b (r.number 8).1) => hash_any b (r.number 8).1 w h (R.ok_number hk 8) (by rw [R.number_s]; exact hl)
  generalize ((r.number 8).1.bytes 32).2 = t at *
  generalize ((r.number 8).1.bytes 32).1 = u at *
  generalize (r.number 8).2 = n at *
  generalize (r.number 8).1 = r1 at *
  go_enter Tryz.func116, Tryz.ntmps116
  go_wp2_with (first
    | (go_at_call 41; refine HN.mono ?_; rintro e w1 ⟨rfl, hT1⟩)
    | (go_at_call 42; refine (HH _ hT1.rd).mono ?_; rintro e w2 ⟨rfl, hT2⟩))
  go_ret2
  exact ⟨rfl, hT1.trans hT2⟩
/-- A client's last number, out of what its text has. -/
def lastN (v : List UInt8) : Nat := ((⟨v, 0, 0⟩ : R).number 8).2
def lastD (v : List UInt8) : List UInt8 := ((((⟨v, 0, 0⟩ : R).number 8).1).bytes 32).2
/-- A client's last number. -/
def lastM (m : List KV) (c : Nat) : Nat := bif hasM m (nOf c) then lastN (valM m (nOf c)) else 0
def lastI (m : List KV) (c : Nat) : List UInt8 := bif hasM m (nOf c) then lastD (valM m (nOf c)) else []
theorem ok0 (v : List UInt8) : (⟨v, 0, 0⟩ : R).ok := Nat.zero_le _
set_option maxRecDepth 100000 in
theorem last_st (b : Nat) (m : List KV) (c : Nat) (w : World) (h : ST w b m) (hv1 : (valM m (nOf c)).length ≤ 140737488355328) :
    Calls Tryz.prog 67 #[.pointer (some ⟨b, 0, none⟩), .int .u64 c] w fun e w' => e = .returned (.tuple #[.int .u64 (lastM m c), .string ⟨(lastI m c).toArray⟩]) ∧ Below w.heap.size w w' := by
  have HN := nonceOf_any c w
  have HV := fun w (h : ST w b m) => value_st b m (nOf c) w h (by rw [nOf_length]; unfold maxLen; omega)
  have HR := fun w => newr_any (valM m (nOf c)) w
  have HT := fun rb w (h : RD w rb ⟨valM m (nOf c), 0, 0⟩) => takeLast_any rb _ w h (ok0 _) hv1
  unfold lastM lastI lastN lastD
  generalize valM m (nOf c) = vv at *
  generalize nOf c = nc at *
  generalize ((⟨vv, 0, 0⟩ : R).number 8).2 = n1 at *
  generalize ((((⟨vv, 0, 0⟩ : R).number 8).1).bytes 32).2 = d1 at *
  generalize hasM m nc = bb at *
  cases bb
  · go_enter Tryz.func67, Tryz.ntmps67
    go_wp2_with (first
      | (go_at_call 115; refine HN.mono ?_; rintro e w1 ⟨rfl, hw1⟩)
      | (go_at_call 113; refine (HV _ (h.below hw1)).mono ?_; rintro e w2 ⟨rfl, hw2⟩))
    go_ret2
    exact ⟨rfl, hw1.trans (hw2.mono hw1.size)⟩
  · go_enter Tryz.func67, Tryz.ntmps67
    go_wp2_with (first
      | (go_at_call 115; refine HN.mono ?_; rintro e w1 ⟨rfl, hw1⟩)
      | (go_at_call 113; refine (HV _ (h.below hw1)).mono ?_; rintro e w2 ⟨rfl, hw2⟩; have hB2 := hw1.trans (hw2.mono hw1.size))
      | (go_at_call 38; refine (HR _).mono ?_; rintro e w3 ⟨rfl, hw3, hR3⟩; have hB3 := hB2.trans (hw3.mono hB2.size))
      | (go_at_call 116; refine (HT _ _ hR3).mono ?_; rintro e w4 ⟨rfl, hT4⟩))
    go_ret2
    exact ⟨rfl, hT4.belowNew hB3 hB2.size⟩
/-- What a client's text has. -/
def lastB (n : Nat) (d : List UInt8) : List UInt8 := num n 8 ++ hash32 d
theorem lastB_length (n : Nat) (d : List UInt8) : (lastB n d).length = 40 := by simp [lastB, num_length, hash32_length]
theorem lastOf_any (n : Nat) (d : List UInt8) (w : World) : Calls Tryz.prog 175 #[.int .u64 n, .string ⟨d.toArray⟩] w fun e w' => e = .returned (.string ⟨(lastB n d).toArray⟩) ∧ Below w.heap.size w w' := by
  have HW := neww_any w
  have HN := fun w1 (h : WR w1 w.heap.size []) => wnumber_any w.heap.size [] n 8 w1 h (by simp)
  have HH := fun w1 (h : WR w1 w.heap.size (num n 8)) => whash_any w.heap.size (num n 8) d w1 h (by rw [num_length]; omega)
  have HA := fun w1 (h : WR w1 w.heap.size (num n 8 ++ hash32 d)) => wall_any w.heap.size _ w1 h
  rw [show cut8 8 = 8 from rfl] at HN
  unfold lastB
  have HE : Hid ([] ++ num n 8 = num n 8) := rfl
  generalize hash32 d = dd at *
  generalize num n 8 = nn at *
  go_enter Tryz.func175, Tryz.ntmps175
  go_wp2_with (first
    | (go_at_call 48; refine HW.mono ?_; rintro e w1 ⟨rfl, hw1, hW1⟩)
    | (go_at_call 51; refine (HN _ hW1).mono ?_; rintro e w2 ⟨rfl, hP2⟩; have hW2 := hP2.wr; rw [HE.out] at hW2)
    | (go_at_call 52; refine (HH _ hW2).mono ?_; rintro e w3 ⟨rfl, hP3⟩; have hW3 := hP3.wr)
    | (go_at_call 53; refine (HA _ hW3).mono ?_; rintro e w4 ⟨rfl, hw4⟩; have hw4 := hw4.symm; subst hw4))
  go_ret
  exact ⟨rfl, hw1.trans ((hP2.below.mono (Nat.le_refl _)).trans hP3.below)⟩
/-- May a client's text have this? -/
def isLst (v : List UInt8) : Bool := decide ((((((⟨v, 0, 0⟩ : R).number 8).1).bytes 32).1.fin).err = 0 ∧ 0 < lastN v)
end Go.Proofs.YtmbdhngoldganaaGreatDoor
namespace Go.Proofs.YtmbdhngoldganaaGreatDoor
open Go
/-- An operation. -/
structure O where
  kind : Int
  key : List UInt8
  val : List UInt8
/-- A transaction. -/
structure TX where
  client : Nat
  nonce : Nat
  ops : List O
def okOp (o : O) : Bool := decide (o.key.length ≠ 0 ∧ o.key.length ≤ 32 ∧ (((o.kind = 1 ∨ o.kind = 3) ∧ o.val.length ≤ 64) ∨ ((o.kind = 2 ∨ o.kind = 4) ∧ o.val.length = 0)))
def okTx (t : TX) : Bool := decide (t.nonce ≠ 0 ∧ t.ops.length ≠ 0 ∧ t.ops.length ≤ 8) && t.ops.all okOp
def chk (t : TX) : Int := if okTx t = true then 0 else 40
def opB (o : O) : List UInt8 := num o.kind.toNat 1 ++ ((num o.key.length 4 ++ o.key) ++ (num o.val.length 4 ++ o.val))
def opsB (l : List O) : List UInt8 := l.flatMap opB
def hdB (c n k : Nat) : List UInt8 := num c 8 ++ (num n 8 ++ num k 4)
def txB (t : TX) : List UInt8 := hdB t.client t.nonce t.ops.length ++ opsB t.ops
theorem opsB_nil : opsB [] = [] := rfl
theorem opsB_snoc (l : List O) (o : O) : opsB (l ++ [o]) = opsB l ++ opB o := by simp [opsB]
theorem opsB_cons (l : List O) (o : O) : opsB (o :: l) = opB o ++ opsB l := by simp [opsB]
structure OkO (o : O) : Prop where
  k0 : 1 ≤ o.kind
  k1 : o.kind ≤ 4
  key0 : 1 ≤ o.key.length
  key1 : o.key.length ≤ 32
  val1 : o.val.length ≤ 64
theorem okOp_of {o : O} (h : okOp o = true) : OkO o := by
  unfold okOp at h
  have h := of_decide_eq_true h
  exact ⟨by omega, by omega, by omega, by omega, by omega⟩
structure OkT (t : TX) : Prop where
  nonce : t.nonce ≠ 0
  len0 : 1 ≤ t.ops.length
  len1 : t.ops.length ≤ 8
  each : ∀ o ∈ t.ops, okOp o = true
theorem okTx_of {t : TX} (h : okTx t = true) : OkT t := by
  unfold okTx at h
  rw [Bool.and_eq_true] at h
  have h1 := of_decide_eq_true h.1
  exact ⟨h1.1, by omega, h1.2.2, fun o ho => List.all_eq_true.1 h.2 o ho⟩
theorem OkT.okO {t : TX} (h : OkT t) {o : O} (ho : o ∈ t.ops) : OkO o := okOp_of (h.each o ho)
theorem chk_zero {t : TX} (h : okTx t = true) : chk t = 0 := if_pos h
theorem chk_not {t : TX} (h : ¬ okTx t = true) : chk t = 40 := if_neg h
theorem opB_length (o : O) : (opB o).length = 9 + o.key.length + o.val.length := by simp [opB, num_length]; omega
theorem opB_le {o : O} (h : OkO o) : (opB o).length ≤ 105 := by rw [opB_length]; have := h.key1; have := h.val1; omega
theorem opsB_le : ∀ (l : List O), (∀ o ∈ l, OkO o) → (opsB l).length ≤ 105 * l.length
  | [], _ => by simp [opsB]
  | o :: l, h => by
    have h1 := opB_le (h o (by simp))
    have h2 := opsB_le l (fun p hp => h p (by simp [hp]))
    rw [opsB_cons, List.length_append, List.length_cons]
    omega
theorem hdB_length (c n k : Nat) : (hdB c n k).length = 20 := by simp [hdB, num_length]
theorem txB_le {t : TX} (h : OkT t) : (txB t).length ≤ 860 := by
  have h1 := opsB_le t.ops (fun o ho => h.okO ho)
  have h2 := h.len1
  rw [txB, List.length_append, hdB_length]
  omega
theorem R.number_keep {r : R} (k : Int) (h : r.err ≠ 0) : r.number k = (r, 0) := by
  unfold R.number R.early
  rw [if_neg (fun x => h x.1)]
  have e : r.bytes k = (r, []) := by unfold R.bytes; rw [if_pos h]
  rw [e]
  rfl
theorem R.text_keep {r : R} (m : Int) (h : r.err ≠ 0) : r.text m = (r, []) := by
  have e1 : r.count m = (r, 0) := by
    unfold R.count
    rw [R.number_keep 4 h, if_neg (fun x => h x.1)]
  have e2 : r.bytes (0 : Nat) = (r, []) := by unfold R.bytes; rw [if_pos h]
  unfold R.text
  rw [e1]
  simp only
  rw [e2]
  simp only
  rw [if_pos h]
theorem R.count_le (r : R) (m : Nat) : (r.count m).2 ≤ m := by
  unfold R.count
  split
  · exact Nat.zero_le _
  · rename_i h
    by_cases he : (r.number 4).1.err = 0
    · by_cases h2 : (m : Int) < 0 ∨ (m : Int) < (r.number 4).2
      · exact absurd ⟨he, h2⟩ h
      · omega
    · unfold R.number at *
      have hb : ((r.early 4).bytes 4).2 = [] := by
        have := he
        unfold R.bytes at *
        split
        · rfl
        · split
          · rfl
          · split
            · rfl
            · rename_i h1 h2 h3
              rw [if_neg h1, if_neg h2, if_neg h3] at this
              exact absurd (by simpa using h1) this
      simp only
      rw [hb]
      exact Nat.zero_le _
end Go.Proofs.YtmbdhngoldganaaGreatDoor
namespace Go.Proofs.YtmbdhngoldganaaGreatDoor
open Go
/-- From r to r' just the bytes bs were read, without an error. -/
structure Goes (r r' : R) (bs : List UInt8) : Prop where
  e0 : r.err = 0
  e1 : r'.err = 0
  s : r'.s = r.s
  at' : r.s.take r'.pos = r.s.take r.pos ++ bs
theorem Goes.trans {a b c : R} {x y : List UInt8} (h : Goes a b x) (k : Goes b c y) : Goes a c (x ++ y) :=
  ⟨h.e0, k.e1, k.s.trans h.s, by
    have h1 := k.at'
    rw [h.s, h.at'] at h1
    rw [h1, List.append_assoc]⟩
theorem bytes_goes {r : R} {k : Nat} (hk : r.ok) (h : (r.bytes (k : Nat)).1.err = 0) : Goes r (r.bytes (k : Nat)).1 (r.bytes (k : Nat)).2 ∧ (r.bytes (k : Nat)).2.length = k := by
  obtain ⟨h1, h2, h3, h4⟩ := R.bytes_good hk h
  refine ⟨⟨h1, h, R.bytes_s _ _, ?_⟩, h4⟩
  rw [h3]
  simp only
  rw [List.take_add]
theorem number_goes {r : R} {k : Nat} (hk : r.ok) (h8 : k ≤ 8) (h : (r.number (k : Nat)).1.err = 0) : Goes r (r.number (k : Nat)).1 (num (r.number (k : Nat)).2 k) := by
  have e : r.early (k : Nat) = r := if_neg (fun x => by have := x.2; omega)
  unfold R.number at h ⊢
  rw [e] at h ⊢
  obtain ⟨h1, h2⟩ := bytes_goes hk h
  simp only
  rw [num_val k _ h2]
  exact h1
theorem count_goes {r : R} {m : Int} (hk : r.ok) (h : (r.count m).1.err = 0) : Goes r (r.count m).1 (num (r.count m).2 4) := by
  by_cases hc : (r.number 4).1.err = 0 ∧ (m < 0 ∨ m < (r.number 4).2)
  · unfold R.count at h
    rw [if_pos hc] at h
    simp at h
  · have e : r.count m = r.number 4 := if_neg hc
    rw [e] at h ⊢
    exact number_goes (k := 4) hk (by omega) h
theorem text_goes {r : R} {m : Int} (hk : r.ok) (h : (r.text m).1.err = 0) : Goes r (r.text m).1 (num (r.text m).2.length 4 ++ (r.text m).2) := by
  by_cases hb : ((r.count m).1.bytes (r.count m).2).1.err ≠ 0
  · unfold R.text at h
    rw [if_pos hb] at h
    exact absurd h hb
  · have e : r.text m = (r.count m).1.bytes (r.count m).2 := if_neg hb
    rw [e] at h ⊢
    obtain ⟨h1, h2⟩ := bytes_goes (R.ok_count hk m) h
    have h3 := count_goes hk h1.e0
    rw [h2]
    exact h3.trans h1
theorem R.fail_zero {r : R} {e : Int} (h : (r.fail e).err = 0) : r.err = 0 ∧ e = 0 := by
  unfold R.fail at h
  by_cases h0 : r.err = 0
  · rw [if_pos h0] at h; exact ⟨h0, h⟩
  · rw [if_neg h0] at h; exact absurd h h0
theorem R.fin_zero {r : R} (hk : r.ok) (h : r.fin.err = 0) : r.err = 0 ∧ r.pos = r.s.length := by
  unfold R.fin at h
  unfold R.ok at hk
  by_cases h0 : r.err = 0 ∧ r.pos < r.s.length
  · rw [if_pos h0] at h; simp at h
  · rw [if_neg h0] at h; exact ⟨h, by have : ¬ r.pos < r.s.length := fun x => h0 ⟨h, x⟩; omega⟩
end Go.Proofs.YtmbdhngoldganaaGreatDoor
namespace Go.Proofs.YtmbdhngoldganaaGreatDoor
open Go Go.RowKit
/-- The cells of an operation. -/
def opc (o : O) : Array Value := #[.int .i64 o.kind, .string ⟨o.key.toArray⟩, .string ⟨o.val.toArray⟩]
/-- The cells of a transaction whose operations are the slice sl. -/
def txc (c n : Nat) (sl : Value) : Array Value := #[.int .u64 (c : Nat), .int .u64 (n : Nat), sl]
theorem opc_size (o : O) : (opc o).size = 3 := rfl
theorem txc_size (c n : Nat) (sl : Value) : (txc c n sl).size = 3 := rfl
theorem opc_one (o : O) : (opc o).all (·.oneCell') = true := by simp [opc, Value.oneCell']
theorem txc_one (c n : Nat) (a : Option Addr) (len cap : Nat) : (txc c n (.slice a len cap)).all (·.oneCell') = true := by simp [txc, Value.oneCell']
theorem opc_g0 (o : O) : (opc o)[0]? = some (.int .i64 o.kind) := rfl
theorem opc_g1 (o : O) : (opc o)[1]? = some (.string ⟨o.key.toArray⟩) := rfl
theorem opc_g2 (o : O) : (opc o)[2]? = some (.string ⟨o.val.toArray⟩) := rfl
theorem txc_g0 (c n : Nat) (sl : Value) : (txc c n sl)[0]? = some (.int .u64 (c : Nat)) := rfl
theorem txc_g1 (c n : Nat) (sl : Value) : (txc c n sl)[1]? = some (.int .u64 (n : Nat)) := rfl
theorem txc_g2 (c n : Nat) (sl : Value) : (txc c n sl)[2]? = some sl := rfl
theorem zOp : (∀ w, (zeroValue 97).run Tryz.prog w = .ok (.agg (opc ⟨0, [], []⟩)) w) ∧ (Tryz.prog.info? 97).map (·.size) = some 3 := zero_of_info (by kernel_rfl)
theorem zTx : (∀ w, (zeroValue 95).run Tryz.prog w = .ok (.agg (txc 0 0 (.slice none 0 0))) w) ∧ (Tryz.prog.info? 95).map (·.size) = some 3 := zero_of_info (by kernel_rfl)
/-- The operations l lie at a. -/
def SL (w : World) (a : Option Addr) (l : List O) : Prop := ∀ i (h : i < l.length), ∃ g o, a = some ⟨g, o, none⟩ ∧ w.rangeAt g (o + i * 3) (opc l[i]).toList
theorem SL.below {w w' : World} {a : Option Addr} {l : List O} (h : SL w a l) (hb : Below w.heap.size w w') : SL w' a l := fun i hi => by
  obtain ⟨g, o, ha, hr⟩ := h i hi
  refine ⟨g, o, ha, fun j v hv => ?_⟩
  have h1 := hr j v hv
  rw [hb.cell (World.block_lt_of_cell? _ _ h1)]
  exact h1
theorem SL.nil (w : World) (a : Option Addr) : SL w a [] := fun i hi => by simp at hi
theorem SL.at {w : World} {g o : Nat} {l : List O} (h : SL w (some ⟨g, o, none⟩) l) (i : Nat) (hi : i < l.length) : w.rangeAt g (o + i * 3) (opc l[i]).toList := by
  obtain ⟨g', o', ha, hr⟩ := h i hi
  simp only [Option.some.injEq, Addr.mk.injEq, and_true] at ha
  rw [ha.1, ha.2]
  exact hr
theorem SL.ex {w : World} {a : Option Addr} {l : List O} (h : SL w a l) (h0 : l.length ≠ 0) : ∃ g o, a = some ⟨g, o, none⟩ := by
  obtain ⟨g, o, ha, _⟩ := h 0 (by omega)
  exact ⟨g, o, ha⟩
end Go.Proofs.YtmbdhngoldganaaGreatDoor
namespace Go.Proofs.YtmbdhngoldganaaGreatDoor
open Go Go.RowKit
set_option maxRecDepth 100000 in
set_option maxHeartbeats 400000 in
theorem mayBe_any (o : O) (w : World) : Calls Tryz.prog 172 #[.agg (opc o)] w fun e w' => e = .returned (.bool (okOp o)) ∧ Below w.heap.size w w' := by
  obtain ⟨k, key, vv⟩ := o
  by_cases h0 : key.length = 0
  · have hk : key = [] := List.length_eq_zero_iff.1 h0
    subst hk
    have HE : Hid (okOp ⟨k, [], vv⟩ = false) := decide_eq_false (by simp)
    rw [HE.out]
    go_enter Tryz.func172, Tryz.ntmps172
    go_wp2_with (with_reducible refine at_list ?_; refine wpList_boxRow (op := ⟨some 1, _, _, _, _, _⟩) rfl _ _ rfl _ rfl ?_; intro w1 hw1 hs1 hb1; replace hs1 := hs1.symm; have c0 := (hb1.cell 0).trans (opc_g0 _); have c1 := (hb1.cell 1).trans (opc_g1 _); have c2 := (hb1.cell 2).trans (opc_g2 _))
    go_ret
    exact ⟨rfl, hw1⟩
  · have hd0 : ((key.length : Int) == 0) = false := by rw [beq_eq_false_iff_ne]; omega
    by_cases h1 : 32 < key.length
    · have HE : Hid (okOp ⟨k, key, vv⟩ = false) := decide_eq_false (by simp only; omega)
      rw [HE.out]
      go_enter Tryz.func172, Tryz.ntmps172
      go_wp2_with (with_reducible refine at_list ?_; refine wpList_boxRow (op := ⟨some 1, _, _, _, _, _⟩) rfl _ _ rfl _ rfl ?_; intro w1 hw1 hs1 hb1; replace hs1 := hs1.symm; have c0 := (hb1.cell 0).trans (opc_g0 _); have c1 := (hb1.cell 1).trans (opc_g1 _); have c2 := (hb1.cell 2).trans (opc_g2 _))
      go_ret
      exact ⟨rfl, hw1⟩
    · have hd1 : decide (32 < (key.length : Int)) = false := decide_eq_false (by omega)
      by_cases hk1 : k = 1
      · subst hk1
        have HE : Hid (okOp ⟨1, key, vv⟩ = decide ((vv.length : Int) ≤ 64)) := decide_eq_decide.2 ⟨fun h => by obtain ⟨_, _, h | h⟩ := h; exact (by have := h.2; dsimp only at this; omega); exact absurd h.1 (by dsimp only; decide), fun h => ⟨h0, by dsimp only; omega, .inl ⟨by dsimp only; decide, by dsimp only; omega⟩⟩⟩
        rw [HE.out]
        go_enter Tryz.func172, Tryz.ntmps172
        go_wp2_with (with_reducible refine at_list ?_; refine wpList_boxRow (op := ⟨some 1, _, _, _, _, _⟩) rfl _ _ rfl _ rfl ?_; intro w1 hw1 hs1 hb1; replace hs1 := hs1.symm; have c0 := (hb1.cell 0).trans (opc_g0 _); have c1 := (hb1.cell 1).trans (opc_g1 _); have c2 := (hb1.cell 2).trans (opc_g2 _))
        go_ret
        exact ⟨rfl, hw1⟩
      have hb1 : (k == 1) = false := by rw [beq_eq_false_iff_ne]; exact hk1
      by_cases hk3 : k = 3
      · subst hk3
        have HE : Hid (okOp ⟨3, key, vv⟩ = decide ((vv.length : Int) ≤ 64)) := decide_eq_decide.2 ⟨fun h => by obtain ⟨_, _, h | h⟩ := h; exact (by have := h.2; dsimp only at this; omega); exact absurd h.1 (by dsimp only; decide), fun h => ⟨h0, by dsimp only; omega, .inl ⟨by dsimp only; decide, by dsimp only; omega⟩⟩⟩
        rw [HE.out]
        go_enter Tryz.func172, Tryz.ntmps172
        go_wp2_with (with_reducible refine at_list ?_; refine wpList_boxRow (op := ⟨some 1, _, _, _, _, _⟩) rfl _ _ rfl _ rfl ?_; intro w1 hw1 hs1 hb1; replace hs1 := hs1.symm; have c0 := (hb1.cell 0).trans (opc_g0 _); have c1 := (hb1.cell 1).trans (opc_g1 _); have c2 := (hb1.cell 2).trans (opc_g2 _))
        go_ret
        exact ⟨rfl, hw1⟩
      have hb3 : (k == 3) = false := by rw [beq_eq_false_iff_ne]; exact hk3
      by_cases hk2 : k = 2
      · subst hk2
        have HE : Hid (okOp ⟨2, key, vv⟩ = vv.isEmpty) := by
          cases vv with
          | nil => exact decide_eq_true ⟨h0, by dsimp only; omega, .inr ⟨by dsimp only; decide, rfl⟩⟩
          | cons x r => exact decide_eq_false (by simp only [List.length_cons]; omega)
        rw [HE.out]
        go_enter Tryz.func172, Tryz.ntmps172
        go_wp2_with (with_reducible refine at_list ?_; refine wpList_boxRow (op := ⟨some 1, _, _, _, _, _⟩) rfl _ _ rfl _ rfl ?_; intro w1 hw1 hs1 hb1; replace hs1 := hs1.symm; have c0 := (hb1.cell 0).trans (opc_g0 _); have c1 := (hb1.cell 1).trans (opc_g1 _); have c2 := (hb1.cell 2).trans (opc_g2 _))
        go_ret
        exact ⟨rfl, hw1⟩
      have hb2 : (k == 2) = false := by rw [beq_eq_false_iff_ne]; exact hk2
      by_cases hk4 : k = 4
      · subst hk4
        have HE : Hid (okOp ⟨4, key, vv⟩ = vv.isEmpty) := by
          cases vv with
          | nil => exact decide_eq_true ⟨h0, by dsimp only; omega, .inr ⟨by dsimp only; decide, rfl⟩⟩
          | cons x r => exact decide_eq_false (by simp only [List.length_cons]; omega)
        rw [HE.out]
        go_enter Tryz.func172, Tryz.ntmps172
        go_wp2_with (with_reducible refine at_list ?_; refine wpList_boxRow (op := ⟨some 1, _, _, _, _, _⟩) rfl _ _ rfl _ rfl ?_; intro w1 hw1 hs1 hb1; replace hs1 := hs1.symm; have c0 := (hb1.cell 0).trans (opc_g0 _); have c1 := (hb1.cell 1).trans (opc_g1 _); have c2 := (hb1.cell 2).trans (opc_g2 _))
        go_ret
        exact ⟨rfl, hw1⟩
      have hb4 : (k == 4) = false := by rw [beq_eq_false_iff_ne]; exact hk4
      have HE : Hid (okOp ⟨k, key, vv⟩ = false) := decide_eq_false (by simp only; omega)
      rw [HE.out]
      go_enter Tryz.func172, Tryz.ntmps172
      go_wp2_with (with_reducible refine at_list ?_; refine wpList_boxRow (op := ⟨some 1, _, _, _, _, _⟩) rfl _ _ rfl _ rfl ?_; intro w1 hw1 hs1 hb1; replace hs1 := hs1.symm; have c0 := (hb1.cell 0).trans (opc_g0 _); have c1 := (hb1.cell 1).trans (opc_g1 _); have c2 := (hb1.cell 2).trans (opc_g2 _))
      go_ret
      exact ⟨rfl, hw1⟩
set_option maxRecDepth 100000 in
theorem fnot_any (o : O) (w : World) : Calls Tryz.prog 171 #[.agg (opc o)] w fun e w' => e = .returned (.bool (!okOp o)) ∧ Below w.heap.size w w' := by
  have HM := fun w => mayBe_any o w
  go_enter Tryz.func171, Tryz.ntmps171
  go_wp2_with (first
    | (go_at_call 172; refine (HM _).mono ?_; rintro e w2 ⟨rfl, hw2⟩)
    | (with_reducible refine at_list ?_; first
      | (refine wpList_boxRow (op := ⟨some 1, _, _, _, _, _⟩) rfl _ _ rfl _ rfl ?_; intro w1 hw1 hs1 hb1; replace hs1 := hs1.symm)
      | (refine wpList_loadRow (op := ⟨some 3, _, _, _, _, _⟩) rfl _ _ rfl w.heap.size rfl _ _ hb1 _ Tryz.underlying97 rfl (by rw [opc_size]; exact zOp.2) ?_)))
  go_ret
  exact ⟨rfl, hw1.trans (hw2.mono hw1.size)⟩
end Go.Proofs.YtmbdhngoldganaaGreatDoor
namespace Go.Proofs.YtmbdhngoldganaaGreatDoor
open Go Go.RowKit
/-- A load of an operation out of the middle of a block. -/
theorem wpList_loadOp {P : Program} {ops : Array Oper} {rest : List Oper} {op : Oper} {a : Act} {w : World} {Q : Exit → Act → World → Prop} (hgd : op.guard = none) (ty : TypeId) (x : Operand) (ho : op.op = .load ty x) (b o : Nat) (hx : a.eval x = .pointer (some ⟨b, o, none⟩))
    (c : Array Value) (hb : w.rangeAt b o c.toList) (d : TypeDesc) (hu : P.underlying ty = some d) (hd : d.isRow = true) (hi : (P.info? ty).map (·.size) = some c.size)
    (h : wpList P ops Q rest (a.put op.dst (.agg c)) w) : wpList P ops Q (op :: rest) a w := by
  refine wpList_load_mid hgd ty x ho b o hx c.toList d hb hu hd (by simpa using hi) ?_
  simpa using h
set_option maxRecDepth 100000 in
set_option maxHeartbeats 400000 in
theorem index_any (a : Option Addr) (l : List O) (cap : Nat) (w : World) (h : SL w a l) (hl : l.length ≤ 1000) : Calls Tryz.prog 198 #[.slice a l.length cap, .func (.func 171) #[] #[]] w fun e w' => (∃ z : Int, e = .returned (.int .i64 z) ∧ (decide (0 ≤ z) = !l.all okOp)) ∧ Below w.heap.size w w' := by
  go_enter Tryz.func198, Tryz.ntmps198
  go_wp2_with fail
  go_loopw [8] (fun v8 wl => ∃ i : Nat, i ≤ l.length ∧ v8 = .int .i64 i ∧ Below w.heap.size w wl ∧ Hid ((l.take i).all okOp = true)) (fun v8 _ => l.length - (intOf v8).toNat)
  case atStart => exact ⟨0, by omega, rfl, Below.refl _ _, by simp; trivial⟩
  case round =>
    obtain ⟨i, hi, rfl, hB, hA⟩ := hrel
    by_cases hlt : i < l.length
    · obtain ⟨g, o, rfl⟩ := h.ex (by omega)
      have hr := (h.below hB).at i hlt
      have HF := fun w => fnot_any l[i] w
      have hT : Hid ((l.take (i + 1)).all okOp = ((l.take i).all okOp && okOp l[i])) := by
        rw [List.take_succ_eq_append_getElem hlt, List.all_append]
        simp
        trivial
      have hm : Hid (okOp l[i] = false → l.all okOp = false) := fun hf => by
        rw [← Bool.not_eq_true]
        intro hall
        rw [List.all_eq_true.1 hall _ (List.getElem_mem hlt)] at hf
        cases hf
      generalize l[i] = x at *
      cases hok : okOp x
      · rw [hok] at HF
        have hm := hm.out hok
        clear hok
        go_wp2_with (first
          | (go_at_call 171; refine (HF _).mono ?_; rintro e w2 ⟨rfl, hw2⟩)
          | (with_reducible refine at_list ?_; first
            | (refine wpList_loadOp (op := ⟨some 15, _, _, _, _, _⟩) rfl _ _ rfl g (o + i * 3) rfl (opc x) hr _ Tryz.underlying97 rfl (by rw [opc_size]; exact zOp.2) ?_)))
        go_ret
        exact ⟨⟨_, rfl, by rw [hm]; simp⟩, hB.trans (hw2.mono hB.size)⟩
      · rw [hok] at HF
        have hT := hT.out
        rw [hA.out, hok] at hT
        have hT2 : Hid ((l.take (i + 1)).all okOp = true) := hT
        clear hok hm hA hT
        go_wp2_with (first
          | (go_at_call 171; refine (HF _).mono ?_; rintro e w2 ⟨rfl, hw2⟩)
          | (with_reducible refine at_list ?_; first
            | (refine wpList_loadOp (op := ⟨some 15, _, _, _, _, _⟩) rfl _ _ rfl g (o + i * 3) rfl (opc x) hr _ Tryz.underlying97 rfl (by rw [opc_size]; exact zOp.2) ?_)))
        go_roundw
        case rel => exact ⟨i + 1, by omega, by go_num, hB.trans (hw2.mono hB.size), hT2⟩
        case measure => simp [intOf]; omega
    · have hA2 : Hid (l.all okOp = true) := by
        have := hA.out
        rw [List.take_of_length_le (by omega)] at this
        exact this
      go_wp2_with fail
      go_ret
      exact ⟨⟨_, rfl, by rw [hA2.out]; rfl⟩, hB⟩
set_option maxRecDepth 100000 in
theorem contains_any (a : Option Addr) (l : List O) (cap : Nat) (w : World) (h : SL w a l) (hl : l.length ≤ 1000) : Calls Tryz.prog 170 #[.slice a l.length cap, .func (.func 171) #[] #[]] w fun e w' => e = .returned (.bool (!l.all okOp)) ∧ Below w.heap.size w w' := by
  have HI := index_any a l cap w h hl
  generalize l.all okOp = y at *
  go_enter Tryz.func170, Tryz.ntmps170
  go_wp2_with (go_at_call 198; refine HI.mono ?_; rintro e w1 ⟨⟨z, rfl, hz⟩, hw1⟩)
  go_ret
  exact ⟨by rw [← hz]; rfl, hw1⟩
set_option maxRecDepth 100000 in
set_option maxHeartbeats 400000 in
theorem check_any (t : TX) (a : Option Addr) (cap : Nat) (w : World) (h : SL w a t.ops) : Calls Tryz.prog 143 #[.agg (txc t.client t.nonce (.slice a t.ops.length cap))] w fun e w' => e = .returned (.int .i64 (chk t)) ∧ Below w.heap.size w w' := by
  obtain ⟨c, n, l⟩ := t
  by_cases h1 : n = 0 ∨ l.length = 0 ∨ 8 < l.length
  · have HE : Hid (chk ⟨c, n, l⟩ = 40) := chk_not (fun x => by have := okTx_of x; have h2 := this.nonce; have h3 := this.len0; have h4 := this.len1; simp only at h2 h3 h4; omega)
    rw [HE.out]
    dsimp only at h ⊢
    by_cases hn : n = 0
    · subst hn
      go_enter Tryz.func143, Tryz.ntmps143
      go_wp2_with (with_reducible refine at_list ?_; first
      | (refine wpList_boxRow (op := ⟨some 1, _, _, _, _, _⟩) rfl _ _ rfl _ rfl ?_; intro w1 hw1 hs1 hb1; replace hs1 := hs1.symm; have c1 := (hb1.cell 1).trans (txc_g1 _ _ _); have c2 := (hb1.cell 2).trans (txc_g2 _ _ _)))
      go_ret
      exact ⟨rfl, hw1⟩
    · have hb : ((n : Int) == 0) = false := by rw [beq_eq_false_iff_ne]; omega
      by_cases hl0 : l.length = 0
      · have hl : l = [] := List.length_eq_zero_iff.1 hl0
        subst hl
        go_enter Tryz.func143, Tryz.ntmps143
        go_wp2_with (with_reducible refine at_list ?_; first
      | (refine wpList_boxRow (op := ⟨some 1, _, _, _, _, _⟩) rfl _ _ rfl _ rfl ?_; intro w1 hw1 hs1 hb1; replace hs1 := hs1.symm; have c1 := (hb1.cell 1).trans (txc_g1 _ _ _); have c2 := (hb1.cell 2).trans (txc_g2 _ _ _)))
        go_ret
        exact ⟨rfl, hw1⟩
      · have hb2 : ((l.length : Int) == 0) = false := by rw [beq_eq_false_iff_ne]; omega
        have hb3 : decide (8 < (l.length : Int)) = true := decide_eq_true (by omega)
        go_enter Tryz.func143, Tryz.ntmps143
        go_wp2_with (with_reducible refine at_list ?_; first
      | (refine wpList_boxRow (op := ⟨some 1, _, _, _, _, _⟩) rfl _ _ rfl _ rfl ?_; intro w1 hw1 hs1 hb1; replace hs1 := hs1.symm; have c1 := (hb1.cell 1).trans (txc_g1 _ _ _); have c2 := (hb1.cell 2).trans (txc_g2 _ _ _)))
        go_ret
        exact ⟨rfl, hw1⟩
  · have hb : ((n : Int) == 0) = false := by rw [beq_eq_false_iff_ne]; omega
    have hb2 : ((l.length : Int) == 0) = false := by rw [beq_eq_false_iff_ne]; omega
    have hb3 : decide (8 < (l.length : Int)) = false := decide_eq_false (by omega)
    have HE : Hid (chk ⟨c, n, l⟩ = if l.all okOp = true then 0 else 40) := by
      unfold chk okTx
      rw [show decide ((⟨c, n, l⟩ : TX).nonce ≠ 0 ∧ (⟨c, n, l⟩ : TX).ops.length ≠ 0 ∧ (⟨c, n, l⟩ : TX).ops.length ≤ 8) = true from decide_eq_true (by dsimp only; omega), Bool.true_and]
      exact rfl
    rw [HE.out]
    dsimp only at h ⊢
    have HC := fun w (h : SL w a l) => contains_any a l cap w h (by omega)
    cases hal : l.all okOp
    · rw [hal] at HC
      clear hal
      go_enter Tryz.func143, Tryz.ntmps143
      go_wp2_with (first
    | (go_at_call 170; refine (HC _ (h.below hw1)).mono ?_; rintro e w2 ⟨rfl, hw2⟩)
    | (with_reducible refine at_list ?_; first
      | (refine wpList_boxRow (op := ⟨some 1, _, _, _, _, _⟩) rfl _ _ rfl _ rfl ?_; intro w1 hw1 hs1 hb1; replace hs1 := hs1.symm; have c1 := (hb1.cell 1).trans (txc_g1 _ _ _); have c2 := (hb1.cell 2).trans (txc_g2 _ _ _))))
      go_ret
      exact ⟨rfl, hw1.trans (hw2.mono hw1.size)⟩
    · rw [hal] at HC
      clear hal
      go_enter Tryz.func143, Tryz.ntmps143
      go_wp2_with (first
    | (go_at_call 170; refine (HC _ (h.below hw1)).mono ?_; rintro e w2 ⟨rfl, hw2⟩)
    | (with_reducible refine at_list ?_; first
      | (refine wpList_boxRow (op := ⟨some 1, _, _, _, _, _⟩) rfl _ _ rfl _ rfl ?_; intro w1 hw1 hs1 hb1; replace hs1 := hs1.symm; have c1 := (hb1.cell 1).trans (txc_g1 _ _ _); have c2 := (hb1.cell 2).trans (txc_g2 _ _ _))))
      go_ret
      exact ⟨rfl, hw1.trans (hw2.mono hw1.size)⟩
end Go.Proofs.YtmbdhngoldganaaGreatDoor
