/- Laws on slices of bytes and strings, over blocks that are known whole. What number does. What strings.Repeat does, as the library of contracts has it, at this program's numbers. What ending does. A digest in memory, and the plain mathematics of taking bytes in piece by piece. -/
import Derived.Test.YtjfpfkiccbcedaaGreatDoorSWc
import Derived.Laws.MakeOwn
import Derived.Laws.BytesString
import Derived.Deep.AppendSrc
import Derived.Lib.ConvBytes
import Derived.Shelf.Strings.Repeat
import Derived.Test.YtjfpfkiccbcedaaGreatDoorChecked
namespace Go.Proofs.YtjfpfkiccbcedaaGreatDoor.Sh
open Go Go.RowKit

theorem row8_set (f : Nat → UInt8) (n i : Nat) (v : UInt8) : (row8 f n).setIfInBounds i (.int .u8 (n8 v)) = row8 (upd f i v) n := by
  apply Array.ext_getElem?
  intro j
  rw [Array.getElem?_setIfInBounds]
  by_cases hj : j < n
  · rw [row8_get _ _ _ hj, row8_get _ _ _ hj, row8_size]
    by_cases h : i = j
    · subst h; simp [upd, hj]
    · rw [if_neg h, upd, if_neg (fun e => h e.symm)]
  · rw [row8_none _ _ _ (by omega), row8_none _ _ _ (by omega), row8_size]
    by_cases h : i = j
    · subst h; rw [if_pos rfl, if_neg hj]
    · rw [if_neg h]

/-- The first n of a row of bytes, as a string. -/
def strF (f : Nat → UInt8) (n : Nat) : ByteArray := ⟨((List.range n).map f).toArray⟩
theorem madeCells_row8 (n : Nat) : madeCells #[Value.int .u8 0] n = row8 (fun _ => 0) n := by
  apply Array.ext_getElem?
  intro j
  by_cases hj : j < n
  · rw [row8_get _ _ _ hj]; simp [madeCells, hj, n8, Nat.mod_one]
  · rw [row8_none _ _ _ (by omega)]; simp [madeCells]; omega
theorem foldl_push (ns : List Int) : ∀ s : ByteArray, ns.foldl (fun r n => r.push (UInt8.ofNat n.toNat)) s = ⟨s.data ++ (ns.map fun n => UInt8.ofNat n.toNat).toArray⟩ := by
  induction ns with
  | nil => intro s; simp
  | cons n ns ih => intro s; rw [List.foldl_cons, ih]; simp [ByteArray.push]
theorem ofNat_n8 (x : UInt8) : UInt8.ofNat (n8 x).toNat = x := by
  unfold n8; simp

section
variable {P : Program} {ops : Array Oper} {rest : List Oper} {op : Oper} {a : Act} {w : World} {Q : Exit → Act → World → Prop}

/-- A slice of bytes is made. -/
theorem wpList_makeB (hgd : op.guard = none) (ty : TypeId) (x y : Operand) (ho : op.op = .makeSlice ty x y) (n m : Nat) (hx : a.eval x = .int .i64 (n : Int)) (hy : a.eval y = .int .i64 (m : Int)) (hnm : n ≤ m) (hm : m ≤ 1099511627776)
    (e : TypeId) (i : TypeInfo) (hu : P.underlying ty = some (.slice e)) (hi : P.info? e = some i) (hz : i.zero = some (.int .u8 0)) (hs : i.size = 1) (hb : i.bytes = 1)
    (h : ∀ w1 : World, Below w.heap.size w w1 → w1.heap.size = w.heap.size + 1 → Blk w1 w.heap.size (row8 (fun _ => 0) m) e → wpList P ops Q rest (a.put op.dst (.slice (some ⟨w.heap.size, 0, none⟩) n m)) w1) :
    wpList P ops Q (op :: rest) a w := by
  have hr := run_make (P := P) w ty e i _ hu hi hz .i64 .i64 (n : Int) (m : Int) (by omega) (by omega) (by rw [hb]; omega) (by omega)
  rw [Int.toNat_natCast, Int.toNat_natCast, hs, Nat.mul_one, show (Value.int .u8 0).cells = #[Value.int .u8 0] from rfl, madeCells_row8] at hr
  refine wpList_run hgd _ _ ?_ (h _ ((Below.refl _ _).alloc (Nat.le_refl _) _) (by simp) (Blk.new _ _ _))
  unfold execOp
  simp only [ho, hx, hy, Sem.run_bind, hr, Result.andThen_ok]
  rfl

/-- The address of an element of a slice. -/
theorem wpList_addrS (hgd : op.guard = none) (ty : TypeId) (x i : Operand) (ho : op.op = .indexAddr ty x i) (b o len cap : Nat) (hx : a.eval x = .slice (some ⟨b, o, none⟩) len cap) (k : IntKind) (n : Int) (hi : a.eval i = .int k n) (m : Nat)
    (e : TypeId) (hu : P.underlying ty = some (.slice e)) (hse : (P.info? e).map (·.size) = some 1)
    (h0 : n = (m : Int)) (h1 : m < len) (h : wpList P ops Q rest (a.put op.dst (.pointer (some ⟨b, o + m, none⟩))) w) : wpList P ops Q (op :: rest) a w := by
  subst h0
  refine wpList_run hgd (.pointer (some ⟨b, o + m, none⟩)) w ?_ h
  have hc : (0 : Int) ≤ (m : Int) ∧ (m : Int) < (len : Int) := by omega
  unfold execOp
  simp only [ho, hx, hi, Instr.indexAt, asIntOf, Sem.run_bind, Sem.run_pure, Result.andThen_ok, run_underlying hu w, if_pos hc, sizeOf_run hse, Nat.mul_one, Addr.add_mid, Int.toNat_natCast]

theorem wpList_storeB (hgd : op.guard = none) (ty : TypeId) (x y : Operand) (ho : op.op = .store ty x y) (b o : Nat) (hx : a.eval x = .pointer (some ⟨b, o, none⟩)) (v : UInt8) (hy : a.eval y = .int .u8 (n8 v))
    (f : Nat → UInt8) (n : Nat) (t : TypeId) (hb : Blk w b (row8 f n) t) (hi : (P.info? ty).map (·.size) = some 1) (hn : o < n)
    (h : ∀ w1 : World, w.grownBy w1 (some b) → w1.heap.size = w.heap.size → Blk w1 b (row8 (upd f o v) n) t → wpList P ops Q rest (a.put op.dst undef) w1) : wpList P ops Q (op :: rest) a w :=
  wpList_storeCell hgd ty x y ho b o hx _ hy _ t hb hi rfl rfl (by rw [row8_size]; exact hn) (fun w1 g s hb1 => h w1 g s (by rw [row8_set] at hb1; exact hb1))

theorem Blk.loadBytes {b : Nat} {f : Nat → UInt8} {m n : Nat} {t : TypeId} (hb : Blk w b (row8 f m) t) (hn : n ≤ m) :
    (loadCells ⟨b, 0, none⟩ n).run P w = .ok (((List.range n).map fun j => n8 (f j)).map (Value.int .u8)).toArray w := by
  have := run_loadCells_list (P := P) w ⟨b, 0, none⟩ (((List.range n).map fun j => n8 (f j)).map (Value.int .u8)) (fun j v hv => by
    have hj : j < n := by have := (List.getElem?_eq_some_iff.1 hv).1; simpa using this
    rw [Addr.add_mid, Nat.zero_add, hb.cell, row8_get _ _ _ (by omega), ← hv]
    simp [hj])
  simpa using this

/-- A string of the first bytes of a slice. -/
theorem wpList_bytesString (hgd : op.guard = none) (src dst : TypeId) (x : Operand) (ho : op.op = .convert src dst x) (b n cap : Nat) (hx : a.eval x = .slice (some ⟨b, 0, none⟩) n cap)
    (e : TypeId) (hs : P.underlying src = some (.slice e)) (he : P.underlying e = some (.int .u8)) (hd : P.underlying dst = some .string)
    (f : Nat → UInt8) (m : Nat) (t : TypeId) (hb : Blk w b (row8 f m) t) (hn : n ≤ m)
    (h : wpList P ops Q rest (a.put op.dst (.string (strF f n))) w) : wpList P ops Q (op :: rest) a w := by
  refine wpList_run hgd _ w ?_ h
  have hr := run_bytesToString (P := P) w ⟨b, 0, none⟩ n cap ((List.range n).map fun j => n8 (f j)) (hb.loadBytes hn)
  rw [foldl_push] at hr
  have e2 : ((((List.range n).map fun j => n8 (f j)).map fun k => UInt8.ofNat k.toNat)) = (List.range n).map f := by
    rw [List.map_map]; congr 1; funext j; exact ofNat_n8 (f j)
  rw [e2] at hr
  unfold execOp
  simp only [ho, hx, Sem.run_bind, run_convert_bytes_string w src dst e _ _ _ hs he hd, hr, Result.andThen_ok]
  show Result.ok (Next.value (.string ⟨ByteArray.empty.data ++ _⟩)) w = _
  rw [show ByteArray.empty.data = #[] from rfl, Array.empty_append]
  rfl
end

end Go.Proofs.YtjfpfkiccbcedaaGreatDoor.Sh
namespace Go.Proofs.YtjfpfkiccbcedaaGreatDoor.Sh
open Go.RowKit

def byteAt (n m j : Nat) : UInt8 := UInt8.ofNat (n / 2 ^ (8 * (m - 1 - j)) % 256)
def numTo (n m i : Nat) : Nat → UInt8 := fun j => if m ≤ j + i then byteAt n m j else 0
theorem numTo_zero (n m : Nat) : row8 (numTo n m 0) m = row8 (fun _ => 0) m := row8_congr fun j hj => by unfold numTo; rw [if_neg (by omega)]
theorem numTo_succ (n m i : Nat) (h : i < m) : row8 (upd (numTo n m i) (m - 1 - i) (UInt8.ofNat (n / 2 ^ (8 * i) % 256))) m = row8 (numTo n m (i + 1)) m := row8_congr fun j hj => by
  unfold upd numTo byteAt
  by_cases h1 : j = m - 1 - i
  · rw [if_pos h1, if_pos (by omega), show m - 1 - j = i from by omega]
  · rw [if_neg h1]
    by_cases h2 : m ≤ j + i
    · rw [if_pos h2, if_pos (by omega)]
    · rw [if_neg h2, if_neg (by omega)]
theorem numTo_all (n m : Nat) : row8 (numTo n m m) m = row8 (byteAt n m) m := row8_congr fun j _ => by unfold numTo; rw [if_pos (by omega)]
/-- The bytes of a number, the highest first. -/
def be (n m : Nat) : List UInt8 := (List.range m).map (byteAt n m)

theorem num_byte (n i : Nat) : ((n : Int) / 2 ^ (8 * i) % 256) = n8 (UInt8.ofNat (n / 2 ^ (8 * i) % 256)) := by
  unfold n8
  rw [UInt8.toNat_ofNat', Nat.mod_eq_of_lt (by omega : n / 2 ^ (8 * i) % 256 < 2 ^ 8)]
  rw [show ((2 : Int) ^ (8 * i)) = ((2 ^ (8 * i) : Nat) : Int) from by simp]
  omega
attribute [local go_sem] num_byte
theorem info5 : ∃ i, Tryz.prog.info? 5 = some i ∧ i.zero = some (.int .u8 0) ∧ i.size = 1 ∧ i.bytes = 1 := by
  have h : (Tryz.prog.info? 5).map (fun i => (i.zero, i.size, i.bytes)) = some (some (.int .u8 0), 1, 1) := by kernel_rfl
  cases hq : Tryz.prog.info? 5 with
  | none => rw [hq] at h; cases h
  | some i => rw [hq] at h; simp at h; exact ⟨i, rfl, h.1, h.2.1, h.2.2⟩

set_option maxRecDepth 100000 in
set_option maxHeartbeats 400000 in
theorem number_any (n m : Nat) (w : World) (hm : m ≤ 8) (hm0 : 1 ≤ m) :
    Calls Tryz.prog 87 #[.int .u64 n, .int .i64 m] w fun e w' => e = .returned (.string ⟨(be n m).toArray⟩) ∧ Below w.heap.size w w' := by
  obtain ⟨i5', hi5, hz5, hs5, hb5⟩ := info5
  go_enter Tryz.func87, Tryz.ntmps87
  go_wp2_with (with_reducible refine at_list ?_; first
    | (refine wpList_makeB rfl _ _ _ rfl m m rfl rfl (Nat.le_refl _) (by omega) _ _ Tryz.underlying57 hi5 hz5 hs5 hb5 ?_; intro w1 hw1 hs1 hb1))
  clear hi5 hz5 hs5 hb5
  go_loopw [10] (fun v wl => ∃ i : Nat, i ≤ m ∧ v = .int .i64 i ∧ Below w.heap.size w wl ∧ wl.heap.size = w.heap.size + 1 ∧ Blk wl w.heap.size (row8 (numTo n m i) m) 5) (fun v _ => m - (intOf v).toNat)
  case atStart => exact ⟨0, by omega, rfl, hw1, hs1, by rw [numTo_zero]; exact hb1⟩
  case round =>
    obtain ⟨i, hi, rfl, hB, hz, hb⟩ := hrel
    clear hw1 hs1 hb1
    by_cases hlt : i < m
    · go_wp2_with (with_reducible refine at_list ?_; first
        | (refine wpList_addrS rfl _ _ _ rfl w.heap.size 0 m m rfl .i64 _ rfl (m - 1 - i) _ Tryz.underlying57 i5 (by omega) (by omega) ?_; rw [Nat.zero_add])
        | (go_simp; refine wpList_storeB rfl _ _ _ rfl w.heap.size (m - 1 - i) rfl _ rfl _ _ _ hb i5 (by omega) ?_; intro w2 hg2 hs2 hb2; rw [numTo_succ n m i hlt] at hb2))
      go_roundw
      case rel => exact ⟨i + 1, by omega, by go_num, hB.trans (below_of_grown hg2 (by omega) (by omega)), by omega, hb2⟩
      case measure => simp [intOf]; omega
    · have hb3 : Blk wr w.heap.size (row8 (byteAt n m) m) 5 := by
        rw [show i = m from by omega, numTo_all] at hb
        exact hb
      clear hb
      go_wp2_with (with_reducible refine at_list ?_; first
        | (refine wpList_bytesString rfl _ _ _ rfl w.heap.size m m rfl _ Tryz.underlying57 Tryz.underlying5 Tryz.underlying9 _ _ _ hb3 (Nat.le_refl _) ?_))
      go_ret
      exact ⟨rfl, hB⟩
end Go.Proofs.YtjfpfkiccbcedaaGreatDoor.Sh
namespace Go.Proofs.YtjfpfkiccbcedaaGreatDoor.Sh
open Go.Shelf Go.RowKit Go.Lib
def repRen : Go.Shelf.Ren := ⟨fun | 105 => 135 | 212 => 161 | 99 => 162 | 165 => 163 | 166 => 164 | 170 => 165 | 169 => 166 | 263 => 189 | 264 => 190 | 206 => 191 | 240 => 192 | 241 => 193 | 276 => 207 | 277 => 208 | n => n, fun | 9 => 9 | 3 => 3 | 4 => 4 | 20 => 20 | 0 => 0 | 46 => 201 | 109 => 222 | 5 => 5 | 72 => 226 | 76 => 229 | 51 => 187 | 146 => 258 | 53 => 42 | 148 => 260 | 70 => 224 | 37 => 57 | 75 => 228 | 127 => 262 | 164 => 274 | 80 => 51 | n => n, fun | n => n⟩
theorem repLays : Go.Proofs.Lays.n105 Tryz.prog repRen := {
  mixed := by kernel_rfl
  f99 := Tryz.func162.trans (congrArg some (by kernel_rfl))
  f105 := Tryz.func135.trans (congrArg some (by kernel_rfl))
  f165 := Tryz.func163.trans (congrArg some (by kernel_rfl))
  f166 := Tryz.func164.trans (congrArg some (by kernel_rfl))
  f169 := Tryz.func166.trans (congrArg some (by kernel_rfl))
  f170 := Tryz.func165.trans (congrArg some (by kernel_rfl))
  f206 := Tryz.func191.trans (congrArg some (by kernel_rfl))
  f212 := Tryz.func161.trans (congrArg some (by kernel_rfl))
  f240 := Tryz.func192.trans (congrArg some (by kernel_rfl))
  f241 := Tryz.func193.trans (congrArg some (by kernel_rfl))
  f263 := Tryz.func189.trans (congrArg some (by kernel_rfl))
  f264 := Tryz.func190.trans (congrArg some (by kernel_rfl))
  f276 := Tryz.func207.trans (congrArg some (by kernel_rfl))
  f277 := Tryz.func208.trans (congrArg some (by kernel_rfl))
  t0 := Tryz.underlying0
  a0 := Tryz.isAgg0
  z0 := Tryz.sizeOf0
  v0 := Tryz.zeroValue0
  t3 := Tryz.underlying3
  a3 := Tryz.isAgg3
  z3 := Tryz.sizeOf3
  v3 := Tryz.zeroValue3
  t4 := Tryz.underlying4
  a4 := Tryz.isAgg4
  z4 := Tryz.sizeOf4
  v4 := Tryz.zeroValue4
  t5 := Tryz.underlying5
  a5 := Tryz.isAgg5
  z5 := Tryz.sizeOf5
  v5 := Tryz.zeroValue5
  t9 := Tryz.underlying9
  a9 := Tryz.isAgg9
  z9 := Tryz.sizeOf9
  v9 := Tryz.zeroValue9
  t20 := Tryz.underlying20
  a20 := Tryz.isAgg20
  z20 := Tryz.sizeOf20
  v20 := Tryz.zeroValue20
  t37 := Tryz.underlying57
  a37 := Tryz.isAgg57
  z37 := Tryz.sizeOf57
  v37 := Tryz.zeroValue57
  t46 := Tryz.underlying201
  a46 := Tryz.isAgg201
  z46 := Tryz.sizeOf201
  v46 := Tryz.zeroValue201
  t51 := Tryz.underlying187
  a51 := Tryz.isAgg187
  z51 := Tryz.sizeOf187
  v51 := Tryz.zeroValue187
  t53 := Tryz.underlying42
  a53 := Tryz.isAgg42
  z53 := Tryz.sizeOf42
  v53 := Tryz.zeroValue42
  t70 := Tryz.underlying224
  a70 := Tryz.isAgg224
  z70 := Tryz.sizeOf224
  v70 := Tryz.zeroValue224
  t72 := Tryz.underlying226
  a72 := Tryz.isAgg226
  z72 := Tryz.sizeOf226
  v72 := Tryz.zeroValue226
  t75 := Tryz.underlying228
  a75 := Tryz.isAgg228
  z75 := Tryz.sizeOf228
  v75 := Tryz.zeroValue228
  t76 := Tryz.underlying229
  a76 := Tryz.isAgg229
  z76 := Tryz.sizeOf229
  v76 := Tryz.zeroValue229
  t109 := Tryz.underlying222
  a109 := Tryz.isAgg222
  z109 := Tryz.sizeOf222
  v109 := Tryz.zeroValue222
  t127 := Tryz.underlying262
  a127 := Tryz.isAgg262
  z127 := Tryz.sizeOf262
  v127 := Tryz.zeroValue262
  t146 := Tryz.underlying258
  a146 := Tryz.isAgg258
  z146 := Tryz.sizeOf258
  v146 := Tryz.zeroValue258
  t148 := Tryz.underlying260
  a148 := Tryz.isAgg260
  z148 := Tryz.sizeOf260
  v148 := Tryz.zeroValue260
  t164 := Tryz.underlying274
  a164 := Tryz.isAgg274
  z164 := Tryz.sizeOf274
  v164 := Tryz.zeroValue274 }
theorem repExtra : Builder.Extra Tryz.prog repRen := {
  sizeBuilder := by kernel_rfl
  liesBuilder := by kernel_rfl
  t5 := Tryz.underlying5
  a5 := Tryz.isAgg5
  z5 := Tryz.sizeOf5
  v5 := Tryz.zeroValue5
  infoByte := by kernel_rfl
  cellsByte := by kernel_rfl
  sizeByte := by kernel_rfl
  neB5 := by decide }
theorem repeat_any (s : ByteArray) (c : Nat) (w : World) (hc : c ≤ 9223372036854775807) (hlen : s.size * c ≤ 140737488355328) :
    Calls Tryz.prog 135 #[.string s, .int .i64 c] w fun e w' => e = .returned (.string ⟨(Lib.repeatL s.data.toList c).toArray⟩) ∧ Below w.heap.size w w' := Any.strings_Repeat repLays repExtra s c w hc hlen
end Go.Proofs.YtjfpfkiccbcedaaGreatDoor.Sh
namespace Go.Proofs.YtjfpfkiccbcedaaGreatDoor.Sh
open Go.RowKit

/-- How many noughts. -/
def noughts (t : Nat) : Nat := (64 - (t + 9) % 64) % 64
/-- What fills a text of t bytes up. -/
def padL (t : Nat) : List UInt8 := (128 : UInt8) :: (List.replicate (noughts t) 0 ++ be (8 * t) 8)

set_option maxRecDepth 100000 in
set_option maxHeartbeats 400000 in
theorem ending_any (t : Nat) (w : World) (ht : t ≤ 1099511627776) :
    Calls Tryz.prog 129 #[.int .u64 t] w fun e w' => e = .returned (.string ⟨(padL t).toArray⟩) ∧ Below w.heap.size w w' := by
  go_enter Tryz.func129, Tryz.ntmps129
  go_wp2_with fail
  have hN : noughts t < 64 := by unfold noughts; omega
  rw [show (-(((t : Int) + 1 + 8) % 64) % 64) = ((noughts t : Nat) : Int) from by unfold noughts; omega]
  refine (repeat_any _ _ _ (by omega) (by rw [show (ByteArray.mk #[0]).size = 1 from rfl]; omega)).mono ?_
  rintro e w1 ⟨rfl, hw1⟩
  rw [show (Lib.repeatL (ByteArray.mk #[0]).data.toList (noughts t)) = List.replicate (noughts t) 0 from by
    have := Lib.repeatL_replicate 0 1 (noughts t)
    rw [Nat.mul_one] at this
    exact this]
  obtain ⟨zs, hzs⟩ : ∃ zs, zs = List.replicate (noughts t) (0 : UInt8) := ⟨_, rfl⟩
  rw [← hzs]
  have hl : zs.length ≤ 64 := by rw [hzs, List.length_replicate]; omega
  have HZ : Hid (zs = List.replicate (noughts t) (0 : UInt8)) := hzs
  clear hzs hN
  go_wp2_with fail
  rw [show (8 * (t : Int)) = ((8 * t : Nat) : Int) from by omega]
  refine (number_any (8 * t) 8 _ (by omega) (by omega)).mono ?_
  rintro e w2 ⟨rfl, hw2⟩
  obtain ⟨bs, hbs⟩ : ∃ bs, bs = be (8 * t) 8 := ⟨_, rfl⟩
  rw [← hbs]
  have hl2 : bs.length ≤ 8 := by rw [hbs]; simp [be]
  have HB : Hid (bs = be (8 * t) 8) := hbs
  clear hbs
  go_wp2_with fail
  go_ret
  refine ⟨?_, hw1.trans (hw2.mono hw1.size)⟩
  unfold padL
  rw [← HZ.out, ← HB.out]
  show Ending.returned (.string _) = _
  rw [ByteArray.mk_append_mk, ByteArray.mk_append_mk]
  simp
end Go.Proofs.YtjfpfkiccbcedaaGreatDoor.Sh
namespace Go.Proofs.YtjfpfkiccbcedaaGreatDoor.Sh
open Go Go.RowKit

/-- The cells of a digest: eight words, a block of sixty-four bytes, how many bytes were taken in. -/
def digC (H : S8) (fb : Nat → UInt8) (t : Nat) : Array Value :=
  Array.ofFn (fun i : Fin 73 => if i.1 < 8 then Value.int .u32 (n32 (H.at i)) else if i.1 < 72 then Value.int .u8 (n8 (fb (i - 8))) else Value.int .u64 (t : Int))
theorem digC_size (H : S8) (fb : Nat → UInt8) (t : Nat) : (digC H fb t).size = 73 := by simp [digC]
theorem digC_get (H : S8) (fb : Nat → UInt8) (t j : Nat) (h : j < 73) : (digC H fb t)[j]? = some (if j < 8 then Value.int .u32 (n32 (H.at j)) else if j < 72 then Value.int .u8 (n8 (fb (j - 8))) else Value.int .u64 (t : Int)) := by
  simp [digC, h]
theorem digC_none (H : S8) (fb : Nat → UInt8) (t j : Nat) (h : 73 ≤ j) : (digC H fb t)[j]? = none := by
  simp [digC]; omega
theorem digC_words (H : S8) (fb : Nat → UInt8) (t : Nat) : (digC H fb t).extract 0 (0 + 8) = row32 H.at 8 := by
  apply Array.ext_getElem?
  intro j
  rw [Array.getElem?_extract, digC_size]
  by_cases h : j < 8
  · rw [if_pos (by omega), Nat.zero_add, digC_get _ _ _ _ (by omega), if_pos h, row32_get _ _ _ h]
  · rw [if_neg (by omega), row32_none _ _ _ (by omega)]
theorem digC_block (H : S8) (fb : Nat → UInt8) (t : Nat) : (digC H fb t).extract 8 (8 + 64) = row8 fb 64 := by
  apply Array.ext_getElem?
  intro j
  rw [Array.getElem?_extract, digC_size]
  by_cases h : j < 64
  · rw [if_pos (by omega), digC_get _ _ _ _ (by omega), if_neg (by omega), if_pos (by omega), row8_get _ _ _ h, show 8 + j - 8 = j from by omega]
  · rw [if_neg (by omega), row8_none _ _ _ (by omega)]
theorem digC_taken (H : S8) (fb : Nat → UInt8) (t : Nat) : (digC H fb t)[72]? = some (.int .u64 (t : Int)) := by
  rw [digC_get _ _ _ _ (by omega)]; rfl
theorem digC_setTaken (H : S8) (fb : Nat → UInt8) (t t' : Nat) : (digC H fb t).setIfInBounds 72 (.int .u64 (t' : Int)) = digC H fb t' := by
  apply Array.ext_getElem?
  intro j
  rw [Array.getElem?_setIfInBounds, digC_size]
  by_cases h : 72 = j
  · subst h; rw [if_pos rfl, if_pos (by omega), digC_taken]
  · rw [if_neg h]
    by_cases h2 : j < 73
    · rw [digC_get _ _ _ _ h2, digC_get _ _ _ _ h2]
      by_cases h3 : j < 8
      · rw [if_pos h3, if_pos h3]
      · rw [if_neg h3, if_neg h3, if_pos (by omega), if_pos (by omega)]
    · rw [digC_none _ _ _ _ (by omega), digC_none _ _ _ _ (by omega)]
theorem digC_setWords (H H' : S8) (fb : Nat → UInt8) (t : Nat) : spl (digC H fb t) 0 (row32 H'.at 8).toList = digC H' fb t := by
  apply Array.ext_getElem?
  intro j
  rw [spl_get _ _ _ _ (by simp [row32_size, digC_size])]
  simp only [Array.length_toList, row32_size]
  by_cases h : j < 8
  · rw [if_pos (by omega), digC_get _ _ _ _ (by omega), if_pos h, Nat.sub_zero, Array.getElem?_toList, row32_get _ _ _ h]
  · rw [if_neg (by omega)]
    by_cases h2 : j < 73
    · rw [digC_get _ _ _ _ h2, digC_get _ _ _ _ h2, if_neg h, if_neg h]
    · rw [digC_none _ _ _ _ (by omega), digC_none _ _ _ _ (by omega)]
/-- Bytes put into a block from at on. -/
def putB (fb : Nat → UInt8) (at_ : Nat) (l : List UInt8) : Nat → UInt8 := fun j => if at_ ≤ j ∧ j < at_ + l.length then l.getD (j - at_) 0 else fb j
theorem digC_setBytes (H : S8) (fb : Nat → UInt8) (t at_ : Nat) (l : List UInt8) (h : at_ + l.length ≤ 64) :
    spl (digC H fb t) (8 + at_) (l.map fun b => Value.int .u8 (b.toNat : Int)) = digC H (putB fb at_ l) t := by
  apply Array.ext_getElem?
  intro j
  rw [spl_get _ _ _ _ (by simp [digC_size]; omega)]
  simp only [List.length_map]
  by_cases h1 : 8 + at_ ≤ j ∧ j < 8 + at_ + l.length
  · rw [if_pos h1, digC_get _ _ _ _ (by omega), if_neg (by omega), if_pos (by omega), putB, if_pos (by omega), List.getElem?_map, show j - 8 - at_ = j - (8 + at_) from by omega]
    rw [List.getElem?_eq_getElem (by omega), List.getD_eq_getElem?_getD, List.getElem?_eq_getElem (by omega)]
    rfl
  · rw [if_neg h1]
    by_cases h2 : j < 73
    · rw [digC_get _ _ _ _ h2, digC_get _ _ _ _ h2]
      by_cases h3 : j < 8
      · rw [if_pos h3, if_pos h3]
      · rw [if_neg h3, if_neg h3]
        by_cases h4 : j < 72
        · rw [if_pos h4, if_pos h4, putB, if_neg (by omega)]
        · rw [if_neg h4, if_neg h4]
    · rw [digC_none _ _ _ _ (by omega), digC_none _ _ _ _ (by omega)]

/-! The plain mathematics. -/
theorem part_congr {f g : Nat → UInt8} (k : Nat) : ∀ m, (∀ j, j < m → f (4 * k + j) = g (4 * k + j)) → part f k m = part g k m
  | 0, _ => rfl
  | m + 1, h => by rw [part, part, part_congr k m (fun j hj => h j (by omega)), h m (by omega)]
theorem sched_congr {f g : Nat → UInt8} (h : ∀ j, j < 64 → f j = g j) : ∀ n, sched f n = sched g n
  | 0 => by
    rw [sched, sched]
    apply List.map_congr_left
    intro k hk
    exact part_congr k 4 (fun j hj => h _ (by simp at hk; omega))
  | n + 1 => by rw [sched, sched, sched_congr h n]
theorem mixS_congr {f g : Nat → UInt8} (H : S8) (h : ∀ j, j < 64 → f j = g j) : mixS H f = mixS H g := by
  have : wt f = wt g := by unfold wt schedF; rw [sched_congr h 48]
  unfold mixS; rw [this]
def blkAt (m : List UInt8) (i : Nat) : Nat → UInt8 := fun j => m.getD (64 * i + j) 0
/-- The words behind the first k blocks. -/
def hashTo (m : List UInt8) : Nat → S8
  | 0 => H0
  | k + 1 => mixS (hashTo m k) (blkAt m k)
theorem hashTo_append (m l : List UInt8) : ∀ k, 64 * k ≤ m.length → hashTo (m ++ l) k = hashTo m k
  | 0, _ => rfl
  | k + 1, h => by
    rw [hashTo, hashTo, hashTo_append m l k (by omega)]
    apply mixS_congr
    intro j hj
    unfold blkAt
    rw [List.getD_eq_getElem?_getD, List.getD_eq_getElem?_getD, List.getElem?_append_left (by omega)]

/-- Block b holds a digest that has taken m in. -/
structure Dig (w : World) (b : Nat) (m : List UInt8) (H : S8) (fb : Nat → UInt8) : Prop where
  blk : Blk w b (digC H fb m.length) 191
  words : H = hashTo m (m.length / 64)
  tail : ∀ j, j < m.length % 64 → fb j = m.getD (64 * (m.length / 64) + j) 0

/-- A piece that fits into the block: what the block holds. -/
theorem put_tail {m l : List UInt8} {fb : Nat → UInt8} (ht : ∀ j, j < m.length % 64 → fb j = m.getD (64 * (m.length / 64) + j) 0) (_hl : m.length % 64 + l.length ≤ 64) :
    ∀ j, j < m.length % 64 + l.length → putB fb (m.length % 64) l j = (m ++ l).getD (64 * (m.length / 64) + j) 0 := by
  intro j hj
  unfold putB
  rw [List.getD_eq_getElem?_getD (l := m ++ l)]
  by_cases h : m.length % 64 ≤ j
  · rw [if_pos ⟨h, hj⟩, List.getElem?_append_right (by omega), List.getD_eq_getElem?_getD, show 64 * (m.length / 64) + j - m.length = j - m.length % 64 from by omega]
  · rw [if_neg (by omega), ht j (by omega), List.getElem?_append_left (by omega), List.getD_eq_getElem?_getD]
/-- .. and it is not full. -/
theorem dig_part {m l : List UInt8} {H : S8} {fb : Nat → UInt8} (hw : H = hashTo m (m.length / 64)) (ht : ∀ j, j < m.length % 64 → fb j = m.getD (64 * (m.length / 64) + j) 0) (hl : m.length % 64 + l.length < 64) :
    H = hashTo (m ++ l) ((m ++ l).length / 64) ∧ ∀ j, j < (m ++ l).length % 64 → putB fb (m.length % 64) l j = (m ++ l).getD (64 * ((m ++ l).length / 64) + j) 0 := by
  rw [List.length_append, show (m.length + l.length) / 64 = m.length / 64 from by omega, show (m.length + l.length) % 64 = m.length % 64 + l.length from by omega]
  exact ⟨by rw [hw, hashTo_append m l _ (by omega)], put_tail ht (by omega)⟩
/-- .. and it is full. -/
theorem dig_full {m l : List UInt8} {H : S8} {fb : Nat → UInt8} (hw : H = hashTo m (m.length / 64)) (ht : ∀ j, j < m.length % 64 → fb j = m.getD (64 * (m.length / 64) + j) 0) (hl : m.length % 64 + l.length = 64) :
    mixS H (putB fb (m.length % 64) l) = hashTo (m ++ l) ((m ++ l).length / 64) ∧ (m ++ l).length % 64 = 0 := by
  refine ⟨?_, by rw [List.length_append]; omega⟩
  rw [List.length_append, show (m.length + l.length) / 64 = m.length / 64 + 1 from by omega, hashTo, hashTo_append m l _ (by omega), ← hw]
  apply mixS_congr
  intro j hj
  exact put_tail ht (by omega) j (by omega)

section
variable {P : Program} {ops : Array Oper} {rest : List Oper} {op : Oper} {a : Act} {w : World} {Q : Exit → Act → World → Prop}

/-- copy, from a string into a slice over a block that is known whole. -/
theorem wpList_copyStr (hgd : op.guard = none) (x y : Operand) (dT sT : TypeId) (ho : op.op = .call { callee := .builtin .copy, args := #[x, y], argTypes := #[dT, sT] })
    (b o len cap : Nat) (hx : a.eval x = .slice (some ⟨b, o, none⟩) len cap) (s : List UInt8) (hy : a.eval y = .string ⟨s.toArray⟩)
    (e : TypeId) (hu : P.underlying dT = some (.slice e)) (hse : (P.info? e).map (·.size) = some 1)
    (c : Array Value) (t : TypeId) (hb : Blk w b c t) (n : Nat) (hn : n = Nat.min s.length len) (hfit : o + n ≤ c.size)
    (h : ∀ w1 : World, w.grownBy w1 (some b) → w1.heap.size = w.heap.size → Blk w1 b (spl c o ((s.take n).map fun b => Value.int .u8 (b.toNat : Int))) t → wpList P ops Q rest (a.put op.dst (.int .i64 (n : Int))) w1) :
    wpList P ops Q (op :: rest) a w := by
  have hl : n ≤ s.length := by rw [hn]; exact Nat.min_le_left _ _
  have hr : (Builtin.copy_ #[dT, sT] op.type #[.slice (some ⟨b, o, none⟩) len cap, .string ⟨s.toArray⟩]).run P w = .ok (.int .i64 (n : Int)) (w.setCells b o ((s.take n).map fun b => Value.int .u8 (b.toNat : Int))) := by
    have hst := run_storeCells_cells (P := P) b o ((s.take n).map fun b => Value.int .u8 (b.toNat : Int)) 0 w
      (fun j hj => (hb.there o n hfit j (by simp at hj; omega)).1) (fun j hj => (hb.there o n hfit j (by simp at hj; omega)).2) (fun u hu => by
        obtain ⟨_, _, rfl⟩ := List.mem_map.1 hu
        rfl)
    simp only [Nat.add_zero] at hst
    have hsz : (ByteArray.mk s.toArray).size = s.length := by show s.toArray.size = _; simp
    simp [Builtin.copy_, run_underlying hu, Builtin.lenOf, Builtin.firstCells, sizeOf_run hse, Sem.run_bind, hsz, ← hn, goInt]
    rw [← List.map_take, hst]
    rfl
  refine wpList_run hgd _ _ ?_ (h _ (grown_setCells _ _ _ _) (size_setCells _ _ _ _) (hb.setCells _ _))
  unfold execOp
  simp only [ho]
  simp [resolve, invoke, builtin, hx, hy, hr, Result.andThen]

/-- A slice of an array that lies in a block, from l on. -/
theorem wpList_sliceArr (hgd : op.guard = none) (ty : TypeId) (x lo : Operand) (ho : op.op = .slice ty x (some lo) none none) (b o : Nat) (hx : a.eval x = .pointer (some ⟨b, o, none⟩)) (k : IntKind) (z : Int) (hlo : a.eval lo = .int k z) (l : Nat) (hz : z = (l : Int))
    (n : Nat) (e : TypeId) (hu : P.underlying ty = some (.array n e)) (hse : (P.info? e).map (·.size) = some 1) (hl : l < n)
    (h : wpList P ops Q rest (a.put op.dst (.slice (some ⟨b, o + l, none⟩) (n - l) (n - l))) w) : wpList P ops Q (op :: rest) a w := by
  subst hz
  refine wpList_run hgd _ w ?_ h
  have h2 : ¬ n = l := by omega
  unfold execOp
  simp only [ho, Option.map_some, Option.map_none, hx, hlo]
  simp [Instr.sliceAt, run_underlying hu, Instr.sureAddr, Instr.sliceBounds, Instr.sliceBound, asIntOf, h2, sizeOf_run hse, Addr.add_mid, Sem.run_bind]
  intro h3
  omega
end

end Go.Proofs.YtjfpfkiccbcedaaGreatDoor.Sh
