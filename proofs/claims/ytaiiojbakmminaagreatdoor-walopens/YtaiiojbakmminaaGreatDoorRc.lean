/- Laws on slices of bytes and strings, over blocks that are known whole. A slice of bytes that grows: what it holds, and appending to it. What checkOn and Crc do. What Number, value and the plain Crc do. What value, the plain Crc, few and awake do. A reader's memory; what Err, At, Left, Fail and refuse do. What a reader's Bytes does. What a reader's Number, Count, Text, Hash, Bool and End do. -/
import Derived.Test.YtaiiojbakmminaaGreatDoorRow
import Derived.Laws.MakeOwn
import Derived.Laws.BytesString
import Derived.Deep.AppendSrc
import Derived.Lib.ConvBytes
import Derived.Test.YtaiiojbakmminaaGreatDoorProg
import Derived.WalkKit
import Derived.WalkSpells
import Derived.WalkLawsBesides
namespace Go.Proofs.YtaiiojbakmminaaGreatDoor
open Go Go.RowKit

theorem row8_set (f : Nat → UInt8) (n i : Nat) (v : UInt8) : (row8 f n).setIfInBounds i (.int .u8 (n8 v)) = row8 (upd f i v) n := by
  apply Array.ext_getElem?
  intro j
  rw [Array.getElem?_setIfInBounds]
  by_cases hj : j < n
  · rw [row8_get _ _ _ hj, row8_get _ _ _ hj, row8_size]
    by_cases h : i = j
    · subst h; simp [upd, hj]
    · rw [if_neg h, upd, if_neg (fun e => h e.symm)]
  · rw [row8_none _ _ _ (by omega), row8_none _ _ _ (by omega), row8_size]
    by_cases h : i = j
    · subst h; rw [if_pos rfl, if_neg hj]
    · rw [if_neg h]

/-- The first n of a row of bytes, as a string. -/
def strF (f : Nat → UInt8) (n : Nat) : ByteArray := ⟨((List.range n).map f).toArray⟩
theorem foldl_push (ns : List Int) : ∀ s : ByteArray, ns.foldl (fun r n => r.push (UInt8.ofNat n.toNat)) s = ⟨s.data ++ (ns.map fun n => UInt8.ofNat n.toNat).toArray⟩ := by
  induction ns with
  | nil => intro s; simp
  | cons n ns ih => intro s; rw [List.foldl_cons, ih]; simp [ByteArray.push]
theorem ofNat_n8 (x : UInt8) : UInt8.ofNat (n8 x).toNat = x := by
  unfold n8; simp

section
variable {P : Program} {ops : Array Oper} {rest : List Oper} {op : Oper} {a : Act} {w : World} {Q : Exit → Act → World → Prop}

theorem wpList_storeB (hgd : op.guard = none) (ty : TypeId) (x y : Operand) (ho : op.op = .store ty x y) (b o : Nat) (hx : a.eval x = .pointer (some ⟨b, o, none⟩)) (v : UInt8) (hy : a.eval y = .int .u8 (n8 v))
    (f : Nat → UInt8) (n : Nat) (t : TypeId) (hb : Blk w b (row8 f n) t) (hi : (P.info? ty).map (·.size) = some 1) (hn : o < n)
    (h : ∀ w1 : World, w.grownBy w1 (some b) → w1.heap.size = w.heap.size → Blk w1 b (row8 (upd f o v) n) t → wpList P ops Q rest (a.put op.dst undef) w1) : wpList P ops Q (op :: rest) a w :=
  wpList_storeCell hgd ty x y ho b o hx _ hy _ t hb hi rfl rfl (by rw [row8_size]; exact hn) (fun w1 g s hb1 => h w1 g s (by rw [row8_set] at hb1; exact hb1))

theorem Blk.loadBytes {b : Nat} {f : Nat → UInt8} {m n : Nat} {t : TypeId} (hb : Blk w b (row8 f m) t) (hn : n ≤ m) :
    (loadCells ⟨b, 0, none⟩ n).run P w = .ok (((List.range n).map fun j => n8 (f j)).map (Value.int .u8)).toArray w := by
  have := run_loadCells_list (P := P) w ⟨b, 0, none⟩ (((List.range n).map fun j => n8 (f j)).map (Value.int .u8)) (fun j v hv => by
    have hj : j < n := by have := (List.getElem?_eq_some_iff.1 hv).1; simpa using this
    rw [Addr.add_mid, Nat.zero_add, hb.cell, row8_get _ _ _ (by omega), ← hv]
    simp [hj])
  simpa using this

/-- A string of the first bytes of a slice. -/
theorem wpList_bytesString (hgd : op.guard = none) (src dst : TypeId) (x : Operand) (ho : op.op = .convert src dst x) (b n cap : Nat) (hx : a.eval x = .slice (some ⟨b, 0, none⟩) n cap)
    (e : TypeId) (hs : P.underlying src = some (.slice e)) (he : P.underlying e = some (.int .u8)) (hd : P.underlying dst = some .string)
    (f : Nat → UInt8) (m : Nat) (t : TypeId) (hb : Blk w b (row8 f m) t) (hn : n ≤ m)
    (h : wpList P ops Q rest (a.put op.dst (.string (strF f n))) w) : wpList P ops Q (op :: rest) a w := by
  refine wpList_run hgd _ w ?_ h
  have hr := run_bytesToString (P := P) w ⟨b, 0, none⟩ n cap ((List.range n).map fun j => n8 (f j)) (hb.loadBytes hn)
  rw [foldl_push] at hr
  have e2 : ((((List.range n).map fun j => n8 (f j)).map fun k => UInt8.ofNat k.toNat)) = (List.range n).map f := by
    rw [List.map_map]; congr 1; funext j; exact ofNat_n8 (f j)
  rw [e2] at hr
  unfold execOp
  simp only [ho, hx, Sem.run_bind, run_convert_bytes_string w src dst e _ _ _ hs he hd, hr, Result.andThen_ok]
  show Result.ok (Next.value (.string ⟨ByteArray.empty.data ++ _⟩)) w = _
  rw [show ByteArray.empty.data = #[] from rfl, Array.empty_append]
  rfl
end

end Go.Proofs.YtaiiojbakmminaaGreatDoor
namespace Go.Proofs.YtaiiojbakmminaaGreatDoor
open Go Go.RowKit

end Go.Proofs.YtaiiojbakmminaaGreatDoor
namespace Go.Proofs.YtaiiojbakmminaaGreatDoor
open Go.RowKit
theorem and15 (x : BitVec 32) : bits .and .u32 (n32 x) 15 = ((low4 x).toNat : Int) := bits_and32 x (BitVec.ofNat 32 15)
theorem n32_shr4 (x : BitVec 32) : n32 x / 16 = n32 (shr32 x 4) := n32_shr x 4
theorem idx8 (l : List UInt8) (k : Nat) (h : k < (ByteArray.mk l.toArray).size) : (((ByteArray.mk l.toArray)[k]'h).toNat : Int) = n8 (byteOf l k) := by
  have hk : k < l.length := h
  have e : (ByteArray.mk l.toArray)[k]'h = byteOf l k := by
    show l.toArray[k] = _
    rw [byteOf, List.getD_eq_getElem?_getD, List.getElem?_eq_getElem hk]
    simp
  rw [e]; rfl
theorem n8_mod (x : UInt8) : n8 x % 4294967296 = n32 (w8 x) := by rw [← n8_wrap, IntKind.wrap_u32]
attribute [local go_sem] idx8 n8_mod and15 nib n32_add n32_wadd bits_xor32 bits_or32 bits_not32 bits_notmax sub_not32 n32_shr n32_shl n8_wrap n32_shr4
end Go.Proofs.YtaiiojbakmminaaGreatDoor
namespace Go.Proofs.YtaiiojbakmminaaGreatDoor
open Go.RowKit
theorem i5 : (Tryz.prog.info? 5).map (·.size) = some 1 := by kernel_rfl
theorem z60 : (∀ w, (zeroValue 146).run Tryz.prog w = .ok (.agg (row8 (fun _ => 0) 8)) w) ∧ (Tryz.prog.info? 146).map (·.size) = some 8 := zero_of_info (by kernel_rfl)
def byteAt (n j : Nat) : UInt8 := UInt8.ofNat (n / 256 ^ (7 - j) % 256)
def numTo (n i : Nat) : Nat → UInt8 := fun j => if 8 ≤ j + i then byteAt n j else 0
theorem numTo_zero (n : Nat) : row8 (numTo n 0) 8 = row8 (fun _ => 0) 8 := row8_congr fun j hj => by unfold numTo; rw [if_neg (by omega)]
theorem numTo_succ (n i : Nat) (h : i < 8) : row8 (upd (numTo n i) (7 - i) (UInt8.ofNat (n / 256 ^ i % 256))) 8 = row8 (numTo n (i + 1)) 8 := row8_congr fun j hj => by
  unfold upd numTo byteAt
  by_cases h1 : j = 7 - i
  · rw [if_pos h1, if_pos (by omega), show 7 - j = i from by omega]
  · rw [if_neg h1]
    by_cases h2 : 8 ≤ j + i
    · rw [if_pos h2, if_pos (by omega)]
    · rw [if_neg h2, if_neg (by omega)]
theorem numTo_all (n : Nat) : row8 (numTo n 8) 8 = row8 (byteAt n) 8 := row8_congr fun j _ => by unfold numTo; rw [if_pos (by omega)]
theorem byte_mod (n : Nat) : ((n : Int) % 256) = n8 (UInt8.ofNat (n % 256)) := by
  unfold n8
  rw [UInt8.toNat_ofNat', Nat.mod_eq_of_lt (by omega : n % 256 < 2 ^ 8)]
  omega
section
variable {P : Program} {ops : Array Oper} {rest : List Oper} {op : Oper} {a : Act} {w : World} {Q : Exit → Act → World → Prop}
/-- A slice of an array that lies in a block, from l on; it may be empty. -/
theorem wpList_sliceArr0 (hgd : op.guard = none) (ty : TypeId) (x lo : Operand) (ho : op.op = .slice ty x (some lo) none none) (b : Nat) (hx : a.eval x = .pointer (some ⟨b, 0, none⟩)) (k : IntKind) (z : Int) (hlo : a.eval lo = .int k z) (l : Nat) (hz : z = (l : Int))
    (n : Nat) (e : TypeId) (hu : P.underlying ty = some (.array n e)) (hse : (P.info? e).map (·.size) = some 1) (hl : l ≤ n) (o m : Nat) (hoo : o = if n = l then 0 else l) (hm : m = n - l)
    (h : wpList P ops Q rest (a.put op.dst (.slice (some ⟨b, o, none⟩) m m)) w) : wpList P ops Q (op :: rest) a w := by
  subst hz hoo hm
  refine wpList_run hgd _ w ?_ h
  unfold execOp
  simp only [ho, Option.map_some, Option.map_none, hx, hlo]
  by_cases h2 : n = l
  · simp [Instr.sliceAt, run_underlying hu, Instr.sureAddr, Instr.sliceBounds, Instr.sliceBound, asIntOf, h2, sizeOf_run hse, Addr.add_mid, Sem.run_bind]
  · simp [Instr.sliceAt, run_underlying hu, Instr.sureAddr, Instr.sliceBounds, Instr.sliceBound, asIntOf, h2, sizeOf_run hse, Addr.add_mid, Sem.run_bind]
    intro h3
    omega
/-- A string of n bytes of a block from o on. -/
theorem wpList_partString (hgd : op.guard = none) (src dst : TypeId) (x : Operand) (ho : op.op = .convert src dst x) (b o n cap : Nat) (hx : a.eval x = .slice (some ⟨b, o, none⟩) n cap)
    (e : TypeId) (hs : P.underlying src = some (.slice e)) (he : P.underlying e = some (.int .u8)) (hd : P.underlying dst = some .string)
    (f : Nat → UInt8) (m : Nat) (t : TypeId) (hb : Blk w b (row8 f m) t) (hn : o + n ≤ m)
    (h : wpList P ops Q rest (a.put op.dst (.string ⟨((List.range n).map fun j => f (o + j)).toArray⟩)) w) : wpList P ops Q (op :: rest) a w := by
  refine wpList_run hgd _ w ?_ h
  have hld : (loadCells ⟨b, o, none⟩ n).run P w = .ok (((List.range n).map fun j => n8 (f (o + j))).map (Value.int .u8)).toArray w := by
    have := run_loadCells_list (P := P) w ⟨b, o, none⟩ (((List.range n).map fun j => n8 (f (o + j))).map (Value.int .u8)) (fun j v hv => by
      have hj : j < n := by have := (List.getElem?_eq_some_iff.1 hv).1; simpa using this
      rw [Addr.add_mid, hb.cell, row8_get _ _ _ (by omega), ← hv]
      simp [hj])
    simpa using this
  have hr := run_bytesToString (P := P) w ⟨b, o, none⟩ n cap ((List.range n).map fun j => n8 (f (o + j))) hld
  rw [foldl_push] at hr
  have e2 : ((((List.range n).map fun j => n8 (f (o + j))).map fun k => UInt8.ofNat k.toNat)) = (List.range n).map fun j => f (o + j) := by
    rw [List.map_map]; congr 1; funext j; exact ofNat_n8 (f (o + j))
  rw [e2] at hr
  unfold execOp
  simp only [ho, hx, Sem.run_bind, run_convert_bytes_string w src dst e _ _ _ hs he hd, hr, Result.andThen_ok]
  show Result.ok (Next.value (.string ⟨ByteArray.empty.data ++ _⟩)) w = _
  rw [show ByteArray.empty.data = #[] from rfl, Array.empty_append]
end
/-- How many bytes are meant. -/
def cut8 (k : Int) : Nat := (min (max k 0) 8).toNat
theorem part_num (n k : Nat) (h : k ≤ 8) : ((List.range k).map fun j => byteAt n ((if 8 = 8 - k then 0 else 8 - k) + j)) = num n k := by
  rw [num_range]
  apply List.map_congr_left
  intro j hj
  have hj := List.mem_range.1 hj
  unfold byteAt
  rw [if_neg (by omega), show 7 - (8 - k + j) = k - 1 - j from by omega]
def shiftN (n i : Nat) : Nat := n / 256 ^ i
theorem shiftN_succ (n i : Nat) : ((shiftN n i : Nat) : Int) / 256 = (shiftN n (i + 1) : Nat) := by
  unfold shiftN
  rw [Nat.pow_succ, ← Nat.div_div_eq_div_mul]
  omega
attribute [local go_sem] byte_mod shiftN_succ
set_option maxRecDepth 100000 in
set_option maxHeartbeats 400000 in
theorem number_any (n : Nat) (k : Int) (w : World) :
    Calls Tryz.prog 98 #[.int .u64 n, .int .i64 k] w fun e w' => e = .returned (.string ⟨(num n (cut8 k)).toArray⟩) ∧ Below w.heap.size w w' := by
  go_enter Tryz.func98, Tryz.ntmps98
  go_wp2_with (with_reducible refine at_list ?_; first
    | (refine wpList_allocRow rfl _ rfl _ z60.1 ?_; intro w1 hw1 hs1 hb1))
  go_loopw [0, 7] (fun v0 v7 wl => ∃ i : Nat, i ≤ 8 ∧ v0 = .int .u64 (shiftN n i : Nat) ∧ v7 = .int .i64 i ∧ Below w.heap.size w wl ∧ wl.heap.size = w.heap.size + 1 ∧ Blk wl w.heap.size (row8 (numTo n i) 8) 146) (fun _ v7 _ => 8 - (intOf v7).toNat)
  case atStart => exact ⟨0, by omega, by simp [shiftN], rfl, hw1, hs1, by rw [numTo_zero]; exact hb1⟩
  case round =>
    obtain ⟨i, hi, rfl, rfl, hB, hz, hb⟩ := hrel
    clear hw1 hs1 hb1
    by_cases hlt : i < 8
    · have HS : Hid (shiftN n i = n / 256 ^ i) := by exact rfl
      go_wp2_with (with_reducible refine at_list ?_; first
        | (refine wpList_addrW rfl _ _ _ rfl w.heap.size rfl .i64 _ rfl (7 - i) _ _ Tryz.underlying146 i5 (by omega) (by omega) ?_)
        | (go_simp; refine wpList_storeB rfl _ _ _ rfl w.heap.size (7 - i) rfl (UInt8.ofNat (shiftN n i % 256)) rfl _ _ _ hb i5 (by omega) ?_; intro w2 hg2 hs2 hb2; rw [HS.out, numTo_succ n i hlt] at hb2))
      go_roundw
      case rel => exact ⟨i + 1, by omega, by first | rfl | simp [shiftN_succ], by go_num, hB.trans (below_of_grown hg2 (by omega) (by omega)), by omega, hb2⟩
      case measure => simp [intOf]; omega
    · have hb3 : Blk wr w.heap.size (row8 (byteAt n) 8) 146 := by
        rw [show i = 8 from by omega, numTo_all] at hb
        exact hb
      clear hb
      by_cases h1 : k < 0
      · have HK : Hid (num n (cut8 k) = []) := by rw [show cut8 k = 0 from by unfold cut8; omega]; exact rfl
        go_wp2_with (with_reducible refine at_list ?_; first
          | (refine wpList_partString rfl _ _ _ rfl w.heap.size 0 0 0 rfl _ Tryz.underlying50 Tryz.underlying5 Tryz.underlying9 _ _ _ hb3 (by omega) ?_))
        go_ret
        exact ⟨by rw [HK.out]; rfl, hB⟩
      · by_cases h2 : 8 < k
        · have HK : Hid (((List.range 8).map fun j => byteAt n (0 + j)) = num n (cut8 k)) := by
            rw [show cut8 k = 8 from by unfold cut8; omega]
            exact part_num n 8 (Nat.le_refl _)
          go_wp2_with (with_reducible refine at_list ?_; first
            | (refine wpList_partString rfl _ _ _ rfl w.heap.size 0 8 8 rfl _ Tryz.underlying50 Tryz.underlying5 Tryz.underlying9 _ _ _ hb3 (by omega) ?_; rw [HK.out]))
          go_ret
          exact ⟨rfl, hB⟩
        · obtain ⟨m, rfl⟩ : ∃ m : Nat, k = m := ⟨k.toNat, by omega⟩
          have hk : cut8 (m : Int) = m := by unfold cut8; omega
          have HK : Hid (cut8 (m : Int) = m) := hk
          have hm : m ≤ 8 := by omega
          obtain ⟨o, ho⟩ : ∃ o, o = if 8 = 8 - m then 0 else 8 - m := ⟨_, rfl⟩
          have HO : Hid (o = if 8 = 8 - m then 0 else 8 - m) := ho
          have HP : Hid (((List.range m).map fun j => byteAt n (o + j)) = num n m) := by rw [ho]; exact part_num n m hm
          have ho8 : o + m ≤ 8 := by rw [ho]; split <;> omega
          clear hk ho
          clear h1
          have h1 : decide ((m : Int) < 0) = false := by simp
          go_wp2_with (with_reducible refine at_list ?_; first
            | (refine wpList_sliceArr0 rfl _ _ _ rfl w.heap.size rfl .i64 _ rfl (8 - m) (by omega) 8 _ Tryz.underlying146 i5 (by omega) o m HO.out (by omega) ?_)
            | (refine wpList_partString rfl _ _ _ rfl w.heap.size o m m rfl _ Tryz.underlying50 Tryz.underlying5 Tryz.underlying9 _ _ _ hb3 ho8 ?_; rw [HP.out]))
          go_ret
          exact ⟨by rw [HK.out]; rfl, hB⟩
end Go.Proofs.YtaiiojbakmminaaGreatDoor
namespace Go.Proofs.YtaiiojbakmminaaGreatDoor
open Go.RowKit
theorem or_low (a b : Nat) (hb : b < 256) : a * 256 ||| b = a * 256 + b := by
  have := Nat.shiftLeft_add_eq_or_of_lt (b := b) (i := 8) (by omega) a
  simp only [Nat.shiftLeft_eq] at this
  exact this.symm
theorem bits_or64 (a b : Nat) (ha : a * 256 < 18446744073709551616) (hb : b < 256) : bits .or .u64 ((a : Int) * 256) (b : Int) = ((a * 256 + b : Nat) : Int) := by
  show IntKind.u64.wrap ((BitVec.ofInt 64 ((a : Int) * 256) ||| BitVec.ofInt 64 (b : Int)).toNat : Int) = _
  have e1 : BitVec.ofInt 64 ((a : Int) * 256) = BitVec.ofNat 64 (a * 256) := by
    rw [show ((a : Int) * 256) = ((a * 256 : Nat) : Int) from by omega]; exact BitVec.ofInt_natCast 64 (a * 256)
  have e2 : BitVec.ofInt 64 (b : Int) = BitVec.ofNat 64 b := BitVec.ofInt_natCast 64 b
  rw [e1, e2, BitVec.toNat_or, BitVec.toNat_ofNat, BitVec.toNat_ofNat, Nat.mod_eq_of_lt (by simpa using ha), Nat.mod_eq_of_lt (by omega : b < 2 ^ 64), or_low a b hb, IntKind.wrap_u64]
  omega
attribute [local go_sem] idx8
set_option maxRecDepth 100000 in
set_option maxHeartbeats 400000 in
theorem value_any (l : List UInt8) (w : World) (hl : l.length ≤ 8) :
    Calls Tryz.prog 169 #[.string ⟨l.toArray⟩] w fun e w' => e = .returned (.int .u64 (val l)) ∧ w' = w := by
  go_enter Tryz.func169, Tryz.ntmps169
  go_wp2_with fail
  go_loopw [3, 7] (fun v3 v7 wl => ∃ n : Nat, n ≤ l.length ∧ v3 = .int .u64 (val (l.take n)) ∧ v7 = .int .i64 n ∧ wl = w) (fun _ v7 _ => l.length - (intOf v7).toNat)
  case atStart => exact ⟨0, by omega, rfl, rfl, rfl⟩
  case round =>
    obtain ⟨n, hn, rfl, rfl, hw⟩ := hrel
    have hw2 := hw.symm
    subst hw2
    clear hw
    by_cases hlt : n < l.length
    · have hv := val_lt n (l.take n) (by rw [List.length_take]; omega)
      have h7 : 256 ^ n ≤ 256 ^ 7 := Nat.pow_le_pow_right (by decide) (by omega)
      have h77 : 256 ^ 7 = 72057594037927936 := by decide
      have hv2 : val (l.take n) * 256 < 18446744073709551616 := by omega
      have hb : (byteOf l n).toNat < 256 := (byteOf l n).toNat_lt
      have hb2 : IntKind.u64.wrap (n8 (byteOf l n)) = ((byteOf l n).toNat : Int) := by rw [IntKind.wrap_u64]; unfold n8; omega
      have HN : Hid (val (l.take (n + 1)) = val (l.take n) * 256 + (byteOf l n).toNat) := val_take l n hlt
      have hor := bits_or64 _ _ hv2 hb
      clear h7 h77 hv
      generalize val (l.take n) = v at *
      generalize (byteOf l n).toNat = b at *
      go_wp2_with fail
      go_roundw
      case rel => exact ⟨n + 1, by omega, by rw [HN.out]; simp, by go_num, trivial⟩
      case measure => simp [intOf]; omega
    · have e1 : l.take n = l := List.take_of_length_le (by omega)
      rw [e1]
      go_wp2_with fail
      go_ret
      exact ⟨rfl, rfl⟩
theorem extract_take (l : List UInt8) (n : Nat) : (ByteArray.mk l.toArray).extract 0 n = ⟨(l.take n).toArray⟩ := by
  have : ((ByteArray.mk l.toArray).extract 0 n).data = (l.take n).toArray := by
    apply Array.ext'
    simp [ByteArray.extract, ByteArray.copySlice]
  rw [show (ByteArray.mk l.toArray).extract 0 n = ⟨((ByteArray.mk l.toArray).extract 0 n).data⟩ from rfl, this]
/-- The remainder behind k bits more. -/
def stpN (x : BitVec 32) : Nat → BitVec 32
  | 0 => x
  | k + 1 => stp (stpN x k)
theorem low_one (x : BitVec 32) (h : n32 x % 2 = 1) : n32 (xor32 (shr32 x 1) (BitVec.ofNat 32 2197175160)) = n32 (stp x) := by
  unfold stp
  have : x.getLsbD 0 = true := by
    unfold n32 at h
    rw [BitVec.getLsbD, Nat.testBit_zero]
    simp
    omega
  rw [this]
  rfl
theorem low_zero (x : BitVec 32) (h : ¬ n32 x % 2 = 1) : n32 (shr32 x 1) = n32 (stp x) := by
  unfold stp
  have : x.getLsbD 0 = false := by
    unfold n32 at h
    rw [BitVec.getLsbD, Nat.testBit_zero]
    simp
    omega
  rw [this]
  show _ = n32 (shr32 x 1 ^^^ (BitVec.ofNat 32 0))
  rw [BitVec.xor_zero]
theorem n32_mod (x : BitVec 32) : n32 x % 4294967296 = n32 x := by have := n32_nonneg x; have := n32_lt x; omega
theorem n32_shr1 (x : BitVec 32) : n32 x / 2 = n32 (shr32 x 1) := n32_shr x 1
theorem bits_poly (x : BitVec 32) : bits .xor .u32 (n32 x) 2197175160 = n32 (xor32 x (BitVec.ofNat 32 2197175160)) := bits_xor32 x (BitVec.ofNat 32 2197175160)
def lowI (x : BitVec 32) : Int := n32 x % 2
theorem n32_tdiv2 (x : BitVec 32) : (n32 x).tdiv 2 = n32 (shr32 x 1) := by
  have := n32_nonneg x
  rw [Int.tdiv_eq_ediv_of_nonneg this, n32_shr1]
theorem n32_tmod2 (x : BitVec 32) : (n32 x).tmod 2 = lowI x := by
  have := n32_nonneg x
  rw [Int.tmod_eq_emod_of_nonneg this]; rfl
end Go.Proofs.YtaiiojbakmminaaGreatDoor
namespace Go.Proofs.YtaiiojbakmminaaGreatDoor
open Go.RowKit
theorem i3 : (Tryz.prog.info? 3).map (·.size) = some 1 := by kernel_rfl
theorem i29 : (Tryz.prog.info? 26).map (·.size) = some 1 := by kernel_rfl
/-- w' is w with draws. -/
structure Draws (w w' : World) : Prop where
  out : ∃ n, w' = w.drewN n
theorem Draws.grown {w w' : World} {row : Option Nat} (h : Draws w w') : w.grownBy w' row := by
  obtain ⟨n, rfl⟩ := h.out
  exact ⟨rfl, rfl, rfl, Nat.le_refl _, fun _ _ _ => rfl⟩
theorem Draws.blk {w w' : World} {b : Nat} {c : Array Value} {t : TypeId} (h : Draws w w') (k : Blk w b c t) : Blk w' b c t := by
  obtain ⟨n, rfl⟩ := h.out
  exact k.drewN n
/-- The cells of a reader. -/
def rc (s : List UInt8) (pos : Nat) (err : Int) : Array Value := #[.string ⟨s.toArray⟩, .int .i64 (pos : Nat), .int .i64 err]
/-- Block b is the reader r. -/
structure RD (w : World) (b : Nat) (r : R) : Prop where
  blk : Blk w b (rc r.s r.pos r.err) 189
theorem RD.c0 {w : World} {b : Nat} {s : List UInt8} {pos : Nat} {err : Int} (h : RD w b ⟨s, pos, err⟩) : w.cell? ⟨b, 0, none⟩ = some (.string ⟨s.toArray⟩) := (h.blk.cell 0).trans rfl
theorem RD.c1 {w : World} {b : Nat} {s : List UInt8} {pos : Nat} {err : Int} (h : RD w b ⟨s, pos, err⟩) : w.cell? ⟨b, 1, none⟩ = some (.int .i64 (pos : Nat)) := (h.blk.cell 1).trans rfl
theorem RD.c2 {w : World} {b : Nat} {s : List UInt8} {pos : Nat} {err : Int} (h : RD w b ⟨s, pos, err⟩) : w.cell? ⟨b, 2, none⟩ = some (.int .i64 err) := (h.blk.cell 2).trans rfl
theorem RD.drew {w w' : World} {b : Nat} {r : R} (h : RD w b r) (hd : Draws w w') : RD w' b r := ⟨hd.blk h.blk⟩
theorem RD.below {w w' : World} {b : Nat} {r : R} (h : RD w b r) (hd : Below w.heap.size w w') : RD w' b r := ⟨h.blk.belowSize hd⟩
/-- What a call on the reader in block b leaves. -/
structure To (w w' : World) (b : Nat) (r : R) : Prop where
  grown : w.grownBy w' (some b)
  rd : RD w' b r
theorem To.trans {w w1 w2 : World} {b : Nat} {r r2 : R} (h : To w w1 b r) (k : To w1 w2 b r2) : To w w2 b r2 := ⟨grown_trans h.grown k.grown, k.rd⟩
theorem To.refl {w : World} {b : Nat} {r : R} (h : RD w b r) : To w w b r := ⟨grown_refl w _, h⟩
theorem To.draws {w w1 w2 : World} {b : Nat} {r : R} (h : To w w1 b r) (k : Draws w1 w2) : To w w2 b r := ⟨grown_trans h.grown k.grown, h.rd.drew k⟩
theorem To.of_draws {w w1 : World} {b : Nat} {r : R} (h : RD w b r) (k : Draws w w1) : To w w1 b r := (To.refl h).draws k
theorem err_any (b : Nat) (r : R) (w : World) (h : RD w b r) : Calls Tryz.prog 149 #[.pointer (some ⟨b, 0, none⟩)] w fun e w' => e = .returned (.int .i64 r.err) ∧ w' = w := by
  obtain ⟨s, pos, err⟩ := r
  have c2 := h.c2
  go_enter Tryz.func149, Tryz.ntmps149
  go_wp2_with fail
  go_ret
  exact ⟨rfl, rfl⟩
set_option maxHeartbeats 400000 in
theorem left_any (b : Nat) (r : R) (w : World) (h : RD w b r) (hk : r.pos ≤ r.s.length) (hl : r.s.length ≤ 140737488355328) : Calls Tryz.prog 170 #[.pointer (some ⟨b, 0, none⟩)] w fun e w' => e = .returned (.int .i64 ((r.s.length : Int) - (r.pos : Nat))) ∧ Draws w w' := by
  obtain ⟨s, pos, err⟩ := r
  have c0 := h.c0
  have c1 := h.c1
  replace hk : pos ≤ s.length := hk
  replace hl : s.length ≤ 140737488355328 := hl
  go_enter Tryz.func170, Tryz.ntmps170
  go_wp2_with fail
  go_quiet (fail)
  go_wp2_with fail
  go_ret
  exact ⟨rfl, ⟨_, rfl⟩⟩
set_option maxHeartbeats 400000 in
theorem fail_any (b : Nat) (r : R) (x : Int) (w : World) (h : RD w b r) : Calls Tryz.prog 168 #[.pointer (some ⟨b, 0, none⟩), .int .i64 x] w fun e w' => e = .returned (.tuple #[]) ∧ To w w' b (r.fail x) := by
  obtain ⟨s, pos, err⟩ := r
  have c2 := h.c2
  by_cases he : err = 0
  · subst he
    go_enter Tryz.func168, Tryz.ntmps168
    go_wp2_with (with_reducible refine at_list ?_; refine wpList_storeCell rfl _ _ _ rfl b 2 rfl (.int .i64 x) rfl _ _ h.blk i29 rfl rfl (by simp [rc]) ?_; intro w1 hg1 hs1 hb1)
    refine bodyPost_end (results_none rfl _ _ _) rfl ⟨rfl, hg1, ⟨hb1⟩⟩
  · have hd : decide (err = 0) = false := decide_eq_false he
    go_enter Tryz.func168, Tryz.ntmps168
    go_wp2_with fail
    refine bodyPost_end (results_none rfl _ _ _) rfl ⟨rfl, ?_⟩
    rw [show R.fail ⟨s, pos, err⟩ x = ⟨s, pos, err⟩ from if_neg he]
    exact To.refl h
/-- What refuse leaves. -/
def R.refuse (r : R) (n : Nat) (e : Int) : R := ⟨r.s, n, (r.fail e).err⟩
end Go.Proofs.YtaiiojbakmminaaGreatDoor
namespace Go.Proofs.YtaiiojbakmminaaGreatDoor
open Go.RowKit
theorem extract_mid (l : List UInt8) (n m : Nat) : (ByteArray.mk l.toArray).extract n (n + m) = ⟨((l.drop n).take m).toArray⟩ := by
  have : ((ByteArray.mk l.toArray).extract n (n + m)).data = ((l.drop n).take m).toArray := by
    apply Array.ext'
    simp [ByteArray.extract, ByteArray.copySlice]
  rw [show (ByteArray.mk l.toArray).extract n (n + m) = ⟨((ByteArray.mk l.toArray).extract n (n + m)).data⟩ from rfl, this]
set_option maxRecDepth 100000 in
set_option maxHeartbeats 400000 in
/-- There is an error already. -/
theorem bytes_err (b : Nat) (r : R) (n : Int) (w : World) (h : RD w b r) (hk : r.pos ≤ r.s.length) (hl : r.s.length ≤ 140737488355328) (he : r.err ≠ 0) :
    Calls Tryz.prog 148 #[.pointer (some ⟨b, 0, none⟩), .int .i64 n] w fun e w' => e = .returned (.string ⟨#[]⟩) ∧ To w w' b r := by
  have HF : ∀ x w, RD w b r → Calls Tryz.prog 168 #[.pointer (some ⟨b, 0, none⟩), .int .i64 x] w fun e w' => e = .returned (.tuple #[]) ∧ To w w' b r := fun x w h => by
    have := fail_any b r x w h
    rw [show r.fail x = r from if_neg he] at this
    exact this
  have hne : (r.err != 0) = true := by simpa using he
  have hd0 : decide (r.err = 0) = false := decide_eq_false he
  by_cases h0 : n < 0
  · have hlt : decide ((r.s.length : Int) - (r.pos : Nat) < n) = false := decide_eq_false (by omega)
    go_enter Tryz.func148, Tryz.ntmps148
    go_wp2_with (first
      | (go_at_call 168; refine (HF _ _ h).mono ?_; rintro e w1 ⟨rfl, hT⟩)
      | (go_at_call 170; refine (left_any b r _ hT.rd hk hl).mono ?_; rintro e w2 ⟨rfl, hD⟩)
      | (go_at_call 149; refine (err_any b r _ (hT.draws hD).rd).mono ?_; rintro e w' ⟨rfl, hw'⟩; have hw2 := hw'.symm; subst hw2; clear hw'))
    go_ret
    exact ⟨rfl, hT.draws hD⟩
  · have h1 : decide (n < 0) = false := decide_eq_false h0
    by_cases hlt : (r.s.length : Int) - (r.pos : Nat) < n
    · have hlt : decide ((r.s.length : Int) - (r.pos : Nat) < n) = true := decide_eq_true hlt
      go_enter Tryz.func148, Tryz.ntmps148
      go_wp2_with (first
        | (go_at_call 170; refine (left_any b r _ h hk hl).mono ?_; rintro e w2 ⟨rfl, hD⟩)
        | (go_at_call 168; refine (HF _ _ (h.drew hD)).mono ?_; rintro e w1 ⟨rfl, hT⟩)
        | (go_at_call 149; refine (err_any b r _ hT.rd).mono ?_; rintro e w' ⟨rfl, hw'⟩; have hw2 := hw'.symm; subst hw2; clear hw'))
      go_ret
      exact ⟨rfl, (To.of_draws h hD).trans hT⟩
    · have hlt : decide ((r.s.length : Int) - (r.pos : Nat) < n) = false := decide_eq_false hlt
      go_enter Tryz.func148, Tryz.ntmps148
      go_wp2_with (first
        | (go_at_call 170; refine (left_any b r _ h hk hl).mono ?_; rintro e w2 ⟨rfl, hD⟩)
        | (go_at_call 149; refine (err_any b r _ (h.drew hD)).mono ?_; rintro e w' ⟨rfl, hw'⟩; have hw2 := hw'.symm; subst hw2; clear hw'))
      go_ret
      exact ⟨rfl, To.of_draws h hD⟩
attribute [local go_sem] extract_mid
set_option maxRecDepth 100000 in
set_option maxHeartbeats 400000 in
theorem bytes_neg (b : Nat) (s : List UInt8) (pos : Nat) (n : Int) (w : World) (h : RD w b ⟨s, pos, 0⟩) (hk : pos ≤ s.length) (hl : s.length ≤ 140737488355328) (h0 : n < 0) :
    Calls Tryz.prog 148 #[.pointer (some ⟨b, 0, none⟩), .int .i64 n] w fun e w' => e = .returned (.string ⟨#[]⟩) ∧ To w w' b ⟨s, pos, 1⟩ := by
  have hlt : decide ((s.length : Int) - (pos : Nat) < n) = false := decide_eq_false (by omega)
  go_enter Tryz.func148, Tryz.ntmps148
  go_wp2_with (first
    | (go_at_call 168; refine (fail_any b ⟨s, pos, 0⟩ 1 _ h).mono ?_; rintro e w1 ⟨rfl, hT⟩; replace hT : To w w1 b ⟨s, pos, 1⟩ := hT)
    | (go_at_call 170; refine (left_any b ⟨s, pos, 1⟩ _ hT.rd hk hl).mono ?_; rintro e w2 ⟨rfl, hD⟩)
    | (go_at_call 149; refine (err_any b ⟨s, pos, 1⟩ _ (hT.draws hD).rd).mono ?_; rintro e w' ⟨rfl, hw'⟩; have hw2 := hw'.symm; subst hw2; clear hw'))
  go_ret
  exact ⟨rfl, hT.draws hD⟩
set_option maxRecDepth 100000 in
set_option maxHeartbeats 400000 in
theorem bytes_cut (b : Nat) (s : List UInt8) (pos : Nat) (n : Int) (w : World) (h : RD w b ⟨s, pos, 0⟩) (hk : pos ≤ s.length) (hl : s.length ≤ 140737488355328) (h0 : ¬ n < 0) (h1 : (s.length : Int) - (pos : Nat) < n) :
    Calls Tryz.prog 148 #[.pointer (some ⟨b, 0, none⟩), .int .i64 n] w fun e w' => e = .returned (.string ⟨#[]⟩) ∧ To w w' b ⟨s, pos, 4⟩ := by
  have hlt : decide ((s.length : Int) - (pos : Nat) < n) = true := decide_eq_true h1
  have hd0 : decide (n < 0) = false := decide_eq_false h0
  go_enter Tryz.func148, Tryz.ntmps148
  go_wp2_with (first
    | (go_at_call 170; refine (left_any b ⟨s, pos, 0⟩ _ h hk hl).mono ?_; rintro e w2 ⟨rfl, hD⟩)
    | (go_at_call 168; refine (fail_any b ⟨s, pos, 0⟩ 4 _ (h.drew hD)).mono ?_; rintro e w1 ⟨rfl, hT⟩; replace hT : To w2 w1 b ⟨s, pos, 4⟩ := hT)
    | (go_at_call 149; refine (err_any b ⟨s, pos, 4⟩ _ hT.rd).mono ?_; rintro e w' ⟨rfl, hw'⟩; have hw2 := hw'.symm; subst hw2; clear hw'))
  go_ret
  exact ⟨rfl, (To.of_draws h hD).trans hT⟩
set_option maxRecDepth 100000 in
set_option maxHeartbeats 400000 in
theorem bytes_yes (b : Nat) (s : List UInt8) (pos n : Nat) (w : World) (h : RD w b ⟨s, pos, 0⟩) (hl : s.length ≤ 140737488355328) (h1 : pos + n ≤ s.length) :
    Calls Tryz.prog 148 #[.pointer (some ⟨b, 0, none⟩), .int .i64 (n : Nat)] w fun e w' => e = .returned (.string ⟨((s.drop pos).take n).toArray⟩) ∧ To w w' b ⟨s, pos + n, 0⟩ := by
  have hlt : decide ((s.length : Int) - (pos : Nat) < (n : Int)) = false := decide_eq_false (by omega)
  have hd0 : decide ((n : Int) < 0) = false := decide_eq_false (by omega)
  go_enter Tryz.func148, Tryz.ntmps148
  go_wp2_with (first
    | (go_at_call 170; refine (left_any b ⟨s, pos, 0⟩ _ h (by show pos ≤ s.length; omega) hl).mono ?_; rintro e w2 ⟨rfl, hD⟩; have c1 := (h.drew hD).c1)
    | (go_at_call 149; refine (err_any b ⟨s, pos, 0⟩ _ (h.drew hD)).mono ?_; rintro e w' ⟨rfl, hw'⟩; have hw2 := hw'.symm; subst hw2; clear hw')
    | (with_reducible refine at_list ?_; go_simp; refine wpList_storeCell rfl _ _ _ rfl b 1 rfl (.int .i64 ((pos : Int) + (n : Int))) rfl _ _ (h.drew hD).blk i3 rfl rfl (by simp [rc]) ?_; intro w3 hg3 hs3 hb3; clear c1))
  have hR : RD w3 b ⟨s, pos + n, 0⟩ := ⟨by
    have : rc s (pos + n) 0 = (rc s pos 0).setIfInBounds 1 (.int .i64 ((pos : Int) + (n : Int))) := by simp [rc]
    show Blk w3 b (rc s (pos + n) 0) 189
    rw [this]; exact hb3⟩
  have hT : To w w3 b ⟨s, pos + n, 0⟩ := ⟨grown_trans hD.grown hg3, hR⟩
  clear hb3 hg3 hs3
  have c0 := hR.c0
  have c1 := hR.c1
  go_wp2_with fail
  go_quiet (fail)
  go_wp2_with fail
  go_ret
  refine ⟨?_, hT.draws ⟨_, rfl⟩⟩
  rw [← extract_mid]
  rfl
theorem bytes_any (b : Nat) (r : R) (n : Int) (w : World) (h : RD w b r) (hk : r.ok) (hl : r.s.length ≤ 140737488355328) :
    Calls Tryz.prog 148 #[.pointer (some ⟨b, 0, none⟩), .int .i64 n] w fun e w' => e = .returned (.string ⟨(r.bytes n).2.toArray⟩) ∧ To w w' b (r.bytes n).1 := by
  by_cases he : r.err = 0
  · obtain ⟨s, pos, err⟩ := r
    have he : err = 0 := he
    subst he
    unfold R.bytes
    rw [if_neg (by simp)]
    by_cases h0 : n < 0
    · rw [if_pos h0]; exact bytes_neg b s pos n w h hk hl h0
    · rw [if_neg h0]
      by_cases h1 : (s.length : Int) - (pos : Nat) < n
      · rw [if_pos h1]; exact bytes_cut b s pos n w h hk hl h0 h1
      · rw [if_neg h1]
        obtain ⟨m, rfl⟩ : ∃ m : Nat, n = m := ⟨n.toNat, by omega⟩
        exact bytes_yes b s pos m w h hl (by omega)
  · have e : r.bytes n = (r, []) := by unfold R.bytes; rw [if_pos he]
    rw [e]
    exact bytes_err b r n w h hk hl he
end Go.Proofs.YtaiiojbakmminaaGreatDoor
namespace Go.Proofs.YtaiiojbakmminaaGreatDoor
open Go.RowKit
theorem R.bytes_bad {r : R} {n : Int} (h : (r.bytes n).1.err ≠ 0) : (r.bytes n).1.pos = r.pos ∧ (r.bytes n).2 = [] := by
  unfold R.bytes at *
  split
  · exact ⟨rfl, rfl⟩
  · rename_i h1
    split
    · exact ⟨rfl, rfl⟩
    · rename_i h2
      split
      · exact ⟨rfl, rfl⟩
      · rename_i h3
        rw [if_neg h1, if_neg h2, if_neg h3] at h
        exact absurd h h1
theorem R.number_bad {r : R} {n : Int} (h : (r.number n).1.err ≠ 0) : (r.number n).1.pos = r.pos ∧ (r.number n).2 = 0 := by
  obtain ⟨h1, h2⟩ := R.bytes_bad (r := r.early n) (n := n) h
  unfold R.number
  rw [h1, h2, R.early_pos]
  exact ⟨rfl, rfl⟩
theorem R.bytes_keep {r : R} (n : Int) (h : r.err ≠ 0) : (r.bytes n).1 = r := by unfold R.bytes; rw [if_pos h]
theorem R.eta (r : R) : (⟨r.s, r.pos, r.err⟩ : R) = r := rfl
theorem R.count_out {r : R} {m : Int} (h : m < 0 ∨ m < (r.number 4).2) : r.count m = ((r.number 4).1.refuse r.pos 3, 0) := by
  unfold R.count R.refuse
  have hs := r.number_s 4
  by_cases he : (r.number 4).1.err = 0
  · rw [if_pos ⟨he, h⟩, hs, R.fail, if_pos he]
  · rw [if_neg (fun x => he x.1)]
    obtain ⟨h1, h2⟩ := R.number_bad he
    rw [R.fail, if_neg he, ← h1, R.eta, ← h2]
theorem R.count_in {r : R} {m : Int} (h : ¬ (m < 0 ∨ m < (r.number 4).2)) : r.count m = r.number 4 := by
  unfold R.count
  rw [if_neg (fun x => h x.2)]
set_option maxRecDepth 100000 in
set_option maxHeartbeats 400000 in
theorem number_r (b : Nat) (r : R) (k : Int) (w : World) (h : RD w b r) (hk : r.ok) (hl : r.s.length ≤ 140737488355328) :
    Calls Tryz.prog 147 #[.pointer (some ⟨b, 0, none⟩), .int .i64 k] w fun e w' => e = .returned (.int .u64 (r.number k).2) ∧ To w w' b (r.number k).1 := by
  have hk8 := r.early_len k
  have HB := fun w (h : RD w b (r.early k)) => bytes_any b (r.early k) k w h (R.ok_early hk k) (by rw [R.early_s]; exact hl)
  have HV := fun w => value_any ((r.early k).bytes k).2 w hk8
  have HN : Hid (r.number k = (((r.early k).bytes k).1, val ((r.early k).bytes k).2)) := by exact rfl
  rw [HN.out]
  clear HN hk8
  by_cases h8 : 8 < k
  · have HF := fail_any b r 1 w h
    rw [show r.fail 1 = r.early k from by unfold R.fail R.early; by_cases he : r.err = 0 <;> simp [he, h8]] at HF
    generalize r.early k = q at *
    generalize (q.bytes k).2 = v at *
    generalize (q.bytes k).1 = u at *
    generalize val v = z at *
    go_enter Tryz.func147, Tryz.ntmps147
    go_wp2_with (first
      | (go_at_call 168; refine HF.mono ?_; rintro e w1 ⟨rfl, hT⟩)
      | (go_at_call 148; refine (HB _ hT.rd).mono ?_; rintro e w2 ⟨rfl, hU⟩)
      | (go_at_call 169; refine (HV _).mono ?_; rintro e w' ⟨rfl, hw'⟩; have hw2 := hw'.symm; subst hw2; clear hw'))
    go_ret
    exact ⟨rfl, hT.trans hU⟩
  · have hd : decide (8 < k) = false := decide_eq_false h8
    rw [show r.early k = r from if_neg (fun x => h8 x.2)] at HB HV ⊢
    generalize (r.bytes k).2 = v at *
    generalize (r.bytes k).1 = u at *
    generalize val v = z at *
    go_enter Tryz.func147, Tryz.ntmps147
    go_wp2_with (first
      | (go_at_call 148; refine (HB _ h).mono ?_; rintro e w2 ⟨rfl, hU⟩)
      | (go_at_call 169; refine (HV _).mono ?_; rintro e w' ⟨rfl, hw'⟩; have hw2 := hw'.symm; subst hw2; clear hw'))
    go_ret
    exact ⟨rfl, hU⟩
theorem wrap_u64_nat (m : Nat) (h : m < 18446744073709551616) : IntKind.u64.wrap (m : Int) = (m : Int) := by rw [IntKind.wrap_u64]; omega
end Go.Proofs.YtaiiojbakmminaaGreatDoor
