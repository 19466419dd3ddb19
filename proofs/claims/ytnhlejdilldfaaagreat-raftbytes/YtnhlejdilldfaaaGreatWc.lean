/- What checkOn and Crc do. What Number, value and the plain Crc do. What value, the plain Crc, few and awake do. -/
import Derived.Test.YtnhlejdilldfaaaGreatProg
import Derived.Test.YtnhlejdilldfaaaGreatBsl
import Derived.Test.YtnhlejdilldfaaaGreatNum
import Derived.WalkKit
import Derived.WalkSpells
import Derived.WalkLawsBesides
namespace Go.Proofs.YtnhlejdilldfaaaGreat
open Go.RowKit
theorem and15 (x : BitVec 32) : bits .and .u32 (n32 x) 15 = ((low4 x).toNat : Int) := bits_and32 x (BitVec.ofNat 32 15)
theorem n32_shr4 (x : BitVec 32) : n32 x / 16 = n32 (shr32 x 4) := n32_shr x 4
theorem idx8 (l : List UInt8) (k : Nat) (h : k < (ByteArray.mk l.toArray).size) : (((ByteArray.mk l.toArray)[k]'h).toNat : Int) = n8 (byteOf l k) := by
  have hk : k < l.length := h
  have e : (ByteArray.mk l.toArray)[k]'h = byteOf l k := by
    show l.toArray[k] = _
    rw [byteOf, List.getD_eq_getElem?_getD, List.getElem?_eq_getElem hk]
    simp
  rw [e]; rfl
theorem n8_mod (x : UInt8) : n8 x % 4294967296 = n32 (w8 x) := by rw [← n8_wrap, IntKind.wrap_u32]
attribute [local go_sem] idx8 n8_mod and15 nib n32_add n32_wadd bits_xor32 bits_or32 bits_not32 bits_notmax sub_not32 n32_shr n32_shl n8_wrap n32_shr4
end Go.Proofs.YtnhlejdilldfaaaGreat
namespace Go.Proofs.YtnhlejdilldfaaaGreat
open Go.RowKit
theorem i5 : (Tryz.prog.info? 5).map (·.size) = some 1 := by kernel_rfl
theorem z60 : (∀ w, (zeroValue 140).run Tryz.prog w = .ok (.agg (row8 (fun _ => 0) 8)) w) ∧ (Tryz.prog.info? 140).map (·.size) = some 8 := zero_of_info (by kernel_rfl)
def byteAt (n j : Nat) : UInt8 := UInt8.ofNat (n / 256 ^ (7 - j) % 256)
def numTo (n i : Nat) : Nat → UInt8 := fun j => if 8 ≤ j + i then byteAt n j else 0
theorem numTo_zero (n : Nat) : row8 (numTo n 0) 8 = row8 (fun _ => 0) 8 := row8_congr fun j hj => by unfold numTo; rw [if_neg (by omega)]
theorem numTo_succ (n i : Nat) (h : i < 8) : row8 (upd (numTo n i) (7 - i) (UInt8.ofNat (n / 256 ^ i % 256))) 8 = row8 (numTo n (i + 1)) 8 := row8_congr fun j hj => by
  unfold upd numTo byteAt
  by_cases h1 : j = 7 - i
  · rw [if_pos h1, if_pos (by omega), show 7 - j = i from by omega]
  · rw [if_neg h1]
    by_cases h2 : 8 ≤ j + i
    · rw [if_pos h2, if_pos (by omega)]
    · rw [if_neg h2, if_neg (by omega)]
theorem numTo_all (n : Nat) : row8 (numTo n 8) 8 = row8 (byteAt n) 8 := row8_congr fun j _ => by unfold numTo; rw [if_pos (by omega)]
theorem byte_mod (n : Nat) : ((n : Int) % 256) = n8 (UInt8.ofNat (n % 256)) := by
  unfold n8
  rw [UInt8.toNat_ofNat', Nat.mod_eq_of_lt (by omega : n % 256 < 2 ^ 8)]
  omega
section
variable {P : Program} {ops : Array Oper} {rest : List Oper} {op : Oper} {a : Act} {w : World} {Q : Exit → Act → World → Prop}
/-- A slice of an array that lies in a block, from l on; it may be empty. -/
theorem wpList_sliceArr0 (hgd : op.guard = none) (ty : TypeId) (x lo : Operand) (ho : op.op = .slice ty x (some lo) none none) (b : Nat) (hx : a.eval x = .pointer (some ⟨b, 0, none⟩)) (k : IntKind) (z : Int) (hlo : a.eval lo = .int k z) (l : Nat) (hz : z = (l : Int))
    (n : Nat) (e : TypeId) (hu : P.underlying ty = some (.array n e)) (hse : (P.info? e).map (·.size) = some 1) (hl : l ≤ n) (o m : Nat) (hoo : o = if n = l then 0 else l) (hm : m = n - l)
    (h : wpList P ops Q rest (a.put op.dst (.slice (some ⟨b, o, none⟩) m m)) w) : wpList P ops Q (op :: rest) a w := by
  subst hz hoo hm
  refine wpList_run hgd _ w ?_ h
  unfold execOp
  simp only [ho, Option.map_some, Option.map_none, hx, hlo]
  by_cases h2 : n = l
  · simp [Instr.sliceAt, run_underlying hu, Instr.sureAddr, Instr.sliceBounds, Instr.sliceBound, asIntOf, h2, sizeOf_run hse, Addr.add_mid, Sem.run_bind]
  · simp [Instr.sliceAt, run_underlying hu, Instr.sureAddr, Instr.sliceBounds, Instr.sliceBound, asIntOf, h2, sizeOf_run hse, Addr.add_mid, Sem.run_bind]
    intro h3
    omega
/-- A string of n bytes of a block from o on. -/
theorem wpList_partString (hgd : op.guard = none) (src dst : TypeId) (x : Operand) (ho : op.op = .convert src dst x) (b o n cap : Nat) (hx : a.eval x = .slice (some ⟨b, o, none⟩) n cap)
    (e : TypeId) (hs : P.underlying src = some (.slice e)) (he : P.underlying e = some (.int .u8)) (hd : P.underlying dst = some .string)
    (f : Nat → UInt8) (m : Nat) (t : TypeId) (hb : Blk w b (row8 f m) t) (hn : o + n ≤ m)
    (h : wpList P ops Q rest (a.put op.dst (.string ⟨((List.range n).map fun j => f (o + j)).toArray⟩)) w) : wpList P ops Q (op :: rest) a w := by
  refine wpList_run hgd _ w ?_ h
  have hld : (loadCells ⟨b, o, none⟩ n).run P w = .ok (((List.range n).map fun j => n8 (f (o + j))).map (Value.int .u8)).toArray w := by
    have := run_loadCells_list (P := P) w ⟨b, o, none⟩ (((List.range n).map fun j => n8 (f (o + j))).map (Value.int .u8)) (fun j v hv => by
      have hj : j < n := by have := (List.getElem?_eq_some_iff.1 hv).1; simpa using this
      rw [Addr.add_mid, hb.cell, row8_get _ _ _ (by omega), ← hv]
      simp [hj])
    simpa using this
  have hr := run_bytesToString (P := P) w ⟨b, o, none⟩ n cap ((List.range n).map fun j => n8 (f (o + j))) hld
  rw [foldl_push] at hr
  have e2 : ((((List.range n).map fun j => n8 (f (o + j))).map fun k => UInt8.ofNat k.toNat)) = (List.range n).map fun j => f (o + j) := by
    rw [List.map_map]; congr 1; funext j; exact ofNat_n8 (f (o + j))
  rw [e2] at hr
  unfold execOp
  simp only [ho, hx, Sem.run_bind, run_convert_bytes_string w src dst e _ _ _ hs he hd, hr, Result.andThen_ok]
  show Result.ok (Next.value (.string ⟨ByteArray.empty.data ++ _⟩)) w = _
  rw [show ByteArray.empty.data = #[] from rfl, Array.empty_append]
end
/-- How many bytes are meant. -/
def cut8 (k : Int) : Nat := (min (max k 0) 8).toNat
theorem cut8_le (k : Int) : cut8 k ≤ 8 := by unfold cut8; omega
theorem part_num (n k : Nat) (h : k ≤ 8) : ((List.range k).map fun j => byteAt n ((if 8 = 8 - k then 0 else 8 - k) + j)) = num n k := by
  rw [num_range]
  apply List.map_congr_left
  intro j hj
  have hj := List.mem_range.1 hj
  unfold byteAt
  rw [if_neg (by omega), show 7 - (8 - k + j) = k - 1 - j from by omega]
def shiftN (n i : Nat) : Nat := n / 256 ^ i
theorem shiftN_succ (n i : Nat) : ((shiftN n i : Nat) : Int) / 256 = (shiftN n (i + 1) : Nat) := by
  unfold shiftN
  rw [Nat.pow_succ, ← Nat.div_div_eq_div_mul]
  omega
attribute [local go_sem] byte_mod shiftN_succ
set_option maxRecDepth 100000 in
set_option maxHeartbeats 400000 in
theorem number_any (n : Nat) (k : Int) (w : World) :
    Calls Tryz.prog 105 #[.int .u64 n, .int .i64 k] w fun e w' => e = .returned (.string ⟨(num n (cut8 k)).toArray⟩) ∧ Below w.heap.size w w' := by
  go_enter Tryz.func105, Tryz.ntmps105
  go_wp2_with (with_reducible refine at_list ?_; first
    | (refine wpList_allocRow rfl _ rfl _ z60.1 ?_; intro w1 hw1 hs1 hb1))
  go_loopw [0, 7] (fun v0 v7 wl => ∃ i : Nat, i ≤ 8 ∧ v0 = .int .u64 (shiftN n i : Nat) ∧ v7 = .int .i64 i ∧ Below w.heap.size w wl ∧ wl.heap.size = w.heap.size + 1 ∧ Blk wl w.heap.size (row8 (numTo n i) 8) 140) (fun _ v7 _ => 8 - (intOf v7).toNat)
  case atStart => exact ⟨0, by omega, by simp [shiftN], rfl, hw1, hs1, by rw [numTo_zero]; exact hb1⟩
  case round =>
    obtain ⟨i, hi, rfl, rfl, hB, hz, hb⟩ := hrel
    clear hw1 hs1 hb1
    by_cases hlt : i < 8
    · have HS : Hid (shiftN n i = n / 256 ^ i) := by exact rfl
      go_wp2_with (with_reducible refine at_list ?_; first
        | (refine wpList_addrW rfl _ _ _ rfl w.heap.size rfl .i64 _ rfl (7 - i) _ _ Tryz.underlying140 i5 (by omega) (by omega) ?_)
        | (go_simp; refine wpList_storeB rfl _ _ _ rfl w.heap.size (7 - i) rfl (UInt8.ofNat (shiftN n i % 256)) rfl _ _ _ hb i5 (by omega) ?_; intro w2 hg2 hs2 hb2; rw [HS.out, numTo_succ n i hlt] at hb2))
      go_roundw
      case rel => exact ⟨i + 1, by omega, by first | rfl | simp [shiftN_succ], by go_num, hB.trans (below_of_grown hg2 (by omega) (by omega)), by omega, hb2⟩
      case measure => simp [intOf]; omega
    · have hb3 : Blk wr w.heap.size (row8 (byteAt n) 8) 140 := by
        rw [show i = 8 from by omega, numTo_all] at hb
        exact hb
      clear hb
      by_cases h1 : k < 0
      · have HK : Hid (num n (cut8 k) = []) := by rw [show cut8 k = 0 from by unfold cut8; omega]; exact rfl
        go_wp2_with (with_reducible refine at_list ?_; first
          | (refine wpList_partString rfl _ _ _ rfl w.heap.size 0 0 0 rfl _ Tryz.underlying76 Tryz.underlying5 Tryz.underlying9 _ _ _ hb3 (by omega) ?_))
        go_ret
        exact ⟨by rw [HK.out]; rfl, hB⟩
      · by_cases h2 : 8 < k
        · have HK : Hid (((List.range 8).map fun j => byteAt n (0 + j)) = num n (cut8 k)) := by
            rw [show cut8 k = 8 from by unfold cut8; omega]
            exact part_num n 8 (Nat.le_refl _)
          go_wp2_with (with_reducible refine at_list ?_; first
            | (refine wpList_partString rfl _ _ _ rfl w.heap.size 0 8 8 rfl _ Tryz.underlying76 Tryz.underlying5 Tryz.underlying9 _ _ _ hb3 (by omega) ?_; rw [HK.out]))
          go_ret
          exact ⟨rfl, hB⟩
        · obtain ⟨m, rfl⟩ : ∃ m : Nat, k = m := ⟨k.toNat, by omega⟩
          have hk : cut8 (m : Int) = m := by unfold cut8; omega
          have HK : Hid (cut8 (m : Int) = m) := hk
          have hm : m ≤ 8 := by omega
          obtain ⟨o, ho⟩ : ∃ o, o = if 8 = 8 - m then 0 else 8 - m := ⟨_, rfl⟩
          have HO : Hid (o = if 8 = 8 - m then 0 else 8 - m) := ho
          have HP : Hid (((List.range m).map fun j => byteAt n (o + j)) = num n m) := by rw [ho]; exact part_num n m hm
          have ho8 : o + m ≤ 8 := by rw [ho]; split <;> omega
          clear hk ho
          clear h1
          have h1 : decide ((m : Int) < 0) = false := by simp
          go_wp2_with (with_reducible refine at_list ?_; first
            | (refine wpList_sliceArr0 rfl _ _ _ rfl w.heap.size rfl .i64 _ rfl (8 - m) (by omega) 8 _ Tryz.underlying140 i5 (by omega) o m HO.out (by omega) ?_)
            | (refine wpList_partString rfl _ _ _ rfl w.heap.size o m m rfl _ Tryz.underlying76 Tryz.underlying5 Tryz.underlying9 _ _ _ hb3 ho8 ?_; rw [HP.out]))
          go_ret
          exact ⟨by rw [HK.out]; rfl, hB⟩
end Go.Proofs.YtnhlejdilldfaaaGreat
namespace Go.Proofs.YtnhlejdilldfaaaGreat
open Go.RowKit
theorem or_low (a b : Nat) (hb : b < 256) : a * 256 ||| b = a * 256 + b := by
  have := Nat.shiftLeft_add_eq_or_of_lt (b := b) (i := 8) (by omega) a
  simp only [Nat.shiftLeft_eq] at this
  exact this.symm
theorem bits_or64 (a b : Nat) (ha : a * 256 < 18446744073709551616) (hb : b < 256) : bits .or .u64 ((a : Int) * 256) (b : Int) = ((a * 256 + b : Nat) : Int) := by
  show IntKind.u64.wrap ((BitVec.ofInt 64 ((a : Int) * 256) ||| BitVec.ofInt 64 (b : Int)).toNat : Int) = _
  have e1 : BitVec.ofInt 64 ((a : Int) * 256) = BitVec.ofNat 64 (a * 256) := by
    rw [show ((a : Int) * 256) = ((a * 256 : Nat) : Int) from by omega]; exact BitVec.ofInt_natCast 64 (a * 256)
  have e2 : BitVec.ofInt 64 (b : Int) = BitVec.ofNat 64 b := BitVec.ofInt_natCast 64 b
  rw [e1, e2, BitVec.toNat_or, BitVec.toNat_ofNat, BitVec.toNat_ofNat, Nat.mod_eq_of_lt (by simpa using ha), Nat.mod_eq_of_lt (by omega : b < 2 ^ 64), or_low a b hb, IntKind.wrap_u64]
  omega
attribute [local go_sem] idx8
set_option maxRecDepth 100000 in
set_option maxHeartbeats 400000 in
theorem value_any (l : List UInt8) (w : World) (hl : l.length ≤ 8) :
    Calls Tryz.prog 104 #[.string ⟨l.toArray⟩] w fun e w' => e = .returned (.int .u64 (val l)) ∧ w' = w := by
  go_enter Tryz.func104, Tryz.ntmps104
  go_wp2_with fail
  go_loopw [3, 7] (fun v3 v7 wl => ∃ n : Nat, n ≤ l.length ∧ v3 = .int .u64 (val (l.take n)) ∧ v7 = .int .i64 n ∧ wl = w) (fun _ v7 _ => l.length - (intOf v7).toNat)
  case atStart => exact ⟨0, by omega, rfl, rfl, rfl⟩
  case round =>
    obtain ⟨n, hn, rfl, rfl, hw⟩ := hrel
    have hw2 := hw.symm
    subst hw2
    clear hw
    by_cases hlt : n < l.length
    · have hv := val_lt n (l.take n) (by rw [List.length_take]; omega)
      have h7 : 256 ^ n ≤ 256 ^ 7 := Nat.pow_le_pow_right (by decide) (by omega)
      have h77 : 256 ^ 7 = 72057594037927936 := by decide
      have hv2 : val (l.take n) * 256 < 18446744073709551616 := by omega
      have hb : (byteOf l n).toNat < 256 := (byteOf l n).toNat_lt
      have hb2 : IntKind.u64.wrap (n8 (byteOf l n)) = ((byteOf l n).toNat : Int) := by rw [IntKind.wrap_u64]; unfold n8; omega
      have HN : Hid (val (l.take (n + 1)) = val (l.take n) * 256 + (byteOf l n).toNat) := val_take l n hlt
      have hor := bits_or64 _ _ hv2 hb
      clear h7 h77 hv
      generalize val (l.take n) = v at *
      generalize (byteOf l n).toNat = b at *
      go_wp2_with fail
      go_roundw
      case rel => exact ⟨n + 1, by omega, by rw [HN.out]; simp, by go_num, trivial⟩
      case measure => simp [intOf]; omega
    · have e1 : l.take n = l := List.take_of_length_le (by omega)
      rw [e1]
      go_wp2_with fail
      go_ret
      exact ⟨rfl, rfl⟩
theorem extract_take (l : List UInt8) (n : Nat) : (ByteArray.mk l.toArray).extract 0 n = ⟨(l.take n).toArray⟩ := by
  have : ((ByteArray.mk l.toArray).extract 0 n).data = (l.take n).toArray := by
    apply Array.ext'
    simp [ByteArray.extract, ByteArray.copySlice]
  rw [show (ByteArray.mk l.toArray).extract 0 n = ⟨((ByteArray.mk l.toArray).extract 0 n).data⟩ from rfl, this]
theorem n32_mod (x : BitVec 32) : n32 x % 4294967296 = n32 x := by have := n32_nonneg x; have := n32_lt x; omega
theorem n32_shr1 (x : BitVec 32) : n32 x / 2 = n32 (shr32 x 1) := n32_shr x 1
theorem bits_poly (x : BitVec 32) : bits .xor .u32 (n32 x) 2197175160 = n32 (xor32 x (BitVec.ofNat 32 2197175160)) := bits_xor32 x (BitVec.ofNat 32 2197175160)
def lowI (x : BitVec 32) : Int := n32 x % 2
theorem n32_tdiv2 (x : BitVec 32) : (n32 x).tdiv 2 = n32 (shr32 x 1) := by
  have := n32_nonneg x
  rw [Int.tdiv_eq_ediv_of_nonneg this, n32_shr1]
theorem n32_tmod2 (x : BitVec 32) : (n32 x).tmod 2 = lowI x := by
  have := n32_nonneg x
  rw [Int.tmod_eq_emod_of_nonneg this]; rfl
end Go.Proofs.YtnhlejdilldfaaaGreat
