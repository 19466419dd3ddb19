/- The plain mathematics of the plain digest, and its state in memory. What the plain digest does. -/
import Derived.Test.YtmbdhngoldganaaGreatDoorSSl
import Derived.Deep.RegionHeld3
namespace Go.Proofs.YtmbdhngoldganaaGreatDoor.Sh
open Go Go.RowKit
def slLen : Value → Nat | .slice _ n _ => n | _ => 0
theorem nought_stop (t z : Nat) (hz : z ≤ noughts t) : ((t + 1 + z) % 64 = 56) ↔ z = noughts t := by unfold noughts at *; omega
def padZ (s : List UInt8) (z : Nat) : List UInt8 := s ++ 128 :: List.replicate z 0
theorem padZ_length (s : List UInt8) (z : Nat) : (padZ s z).length = s.length + 1 + z := by simp [padZ]; omega
theorem padZ_zero (s : List UInt8) : s ++ (List.range 1).map (fun _ => (128 : UInt8)) = padZ s 0 := by simp [padZ, List.range_succ]
theorem padZ_succ (s : List UInt8) (z : Nat) : padZ s z ++ (List.range 1).map (fun _ => (0 : UInt8)) = padZ s (z + 1) := by
  simp [padZ, List.range_succ, List.replicate_succ']

theorem padK_length (s : List UInt8) (k : Nat) (hk : k ≤ 8) : (padZ s (noughts s.length) ++ (be (8 * s.length) 8).take k).length = s.length + 1 + noughts s.length + k := by
  rw [List.length_append, padZ_length, List.length_take, be_length]; omega
theorem padK_succ (s : List UInt8) (k : Nat) (hk : k < 8) : padZ s (noughts s.length) ++ (be (8 * s.length) 8).take k ++ (List.range 1).map (fun _ => byteAt (8 * s.length) 8 k) = padZ s (noughts s.length) ++ (be (8 * s.length) 8).take (k + 1) := by
  have e : (be (8 * s.length) 8)[k]'(by rw [be_length]; exact hk) = byteAt (8 * s.length) 8 k := by unfold be; rw [List.getElem_map, List.getElem_range]
  rw [List.append_assoc, List.take_succ_eq_append_getElem (by rw [be_length]; exact hk), e]
  rfl
theorem padK_all (s : List UInt8) : padZ s (noughts s.length) ++ (be (8 * s.length) 8).take 8 = s ++ padL s.length := by
  rw [List.take_of_length_le (by rw [be_length]; omega)]
  simp [padZ, padL]
theorem len_byte (t k : Nat) : ((t : Int) * 8 / 2 ^ (8 * (7 - k)) % 256) = n8 (byteAt (8 * t) 8 k) := by
  unfold byteAt
  rw [show 8 - 1 - k = 7 - k from by omega, ← num_byte (8 * t) (7 - k)]
  rw [show ((8 * t : Nat) : Int) = (t : Int) * 8 from by omega]
theorem built39 : Tryz.prog.built 236 [] = some (row32 (fun _ => 0) 64) := by kernel_rfl
def wfill (f : Nat → UInt8) (i : Nat) : Nat → BitVec 32 := if i ≤ 16 then fun j => if j < i then wordOf f j else 0 else schedF f (i - 16)
theorem wfill_zero (f : Nat → UInt8) : wfill f 0 = fun _ => 0 := by unfold wfill; rw [if_pos (by omega)]; funext j; rw [if_neg (by omega)]
theorem wfill_low (f : Nat → UInt8) (i : Nat) (h : i < 16) : upd (wfill f i) i (wordOf f i) = wfill f (i + 1) := by
  unfold wfill
  rw [if_pos (by omega), if_pos (by omega)]
  funext j
  unfold upd
  by_cases h1 : j = i
  · rw [if_pos h1, if_pos (by omega), h1]
  · rw [if_neg h1]
    show (if j < i then wordOf f j else 0) = _
    by_cases h2 : j < i
    · rw [if_pos h2, if_pos (by omega)]
    · rw [if_neg h2, if_neg (by omega)]
theorem wfill_high (f : Nat → UInt8) (i : Nat) (h : 16 ≤ i) : wfill f i = schedF f (i - 16) := by
  unfold wfill
  by_cases h1 : i = 16
  · subst h1
    rw [if_pos (by omega)]
    funext j
    unfold schedF sched
    rw [List.getD_eq_getElem?_getD]
    by_cases h : j < 16
    · rw [if_pos h]; simp [h]
    · rw [if_neg h, List.getElem?_eq_none (by simp; omega)]; rfl
  · rw [if_neg (by omega)]
theorem wfill_next (f : Nat → UInt8) (i : Nat) (h : 16 ≤ i) : upd (wfill f i) i (add32 (add32 (add32 (wfill f i (i - 16)) (sig0 (wfill f i (i - 15)))) (wfill f i (i - 7))) (sig1 (wfill f i (i - 2)))) = wfill f (i + 1) := by
  rw [wfill_high f i h, wfill_high f (i + 1) (by omega), show i + 1 - 16 = (i - 16) + 1 from by omega, schedF_succ, nxt_sched]
  rw [show i - 16 + 16 = i from by omega, show i - 16 + 1 = i - 15 from by omega, show i - 16 + 9 = i - 7 from by omega, show i - 16 + 14 = i - 2 from by omega]
theorem n32_wshl8 (x : BitVec 32) : IntKind.u32.wrap (n32 x * 256) = n32 (shl32 x 8) := by rw [IntKind.wrap_u32]; exact n32_shl8 x
theorem n32_wshl16 (x : BitVec 32) : IntKind.u32.wrap (n32 x * 65536) = n32 (shl32 x 16) := by rw [IntKind.wrap_u32]; exact n32_shl16 x
theorem n32_wshl24 (x : BitVec 32) : IntKind.u32.wrap (n32 x * 16777216) = n32 (shl32 x 24) := by rw [IntKind.wrap_u32]; exact n32_shl24 x
theorem cell_other {w : World} {g W o i : Nat} {v : Value} (h : ¬ g = W) : (w.setCell ⟨W, i, none⟩ v).drew.cell? ⟨g, o, none⟩ = w.cell? ⟨g, o, none⟩ :=
  World.cell?_of_block (Below.heap_setCell w ⟨W, i, none⟩ v g h)
theorem word4 (f : Nat → UInt8) (k : Nat) : wordOf f k = or32 (or32 (or32 (shl32 (w8 (f (4 * k))) 24) (shl32 (w8 (f (4 * k + 1))) 16)) (shl32 (w8 (f (4 * k + 2))) 8)) (w8 (f (4 * k + 3))) := by
  unfold wordOf part part part part part or32 shl32
  simp only [BitVec.shiftLeft_or_distrib, ← BitVec.shiftLeft_add, Nat.add_zero]
  rw [show (0 : BitVec 32) <<< (8 + 8 + 8 + 8) = 0 from by decide, show (0 : BitVec 32) ||| w8 (f (4 * k)) <<< (8 + 8 + 8) = w8 (f (4 * k)) <<< (8 + 8 + 8) from BitVec.zero_or]
structure RS (A B : Nat) (w0 wl : World) (hf : Nat → BitVec 32) (g cap : Nat) (l : List UInt8) : Prop where
  below : Below w0.heap.size w0 wl
  a : w0.heap.size ≤ A
  ab : A < B
  bg : B < g
  k : Blk wl A (row32 Kt 64) 236
  h : Blk wl B (row32 hf 8) 237
  t : BS wl g cap l
theorem RS.later {A B : Nat} {w0 wl w' : World} {hf : Nat → BitVec 32} {g cap : Nat} {l : List UInt8} (r : RS A B w0 wl hf g cap l) (hb : Below wl.heap.size wl w') : RS A B w0 w' hf g cap l :=
  ⟨r.below.trans (hb.mono r.below.size), r.a, r.ab, r.bg, r.k.belowSize hb, r.h.belowSize hb, r.t.belowSize hb⟩
theorem RS.app {A B : Nat} {w0 wl w' : World} {hf : Nat → BitVec 32} {g cap g' cap' : Nat} {l l' : List UInt8} (r : RS A B w0 wl hf g cap l) (hg : wl.grownBy w' (some g)) (hg' : g' = g ∨ wl.heap.size ≤ g') (hb : BS w' g' cap' l') : RS A B w0 w' hf g' cap' l' :=
  ⟨r.below.trans (below_of_grown hg (by have := r.a; have := r.ab; have := r.bg; omega) r.below.size), r.a, r.ab, (by have := r.bg; have := r.t.lt; omega), r.k.grown hg (by have := r.ab; have := r.bg; simp; omega), r.h.grown hg (by have := r.bg; simp; omega), hb⟩
theorem RS.other {A B : Nat} {w0 wl w' : World} {hf : Nat → BitVec 32} {g cap c : Nat} {l : List UInt8} (r : RS A B w0 wl hf g cap l) (hg : wl.grownBy w' (some c)) (hc : g < c) : RS A B w0 w' hf g cap l :=
  ⟨r.below.trans (below_of_grown hg (by have := r.a; have := r.ab; have := r.bg; omega) r.below.size), r.a, r.ab, r.bg, r.k.grown hg (by have := r.ab; have := r.bg; simp; omega), r.h.grown hg (by have := r.bg; simp; omega), r.t.grown hg (by simp; omega)⟩
theorem RS.drewN {A B : Nat} {w0 wl : World} {hf : Nat → BitVec 32} {g cap : Nat} {l : List UInt8} (r : RS A B w0 wl hf g cap l) (n : Nat) : RS A B w0 (wl.drewN n) hf g cap l :=
  ⟨below_draws r.below n, r.a, r.ab, r.bg, r.k.drewN n, r.h.drewN n, r.t.drewN n⟩
theorem keep4 {w : World} {g W i o0 o1 o2 o3 : Nat} {v x0 x1 x2 x3 : Value} (h : g < W) (h0 : w.cell? ⟨g, o0, none⟩ = some x0) (h1 : w.cell? ⟨g, o1, none⟩ = some x1) (h2 : w.cell? ⟨g, o2, none⟩ = some x2) (h3 : w.cell? ⟨g, o3, none⟩ = some x3) :
    (w.setCell ⟨W, i, none⟩ v).drew.cell? ⟨g, o0, none⟩ = some x0 ∧ (w.setCell ⟨W, i, none⟩ v).drew.cell? ⟨g, o1, none⟩ = some x1 ∧ (w.setCell ⟨W, i, none⟩ v).drew.cell? ⟨g, o2, none⟩ = some x2 ∧ (w.setCell ⟨W, i, none⟩ v).drew.cell? ⟨g, o3, none⟩ = some x3 :=
  ⟨(cell_other (by omega)).trans h0, (cell_other (by omega)).trans h1, (cell_other (by omega)).trans h2, (cell_other (by omega)).trans h3⟩
theorem RS.setW {A B W i : Nat} {w0 wl : World} {hf : Nat → BitVec 32} {g cap : Nat} {l : List UInt8} {v : Value} (r : RS A B w0 wl hf g cap l) (h : g < W) : RS A B w0 (wl.setCell ⟨W, i, none⟩ v).drew hf g cap l :=
  (r.other (grown_setCell W v i wl) h).drewN 1
theorem Blk.setW {w : World} {W i n : Nat} {f : Nat → BitVec 32} {t : TypeId} (h : Blk w W (row32 f n) t) (x : BitVec 32) : Blk (w.setCell ⟨W, i, none⟩ (.int .u32 (n32 x))).drew W (row32 (upd f i x) n) t := by
  have := h.setCell i (.int .u32 (n32 x))
  rw [row32_set] at this
  exact this.drew
theorem n32_mod (x : BitVec 32) : n32 x % 4294967296 = n32 x := by have := n32_nonneg x; have := n32_lt x; omega
theorem RS.congr {A B : Nat} {w0 wl : World} {hf hf' : Nat → BitVec 32} {g cap : Nat} {l : List UInt8} (r : RS A B w0 wl hf g cap l) (h : row32 hf 8 = row32 hf' 8) : RS A B w0 wl hf' g cap l :=
  ⟨r.below, r.a, r.ab, r.bg, r.k, by rw [← h]; exact r.h, r.t⟩
theorem RS.seth {A B : Nat} {w0 wl w' : World} {hf hf' : Nat → BitVec 32} {g cap : Nat} {l : List UInt8} (r : RS A B w0 wl hf g cap l) (hg : wl.grownBy w' (some B)) (hb : Blk w' B (row32 hf' 8) 237) : RS A B w0 w' hf' g cap l :=
  ⟨r.below.trans (below_of_grown hg (by have := r.a; have := r.ab; omega) r.below.size), r.a, r.ab, r.bg, r.k.grown hg (by have := r.ab; simp; omega), hb, r.t.grown hg (by have := r.bg; simp; omega)⟩
def shiftTo (st : S8) (n : Nat) : Nat → BitVec 32 := fun j => if n < j then st.at (j - 1) else st.at j
theorem shiftTo_seven (st : S8) : row32 (shiftTo st 7) 8 = row32 st.at 8 := row32_congr fun j hj => by unfold shiftTo; rw [if_neg (by omega)]
theorem shiftTo_pred (st : S8) (n : Nat) : upd (shiftTo st (n + 1)) (n + 1) (shiftTo st (n + 1) n) = shiftTo st n := by
  funext j
  unfold upd shiftTo
  by_cases h : j = n + 1
  · subst h; rw [if_pos rfl, if_neg (by omega), if_pos (by omega)]; rfl
  · rw [if_neg h]
    by_cases h2 : n + 1 < j
    · rw [if_pos h2, if_pos (by omega)]
    · rw [if_neg h2, if_neg (by omega)]
theorem shift_step (st : S8) (k w : BitVec 32) : row32 (upd (upd (shiftTo st 0) 4 (add32 (shiftTo st 0 4) (xOf k w st))) 0 (add32 (xOf k w st) (yOf st))) 8 = row32 (step k w st).at 8 := rfl
theorem wfill_all (f : Nat → UInt8) : wfill f 64 = wt f := wfill_high f 64 (by omega)

def digTo (s : List UInt8) (n : Nat) : List UInt8 := (List.range (4 * n)).map (outB (hashAll s))
theorem digTo_length (s : List UInt8) (n : Nat) : (digTo s n).length = 4 * n := by simp [digTo]
theorem digTo_succ (s : List UInt8) (n : Nat) : digTo s n ++ (List.range 4).map (byteAt ((hashAll s).at n).toNat 4) = digTo s (n + 1) := by
  unfold digTo
  rw [show 4 * (n + 1) = 4 * n + 4 from by omega, List.range_add, List.map_append, List.map_map]
  congr 1
  apply List.map_congr_left
  intro j hj
  have hj4 : j < 4 := by simpa using hj
  show _ = outB (hashAll s) (4 * n + j)
  unfold outB
  rw [show (4 * n + j) / 4 = n from by omega, show (4 * n + j) % 4 = j from by omega]
theorem digTo_all (s : List UInt8) : digTo s 8 = digest s := rfl
theorem conv_any (x : BitVec 32) (j : Nat) : n32 (shr32 x (8 * (3 - j))) % 256 = n8 (byteAt x.toNat 4 j) := by
  unfold byteAt n8 n32 shr32
  rw [UInt8.toNat_ofNat', Nat.mod_eq_of_lt (by omega : x.toNat / 2 ^ (8 * (4 - 1 - j)) % 256 < 2 ^ 8), BitVec.toNat_ushiftRight, Nat.shiftRight_eq_div_pow, show 4 - 1 - j = 3 - j from by omega]
  omega
theorem conv0 (x : BitVec 32) : n32 x % 256 = n8 (byteAt x.toNat 4 3) := by
  have := conv_any x 3
  rw [show shr32 x (8 * (3 - 3)) = x from by unfold shr32; simp] at this
  exact this
theorem wconv0 (x : BitVec 32) : IntKind.u8.wrap (n32 x) = n8 (byteAt x.toNat 4 3) := by rw [IntKind.wrap_u8']; exact conv0 x
theorem n32_shr24 (x : BitVec 32) : n32 x / 16777216 = n32 (shr32 x 24) := n32_shr x 24
theorem n32_shr16 (x : BitVec 32) : n32 x / 65536 = n32 (shr32 x 16) := n32_shr x 16
theorem n32_shr8 (x : BitVec 32) : n32 x / 256 = n32 (shr32 x 8) := n32_shr x 8
theorem row8_four (f : Nat → UInt8) : #[Value.int .u8 (n8 (f 0)), .int .u8 (n8 (f 1)), .int .u8 (n8 (f 2)), .int .u8 (n8 (f 3))] = row8 f 4 := rfl
theorem low_any (x : BitVec 32) (j : Nat) (_h : j ≤ 3) : byteAt (shr32 x (8 * (3 - j))).toNat 4 3 = byteAt x.toNat 4 j := by
  unfold byteAt shr32
  rw [BitVec.toNat_ushiftRight, Nat.shiftRight_eq_div_pow]
  simp only [Nat.reduceSub, Nat.mul_zero, Nat.pow_zero, Nat.div_one]
theorem Blk4 (x : BitVec 32) (w : World) : Blk (w.alloc (.cells #[.int .u8 (n8 (byteAt (shr32 x 24).toNat 4 3)), .int .u8 (n8 (byteAt (shr32 x 16).toNat 4 3)), .int .u8 (n8 (byteAt (shr32 x 8).toNat 4 3)), .int .u8 (n8 (byteAt x.toNat 4 3))] 5)).drew w.heap.size (row8 (byteAt x.toNat 4) 4) 5 := by
  have a0 : byteAt (shr32 x 24).toNat 4 3 = byteAt x.toNat 4 0 := low_any x 0 (by omega)
  have a1 : byteAt (shr32 x 16).toNat 4 3 = byteAt x.toNat 4 1 := low_any x 1 (by omega)
  have a2 : byteAt (shr32 x 8).toNat 4 3 = byteAt x.toNat 4 2 := low_any x 2 (by omega)
  rw [a0, a1, a2, row8_four (byteAt x.toNat 4)]
  exact (Blk.new w _ 5).drew
section
variable {P : Program} {ops : Array Oper} {rest : List Oper} {op : Oper} {a : Act} {w : World} {K : Act → World → Prop} {Q : Exit → Act → World → Prop}
theorem wp_appendBS (x y : Operand) (t : TypeId) (ho : op.op = .call { callee := .builtin .append, args := #[x, y], argTypes := #[t, t] })
    (g cap : Nat) (l : List UInt8) (len : Nat) (hl : len = l.length) (hx : a.eval x = .slice (some ⟨g, 0, none⟩) len cap) (hbs : BS w g cap l) (g2 n c : Nat) (hy : a.eval y = .slice (some ⟨g2, 0, none⟩) n c) (f : Nat → UInt8) (ty2 : TypeId) (hb2 : Blk w g2 (row8 f n) ty2) (i : TypeInfo)
    (hu : P.underlying t = some (.slice 5)) (hi : P.info? 5 = some i) (hz : i.zero = some (.int .u8 0)) (hs : i.size = 1) (hby : i.bytes = 1) (hlen : l.length + n ≤ 1099511627776)
    (h : ∀ (w1 : World) (g1 cap1 : Nat), (g1 = g ∨ w.heap.size ≤ g1) → w.grownBy w1 (some g) → BS w1 g1 cap1 (l ++ (List.range n).map f) → K (a.put op.dst (.slice (some ⟨g1, 0, none⟩) (len + n) cap1)) w1) :
    op.wp P a w K Q := by
  subst hl
  obtain ⟨w1, g1, cap1, hr, hg1, hg, hb⟩ := run_appendBS (P := P) t op.type g cap l hbs g2 n c f ty2 hb2 i hu hi hz hs hby hlen
  have he : (execOp a.eval op).run P w = .ok (.value (.slice (some ⟨g1, 0, none⟩) (l.length + n) cap1)) w1 := by
    unfold execOp
    simp only [ho]
    simp [resolve, invoke, builtin, hx, hy, hr, Result.andThen]
  unfold Oper.wp
  rw [he]
  exact h w1 g1 cap1 hg1 hg hb
theorem wpList_bytesStrBS (hgd : op.guard = none) (src dst : TypeId) (x : Operand) (ho : op.op = .convert src dst x) (g len cap : Nat) (hx : a.eval x = .slice (some ⟨g, 0, none⟩) len cap)
    (e : TypeId) (hs : P.underlying src = some (.slice e)) (he : P.underlying e = some (.int .u8)) (hd : P.underlying dst = some .string)
    (l : List UInt8) (hl : len = l.length) (hb : BS w g cap l)
    (h : wpList P ops Q rest (a.put op.dst (.string ⟨l.toArray⟩)) w) : wpList P ops Q (op :: rest) a w := by
  subst hl
  refine wpList_run hgd _ w ?_ h
  have hld : (loadCells ⟨g, 0, none⟩ l.length).run P w = .ok ((l.map fun b => (b.toNat : Int)).map (Value.int .u8)).toArray w := by
    have := run_loadCells_list (P := P) w ⟨g, 0, none⟩ ((l.map fun b => (b.toNat : Int)).map (Value.int .u8)) (fun j v hv => by
      have hj : j < l.length := by have := (List.getElem?_eq_some_iff.1 hv).1; simpa using this
      rw [Addr.add_mid, Nat.zero_add, hb.cell j hj, ← hv]
      simp [hj, n8, List.getD_eq_getElem?_getD])
    simpa using this
  have hr := run_bytesToString (P := P) w ⟨g, 0, none⟩ l.length cap (l.map fun b => (b.toNat : Int)) hld
  rw [foldl_push] at hr
  have e2 : ((l.map fun b => (b.toNat : Int)).map fun k => UInt8.ofNat k.toNat) = l := by
    rw [List.map_map]
    exact (List.map_congr_left (fun b _ => by simp)).trans (List.map_id l)
  rw [e2] at hr
  unfold execOp
  simp only [ho, hx, Sem.run_bind, run_convert_bytes_string w src dst e _ _ _ hs he hd, hr, Result.andThen_ok]
  show Result.ok (Next.value (.string ⟨ByteArray.empty.data ++ l.toArray⟩)) w = _
  rw [show ByteArray.empty.data = #[] from rfl, Array.empty_append]
end
end Go.Proofs.YtmbdhngoldganaaGreatDoor.Sh
namespace Go.Proofs.YtmbdhngoldganaaGreatDoor.Sh
open Go.RowKit
attribute [local go_sem] n32_add n32_wadd bits_xor32 bits_and32 bits_or32 bits_not32 bits_notmax sub_not32 n32_shr n32_shl n8_wrap n32_shl8 n32_shl16 n32_shl24 n32_shr3 n32_shr10 n32_wshl8 n32_wshl16 n32_wshl24 n32_mod conv0 wconv0 n32_shr24 n32_shr16 n32_shr8
set_option maxRecDepth 100000 in
set_option maxHeartbeats 4000000 in
theorem rsum_any (s : List UInt8) (w : World) (hs : s.length ≤ 549755813888) :
    Calls Tryz.prog 133 #[.string ⟨s.toArray⟩] w fun e w' => e = .returned (.string ⟨(digest s).toArray⟩) ∧ Below w.heap.size w w' := by
  obtain ⟨i5', hi5, hz5, hs5, hb5⟩ := info5
  go_enter Tryz.func133, Tryz.ntmps133
  go_wp2_with (first
    | (go_at_call 162; refine (table_any _).mono ?_; rintro e w1 ⟨rfl, hw1⟩)
    | (with_reducible refine at_list ?_; first
      | (refine wpList_allocRow (op := ⟨some 3, _, _, _, _, _⟩) rfl _ rfl _ z39.1 ?_; intro w2 hw2 hs2 hb2; replace hs2 := hs2.symm)
      | (refine wpList_allocRow (op := ⟨some 4, _, _, _, _, _⟩) rfl _ rfl _ z40.1 ?_; intro w3 hw3 hs3 hb3; replace hs3 := hs3.symm)
      | (refine wpList_storeRow (op := ⟨none, .store 236 (.tmp 3) (.tmp 26), _, _, _, _⟩) rfl _ _ _ rfl w1.heap.size (row32 Kt 64) rfl rfl _ _ (hb2.belowSize hw3) (by rw [row32_size, row32_size]) (by rw [row32_size]; exact z39.2) (row32_one _ _) ?_; intro w4 hg4 hs4 hb4; replace hs4 := hs4.symm)
      | (refine wpList_storeRow (op := ⟨none, .store 237 (.tmp 4) (.tmp 27), _, _, _, _⟩) rfl _ _ _ rfl w2.heap.size (row32 H0.at 8) rfl rfl _ _ (hb3.grown hg4 (by simp; omega)) (by rw [row32_size, row32_size]) (by rw [row32_size]; exact z40.2) (row32_one _ _) ?_; intro w5 hg5 hs5' hb5'; replace hs5' := hs5'.symm)
      | (refine wpList_strBytes rfl _ _ _ rfl s rfl _ Tryz.underlying9 Tryz.underlying171 Tryz.underlying5 ?_; intro w6 cap6 hw6 hs6 hb6; replace hs6 := hs6.symm)
      | (refine wpList_bsl1 (op := ⟨some 31, _, _, _, _, _⟩) rfl _ rfl 128 rfl ?_; intro w7 hw7 hs7 hb7; replace hs7 := hs7.symm)
      | (refine wpList_appendBS (op := ⟨some 32, _, _, _, _, _⟩) rfl _ _ _ rfl w5.heap.size cap6 s _ rfl rfl (hb6.belowSize hw7) w6.heap.size 1 1 rfl _ _ hb7 _ Tryz.underlying171 hi5 hz5 hs5 hb5 (by omega) ?_; intro v8 g8 cap8 hg8' hg8 hb8; rw [padZ_zero] at hb8)))
  have hr8 : RS w1.heap.size w2.heap.size w v8 H0.at g8 cap8 (padZ s 0) := by
    have hB4 : Below w.heap.size w w4 := ((hw1.trans (hw2.mono hw1.size)).trans (hw3.mono (by have := hw1.size; omega))).trans (below_of_grown hg4 hw1.size (by have := hw1.size; omega))
    have hB5 : Below w.heap.size w w5 := hB4.trans (below_of_grown hg5 (by have := hw1.size; omega) hB4.size)
    have r5 : RS w1.heap.size w2.heap.size w w6 H0.at w5.heap.size cap6 s :=
      ⟨hB5.trans (hw6.mono hB5.size), hw1.size, by omega, by omega, (hb4.grown hg5 (by simp; omega)).belowSize hw6, hb5'.belowSize hw6, hb6⟩
    exact (r5.later hw7).app hg8 hg8' hb8
  generalize w1.heap.size = A at *
  generalize w2.heap.size = B at *
  clear hw1 hw2 hw3 hw6 hw7 hg4 hg5 hg8 hg8' hb2 hb3 hb4 hb5' hb6 hb7 hb8 hs2 hs3 hs4 hs5' hs6 hs7
  go_loopw [5] (fun v wl => ∃ g cap z : Nat, z ≤ noughts s.length ∧ v = .slice (some ⟨g, 0, none⟩) (s.length + 1 + z) cap ∧ RS A B w wl H0.at g cap (padZ s z)) (fun v _ => s.length + 65 - slLen v)
  case atStart => exact ⟨g8, cap8, 0, Nat.zero_le _, rfl, hr8⟩
  case round =>
    clear hr8
    obtain ⟨g, cap, z, hz, rfl, hr⟩ := hrel
    have hns := nought_stop s.length z hz
    have hn64 : noughts s.length < 64 := by unfold noughts; omega
    by_cases hlt : (s.length + 1 + z) % 64 = 56
    · have hne : (((s.length : Int) + 1 + (z : Int)) % 64 != 56) = false := by rw [bne_eq_false_iff_eq]; omega
      have hr' : RS A B w wr H0.at g cap (padZ s (noughts s.length) ++ (be (8 * s.length) 8).take 0) := by rw [← hns.1 hlt, List.take_zero, List.append_nil]; exact hr
      have hzz : Hid (z = noughts s.length) := hns.1 hlt
      clear hr hns hlt
      go_wp2_with fail
      clear hne
      go_loopw [5, 7] (fun v5 v7 wl => ∃ g cap k : Nat, k ≤ 8 ∧ v7 = .int .i64 (7 - (k : Int)) ∧ v5 = .slice (some ⟨g, 0, none⟩) (s.length + 1 + noughts s.length + k) cap ∧ RS A B w wl H0.at g cap (padZ s (noughts s.length) ++ (be (8 * s.length) 8).take k)) (fun _ v7 _ => (intOf v7 + 1).toNat)
      case atStart => exact ⟨g, cap, 0, by omega, rfl, by rw [hzz.out]; rfl, hr'⟩
      case round =>
        clear hr' hzz
        obtain ⟨g, cap, k, hk, rfl, rfl, hr⟩ := hrel
        by_cases hlt : k < 8
        · go_wp2_with (first
            | (with_reducible refine at_list ?_; first
              | (refine wpList_bsl1 (op := ⟨some 55, _, _, _, _, _⟩) rfl _ rfl (byteAt (8 * s.length) 8 k) ?_ ?_; (next => (go_simp; try rw [len_byte])); intro w9 hw9 hs9 hb9; replace hs9 := hs9.symm)
              | (refine wpList_appendBS (op := ⟨some 56, _, _, _, _, _⟩) rfl _ _ _ rfl g cap (padZ s (noughts s.length) ++ (be (8 * s.length) 8).take k) _ (padK_length s k hk).symm rfl (hr.t.belowSize hw9) wr.heap.size 1 1 rfl _ _ hb9 _ Tryz.underlying171 hi5 hz5 hs5 hb5 (by rw [padK_length s k hk]; omega) ?_; intro w10 g10 cap10 hg10' hg10 hb10; rw [padK_succ s k hlt] at hb10)))
          go_roundw
          case rel => exact ⟨g10, cap10, k + 1, by omega, by go_num, by rw [Nat.add_assoc (s.length + 1 + noughts s.length)], (hr.later hw9).app hg10 hg10' hb10⟩
          case measure => simp [intOf]; omega
        · obtain ⟨M, hM⟩ : ∃ M, M = s ++ padL s.length := ⟨_, rfl⟩
          have hMl : M.length = s.length + 9 + noughts s.length := by rw [hM]; simp [padL, be_length]; omega
          have hr3 : RS A B w wr (hashTo M 0).at g cap M := by
            rw [show k = 8 from by omega, padK_all, ← hM] at hr
            exact hr
          obtain ⟨nb, hnb⟩ : ∃ nb, M.length = 64 * nb := ⟨M.length / 64, by rw [hMl]; unfold noughts; omega⟩
          have HM : Hid (M = s ++ padL s.length) := hM
          rw [show s.length + 1 + noughts s.length + k = 64 * nb from by omega]
          have hnb2 : 64 * nb ≤ 1099511627776 := by omega
          have HL : Hid (M.length = 64 * nb) := hnb
          have hdk : decide ((k : Int) ≤ 7) = false := by simp; omega
          clear hM hMl hnb hr
          go_wp2_with fail
          clear hdk
          go_loopw [8] (fun v8 wl => ∃ kb : Nat, kb ≤ nb ∧ v8 = .int .i64 (64 * (kb : Int)) ∧ RS A B w wl (hashTo M kb).at g cap M) (fun v8 _ => 64 * nb - (intOf v8).toNat)
          case atStart => exact ⟨0, by omega, rfl, hr3⟩
          case round =>
            clear hr3
            obtain ⟨kb, hkb, rfl, hr⟩ := hrel
            by_cases hlt3 : kb < nb
            · go_wp2_with (with_reducible refine at_list ?_; first
                | (refine wpList_build0 (op := ⟨some 63, _, _, _, _, _⟩) rfl _ rfl _ built39 ?_)
                | (refine wpList_allocRow (op := ⟨some 9, _, _, _, _, _⟩) rfl _ rfl _ z39.1 ?_; intro w9 hw9 hs9 hb9; replace hs9 := hs9.symm)
                | (refine wpList_storeRow (op := ⟨none, .store 236 (.tmp 9) (.tmp 63), _, _, _, _⟩) rfl _ _ _ rfl wr.heap.size (row32 (fun _ => 0) 64) rfl rfl _ _ hb9 rfl (by rw [row32_size]; exact z39.2) (row32_one _ _) ?_; intro w10 hg10 hs10 hb10; replace hs10 := hs10.symm))
              have hr10 := (hr.later hw9).other hg10 hr.t.lt
              have hgW := hr.t.lt
              generalize wr.heap.size = W at *
              clear hr hw9 hs9 hb9 hg10 hs10
              go_loopw [10] (fun v10 wl => ∃ i : Nat, i ≤ 64 ∧ v10 = .int .i64 i ∧ RS A B w wl (hashTo M kb).at g cap M ∧ Blk wl W (row32 (wfill (blkAt M kb) i) 64) 236) (fun v10 _ => 64 - (intOf v10).toNat)
              case atStart => exact ⟨0, by omega, rfl, hr10, by rw [wfill_zero]; exact hb10⟩
              case round =>
                clear hr10 hb10
                obtain ⟨i, hi, rfl, hr, hbw⟩ := hrel
                by_cases h16 : i < 16
                · as_aux_lemma =>
                    have hcap : 64 * nb ≤ cap := by have := hr.t.len; rw [HL.out] at this; exact this
                    obtain ⟨b0, hb0⟩ : ∃ b0, b0 = M.getD (64 * kb + 4 * i) 0 := ⟨_, rfl⟩
                    obtain ⟨b1, hb1⟩ : ∃ b1, b1 = M.getD (64 * kb + 4 * i + 1) 0 := ⟨_, rfl⟩
                    obtain ⟨b2, hb2⟩ : ∃ b2, b2 = M.getD (64 * kb + 4 * i + 2) 0 := ⟨_, rfl⟩
                    obtain ⟨b3, hb3⟩ : ∃ b3, b3 = M.getD (64 * kb + 4 * i + 3) 0 := ⟨_, rfl⟩
                    have hq0 := hr.t.cell (64 * kb + 4 * i) (by rw [HL.out]; omega)
                    have hq1 := hr.t.cell (64 * kb + 4 * i + 1) (by rw [HL.out]; omega)
                    have hq2 := hr.t.cell (64 * kb + 4 * i + 2) (by rw [HL.out]; omega)
                    have hq3 := hr.t.cell (64 * kb + 4 * i + 3) (by rw [HL.out]; omega)
                    rw [← hb0] at hq0
                    rw [← hb1] at hq1
                    rw [← hb2] at hq2
                    rw [← hb3] at hq3
                    have HW : Hid (wordOf (blkAt M kb) i = or32 (or32 (or32 (shl32 (w8 b0) 24) (shl32 (w8 b1) 16)) (shl32 (w8 b2) 8)) (w8 b3)) := by
                      rw [word4, hb0, hb1, hb2, hb3]; rfl
                    clear hb0 hb1 hb2 hb3
                    go_wp2_with (with_reducible refine at_list ?_; first
                      | (refine wpList_sliceSl (op := ⟨some 80, _, _, _, _, _⟩) rfl _ _ _ _ rfl g (64 * nb) cap rfl _ _ rfl rfl (64 * kb + 4 * i) 4 (by omega) (by omega) (by omega) (by omega) _ Tryz.underlying171 i5 ?_))
                    have hqw := (hbw.cell i).trans (row32_get _ _ _ (by omega))
                    have hqf := hbw.frozen i
                    have hne : ¬ g = W := by omega
                    go_region_held3 (fun w' => w'.cell? ⟨g, 64 * kb + 4 * i, none⟩ = some (.int .u8 (n8 b0)) ∧ w'.cell? ⟨g, 64 * kb + 4 * i + 1, none⟩ = some (.int .u8 (n8 b1)) ∧ w'.cell? ⟨g, 64 * kb + 4 * i + 2, none⟩ = some (.int .u8 (n8 b2)) ∧ w'.cell? ⟨g, 64 * kb + 4 * i + 3, none⟩ = some (.int .u8 (n8 b3)))
                      (first | (go_keep; done) | exact keep4 hgW hq0 hq1 hq2 hq3) (fail)
                    clear hq0 hq1 hq2 hq3 hqw hqf
                    go_wp2_with fail
                    go_roundw
                    case rel => exact ⟨i + 1, by omega, by go_num, hr.setW hgW, by rw [← wfill_low _ _ h16, HW.out]; exact hbw.setW _⟩
                    case measure => simp [intOf]; omega
                · by_cases h64 : i < 64
                  · as_aux_lemma =>
                      have q15 := (hbw.cell (i - 15)).trans (row32_get _ _ _ (by omega))
                      go_wp2_with fail
                      go_quiet ((go_at_call 163; exact Calls.quiet_of_same (turn_any _ _ _ (by omega) (by omega))))
                      have hr2 := hr.drewN nq
                      have hbw2 := hbw.drewN nq
                      clear q15 hr hbw
                      generalize wr.drewN nq = wz at *
                      have q2 := (hbw2.cell (i - 2)).trans (row32_get _ _ _ (by omega))
                      go_wp2_with fail
                      go_quiet ((go_at_call 163; exact Calls.quiet_of_same (turn_any _ _ _ (by omega) (by omega))))
                      have hr3 := hr2.drewN nq
                      have hbw3 := hbw2.drewN nq
                      clear q2 hr2 hbw2
                      generalize wz.drewN nq = wy at *
                      have q16 := (hbw3.cell (i - 16)).trans (row32_get _ _ _ (by omega))
                      have q7 := (hbw3.cell (i - 7)).trans (row32_get _ _ _ (by omega))
                      have qi := (hbw3.cell i).trans (row32_get _ _ _ h64)
                      have qf := hbw3.frozen i
                      go_wp2_with fail
                      go_region
                      clear q16 q7 qi qf
                      go_wp2_with fail
                      go_roundw
                      case rel => exact ⟨i + 1, by omega, by go_num, hr3.setW hgW, by rw [← wfill_next _ _ (by omega)]; exact hbw3.setW _⟩
                      case measure => simp [intOf]; omega
                  · as_aux_lemma =>
                      have hb5w : Blk wr W (row32 (wt (blkAt M kb)) 64) 236 := by
                        rw [show i = 64 from by omega, wfill_all] at hbw
                        exact hbw
                      have hi64 : decide ((i : Int) < 64) = false := by simp; omega
                      clear hbw
                      go_wp2_with (with_reducible refine at_list ?_; first
                        | (refine wpList_loadRow (op := ⟨some 154, _, _, _, _, _⟩) rfl _ _ rfl B rfl _ _ hr.h _ Tryz.underlying237 rfl (by rw [row32_size]; exact z40.2) ?_)
                        | (refine wpList_allocRow (op := ⟨some 14, _, _, _, _, _⟩) rfl _ rfl _ z40.1 ?_; intro w9 hw9 hs9 hb9; replace hs9 := hs9.symm)
                        | (refine wpList_storeRow (op := ⟨none, .store 237 (.tmp 14) (.tmp 154), _, _, _, _⟩) rfl _ _ _ rfl wr.heap.size (row32 (hashTo M kb).at 8) rfl rfl _ _ hb9 (by rw [row32_size, row32_size]) (by rw [row32_size]; exact z40.2) (row32_one _ _) ?_; intro w10 hg10 hs10 hb10; replace hs10 := hs10.symm))
                      have hWV : W < wr.heap.size := hb5w.lt
                      have hr10 := (hr.later hw9).other hg10 hr.t.lt
                      have hw10 := (hb5w.belowSize hw9).grown hg10 (by simp; omega)
                      generalize wr.heap.size = V at *
                      clear hr hw9 hs9 hb9 hg10 hs10 hb5w hi64
                      go_loopw [15] (fun v15 wl => ∃ (i : Nat) (st : S8), i ≤ 64 ∧ v15 = .int .i64 i ∧ st = rnds Kt (wt (blkAt M kb)) (hashTo M kb) i ∧ RS A B w wl (hashTo M kb).at g cap M ∧ Blk wl W (row32 (wt (blkAt M kb)) 64) 236 ∧ Blk wl V (row32 st.at 8) 237) (fun v15 _ => 64 - (intOf v15).toNat)
                      case atStart => exact ⟨0, hashTo M kb, by omega, rfl, rfl, hr10, hw10, hb10⟩
                      case round =>
                        clear hr10 hw10 hb10
                        obtain ⟨j, st, hj, rfl, hst, hr, hbw, hbv⟩ := hrel
                        have HST : Hid (st = rnds Kt (wt (blkAt M kb)) (hashTo M kb) j) := hst
                        clear hst
                        by_cases hj64 : j < 64
                        · as_aux_lemma =>
                            have hdj1 : decide ((j : Int) < 64) = true := by simp; omega
                            have c4 : wr.cell? ⟨V, 4, none⟩ = some (.int .u32 (n32 st.e)) := (hbv.cell 4).trans (row32_get _ _ _ (by omega))
                            go_wp2_with fail
                            go_quiet ((go_at_call 163; exact Calls.quiet_of_same (turn_any _ _ _ (by omega) (by omega))))
                            have hr2 := hr.drewN nq
                            have hbw2 := hbw.drewN nq
                            have hbv2 := hbv.drewN nq
                            clear c4 hr hbw hbv hdj1
                            generalize wr.drewN nq = wz at *
                            have d4 : wz.cell? ⟨V, 4, none⟩ = some (.int .u32 (n32 st.e)) := (hbv2.cell 4).trans (row32_get _ _ _ (by omega))
                            have d5 : wz.cell? ⟨V, 5, none⟩ = some (.int .u32 (n32 st.f)) := (hbv2.cell 5).trans (row32_get _ _ _ (by omega))
                            have d6 : wz.cell? ⟨V, 6, none⟩ = some (.int .u32 (n32 st.g)) := (hbv2.cell 6).trans (row32_get _ _ _ (by omega))
                            have d7 : wz.cell? ⟨V, 7, none⟩ = some (.int .u32 (n32 st.h)) := (hbv2.cell 7).trans (row32_get _ _ _ (by omega))
                            have dk := (hr2.k.cell j).trans (row32_get _ _ _ hj64)
                            have dw := (hbw2.cell j).trans (row32_get _ _ _ hj64)
                            go_wp2_with fail
                            go_quiet (fail)
                            clear d4 d5 d6 d7 dk dw
                            have hr3 := hr2.drewN nq
                            have hbw3 := hbw2.drewN nq
                            have hbv3 := hbv2.drewN nq
                            clear hr2 hbw2 hbv2
                            generalize wz.drewN nq = wy at *
                            have e0 : wy.cell? ⟨V, 0, none⟩ = some (.int .u32 (n32 st.a)) := (hbv3.cell 0).trans (row32_get _ _ _ (by omega))
                            go_wp2_with fail
                            go_quiet ((go_at_call 163; exact Calls.quiet_of_same (turn_any _ _ _ (by omega) (by omega))))
                            have hr4 := hr3.drewN nq
                            have hbw4 := hbw3.drewN nq
                            have hbv4 := hbv3.drewN nq
                            clear e0 hr3 hbw3 hbv3
                            generalize wy.drewN nq = wx at *
                            have f0 : wx.cell? ⟨V, 0, none⟩ = some (.int .u32 (n32 st.a)) := (hbv4.cell 0).trans (row32_get _ _ _ (by omega))
                            have f1 : wx.cell? ⟨V, 1, none⟩ = some (.int .u32 (n32 st.b)) := (hbv4.cell 1).trans (row32_get _ _ _ (by omega))
                            have f2 : wx.cell? ⟨V, 2, none⟩ = some (.int .u32 (n32 st.c)) := (hbv4.cell 2).trans (row32_get _ _ _ (by omega))
                            go_wp2_with fail
                            clear f0 f1 f2
                            simp only [Int.reduceToNat, n32_mod]
                            go_loopw [20] (fun v20 wl => ∃ n : Nat, n ≤ 7 ∧ v20 = .int .i64 n ∧ RS A B w wl (hashTo M kb).at g cap M ∧ Blk wl W (row32 (wt (blkAt M kb)) 64) 236 ∧ Blk wl V (row32 (shiftTo st n) 8) 237) (fun v20 _ => (intOf v20).toNat)
                            case atStart => exact ⟨7, by omega, rfl, hr4, hbw4, by rw [shiftTo_seven]; exact hbv4⟩
                            case round =>
                              clear hr4 hbw4 hbv4
                              obtain ⟨n, hn, rfl, hr, hbw, hbv⟩ := hrel
                              by_cases hn0 : n = 0
                              · as_aux_lemma =>
                                  have hn0' : decide (0 < (n : Int)) = false := by simp; omega
                                  have HN : Hid (n = 0) := hn0
                                  have hn00 : n ≤ 0 := by omega
                                  clear hn0
                                  have g4 := (hbv.cell 4).trans (row32_get _ _ _ (by omega))
                                  have g0 := (hbv.cell 0).trans (row32_get _ _ _ (by omega))
                                  have gf4 := hbv.frozen 4
                                  have gf0 := hbv.frozen 0
                                  go_wp2_with fail
                                  clear g4 g0 gf4 gf0
                                  go_roundw
                                  case rel =>
                                    refine ⟨j + 1, step (Kt j) (wt (blkAt M kb) j) st, by omega, by go_num, by rw [rnds, ← HST.out], (hr.other (grown_setCell V _ 4 wr) (by omega)).other (grown_setCell V _ 0 _) (by omega), (hbw.grown (grown_setCell V _ 4 wr) (by simp; omega)).grown (grown_setCell V _ 0 _) (by simp; omega), ?_⟩
                                    rw [← shift_step]
                                    rw [HN.out] at hbv ⊢
                                    rw [← row32_set, ← row32_set]
                                    exact (hbv.setCell 4 _).setCell 0 _
                                  case measure => simp [intOf]; omega
                              · as_aux_lemma =>
                                  obtain ⟨p, rfl⟩ : ∃ p, n = p + 1 := ⟨n - 1, by omega⟩
                                  clear hn0
                                  go_wp2_with (with_reducible refine at_list ?_; first
                                    | (refine wpList_addrW (op := ⟨some 232, _, _, _, _, _⟩) rfl _ _ _ rfl V rfl .i64 _ rfl p _ _ Tryz.underlying237 i38 (by omega) (by omega) ?_)
                                    | (refine wpList_addrW (op := ⟨some 234, _, _, _, _, _⟩) rfl _ _ _ rfl V rfl .i64 _ rfl (p + 1) _ _ Tryz.underlying237 i38 (by omega) (by omega) ?_)
                                    | (refine wpList_loadW (op := ⟨some 233, _, _, _, _, _⟩) rfl _ _ rfl V p rfl _ _ _ hbv _ Tryz.underlying235 rfl (by omega) ?_)
                                    | (refine wpList_storeW (op := ⟨none, .store 235 (.tmp 234) (.tmp 233), _, _, _, _⟩) rfl _ _ _ rfl V (p + 1) rfl _ rfl _ _ _ hbv i38 (by omega) ?_; intro w11 hg11 hs11 hb11; replace hs11 := hs11.symm; rw [shiftTo_pred] at hb11))
                                  go_roundw
                                  case rel => exact ⟨p, by omega, by go_num, hr.other hg11 (by omega), hbw.grown hg11 (by simp; omega), hb11⟩
                                  case measure => simp [intOf]
                        · as_aux_lemma =>
                            have HMX : Hid ((hashTo M kb).add st = hashTo M (kb + 1)) := by
                              have := HST.out
                              rw [show j = 64 from by omega] at this
                              rw [hashTo, mixS, ← this]
                              rfl
                            have hdj : decide ((j : Int) < 64) = false := by simp; omega
                            have hr5 : RS A B w wr (addTo (hashTo M kb) st 0) g cap M := by rw [addTo_zero]; exact hr
                            clear HST hr
                            go_wp2_with fail
                            clear hdj
                            go_loopw [21] (fun v21 wl => ∃ n : Nat, n ≤ 8 ∧ v21 = .int .i64 n ∧ RS A B w wl (addTo (hashTo M kb) st n) g cap M ∧ Blk wl V (row32 st.at 8) 237) (fun v21 _ => 8 - (intOf v21).toNat)
                            case atStart => exact ⟨0, by omega, rfl, hr5, hbv⟩
                            case round =>
                              clear hr5 hbv hbw
                              obtain ⟨n, hn, rfl, hr, hbv⟩ := hrel
                              have hBV : B < V := by have := hr.bg; omega
                              by_cases hn8 : n < 8
                              · as_aux_lemma =>
                                  have q1 := (hr.h.cell n).trans (row32_get _ _ _ hn8)
                                  have q2 := (hbv.cell n).trans (row32_get _ _ _ hn8)
                                  have qf := hr.h.frozen n
                                  go_wp2_with fail
                                  go_region
                                  clear q1 q2 qf
                                  go_wp2_with fail
                                  go_roundw
                                  case rel =>
                                    refine ⟨n + 1, by omega, by go_num, ?_, (hbv.setCell_other _ (by simp; omega) _).drew⟩
                                    have hb9 := hr.h.setCell n (.int .u32 (n32 (add32 (addTo (hashTo M kb) st n n) (st.at n))))
                                    rw [row32_set, addTo_succ] at hb9
                                    exact (hr.seth (grown_setCell B _ n wr) hb9).drewN 1
                                  case measure => simp [intOf]; omega
                              · as_aux_lemma =>
                                  have hr6 : RS A B w wr (hashTo M (kb + 1)).at g cap M := by
                                    rw [← HMX.out]
                                    rw [show n = 8 from by omega] at hr
                                    exact hr.congr (addTo_all _ _)
                                  clear hr
                                  go_wp2_with fail
                                  go_roundw
                                  case rel => exact ⟨kb + 1, by omega, by go_num, hr6⟩
                                  case measure => simp [intOf]; omega
            · as_aux_lemma =>
                have hr7 : RS A B w wr (hashAll s).at g cap M := by
                  have e : hashTo M nb = hashAll s := by
                    unfold hashAll
                    rw [← HM.out, HL.out, Nat.mul_div_cancel_left nb (by omega)]
                  rw [show kb = nb from by omega, e] at hr
                  exact hr
                have hdk3 : decide (64 * (kb : Int) < 64 * (nb : Int)) = false := by simp; omega
                clear hr
                go_wp2_with (with_reducible refine at_list ?_; first
                  | (refine wpList_bsl0 (op := ⟨some 256, _, _, _, _, _⟩) rfl rfl ?_; intro w9 hw9 hs9 hb9; replace hs9 := hs9.symm))
                have hr9 := hr7.later hw9
                have hgO : B < wr.heap.size := hr7.h.lt
                generalize wr.heap.size = G at *
                clear hr7 hw9 hs9 hdk3
                go_loopw [22, 23] (fun v22 v23 wl => ∃ g2 cap2 n : Nat, n ≤ 8 ∧ v23 = .int .i64 n ∧ v22 = .slice (some ⟨g2, 0, none⟩) (4 * n) cap2 ∧ B < g2 ∧ w.heap.size ≤ B ∧ Below w.heap.size w wl ∧ Blk wl B (row32 (hashAll s).at 8) 237 ∧ BS wl g2 cap2 (digTo s n)) (fun _ v23 _ => 8 - (intOf v23).toNat)
                case atStart => exact ⟨G, 0, 0, by omega, rfl, rfl, hgO, by have := hr9.a; have := hr9.ab; omega, hr9.below, hr9.h, hb9⟩
                case round =>
                  clear hr9 hb9 hgO
                  obtain ⟨g2, cap2, n, hn, rfl, rfl, hBg, hNB, hB, hbh, hbo⟩ := hrel
                  by_cases hn8 : n < 8
                  · as_aux_lemma =>
                      have q1 := (hbh.cell n).trans (row32_get _ _ _ hn8)
                      obtain ⟨x, hx⟩ : ∃ x, x = (hashAll s).at n := ⟨_, rfl⟩
                      rw [← hx] at q1
                      have HX : Hid (x = (hashAll s).at n) := hx
                      clear hx
                      go_wp2_with fail
                      go_region_held3 (fun w' => w'.cell? ⟨B, n, none⟩ = some (.int .u32 (n32 x))) (first | assumption | (go_keep; done))
                        (first
                          | (rw [if_pos (by rfl)]
                             refine wp_appendBS (.tmp 261) (.tmp 281) 171 rfl g2 cap2 (digTo s n) _ (digTo_length s n).symm rfl ((hbo.belowSize ((Below.refl wr.heap.size wr).alloc (Nat.le_refl _) _)).drew) wr.heap.size 4 4 rfl (byteAt x.toNat 4) 5 (Blk4 x wr) _ Tryz.underlying171 hi5 hz5 hs5 hb5 (by rw [digTo_length]; omega) ?_
                             intro w10 g10 cap10 hg10' hg10 hb10
                             have hS10 : w10.cell? ⟨B, n, none⟩ = some (.int .u32 (n32 x)) := by rw [HX.out]; exact (((hbh.alloc _).drew.grown hg10 (by simp; omega)).cell n).trans (row32_get _ _ _ hn8)))
                      rw [HX.out, digTo_succ] at hb10
                      have hg11 : B < g10 := by
                        have h9 := hbh.lt
                        rcases hg10' with h | h
                        · omega
                        · have h10 : wr.heap.size + 1 ≤ g10 := by simpa using h
                          omega
                      clear q1 hS10
                      go_wp2_with fail
                      go_roundw
                      case rel =>
                        exact ⟨g10, cap10, n + 1, by omega, by go_num, by rw [show 4 * (n + 1) = 4 * n + 4 from by omega], hg11, hNB, (hB.trans (((Below.refl wr.heap.size wr).alloc (Nat.le_refl _) _).drew.mono hB.size)).trans (below_of_grown hg10 (by omega) (by have := hbh.lt; simp; omega)), (hbh.alloc _).drew.grown hg10 (by simp; omega), hb10⟩
                      case measure => simp [intOf]; omega
                  · go_wp2_with (with_reducible refine at_list ?_; first
                      | (refine wpList_bytesStrBS rfl _ _ _ rfl g2 (4 * n) cap2 rfl _ Tryz.underlying171 Tryz.underlying5 Tryz.underlying9 (digTo s n) (digTo_length s n).symm hbo ?_))
                    go_ret
                    refine ⟨?_, hB⟩
                    show Ending.returned (.string ⟨(digTo s n).toArray⟩) = _
                    rw [show n = 8 from by omega, digTo_all]
    · have hzl : z < noughts s.length := by omega
      have hne : (((s.length : Int) + 1 + (z : Int)) % 64 != 56) = true := by rw [bne_iff_ne]; omega
      clear hns hlt
      go_wp2_with (first
        | (with_reducible refine at_list ?_; first
          | (refine wpList_bsl1 (op := ⟨some 38, _, _, _, _, _⟩) rfl _ rfl 0 rfl ?_; intro w9 hw9 hs9 hb9; replace hs9 := hs9.symm)
          | (refine wpList_appendBS (op := ⟨some 39, _, _, _, _, _⟩) rfl _ _ _ rfl g cap (padZ s z) _ (padZ_length _ _).symm rfl (hr.t.belowSize hw9) wr.heap.size 1 1 rfl _ _ hb9 _ Tryz.underlying171 hi5 hz5 hs5 hb5 (by rw [padZ_length]; omega) ?_; intro w10 g10 cap10 hg10' hg10 hb10; rw [padZ_succ] at hb10)))
      go_roundw
      case rel => exact ⟨g10, cap10, z + 1, by omega, by rw [Nat.add_assoc (s.length + 1)], (hr.later hw9).app hg10 hg10' hb10⟩
      case measure => simp only [slLen]; omega
end Go.Proofs.YtmbdhngoldganaaGreatDoor.Sh
