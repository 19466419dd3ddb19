/- The plain mathematics of the plain digest, and its state in memory. -/
import Derived.Test.YtjfpfkiccbcedaaGreatDoorSSl
namespace Go.Proofs.YtjfpfkiccbcedaaGreatDoor.Sh
open Go Go.RowKit
def slLen : Value → Nat | .slice _ n _ => n | _ => 0
theorem nought_stop (t z : Nat) (hz : z ≤ noughts t) : ((t + 1 + z) % 64 = 56) ↔ z = noughts t := by unfold noughts at *; omega
/-- The text with its mark and z noughts. -/
def padZ (s : List UInt8) (z : Nat) : List UInt8 := s ++ 128 :: List.replicate z 0
theorem padZ_length (s : List UInt8) (z : Nat) : (padZ s z).length = s.length + 1 + z := by simp [padZ]; omega
theorem padZ_zero (s : List UInt8) : s ++ (List.range 1).map (fun _ => (128 : UInt8)) = padZ s 0 := by simp [padZ, List.range_succ]
theorem padZ_succ (s : List UInt8) (z : Nat) : padZ s z ++ (List.range 1).map (fun _ => (0 : UInt8)) = padZ s (z + 1) := by
  simp [padZ, List.range_succ, List.replicate_succ']

theorem padK_length (s : List UInt8) (k : Nat) (hk : k ≤ 8) : (padZ s (noughts s.length) ++ (be (8 * s.length) 8).take k).length = s.length + 1 + noughts s.length + k := by
  rw [List.length_append, padZ_length, List.length_take, be_length]; omega
theorem padK_succ (s : List UInt8) (k : Nat) (hk : k < 8) : padZ s (noughts s.length) ++ (be (8 * s.length) 8).take k ++ (List.range 1).map (fun _ => byteAt (8 * s.length) 8 k) = padZ s (noughts s.length) ++ (be (8 * s.length) 8).take (k + 1) := by
  have e : (be (8 * s.length) 8)[k]'(by rw [be_length]; exact hk) = byteAt (8 * s.length) 8 k := by unfold be; rw [List.getElem_map, List.getElem_range]
  rw [List.append_assoc, List.take_succ_eq_append_getElem (by rw [be_length]; exact hk), e]
  rfl
theorem padK_all (s : List UInt8) : padZ s (noughts s.length) ++ (be (8 * s.length) 8).take 8 = s ++ padL s.length := by
  rw [List.take_of_length_le (by rw [be_length]; omega)]
  simp [padZ, padL]
theorem len_byte (t k : Nat) : ((t : Int) * 8 / 2 ^ (8 * (7 - k)) % 256) = n8 (byteAt (8 * t) 8 k) := by
  unfold byteAt
  rw [show 8 - 1 - k = 7 - k from by omega, ← num_byte (8 * t) (7 - k)]
  rw [show ((8 * t : Nat) : Int) = (t : Int) * 8 from by omega]
theorem built39 : Tryz.prog.built 198 [] = some (row32 (fun _ => 0) 64) := by kernel_rfl
/-- The words of the rounds, i of them. -/
def wfill (f : Nat → UInt8) (i : Nat) : Nat → BitVec 32 := if i ≤ 16 then fun j => if j < i then wordOf f j else 0 else schedF f (i - 16)
theorem wfill_zero (f : Nat → UInt8) : wfill f 0 = fun _ => 0 := by unfold wfill; rw [if_pos (by omega)]; funext j; rw [if_neg (by omega)]
theorem wfill_low (f : Nat → UInt8) (i : Nat) (h : i < 16) : upd (wfill f i) i (wordOf f i) = wfill f (i + 1) := by
  unfold wfill
  rw [if_pos (by omega), if_pos (by omega)]
  funext j
  unfold upd
  by_cases h1 : j = i
  · rw [if_pos h1, if_pos (by omega), h1]
  · rw [if_neg h1]
    show (if j < i then wordOf f j else 0) = _
    by_cases h2 : j < i
    · rw [if_pos h2, if_pos (by omega)]
    · rw [if_neg h2, if_neg (by omega)]
theorem wfill_high (f : Nat → UInt8) (i : Nat) (h : 16 ≤ i) : wfill f i = schedF f (i - 16) := by
  unfold wfill
  by_cases h1 : i = 16
  · subst h1
    rw [if_pos (by omega)]
    funext j
    unfold schedF sched
    rw [List.getD_eq_getElem?_getD]
    by_cases h : j < 16
    · rw [if_pos h]; simp [h]
    · rw [if_neg h, List.getElem?_eq_none (by simp; omega)]; rfl
  · rw [if_neg (by omega)]
theorem wfill_next (f : Nat → UInt8) (i : Nat) (h : 16 ≤ i) : upd (wfill f i) i (add32 (add32 (add32 (wfill f i (i - 16)) (sig0 (wfill f i (i - 15)))) (wfill f i (i - 7))) (sig1 (wfill f i (i - 2)))) = wfill f (i + 1) := by
  rw [wfill_high f i h, wfill_high f (i + 1) (by omega), show i + 1 - 16 = (i - 16) + 1 from by omega, schedF_succ, nxt_sched]
  rw [show i - 16 + 16 = i from by omega, show i - 16 + 1 = i - 15 from by omega, show i - 16 + 9 = i - 7 from by omega, show i - 16 + 14 = i - 2 from by omega]
theorem n32_wshl8 (x : BitVec 32) : IntKind.u32.wrap (n32 x * 256) = n32 (shl32 x 8) := by rw [IntKind.wrap_u32]; exact n32_shl8 x
theorem n32_wshl16 (x : BitVec 32) : IntKind.u32.wrap (n32 x * 65536) = n32 (shl32 x 16) := by rw [IntKind.wrap_u32]; exact n32_shl16 x
theorem n32_wshl24 (x : BitVec 32) : IntKind.u32.wrap (n32 x * 16777216) = n32 (shl32 x 24) := by rw [IntKind.wrap_u32]; exact n32_shl24 x
theorem cell_other {w : World} {g W o i : Nat} {v : Value} (h : ¬ g = W) : (w.setCell ⟨W, i, none⟩ v).drew.cell? ⟨g, o, none⟩ = w.cell? ⟨g, o, none⟩ :=
  World.cell?_of_block (Below.heap_setCell w ⟨W, i, none⟩ v g h)
theorem word4 (f : Nat → UInt8) (k : Nat) : wordOf f k = or32 (or32 (or32 (shl32 (w8 (f (4 * k))) 24) (shl32 (w8 (f (4 * k + 1))) 16)) (shl32 (w8 (f (4 * k + 2))) 8)) (w8 (f (4 * k + 3))) := by
  unfold wordOf part part part part part or32 shl32
  simp only [BitVec.shiftLeft_or_distrib, ← BitVec.shiftLeft_add, Nat.add_zero]
  rw [show (0 : BitVec 32) <<< (8 + 8 + 8 + 8) = 0 from by decide, show (0 : BitVec 32) ||| w8 (f (4 * k)) <<< (8 + 8 + 8) = w8 (f (4 * k)) <<< (8 + 8 + 8) from BitVec.zero_or]
/-- The two tables and the text, in memory. -/
structure RS (A B : Nat) (w0 wl : World) (hf : Nat → BitVec 32) (g cap : Nat) (l : List UInt8) : Prop where
  below : Below w0.heap.size w0 wl
  a : w0.heap.size ≤ A
  ab : A < B
  bg : B < g
  k : Blk wl A (row32 Kt 64) 198
  h : Blk wl B (row32 hf 8) 188
  t : BS wl g cap l
theorem RS.later {A B : Nat} {w0 wl w' : World} {hf : Nat → BitVec 32} {g cap : Nat} {l : List UInt8} (r : RS A B w0 wl hf g cap l) (hb : Below wl.heap.size wl w') : RS A B w0 w' hf g cap l :=
  ⟨r.below.trans (hb.mono r.below.size), r.a, r.ab, r.bg, r.k.belowSize hb, r.h.belowSize hb, r.t.belowSize hb⟩
theorem RS.app {A B : Nat} {w0 wl w' : World} {hf : Nat → BitVec 32} {g cap g' cap' : Nat} {l l' : List UInt8} (r : RS A B w0 wl hf g cap l) (hg : wl.grownBy w' (some g)) (hg' : g' = g ∨ wl.heap.size ≤ g') (hb : BS w' g' cap' l') : RS A B w0 w' hf g' cap' l' :=
  ⟨r.below.trans (below_of_grown hg (by have := r.a; have := r.ab; have := r.bg; omega) r.below.size), r.a, r.ab, (by have := r.bg; have := r.t.lt; omega), r.k.grown hg (by have := r.ab; have := r.bg; simp; omega), r.h.grown hg (by have := r.bg; simp; omega), hb⟩
theorem RS.other {A B : Nat} {w0 wl w' : World} {hf : Nat → BitVec 32} {g cap c : Nat} {l : List UInt8} (r : RS A B w0 wl hf g cap l) (hg : wl.grownBy w' (some c)) (hc : g < c) : RS A B w0 w' hf g cap l :=
  ⟨r.below.trans (below_of_grown hg (by have := r.a; have := r.ab; have := r.bg; omega) r.below.size), r.a, r.ab, r.bg, r.k.grown hg (by have := r.ab; have := r.bg; simp; omega), r.h.grown hg (by have := r.bg; simp; omega), r.t.grown hg (by simp; omega)⟩
theorem RS.drewN {A B : Nat} {w0 wl : World} {hf : Nat → BitVec 32} {g cap : Nat} {l : List UInt8} (r : RS A B w0 wl hf g cap l) (n : Nat) : RS A B w0 (wl.drewN n) hf g cap l :=
  ⟨below_draws r.below n, r.a, r.ab, r.bg, r.k.drewN n, r.h.drewN n, r.t.drewN n⟩
theorem keep4 {w : World} {g W i o0 o1 o2 o3 : Nat} {v x0 x1 x2 x3 : Value} (h : g < W) (h0 : w.cell? ⟨g, o0, none⟩ = some x0) (h1 : w.cell? ⟨g, o1, none⟩ = some x1) (h2 : w.cell? ⟨g, o2, none⟩ = some x2) (h3 : w.cell? ⟨g, o3, none⟩ = some x3) :
    (w.setCell ⟨W, i, none⟩ v).drew.cell? ⟨g, o0, none⟩ = some x0 ∧ (w.setCell ⟨W, i, none⟩ v).drew.cell? ⟨g, o1, none⟩ = some x1 ∧ (w.setCell ⟨W, i, none⟩ v).drew.cell? ⟨g, o2, none⟩ = some x2 ∧ (w.setCell ⟨W, i, none⟩ v).drew.cell? ⟨g, o3, none⟩ = some x3 :=
  ⟨(cell_other (by omega)).trans h0, (cell_other (by omega)).trans h1, (cell_other (by omega)).trans h2, (cell_other (by omega)).trans h3⟩
theorem RS.setW {A B W i : Nat} {w0 wl : World} {hf : Nat → BitVec 32} {g cap : Nat} {l : List UInt8} {v : Value} (r : RS A B w0 wl hf g cap l) (h : g < W) : RS A B w0 (wl.setCell ⟨W, i, none⟩ v).drew hf g cap l :=
  (r.other (grown_setCell W v i wl) h).drewN 1
theorem Blk.setW {w : World} {W i n : Nat} {f : Nat → BitVec 32} {t : TypeId} (h : Blk w W (row32 f n) t) (x : BitVec 32) : Blk (w.setCell ⟨W, i, none⟩ (.int .u32 (n32 x))).drew W (row32 (upd f i x) n) t := by
  have := h.setCell i (.int .u32 (n32 x))
  rw [row32_set] at this
  exact this.drew
theorem n32_mod (x : BitVec 32) : n32 x % 4294967296 = n32 x := by have := n32_nonneg x; have := n32_lt x; omega
theorem RS.congr {A B : Nat} {w0 wl : World} {hf hf' : Nat → BitVec 32} {g cap : Nat} {l : List UInt8} (r : RS A B w0 wl hf g cap l) (h : row32 hf 8 = row32 hf' 8) : RS A B w0 wl hf' g cap l :=
  ⟨r.below, r.a, r.ab, r.bg, r.k, by rw [← h]; exact r.h, r.t⟩
theorem RS.seth {A B : Nat} {w0 wl w' : World} {hf hf' : Nat → BitVec 32} {g cap : Nat} {l : List UInt8} (r : RS A B w0 wl hf g cap l) (hg : wl.grownBy w' (some B)) (hb : Blk w' B (row32 hf' 8) 188) : RS A B w0 w' hf' g cap l :=
  ⟨r.below.trans (below_of_grown hg (by have := r.a; have := r.ab; omega) r.below.size), r.a, r.ab, r.bg, r.k.grown hg (by have := r.ab; simp; omega), hb, r.t.grown hg (by have := r.bg; simp; omega)⟩
/-- The words of st, those above n moved up by one. -/
def shiftTo (st : S8) (n : Nat) : Nat → BitVec 32 := fun j => if n < j then st.at (j - 1) else st.at j
theorem shiftTo_seven (st : S8) : row32 (shiftTo st 7) 8 = row32 st.at 8 := row32_congr fun j hj => by unfold shiftTo; rw [if_neg (by omega)]
theorem shiftTo_pred (st : S8) (n : Nat) : upd (shiftTo st (n + 1)) (n + 1) (shiftTo st (n + 1) n) = shiftTo st n := by
  funext j
  unfold upd shiftTo
  by_cases h : j = n + 1
  · subst h; rw [if_pos rfl, if_neg (by omega), if_pos (by omega)]; rfl
  · rw [if_neg h]
    by_cases h2 : n + 1 < j
    · rw [if_pos h2, if_pos (by omega)]
    · rw [if_neg h2, if_neg (by omega)]
theorem shift_step (st : S8) (k w : BitVec 32) : row32 (upd (upd (shiftTo st 0) 4 (add32 (shiftTo st 0 4) (xOf k w st))) 0 (add32 (xOf k w st) (yOf st))) 8 = row32 (step k w st).at 8 := rfl
theorem wfill_all (f : Nat → UInt8) : wfill f 64 = wt f := wfill_high f 64 (by omega)

/-- The first 4 n bytes of the digest. -/
def digTo (s : List UInt8) (n : Nat) : List UInt8 := (List.range (4 * n)).map (outB (hashAll s))
theorem digTo_length (s : List UInt8) (n : Nat) : (digTo s n).length = 4 * n := by simp [digTo]
theorem digTo_succ (s : List UInt8) (n : Nat) : digTo s n ++ (List.range 4).map (byteAt ((hashAll s).at n).toNat 4) = digTo s (n + 1) := by
  unfold digTo
  rw [show 4 * (n + 1) = 4 * n + 4 from by omega, List.range_add, List.map_append, List.map_map]
  congr 1
  apply List.map_congr_left
  intro j hj
  have hj4 : j < 4 := by simpa using hj
  show _ = outB (hashAll s) (4 * n + j)
  unfold outB
  rw [show (4 * n + j) / 4 = n from by omega, show (4 * n + j) % 4 = j from by omega]
theorem digTo_all (s : List UInt8) : digTo s 8 = digest s := rfl
theorem conv_any (x : BitVec 32) (j : Nat) : n32 (shr32 x (8 * (3 - j))) % 256 = n8 (byteAt x.toNat 4 j) := by
  unfold byteAt n8 n32 shr32
  rw [UInt8.toNat_ofNat', Nat.mod_eq_of_lt (by omega : x.toNat / 2 ^ (8 * (4 - 1 - j)) % 256 < 2 ^ 8), BitVec.toNat_ushiftRight, Nat.shiftRight_eq_div_pow, show 4 - 1 - j = 3 - j from by omega]
  omega
theorem conv0 (x : BitVec 32) : n32 x % 256 = n8 (byteAt x.toNat 4 3) := by
  have := conv_any x 3
  rw [show shr32 x (8 * (3 - 3)) = x from by unfold shr32; simp] at this
  exact this
theorem wconv0 (x : BitVec 32) : IntKind.u8.wrap (n32 x) = n8 (byteAt x.toNat 4 3) := by rw [IntKind.wrap_u8']; exact conv0 x
theorem n32_shr24 (x : BitVec 32) : n32 x / 16777216 = n32 (shr32 x 24) := n32_shr x 24
theorem n32_shr16 (x : BitVec 32) : n32 x / 65536 = n32 (shr32 x 16) := n32_shr x 16
theorem n32_shr8 (x : BitVec 32) : n32 x / 256 = n32 (shr32 x 8) := n32_shr x 8
theorem row8_four (f : Nat → UInt8) : #[Value.int .u8 (n8 (f 0)), .int .u8 (n8 (f 1)), .int .u8 (n8 (f 2)), .int .u8 (n8 (f 3))] = row8 f 4 := rfl
theorem low_any (x : BitVec 32) (j : Nat) (_h : j ≤ 3) : byteAt (shr32 x (8 * (3 - j))).toNat 4 3 = byteAt x.toNat 4 j := by
  unfold byteAt shr32
  rw [BitVec.toNat_ushiftRight, Nat.shiftRight_eq_div_pow]
  simp only [Nat.reduceSub, Nat.mul_zero, Nat.pow_zero, Nat.div_one]
theorem Blk4 (x : BitVec 32) (w : World) : Blk (w.alloc (.cells #[.int .u8 (n8 (byteAt (shr32 x 24).toNat 4 3)), .int .u8 (n8 (byteAt (shr32 x 16).toNat 4 3)), .int .u8 (n8 (byteAt (shr32 x 8).toNat 4 3)), .int .u8 (n8 (byteAt x.toNat 4 3))] 5)).drew w.heap.size (row8 (byteAt x.toNat 4) 4) 5 := by
  have a0 : byteAt (shr32 x 24).toNat 4 3 = byteAt x.toNat 4 0 := low_any x 0 (by omega)
  have a1 : byteAt (shr32 x 16).toNat 4 3 = byteAt x.toNat 4 1 := low_any x 1 (by omega)
  have a2 : byteAt (shr32 x 8).toNat 4 3 = byteAt x.toNat 4 2 := low_any x 2 (by omega)
  rw [a0, a1, a2, row8_four (byteAt x.toNat 4)]
  exact (Blk.new w _ 5).drew
section
variable {P : Program} {ops : Array Oper} {rest : List Oper} {op : Oper} {a : Act} {w : World} {K : Act → World → Prop} {Q : Exit → Act → World → Prop}
theorem wp_appendBS (x y : Operand) (t : TypeId) (ho : op.op = .call { callee := .builtin .append, args := #[x, y], argTypes := #[t, t] })
    (g cap : Nat) (l : List UInt8) (len : Nat) (hl : len = l.length) (hx : a.eval x = .slice (some ⟨g, 0, none⟩) len cap) (hbs : BS w g cap l) (g2 n c : Nat) (hy : a.eval y = .slice (some ⟨g2, 0, none⟩) n c) (f : Nat → UInt8) (ty2 : TypeId) (hb2 : Blk w g2 (row8 f n) ty2) (i : TypeInfo)
    (hu : P.underlying t = some (.slice 5)) (hi : P.info? 5 = some i) (hz : i.zero = some (.int .u8 0)) (hs : i.size = 1) (hby : i.bytes = 1) (hlen : l.length + n ≤ 1099511627776)
    (h : ∀ (w1 : World) (g1 cap1 : Nat), (g1 = g ∨ w.heap.size ≤ g1) → w.grownBy w1 (some g) → BS w1 g1 cap1 (l ++ (List.range n).map f) → K (a.put op.dst (.slice (some ⟨g1, 0, none⟩) (len + n) cap1)) w1) :
    op.wp P a w K Q := by
  subst hl
  obtain ⟨w1, g1, cap1, hr, hg1, hg, hb⟩ := run_appendBS (P := P) t op.type g cap l hbs g2 n c f ty2 hb2 i hu hi hz hs hby hlen
  have he : (execOp a.eval op).run P w = .ok (.value (.slice (some ⟨g1, 0, none⟩) (l.length + n) cap1)) w1 := by
    unfold execOp
    simp only [ho]
    simp [resolve, invoke, builtin, hx, hy, hr, Result.andThen]
  unfold Oper.wp
  rw [he]
  exact h w1 g1 cap1 hg1 hg hb
theorem wpList_bytesStrBS (hgd : op.guard = none) (src dst : TypeId) (x : Operand) (ho : op.op = .convert src dst x) (g len cap : Nat) (hx : a.eval x = .slice (some ⟨g, 0, none⟩) len cap)
    (e : TypeId) (hs : P.underlying src = some (.slice e)) (he : P.underlying e = some (.int .u8)) (hd : P.underlying dst = some .string)
    (l : List UInt8) (hl : len = l.length) (hb : BS w g cap l)
    (h : wpList P ops Q rest (a.put op.dst (.string ⟨l.toArray⟩)) w) : wpList P ops Q (op :: rest) a w := by
  subst hl
  refine wpList_run hgd _ w ?_ h
  have hld : (loadCells ⟨g, 0, none⟩ l.length).run P w = .ok ((l.map fun b => (b.toNat : Int)).map (Value.int .u8)).toArray w := by
    have := run_loadCells_list (P := P) w ⟨g, 0, none⟩ ((l.map fun b => (b.toNat : Int)).map (Value.int .u8)) (fun j v hv => by
      have hj : j < l.length := by have := (List.getElem?_eq_some_iff.1 hv).1; simpa using this
      rw [Addr.add_mid, Nat.zero_add, hb.cell j hj, ← hv]
      simp [hj, n8, List.getD_eq_getElem?_getD])
    simpa using this
  have hr := run_bytesToString (P := P) w ⟨g, 0, none⟩ l.length cap (l.map fun b => (b.toNat : Int)) hld
  rw [foldl_push] at hr
  have e2 : ((l.map fun b => (b.toNat : Int)).map fun k => UInt8.ofNat k.toNat) = l := by
    rw [List.map_map]
    exact (List.map_congr_left (fun b _ => by simp)).trans (List.map_id l)
  rw [e2] at hr
  unfold execOp
  simp only [ho, hx, Sem.run_bind, run_convert_bytes_string w src dst e _ _ _ hs he hd, hr, Result.andThen_ok]
  show Result.ok (Next.value (.string ⟨ByteArray.empty.data ++ l.toArray⟩)) w = _
  rw [show ByteArray.empty.data = #[] from rfl, Array.empty_append]
end
end Go.Proofs.YtjfpfkiccbcedaaGreatDoor.Sh
