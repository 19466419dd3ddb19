/- SHA-256 as plain Lean functions on words, and arrays of words and bytes as rows of cells. What spreadOut does: the words of the rounds. What mix does: the words behind a block more. -/
import Derived.Test.YtjfpfkiccbcedaaGreatDoorSMem
namespace Go.Proofs.YtjfpfkiccbcedaaGreatDoor.Sh
open Go

def n8 (x : UInt8) : Int := (x.toNat : Int)
theorem n8_nonneg (x : UInt8) : 0 ≤ n8 x := by unfold n8; omega
theorem n8_le (x : UInt8) : n8 x ≤ 255 := by unfold n8; have := x.toNat_lt; omega
/-- A byte as a word. -/
def w8 (x : UInt8) : BitVec 32 := BitVec.ofNat 32 x.toNat
theorem n8_n32 (x : UInt8) : n8 x = n32 (w8 x) := by
  unfold n8 n32 w8; rw [BitVec.toNat_ofNat]; have := x.toNat_lt; omega
theorem n8_wrap (x : UInt8) : IntKind.u32.wrap (n8 x) = n32 (w8 x) := by rw [n8_n32, wrap_n32]

def row32 (f : Nat → BitVec 32) (n : Nat) : Array Value := Array.ofFn (fun i : Fin n => Value.int .u32 (n32 (f i)))
def row8 (f : Nat → UInt8) (n : Nat) : Array Value := Array.ofFn (fun i : Fin n => Value.int .u8 (n8 (f i)))
def upd {α : Type} (f : Nat → α) (i : Nat) (v : α) : Nat → α := fun j => if j = i then v else f j

theorem row32_size (f : Nat → BitVec 32) (n : Nat) : (row32 f n).size = n := by simp [row32]
theorem row8_size (f : Nat → UInt8) (n : Nat) : (row8 f n).size = n := by simp [row8]
theorem row32_get (f : Nat → BitVec 32) (n j : Nat) (h : j < n) : (row32 f n)[j]? = some (.int .u32 (n32 (f j))) := by
  simp [row32, h]
theorem row8_get (f : Nat → UInt8) (n j : Nat) (h : j < n) : (row8 f n)[j]? = some (.int .u8 (n8 (f j))) := by
  simp [row8, h]
theorem row32_none (f : Nat → BitVec 32) (n j : Nat) (h : n ≤ j) : (row32 f n)[j]? = none := by
  simp [row32]; omega
theorem row8_none (f : Nat → UInt8) (n j : Nat) (h : n ≤ j) : (row8 f n)[j]? = none := by
  simp [row8]; omega
theorem row32_set (f : Nat → BitVec 32) (n i : Nat) (v : BitVec 32) : (row32 f n).setIfInBounds i (.int .u32 (n32 v)) = row32 (upd f i v) n := by
  apply Array.ext_getElem?
  intro j
  rw [Array.getElem?_setIfInBounds]
  by_cases hj : j < n
  · rw [row32_get _ _ _ hj, row32_get _ _ _ hj, row32_size]
    by_cases h : i = j
    · subst h; simp [upd, hj]
    · rw [if_neg h, upd, if_neg (fun e => h e.symm)]
  · rw [row32_none _ _ _ (by omega), row32_none _ _ _ (by omega), row32_size]
    by_cases h : i = j
    · subst h; rw [if_pos rfl, if_neg hj]
    · rw [if_neg h]
theorem row32_congr {f g : Nat → BitVec 32} {n : Nat} (h : ∀ j, j < n → f j = g j) : row32 f n = row32 g n := by
  unfold row32; congr 1; funext i; rw [h i i.2]
theorem row8_congr {f g : Nat → UInt8} {n : Nat} (h : ∀ j, j < n → f j = g j) : row8 f n = row8 g n := by
  unfold row8; congr 1; funext i; rw [h i i.2]
theorem row32_one (f : Nat → BitVec 32) (n : Nat) : (row32 f n).all (·.oneCell') = true := by
  rw [Array.all_eq_true_iff_forall_mem]
  intro v hv
  simp only [row32, Array.mem_ofFn] at hv
  obtain ⟨i, rfl⟩ := hv
  rfl
section
variable {P : Program} {ops : Array Oper} {rest : List Oper} {op : Oper} {a : Act} {w : World} {Q : Exit → Act → World → Prop}
theorem wpList_loadW (hgd : op.guard = none) (ty : TypeId) (x : Operand) (ho : op.op = .load ty x) (b o : Nat) (hx : a.eval x = .pointer (some ⟨b, o, none⟩))
    (f : Nat → BitVec 32) (n : Nat) (t : TypeId) (hb : Blk w b (row32 f n) t) (d : TypeDesc) (hu : P.underlying ty = some d) (hd : d.isRow = false) (hn : o < n)
    (h : wpList P ops Q rest (a.put op.dst (.int .u32 (n32 (f o)))) w) : wpList P ops Q (op :: rest) a w :=
  wpList_loadCell hgd ty x ho b o hx _ t hb d hu hd _ (row32_get f n o hn) h
theorem wpList_storeW (hgd : op.guard = none) (ty : TypeId) (x y : Operand) (ho : op.op = .store ty x y) (b o : Nat) (hx : a.eval x = .pointer (some ⟨b, o, none⟩)) (v : BitVec 32) (hy : a.eval y = .int .u32 (n32 v))
    (f : Nat → BitVec 32) (n : Nat) (t : TypeId) (hb : Blk w b (row32 f n) t) (hi : (P.info? ty).map (·.size) = some 1) (hn : o < n)
    (h : ∀ w1 : World, w.grownBy w1 (some b) → w1.heap.size = w.heap.size → Blk w1 b (row32 (upd f o v) n) t → wpList P ops Q rest (a.put op.dst undef) w1) : wpList P ops Q (op :: rest) a w :=
  wpList_storeCell hgd ty x y ho b o hx _ hy _ t hb hi rfl rfl (by rw [row32_size]; exact hn) (fun w1 g s hb1 => h w1 g s (by rw [row32_set] at hb1; exact hb1))
theorem wpList_indexB (hgd : op.guard = none) (ty : TypeId) (x i : Operand) (ho : op.op = .index ty x i) (f : Nat → UInt8) (len : Nat) (hx : a.eval x = .agg (row8 f len)) (k : Nat) (hi : a.eval i = .int .i64 (k : Int))
    (e : TypeId) (hu : P.underlying ty = some (.array len e)) (d : TypeDesc) (hue : P.underlying e = some d) (hd : d.isRow = false) (hse : (P.info? e).map (·.size) = some 1)
    (h1 : k < len) (h : wpList P ops Q rest (a.put op.dst (.int .u8 (n8 (f k)))) w) : wpList P ops Q (op :: rest) a w :=
  wpList_indexRow hgd ty x i ho _ hx .i64 _ hi len e hu d hue hd hse (by omega) (by omega) _ (by rw [Int.toNat_natCast]; exact row8_get f len k h1) h
theorem wpList_indexW (hgd : op.guard = none) (ty : TypeId) (x i : Operand) (ho : op.op = .index ty x i) (f : Nat → BitVec 32) (len : Nat) (hx : a.eval x = .agg (row32 f len)) (k : Nat) (hi : a.eval i = .int .i64 (k : Int))
    (e : TypeId) (hu : P.underlying ty = some (.array len e)) (d : TypeDesc) (hue : P.underlying e = some d) (hd : d.isRow = false) (hse : (P.info? e).map (·.size) = some 1)
    (h1 : k < len) (h : wpList P ops Q rest (a.put op.dst (.int .u32 (n32 (f k)))) w) : wpList P ops Q (op :: rest) a w :=
  wpList_indexRow hgd ty x i ho _ hx .i64 _ hi len e hu d hue hd hse (by omega) (by omega) _ (by rw [Int.toNat_natCast]; exact row32_get f len k h1) h
/-- The address of element o of an array of words that lies at the head of a block. -/
theorem wpList_addrW (hgd : op.guard = none) (ty : TypeId) (x i : Operand) (ho : op.op = .indexAddr ty x i) (b : Nat) (hx : a.eval x = .pointer (some ⟨b, 0, none⟩)) (k : IntKind) (n : Int) (hi : a.eval i = .int k n) (o : Nat)
    (len : Nat) (e : TypeId) (hu : P.underlying ty = some (.array len e)) (hse : (P.info? e).map (·.size) = some 1)
    (h0 : n = (o : Int)) (h1 : o < len) (h : wpList P ops Q rest (a.put op.dst (.pointer (some ⟨b, o, none⟩))) w) : wpList P ops Q (op :: rest) a w := by
  subst h0
  refine wpList_addrRow hgd ty x i ho b 0 hx k _ hi len e hu hse (by omega) (by omega) ?_
  rw [Nat.zero_add, Int.toNat_natCast]; exact h
end

/-- The first m bytes of the word k. -/
def part (f : Nat → UInt8) (k : Nat) : Nat → BitVec 32
  | 0 => 0
  | m + 1 => or32 (shl32 (part f k m) 8) (w8 (f (4 * k + m)))
def wordOf (f : Nat → UInt8) (k : Nat) : BitVec 32 := part f k 4
/-- All words behind i bytes. -/
def partsTo (f : Nat → UInt8) (i : Nat) : Nat → BitVec 32 := fun k => part f k (min 4 (i - 4 * k))
theorem partsTo_zero (f : Nat → UInt8) (k : Nat) : partsTo f 0 k = 0 := by
  unfold partsTo; rw [Nat.zero_sub, Nat.min_zero]; rfl
theorem partsTo_succ (f : Nat → UInt8) (i : Nat) : upd (partsTo f i) (i / 4) (or32 (shl32 (partsTo f i (i / 4)) 8) (w8 (f i))) = partsTo f (i + 1) := by
  funext k
  unfold upd partsTo
  by_cases h : k = i / 4
  · rw [if_pos h]; subst h
    have h1 : min 4 (i - 4 * (i / 4)) = i - 4 * (i / 4) := by omega
    have h2 : min 4 (i + 1 - 4 * (i / 4)) = (i - 4 * (i / 4)) + 1 := by omega
    rw [h1, h2, part, show 4 * (i / 4) + (i - 4 * (i / 4)) = i from by omega]
  · rw [if_neg h]
    have : min 4 (i - 4 * k) = min 4 (i + 1 - 4 * k) := by omega
    rw [this]

def sig0 (x : BitVec 32) : BitVec 32 := xor32 (xor32 (rr 7 x) (rr 18 x)) (shr32 x 3)
def sig1 (x : BitVec 32) : BitVec 32 := xor32 (xor32 (rr 17 x) (rr 19 x)) (shr32 x 10)
def nxt (l : List (BitVec 32)) : BitVec 32 :=
  add32 (add32 (add32 (l.getD (l.length - 16) 0) (sig0 (l.getD (l.length - 15) 0))) (l.getD (l.length - 7) 0)) (sig1 (l.getD (l.length - 2) 0))
/-- The words of the rounds: the block's sixteen, and n more. -/
def sched (f : Nat → UInt8) : Nat → List (BitVec 32)
  | 0 => (List.range 16).map (wordOf f)
  | n + 1 => sched f n ++ [nxt (sched f n)]
theorem sched_length (f : Nat → UInt8) : ∀ n, (sched f n).length = 16 + n
  | 0 => by simp [sched]
  | n + 1 => by rw [sched, List.length_append, sched_length f n]; rfl
def schedF (f : Nat → UInt8) (n : Nat) : Nat → BitVec 32 := fun j => (sched f n).getD j 0
theorem schedF_succ (f : Nat → UInt8) (n : Nat) : schedF f (n + 1) = upd (schedF f n) (n + 16) (nxt (sched f n)) := by
  funext j
  unfold schedF upd
  have hl := sched_length f n
  rw [sched]
  simp only [List.getD_eq_getElem?_getD]
  by_cases h : j = n + 16
  · rw [if_pos h, List.getElem?_append_right (by omega), hl, show j - (16 + n) = 0 from by omega]; rfl
  · rw [if_neg h]
    by_cases h2 : j < 16 + n
    · rw [List.getElem?_append_left (by omega)]
    · rw [List.getElem?_append_right (by omega), List.getElem?_eq_none (by simp; omega), List.getElem?_eq_none (by omega)]
theorem nxt_sched (f : Nat → UInt8) (n : Nat) : nxt (sched f n) = add32 (add32 (add32 (schedF f n n) (sig0 (schedF f n (n + 1)))) (schedF f n (n + 9))) (sig1 (schedF f n (n + 14))) := by
  unfold nxt schedF
  rw [sched_length, show 16 + n - 16 = n from by omega, show 16 + n - 15 = n + 1 from by omega, show 16 + n - 7 = n + 9 from by omega, show 16 + n - 2 = n + 14 from by omega]
theorem sched_zero_parts (f : Nat → UInt8) : partsTo f 64 = schedF f 0 := by
  funext j
  unfold partsTo schedF sched
  rw [List.getD_eq_getElem?_getD]
  by_cases h : j < 16
  · rw [show min 4 (64 - 4 * j) = 4 from by omega]; simp [h, wordOf]
  · rw [show min 4 (64 - 4 * j) = 0 from by omega, List.getElem?_eq_none (by simp; omega)]; rfl
/-- The word of round t. -/
def wt (f : Nat → UInt8) : Nat → BitVec 32 := schedF f 48
structure S8 where
  a : BitVec 32
  b : BitVec 32
  c : BitVec 32
  d : BitVec 32
  e : BitVec 32
  f : BitVec 32
  g : BitVec 32
  h : BitVec 32
def big1 (e : BitVec 32) : BitVec 32 := xor32 (xor32 (rr 6 e) (rr 11 e)) (rr 25 e)
def big0 (a : BitVec 32) : BitVec 32 := xor32 (xor32 (rr 2 a) (rr 13 a)) (rr 22 a)
def choice (e f g : BitVec 32) : BitVec 32 := xor32 (and32 e f) (and32 (not32 e) g)
def most (a b c : BitVec 32) : BitVec 32 := xor32 (xor32 (and32 a b) (and32 a c)) (and32 b c)
def xOf (k w : BitVec 32) (s : S8) : BitVec 32 := add32 (add32 (add32 (add32 s.h (big1 s.e)) (choice s.e s.f s.g)) k) w
def yOf (s : S8) : BitVec 32 := add32 (big0 s.a) (most s.a s.b s.c)
def step (k w : BitVec 32) (s : S8) : S8 := ⟨add32 (xOf k w s) (yOf s), s.a, s.b, s.c, add32 s.d (xOf k w s), s.e, s.f, s.g⟩
def rnds (K W : Nat → BitVec 32) (s : S8) : Nat → S8
  | 0 => s
  | n + 1 => step (K n) (W n) (rnds K W s n)
def S8.add (s t : S8) : S8 := ⟨add32 s.a t.a, add32 s.b t.b, add32 s.c t.c, add32 s.d t.d, add32 s.e t.e, add32 s.f t.f, add32 s.g t.g, add32 s.h t.h⟩
def S8.at (s : S8) : Nat → BitVec 32
  | 0 => s.a | 1 => s.b | 2 => s.c | 3 => s.d | 4 => s.e | 5 => s.f | 6 => s.g | 7 => s.h | _ => 0
def Ktab : List Nat := [1116352408, 1899447441, 3049323471, 3921009573, 961987163, 1508970993, 2453635748, 2870763221, 3624381080, 310598401, 607225278, 1426881987, 1925078388, 2162078206, 2614888103, 3248222580, 3835390401, 4022224774, 264347078, 604807628, 770255983, 1249150122, 1555081692, 1996064986, 2554220882, 2821834349, 2952996808, 3210313671, 3336571891, 3584528711, 113926993, 338241895, 666307205, 773529912, 1294757372, 1396182291, 1695183700, 1986661051, 2177026350, 2456956037, 2730485921, 2820302411, 3259730800, 3345764771, 3516065817, 3600352804, 4094571909, 275423344, 430227734, 506948616, 659060556, 883997877, 958139571, 1322822218, 1537002063, 1747873779, 1955562222, 2024104815, 2227730452, 2361852424, 2428436474, 2756734187, 3204031479, 3329325298]
def Kt (t : Nat) : BitVec 32 := BitVec.ofNat 32 (Ktab.getD t 0)
def H0 : S8 := ⟨1779033703, 3144134277, 1013904242, 2773480762, 1359893119, 2600822924, 528734635, 1541459225⟩
/-- The words behind a block more. -/
def mixS (s : S8) (f : Nat → UInt8) : S8 := s.add (rnds Kt (wt f) s 64)

/-- The two tables of the program lie where its variables lie. -/
structure Glob (w : World) : Prop where
  two : 2 ≤ w.heap.size
  k : ∀ j, j < 64 → w.cell? ⟨1, j, none⟩ = some (.int .u32 (n32 (Kt j)))
  h : ∀ j, j < 8 → w.cell? ⟨0, j, none⟩ = some (.int .u32 (n32 (H0.at j)))
theorem Glob.below {w w' : World} {B : Nat} (h : Glob w) (hb : Go.RowKit.Below B w w') (h2 : 2 ≤ B) : Glob w' :=
  ⟨Nat.le_trans h.two hb.size, fun j hj => by rw [hb.cell (p := ⟨1, j, none⟩) (by show 1 < B; omega)]; exact h.k j hj, fun j hj => by rw [hb.cell (p := ⟨0, j, none⟩) (by show 0 < B; omega)]; exact h.h j hj⟩
theorem Glob.belowSize {w w' : World} (h : Glob w) (hb : Go.RowKit.Below w.heap.size w w') : Glob w' := h.below hb h.two
theorem Glob.grown {w w' : World} {b : Nat} (h : Glob w) (hb : w.grownBy w' (some b)) (h2 : 2 ≤ b) : Glob w' := h.below (below_of_grown hb h2 h.two) (Nat.le_refl _)
theorem Glob.drewN {w : World} (h : Glob w) (n : Nat) : Glob (w.drewN n) := ⟨h.two, h.k, h.h⟩
theorem Glob.drew {w : World} (h : Glob w) : Glob w.drew := ⟨h.two, h.k, h.h⟩
theorem Glob.range {w : World} (h : Glob w) : w.rangeAt 0 0 (row32 H0.at 8).toList := fun j v hv => by
  have hj : j < 8 := by have := (List.getElem?_eq_some_iff.1 hv).1; simpa [row32_size] using this
  rw [Nat.zero_add, h.h j hj, ← row32_get H0.at 8 j hj]; simpa using hv

/-- The words of s, the first i of them with those of t added. -/
def addTo (s t : S8) (i : Nat) : Nat → BitVec 32 := fun j => if j < i then add32 (s.at j) (t.at j) else s.at j
theorem addTo_zero (s t : S8) : addTo s t 0 = s.at := by funext j; unfold addTo; rw [if_neg (by omega)]
theorem addTo_succ (s t : S8) (i : Nat) : upd (addTo s t i) i (add32 (addTo s t i i) (t.at i)) = addTo s t (i + 1) := by
  funext j
  unfold upd addTo
  by_cases h : j = i
  · subst h; rw [if_pos rfl, if_neg (Nat.lt_irrefl _), if_pos (Nat.lt_succ_self _)]
  · rw [if_neg h]
    by_cases h2 : j < i
    · rw [if_pos h2, if_pos (by omega)]
    · rw [if_neg h2, if_neg (by omega)]
theorem S8.add_at (s t : S8) : ∀ j, j < 8 → (s.add t).at j = add32 (s.at j) (t.at j)
  | 0, _ => rfl
  | 1, _ => rfl
  | 2, _ => rfl
  | 3, _ => rfl
  | 4, _ => rfl
  | 5, _ => rfl
  | 6, _ => rfl
  | 7, _ => rfl
  | _ + 8, h => by omega
theorem addTo_all (s t : S8) : row32 (addTo s t 8) 8 = row32 (s.add t).at 8 := row32_congr fun j hj => by unfold addTo; rw [if_pos hj, S8.add_at s t j hj]
theorem row32_eight (s : S8) : #[Value.int .u32 (n32 s.a), .int .u32 (n32 s.b), .int .u32 (n32 s.c), .int .u32 (n32 s.d), .int .u32 (n32 s.e), .int .u32 (n32 s.f), .int .u32 (n32 s.g), .int .u32 (n32 s.h)] = row32 s.at 8 := rfl

end Go.Proofs.YtjfpfkiccbcedaaGreatDoor.Sh
namespace Go.Proofs.YtjfpfkiccbcedaaGreatDoor.Sh
open Go.RowKit
attribute [local go_sem] n32_add n32_wadd bits_xor32 bits_and32 bits_or32 bits_not32 sub_not32 n32_shr n32_shl n8_wrap n32_shl8 n32_shl16 n32_shl24 n32_shr3 n32_shr10
theorem z39 : (∀ w, (zeroValue 198).run Tryz.prog w = .ok (.agg (row32 (fun _ => 0) 64)) w) ∧ (Tryz.prog.info? 198).map (·.size) = some 64 := zero_of_info (by kernel_rfl)
theorem i47 : (Tryz.prog.info? 189).map (·.size) = some 64 := by kernel_rfl

theorem i5 : (Tryz.prog.info? 5).map (·.size) = some 1 := by kernel_rfl
theorem i38 : (Tryz.prog.info? 187).map (·.size) = some 1 := by kernel_rfl
set_option maxRecDepth 100000 in
set_option maxHeartbeats 400000 in
theorem spread_any (f : Nat → UInt8) (w : World)  :
    Calls Tryz.prog 158 #[.agg (row8 f 64)] w fun e w' => e = .returned (.agg (row32 (wt f) 64)) ∧ Below w.heap.size w w' := by
  go_enter Tryz.func158, Tryz.ntmps158
  go_wp2_with (first
    | (refine wpList_boxRow rfl _ _ rfl _ rfl ?_; intro w1 hw1 hs1 hb1)
    | (refine wpList_allocRow (op := ⟨some 2, _, _, _, _, _⟩) rfl _ rfl _ z39.1 ?_; intro w2 hw2 hs2 hb2)
    | (refine wpList_allocRow (op := ⟨some 3, _, _, _, _, _⟩) rfl _ rfl _ z39.1 ?_; intro w3 hw3 hs3 hb3)
    | (refine wpList_loadRow rfl _ _ rfl _ rfl _ _ ((hb1.belowSize hw2).belowSize hw3) _ Tryz.underlying189 rfl (by rw [row8_size]; exact i47) ?_))
  have hB : Below w.heap.size w w3 := (hw1.trans (hw2.mono (by omega))).trans (hw3.mono (by omega))
  replace hb2 := hb2.belowSize hw3
  rw [hs2] at hb3
  rw [hs1] at hb2 hb3
  have hs : w3.heap.size = w.heap.size + 3 := by omega
  clear hb1 hw1 hw2 hw3 hs1 hs2 hs3
  go_loopw [10] (fun i wl => ∃ k : Nat, k ≤ 64 ∧ i = .int .i64 k ∧ Below w.heap.size w wl ∧ wl.heap.size = w.heap.size + 3 ∧ Blk wl (w.heap.size + 1) (row32 (fun _ => 0) 64) 198 ∧ Blk wl (w.heap.size + 1 + 1) (row32 (partsTo f k) 64) 198) (fun i _ => 64 - (intOf i).toNat)
  case atStart => exact ⟨0, by omega, rfl, hB, hs, hb2, by rw [row32_congr (g := fun _ => 0) (fun j _ => partsTo_zero f j)]; exact hb3⟩
  case round =>
    obtain ⟨k, hk, rfl, hB', hs', hb2', hb3'⟩ := hrel
    clear hB hs hb2 hb3
    by_cases hlt : k < 64
    · go_wp2_with (first
       | (refine wpList_indexB rfl _ _ _ rfl f 64 rfl k rfl _ Tryz.underlying189 _ Tryz.underlying5 rfl i5 hlt ?_)
       | (refine wpList_addrW rfl _ _ _ rfl (w.heap.size + 1 + 1) rfl .i64 _ rfl (k / 4) _ _ Tryz.underlying198 i38 (by omega) (by omega) ?_)
       | (refine wpList_loadW rfl _ _ rfl (w.heap.size + 1 + 1) (k / 4) rfl _ _ _ hb3' _ Tryz.underlying187 rfl (by omega) ?_)
       | (refine wpList_storeW rfl _ _ _ rfl (w.heap.size + 1 + 1) (k / 4) rfl _ rfl _ _ _ hb3' i38 (by omega) ?_; intro w4 hg4 hs4 hb4; rw [partsTo_succ] at hb4))
      go_roundw
      case rel => exact ⟨k + 1, by omega, by go_num, hB'.trans (below_of_grown hg4 (by omega) (by omega)), by omega, hb2'.grown hg4 (by simp), hb4⟩
      case measure => simp [intOf]; omega
    · have hb4' : Blk wr (w.heap.size + 1 + 1) (row32 (schedF f 0) 64) 198 := by
        rw [show k = 64 from by omega, sched_zero_parts] at hb3'
        exact hb3'
      clear hb3'
      go_wp2_with fail
      go_loopw [26] (fun i wl => ∃ m : Nat, m ≤ 48 ∧ i = .int .i64 m ∧ Below w.heap.size w wl ∧ wl.heap.size = w.heap.size + 3 ∧ Blk wl (w.heap.size + 1) (row32 (fun _ => 0) 64) 198 ∧ Blk wl (w.heap.size + 1 + 1) (row32 (schedF f m) 64) 198) (fun i _ => 48 - (intOf i).toNat)
      case atStart => exact ⟨0, by omega, rfl, hB', hs', hb2', hb4'⟩
      case round =>
        obtain ⟨m, hm, rfl, hB, hs, hb2, hb3⟩ := hrel
        clear hB' hs' hb2' hb4'
        by_cases hlt' : m < 48
        · have c1 := (hb3.cell (m + 1)).trans (row32_get _ _ _ (by omega))
          have c14 := (hb3.cell (m + 14)).trans (row32_get _ _ _ (by omega))
          go_wp2_with fail
          go_quiet (fail)
          go_wp2_with (go_at_call 188; refine (rot_any _ _ _ (by omega) (by omega)).mono ?_; rintro e w' ⟨rfl, rfl⟩)
          clear c1 c14
          have c0 := (hb3.cell m).trans (row32_get _ _ _ (by omega))
          have c9 := (hb3.cell (m + 9)).trans (row32_get _ _ _ (by omega))
          have c16 := (hb3.cell (m + 16)).trans (row32_get _ _ _ (by omega))
          have f16 := hb3.frozen (m + 16)
          go_region
          clear c0 c9 c16 f16
          go_wp2_with fail
          go_roundw
          case rel =>
            refine ⟨m + 1, by omega, by go_num, (below_draws hB _).trans (below_of_grown (grown_setCell _ _ _ _) (by omega) (by show _ ≤ wr.heap.size; omega)), ?_, (hb2.drewN _).setCell_other _ (by simp) _, ?_⟩
            · rw [show ∀ (x : World) (p : Addr) (v : Value), (x.setCell p v).heap.size = x.heap.size from fun x p v => by simp [World.setCell]]; exact hs
            · rw [schedF_succ, nxt_sched, ← row32_set]
              exact (hb3.drewN _).setCell _ _
          case measure => simp [intOf]; omega
        · have hb4 : Blk wr (w.heap.size + 1 + 1) (row32 (wt f) 64) 198 := by
            rw [show m = 48 from by omega] at hb3
            exact hb3
          clear hb3
          go_wp2_with (first
            | (refine wpList_loadRow rfl _ _ rfl (w.heap.size + 1 + 1) rfl _ _ hb4 _ Tryz.underlying198 rfl (by rw [row32_size]; exact z39.2) ?_)
            | (refine wpList_storeRow rfl _ _ _ rfl (w.heap.size + 1) _ rfl rfl _ _ hb2 (by rw [row32_size, row32_size]) (by rw [row32_size]; exact z39.2) (row32_one _ _) ?_; intro w4 hg4 hs4 hb5))
          refine bodyPost_ret (v := .agg (row32 (wt f) 64)) ?_ rfl ⟨rfl, hB.trans (below_of_grown hg4 (by omega) (by omega))⟩
          exact results_cell_row rfl _ _ (w.heap.size + 1) _ _ _ _ rfl hb5.out Tryz.underlying198 rfl (by rw [row32_size]; exact z39.2)
end Go.Proofs.YtjfpfkiccbcedaaGreatDoor.Sh
namespace Go.Proofs.YtjfpfkiccbcedaaGreatDoor.Sh
open Go.RowKit
attribute [local go_sem] n32_add n32_wadd bits_xor32 bits_and32 bits_or32 bits_not32 bits_notmax sub_not32 n32_shr n32_shl n8_wrap n32_shl8 n32_shl16 n32_shl24 n32_shr3 n32_shr10
/-- Only draws lie between two worlds. -/
structure Draws (w w' : World) : Prop where
  out : ∃ n, w' = w.drewN n
theorem Draws.drewN {w w' : World} (h : Draws w w') (n : Nat) : Draws w (w'.drewN n) := by
  obtain ⟨m, rfl⟩ := h.out
  exact ⟨_, World.drewN_drewN _ _ _⟩
theorem Draws.glob {w w' : World} (h : Draws w w') (hG : Glob w) : Glob w' := by
  obtain ⟨m, rfl⟩ := h.out
  exact hG.drewN m
theorem Draws.blk {w w' : World} (h : Draws w w') {b : Nat} {c : Array Value} {t : TypeId} (hb : Blk w b c t) : Blk w' b c t := by
  obtain ⟨m, rfl⟩ := h.out
  exact hb.drewN m
theorem Draws.below {w w' a : World} (h : Draws w w') {B : Nat} (hb : Below B a w) : Below B a w' := by
  obtain ⟨m, rfl⟩ := h.out
  exact below_draws hb m
theorem Draws.size {w w' : World} (h : Draws w w') : w'.heap.size = w.heap.size := by
  obtain ⟨m, rfl⟩ := h.out
  rfl
theorem z40 : (∀ w, (zeroValue 188).run Tryz.prog w = .ok (.agg (row32 (fun _ => 0) 8)) w) ∧ (Tryz.prog.info? 188).map (·.size) = some 8 := zero_of_info (by kernel_rfl)
set_option maxRecDepth 100000 in
set_option maxHeartbeats 400000 in
theorem mix_any (H : S8) (fb : Nat → UInt8) (w : World) (hG : Glob w) :
    Calls Tryz.prog 128 #[.agg (row32 H.at 8), .agg (row8 fb 64)] w fun e w' => e = .returned (.agg (row32 (mixS H fb).at 8)) ∧ Below w.heap.size w w' := by
  go_enter Tryz.func128, Tryz.ntmps128
  go_wp2_with (first
    | (go_at_call 158; refine (spread_any _ _).mono ?_; rintro e w4 ⟨rfl, hw4⟩)
    | (with_reducible refine at_list ?_; first
      | (refine wpList_boxRow (op := ⟨some 2, _, _, _, _, _⟩) rfl _ _ rfl _ rfl ?_; intro w1 hw1 hs1 hb1)
      | (refine wpList_boxRow (op := ⟨some 3, _, _, _, _, _⟩) rfl _ _ rfl _ rfl ?_; intro w2 hw2 hs2 hb2)
      | (refine wpList_allocRow (op := ⟨some 4, _, _, _, _, _⟩) rfl _ rfl _ z40.1 ?_; intro w3 hw3 hs3 hb3)
      | (refine wpList_loadRow rfl _ _ rfl _ rfl _ _ (hb2.belowSize hw3) _ Tryz.underlying189 rfl (by rw [row8_size]; exact i47) ?_)
      | (refine wpList_allocRow (op := ⟨some 5, _, _, _, _, _⟩) rfl _ rfl _ z39.1 ?_; intro w5 hw5 hs5 hb5)
      | (refine wpList_storeRow rfl _ _ _ rfl w4.heap.size _ rfl rfl _ _ hb5 (by rw [row32_size, row32_size]) (by rw [row32_size]; exact z39.2) (row32_one _ _) ?_; intro w6 hg6 hs6 hb6)))
  go_simp
  have hM : w.heap.size + 3 ≤ w4.heap.size := by have := hw4.size; omega
  have hB5 : Below w.heap.size w w5 := (((hw1.trans (hw2.mono (by omega))).trans (hw3.mono (by omega))).trans (hw4.mono (by omega))).trans (hw5.mono (by omega))
  have hB6 : Below w.heap.size w w6 := hB5.trans (below_of_grown hg6 (by omega) (by omega))
  have hbw : Blk w6 w.heap.size (row32 H.at 8) 188 := ((((hb1.belowSize hw2).belowSize hw3).belowSize hw4).belowSize hw5).grown hg6 (by simp; omega)
  have hbr : Blk w6 (w.heap.size + 1 + 1) (row32 (fun _ => 0) 8) 188 := by
    have := ((hb3.belowSize hw4).belowSize hw5).grown hg6 (by simp; omega)
    rw [hs2, hs1] at this
    exact this
  have hG6 : Glob w6 := hG.belowSize hB6
  have hL : w4.heap.size < w6.heap.size := by omega
  generalize w4.heap.size = M at *
  clear hb1 hb2 hb3 hb5 hB5 hw1 hw2 hw3 hw4 hw5 hg6 hs1 hs2 hs3 hs5 hs6 hG
  have c0 : w6.cell? ⟨w.heap.size, 0, none⟩ = some (.int .u32 (n32 H.a)) := (hbw.cell 0).trans (row32_get _ _ _ (by omega))
  have c1 : w6.cell? ⟨w.heap.size, 1, none⟩ = some (.int .u32 (n32 H.b)) := (hbw.cell 1).trans (row32_get _ _ _ (by omega))
  have c2 : w6.cell? ⟨w.heap.size, 2, none⟩ = some (.int .u32 (n32 H.c)) := (hbw.cell 2).trans (row32_get _ _ _ (by omega))
  have c3 : w6.cell? ⟨w.heap.size, 3, none⟩ = some (.int .u32 (n32 H.d)) := (hbw.cell 3).trans (row32_get _ _ _ (by omega))
  have c4 : w6.cell? ⟨w.heap.size, 4, none⟩ = some (.int .u32 (n32 H.e)) := (hbw.cell 4).trans (row32_get _ _ _ (by omega))
  have c5 : w6.cell? ⟨w.heap.size, 5, none⟩ = some (.int .u32 (n32 H.f)) := (hbw.cell 5).trans (row32_get _ _ _ (by omega))
  have c6 : w6.cell? ⟨w.heap.size, 6, none⟩ = some (.int .u32 (n32 H.g)) := (hbw.cell 6).trans (row32_get _ _ _ (by omega))
  have c7 : w6.cell? ⟨w.heap.size, 7, none⟩ = some (.int .u32 (n32 H.h)) := (hbw.cell 7).trans (row32_get _ _ _ (by omega))
  go_quiet (fail)
  go_wp2_with fail
  go_quiet (fail)
  go_wp2_with fail
  clear c0 c1 c2 c3 c4 c5 c6 c7
  go_loopw [6, 7, 8, 9, 10, 11, 12, 13, 39] (fun va vb vc vd ve vf vg vh vt wl => ∃ (k : Nat) (s : S8), k ≤ 64 ∧ vt = .int .i64 k ∧ s = rnds Kt (wt fb) H k ∧ va = .int .u32 (n32 s.a) ∧ vb = .int .u32 (n32 s.b) ∧ vc = .int .u32 (n32 s.c) ∧ vd = .int .u32 (n32 s.d) ∧ ve = .int .u32 (n32 s.e) ∧ vf = .int .u32 (n32 s.f) ∧ vg = .int .u32 (n32 s.g) ∧ vh = .int .u32 (n32 s.h) ∧ Draws w6 wl) (fun _ _ _ _ _ _ _ _ vt _ => 64 - (intOf vt).toNat)
  case atStart => exact ⟨0, H, by omega, rfl, rfl, rfl, rfl, rfl, rfl, rfl, rfl, rfl, rfl, (Draws.drewN ⟨_, rfl⟩ _)⟩
  case round =>
    obtain ⟨k, s, hk, rfl, hs, rfl, rfl, rfl, rfl, rfl, rfl, rfl, rfl, hD⟩ := hrel
    have HS : Hid (s = rnds Kt (wt fb) H k) := hs
    clear hs
    by_cases hlt : k < 64
    · have ck := (hD.glob hG6).k k hlt
      have cw := ((hD.blk hb6).cell k).trans (row32_get _ _ _ hlt)
      go_wp2_with fail
      go_quiet ((go_at_call 159; exact Calls.quiet_of_same (turned_any _ _ _ _ _ (by omega) (by omega) (by omega) (by omega) (by omega) (by omega))))
      clear ck cw
      go_wp2_with (go_at_call 159; refine (turned_any _ _ _ _ _ (by omega) (by omega) (by omega) (by omega) (by omega) (by omega)).mono ?_; rintro e w' ⟨rfl, rfl⟩)
      go_roundw
      case rel =>
        exact ⟨k + 1, step (Kt k) (wt fb k) s, by omega, by go_num, by rw [rnds, ← HS.out], rfl, rfl, rfl, rfl, rfl, rfl, rfl, rfl, hD.drewN _⟩
      case measure => simp [intOf]; omega
    · have HS2 : Hid (mixS H fb = H.add s) := by
        have := HS.out
        rw [show k = 64 from by omega] at this
        unfold mixS
        rw [← this]
        rfl
      clear HS
      have hB7 := hD.below hB6
      have hbw7 := hD.blk hbw
      have hbr7 := hD.blk hbr
      have hz7 := hD.size
      have hsz : w.heap.size + 3 < w6.heap.size := by omega
      have hsz7 : w.heap.size + 3 < wr.heap.size := by omega
      clear hD hB6 hbw hbr hb6 hG6 hz7 hM hL
      have hdk : decide ((k : Int) < 64) = false := by simp; omega
      go_wp2_with fail
      rw [row32_eight s]
      clear hdk
      go_loopw [101] (fun v wl => ∃ i : Nat, i ≤ 8 ∧ v = .int .i64 i ∧ Below w.heap.size w wl ∧ w.heap.size + 3 < wl.heap.size ∧ Blk wl w.heap.size (row32 (addTo H s i) 8) 188 ∧ Blk wl (w.heap.size + 1 + 1) (row32 (fun _ => 0) 8) 188) (fun v _ => 8 - (intOf v).toNat)
      case atStart => exact ⟨0, by omega, rfl, hB7, hsz7, by rw [addTo_zero]; exact hbw7, hbr7⟩
      case round =>
        obtain ⟨i, hi, rfl, hB, hz, hbw, hbr⟩ := hrel
        clear hB7 hsz7 hbw7 hbr7 hsz
        by_cases hlt' : i < 8
        · go_wp2_with (with_reducible refine at_list ?_; first
            | (refine wpList_indexW rfl _ _ _ rfl s.at 8 rfl i rfl _ Tryz.underlying188 _ Tryz.underlying187 rfl i38 hlt' ?_)
            | (refine wpList_addrW rfl _ _ _ rfl (w.heap.size) rfl .i64 _ rfl i _ _ Tryz.underlying188 i38 rfl hlt' ?_)
            | (refine wpList_loadW rfl _ _ rfl (w.heap.size) i rfl _ _ _ hbw _ Tryz.underlying187 rfl hlt' ?_)
            | (refine wpList_storeW rfl _ _ _ rfl (w.heap.size) i rfl _ rfl _ _ _ hbw i38 hlt' ?_; intro w8 hg8 hs8 hb8; rw [addTo_succ] at hb8))
          go_roundw
          case rel => exact ⟨i + 1, by omega, by go_num, hB.trans (below_of_grown hg8 (by omega) (by omega)), by omega, hb8, hbr.grown hg8 (by simp; omega)⟩
          case measure => simp [intOf]; omega
        · have hbw2 : Blk wr (w.heap.size) (row32 (mixS H fb).at 8) 188 := by
            rw [show i = 8 from by omega, addTo_all, ← HS2.out] at hbw
            exact hbw
          clear hbw
          go_wp2_with (with_reducible refine at_list ?_; first
            | (refine wpList_loadRow rfl _ _ rfl (w.heap.size) rfl _ _ hbw2 _ Tryz.underlying188 rfl (by rw [row32_size]; exact z40.2) ?_)
            | (refine wpList_storeRow rfl _ _ _ rfl (w.heap.size + 1 + 1) _ rfl rfl _ _ hbr (by rw [row32_size, row32_size]) (by rw [row32_size]; exact z40.2) (row32_one _ _) ?_; intro w9 hg9 hs9 hb9))
          refine bodyPost_ret (v := .agg (row32 (mixS H fb).at 8)) ?_ rfl ⟨rfl, hB.trans (below_of_grown hg9 (by omega) (by omega))⟩
          exact results_cell_row rfl _ _ (w.heap.size + 1 + 1) _ _ _ _ rfl hb9.out Tryz.underlying188 rfl (by rw [row32_size]; exact z40.2)
end Go.Proofs.YtjfpfkiccbcedaaGreatDoor.Sh
