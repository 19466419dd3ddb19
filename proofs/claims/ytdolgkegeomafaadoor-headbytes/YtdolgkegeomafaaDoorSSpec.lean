/- SHA-256 as plain Lean functions on words, and arrays of words and bytes as rows of cells. -/
import Derived.Test.YtdolgkegeomafaaDoorSBits
import Derived.Test.YtdolgkegeomafaaDoorSMem
namespace Go.Proofs.YtdolgkegeomafaaDoor.Sh
open Go

def n8 (x : UInt8) : Int := (x.toNat : Int)
theorem n8_nonneg (x : UInt8) : 0 ≤ n8 x := by unfold n8; omega
theorem n8_le (x : UInt8) : n8 x ≤ 255 := by unfold n8; have := x.toNat_lt; omega
/-- A byte as a word. -/
def w8 (x : UInt8) : BitVec 32 := BitVec.ofNat 32 x.toNat
theorem n8_n32 (x : UInt8) : n8 x = n32 (w8 x) := by
  unfold n8 n32 w8; rw [BitVec.toNat_ofNat]; have := x.toNat_lt; omega
theorem n8_wrap (x : UInt8) : IntKind.u32.wrap (n8 x) = n32 (w8 x) := by rw [n8_n32, wrap_n32]

def row32 (f : Nat → BitVec 32) (n : Nat) : Array Value := Array.ofFn (fun i : Fin n => Value.int .u32 (n32 (f i)))
def row8 (f : Nat → UInt8) (n : Nat) : Array Value := Array.ofFn (fun i : Fin n => Value.int .u8 (n8 (f i)))
def upd {α : Type} (f : Nat → α) (i : Nat) (v : α) : Nat → α := fun j => if j = i then v else f j

theorem row32_size (f : Nat → BitVec 32) (n : Nat) : (row32 f n).size = n := by simp [row32]
theorem row8_size (f : Nat → UInt8) (n : Nat) : (row8 f n).size = n := by simp [row8]
theorem row32_get (f : Nat → BitVec 32) (n j : Nat) (h : j < n) : (row32 f n)[j]? = some (.int .u32 (n32 (f j))) := by
  simp [row32, h]
theorem row8_get (f : Nat → UInt8) (n j : Nat) (h : j < n) : (row8 f n)[j]? = some (.int .u8 (n8 (f j))) := by
  simp [row8, h]
theorem row32_none (f : Nat → BitVec 32) (n j : Nat) (h : n ≤ j) : (row32 f n)[j]? = none := by
  simp [row32]; omega
theorem row8_none (f : Nat → UInt8) (n j : Nat) (h : n ≤ j) : (row8 f n)[j]? = none := by
  simp [row8]; omega
theorem row32_set (f : Nat → BitVec 32) (n i : Nat) (v : BitVec 32) : (row32 f n).setIfInBounds i (.int .u32 (n32 v)) = row32 (upd f i v) n := by
  apply Array.ext_getElem?
  intro j
  rw [Array.getElem?_setIfInBounds]
  by_cases hj : j < n
  · rw [row32_get _ _ _ hj, row32_get _ _ _ hj, row32_size]
    by_cases h : i = j
    · subst h; simp [upd, hj]
    · rw [if_neg h, upd, if_neg (fun e => h e.symm)]
  · rw [row32_none _ _ _ (by omega), row32_none _ _ _ (by omega), row32_size]
    by_cases h : i = j
    · subst h; rw [if_pos rfl, if_neg hj]
    · rw [if_neg h]
theorem row32_congr {f g : Nat → BitVec 32} {n : Nat} (h : ∀ j, j < n → f j = g j) : row32 f n = row32 g n := by
  unfold row32; congr 1; funext i; rw [h i i.2]
theorem row8_congr {f g : Nat → UInt8} {n : Nat} (h : ∀ j, j < n → f j = g j) : row8 f n = row8 g n := by
  unfold row8; congr 1; funext i; rw [h i i.2]
theorem row32_one (f : Nat → BitVec 32) (n : Nat) : (row32 f n).all (·.oneCell') = true := by
  rw [Array.all_eq_true_iff_forall_mem]
  intro v hv
  simp only [row32, Array.mem_ofFn] at hv
  obtain ⟨i, rfl⟩ := hv
  rfl
theorem row8_one (f : Nat → UInt8) (n : Nat) : (row8 f n).all (·.oneCell') = true := by
  rw [Array.all_eq_true_iff_forall_mem]
  intro v hv
  simp only [row8, Array.mem_ofFn] at hv
  obtain ⟨i, rfl⟩ := hv
  rfl

section
variable {P : Program} {ops : Array Oper} {rest : List Oper} {op : Oper} {a : Act} {w : World} {Q : Exit → Act → World → Prop}
theorem wpList_loadW (hgd : op.guard = none) (ty : TypeId) (x : Operand) (ho : op.op = .load ty x) (b o : Nat) (hx : a.eval x = .pointer (some ⟨b, o, none⟩))
    (f : Nat → BitVec 32) (n : Nat) (t : TypeId) (hb : Blk w b (row32 f n) t) (d : TypeDesc) (hu : P.underlying ty = some d) (hd : d.isRow = false) (hn : o < n)
    (h : wpList P ops Q rest (a.put op.dst (.int .u32 (n32 (f o)))) w) : wpList P ops Q (op :: rest) a w :=
  wpList_loadCell hgd ty x ho b o hx _ t hb d hu hd _ (row32_get f n o hn) h
theorem wpList_storeW (hgd : op.guard = none) (ty : TypeId) (x y : Operand) (ho : op.op = .store ty x y) (b o : Nat) (hx : a.eval x = .pointer (some ⟨b, o, none⟩)) (v : BitVec 32) (hy : a.eval y = .int .u32 (n32 v))
    (f : Nat → BitVec 32) (n : Nat) (t : TypeId) (hb : Blk w b (row32 f n) t) (hi : (P.info? ty).map (·.size) = some 1) (hn : o < n)
    (h : ∀ w1 : World, w.grownBy w1 (some b) → w1.heap.size = w.heap.size → Blk w1 b (row32 (upd f o v) n) t → wpList P ops Q rest (a.put op.dst undef) w1) : wpList P ops Q (op :: rest) a w :=
  wpList_storeCell hgd ty x y ho b o hx _ hy _ t hb hi rfl rfl (by rw [row32_size]; exact hn) (fun w1 g s hb1 => h w1 g s (by rw [row32_set] at hb1; exact hb1))
theorem wpList_indexB (hgd : op.guard = none) (ty : TypeId) (x i : Operand) (ho : op.op = .index ty x i) (f : Nat → UInt8) (len : Nat) (hx : a.eval x = .agg (row8 f len)) (k : Nat) (hi : a.eval i = .int .i64 (k : Int))
    (e : TypeId) (hu : P.underlying ty = some (.array len e)) (d : TypeDesc) (hue : P.underlying e = some d) (hd : d.isRow = false) (hse : (P.info? e).map (·.size) = some 1)
    (h1 : k < len) (h : wpList P ops Q rest (a.put op.dst (.int .u8 (n8 (f k)))) w) : wpList P ops Q (op :: rest) a w :=
  wpList_indexRow hgd ty x i ho _ hx .i64 _ hi len e hu d hue hd hse (by omega) (by omega) _ (by rw [Int.toNat_natCast]; exact row8_get f len k h1) h
theorem wpList_indexW (hgd : op.guard = none) (ty : TypeId) (x i : Operand) (ho : op.op = .index ty x i) (f : Nat → BitVec 32) (len : Nat) (hx : a.eval x = .agg (row32 f len)) (k : Nat) (hi : a.eval i = .int .i64 (k : Int))
    (e : TypeId) (hu : P.underlying ty = some (.array len e)) (d : TypeDesc) (hue : P.underlying e = some d) (hd : d.isRow = false) (hse : (P.info? e).map (·.size) = some 1)
    (h1 : k < len) (h : wpList P ops Q rest (a.put op.dst (.int .u32 (n32 (f k)))) w) : wpList P ops Q (op :: rest) a w :=
  wpList_indexRow hgd ty x i ho _ hx .i64 _ hi len e hu d hue hd hse (by omega) (by omega) _ (by rw [Int.toNat_natCast]; exact row32_get f len k h1) h
/-- The address of element o of an array of words that lies at the head of a block. -/
theorem wpList_addrW (hgd : op.guard = none) (ty : TypeId) (x i : Operand) (ho : op.op = .indexAddr ty x i) (b : Nat) (hx : a.eval x = .pointer (some ⟨b, 0, none⟩)) (k : IntKind) (n : Int) (hi : a.eval i = .int k n) (o : Nat)
    (len : Nat) (e : TypeId) (hu : P.underlying ty = some (.array len e)) (hse : (P.info? e).map (·.size) = some 1)
    (h0 : n = (o : Int)) (h1 : o < len) (h : wpList P ops Q rest (a.put op.dst (.pointer (some ⟨b, o, none⟩))) w) : wpList P ops Q (op :: rest) a w := by
  subst h0
  refine wpList_addrRow hgd ty x i ho b 0 hx k _ hi len e hu hse (by omega) (by omega) ?_
  rw [Nat.zero_add, Int.toNat_natCast]; exact h
end

/-- The first m bytes of the word k. -/
def part (f : Nat → UInt8) (k : Nat) : Nat → BitVec 32
  | 0 => 0
  | m + 1 => or32 (shl32 (part f k m) 8) (w8 (f (4 * k + m)))
def wordOf (f : Nat → UInt8) (k : Nat) : BitVec 32 := part f k 4
/-- All words behind i bytes. -/
def partsTo (f : Nat → UInt8) (i : Nat) : Nat → BitVec 32 := fun k => part f k (min 4 (i - 4 * k))
theorem partsTo_zero (f : Nat → UInt8) (k : Nat) : partsTo f 0 k = 0 := by
  unfold partsTo; rw [Nat.zero_sub, Nat.min_zero]; rfl
theorem partsTo_succ (f : Nat → UInt8) (i : Nat) : upd (partsTo f i) (i / 4) (or32 (shl32 (partsTo f i (i / 4)) 8) (w8 (f i))) = partsTo f (i + 1) := by
  funext k
  unfold upd partsTo
  by_cases h : k = i / 4
  · rw [if_pos h]; subst h
    have h1 : min 4 (i - 4 * (i / 4)) = i - 4 * (i / 4) := by omega
    have h2 : min 4 (i + 1 - 4 * (i / 4)) = (i - 4 * (i / 4)) + 1 := by omega
    rw [h1, h2, part, show 4 * (i / 4) + (i - 4 * (i / 4)) = i from by omega]
  · rw [if_neg h]
    have : min 4 (i - 4 * k) = min 4 (i + 1 - 4 * k) := by omega
    rw [this]

def sig0 (x : BitVec 32) : BitVec 32 := xor32 (xor32 (rr 7 x) (rr 18 x)) (shr32 x 3)
def sig1 (x : BitVec 32) : BitVec 32 := xor32 (xor32 (rr 17 x) (rr 19 x)) (shr32 x 10)
def nxt (l : List (BitVec 32)) : BitVec 32 :=
  add32 (add32 (add32 (l.getD (l.length - 16) 0) (sig0 (l.getD (l.length - 15) 0))) (l.getD (l.length - 7) 0)) (sig1 (l.getD (l.length - 2) 0))
/-- The words of the rounds: the block's sixteen, and n more. -/
def sched (f : Nat → UInt8) : Nat → List (BitVec 32)
  | 0 => (List.range 16).map (wordOf f)
  | n + 1 => sched f n ++ [nxt (sched f n)]
theorem sched_length (f : Nat → UInt8) : ∀ n, (sched f n).length = 16 + n
  | 0 => by simp [sched]
  | n + 1 => by rw [sched, List.length_append, sched_length f n]; rfl
def schedF (f : Nat → UInt8) (n : Nat) : Nat → BitVec 32 := fun j => (sched f n).getD j 0
theorem schedF_succ (f : Nat → UInt8) (n : Nat) : schedF f (n + 1) = upd (schedF f n) (n + 16) (nxt (sched f n)) := by
  funext j
  unfold schedF upd
  have hl := sched_length f n
  rw [sched]
  simp only [List.getD_eq_getElem?_getD]
  by_cases h : j = n + 16
  · rw [if_pos h, List.getElem?_append_right (by omega), hl, show j - (16 + n) = 0 from by omega]; rfl
  · rw [if_neg h]
    by_cases h2 : j < 16 + n
    · rw [List.getElem?_append_left (by omega)]
    · rw [List.getElem?_append_right (by omega), List.getElem?_eq_none (by simp; omega), List.getElem?_eq_none (by omega)]
theorem nxt_sched (f : Nat → UInt8) (n : Nat) : nxt (sched f n) = add32 (add32 (add32 (schedF f n n) (sig0 (schedF f n (n + 1)))) (schedF f n (n + 9))) (sig1 (schedF f n (n + 14))) := by
  unfold nxt schedF
  rw [sched_length, show 16 + n - 16 = n from by omega, show 16 + n - 15 = n + 1 from by omega, show 16 + n - 7 = n + 9 from by omega, show 16 + n - 2 = n + 14 from by omega]
theorem sched_zero_parts (f : Nat → UInt8) : partsTo f 64 = schedF f 0 := by
  funext j
  unfold partsTo schedF sched
  rw [List.getD_eq_getElem?_getD]
  by_cases h : j < 16
  · rw [show min 4 (64 - 4 * j) = 4 from by omega]; simp [h, wordOf]
  · rw [show min 4 (64 - 4 * j) = 0 from by omega, List.getElem?_eq_none (by simp; omega)]; rfl
/-- The word of round t. -/
def wt (f : Nat → UInt8) : Nat → BitVec 32 := schedF f 48
theorem schedF_le (f : Nat → UInt8) (j : Nat) : ∀ n m, j < 16 + n → schedF f (n + m) j = schedF f n j
  | n, 0, _ => rfl
  | n, m + 1, h => by
    rw [← Nat.add_assoc, schedF_succ, upd, if_neg (by omega)]
    exact schedF_le f j n m h
theorem schedF_wt (f : Nat → UInt8) (n j : Nat) (hn : n ≤ 48) (hj : j < 16 + n) : schedF f n j = wt f j := by
  have := schedF_le f j n (48 - n) hj
  rw [show n + (48 - n) = 48 from by omega] at this
  exact this.symm

structure S8 where
  a : BitVec 32
  b : BitVec 32
  c : BitVec 32
  d : BitVec 32
  e : BitVec 32
  f : BitVec 32
  g : BitVec 32
  h : BitVec 32
def big1 (e : BitVec 32) : BitVec 32 := xor32 (xor32 (rr 6 e) (rr 11 e)) (rr 25 e)
def big0 (a : BitVec 32) : BitVec 32 := xor32 (xor32 (rr 2 a) (rr 13 a)) (rr 22 a)
def choice (e f g : BitVec 32) : BitVec 32 := xor32 (and32 e f) (and32 (not32 e) g)
def most (a b c : BitVec 32) : BitVec 32 := xor32 (xor32 (and32 a b) (and32 a c)) (and32 b c)
def xOf (k w : BitVec 32) (s : S8) : BitVec 32 := add32 (add32 (add32 (add32 s.h (big1 s.e)) (choice s.e s.f s.g)) k) w
def yOf (s : S8) : BitVec 32 := add32 (big0 s.a) (most s.a s.b s.c)
def step (k w : BitVec 32) (s : S8) : S8 := ⟨add32 (xOf k w s) (yOf s), s.a, s.b, s.c, add32 s.d (xOf k w s), s.e, s.f, s.g⟩
def rnds (K W : Nat → BitVec 32) (s : S8) : Nat → S8
  | 0 => s
  | n + 1 => step (K n) (W n) (rnds K W s n)
def S8.add (s t : S8) : S8 := ⟨add32 s.a t.a, add32 s.b t.b, add32 s.c t.c, add32 s.d t.d, add32 s.e t.e, add32 s.f t.f, add32 s.g t.g, add32 s.h t.h⟩
def S8.at (s : S8) : Nat → BitVec 32
  | 0 => s.a | 1 => s.b | 2 => s.c | 3 => s.d | 4 => s.e | 5 => s.f | 6 => s.g | 7 => s.h | _ => 0
def Ktab : List Nat := [1116352408, 1899447441, 3049323471, 3921009573, 961987163, 1508970993, 2453635748, 2870763221, 3624381080, 310598401, 607225278, 1426881987, 1925078388, 2162078206, 2614888103, 3248222580, 3835390401, 4022224774, 264347078, 604807628, 770255983, 1249150122, 1555081692, 1996064986, 2554220882, 2821834349, 2952996808, 3210313671, 3336571891, 3584528711, 113926993, 338241895, 666307205, 773529912, 1294757372, 1396182291, 1695183700, 1986661051, 2177026350, 2456956037, 2730485921, 2820302411, 3259730800, 3345764771, 3516065817, 3600352804, 4094571909, 275423344, 430227734, 506948616, 659060556, 883997877, 958139571, 1322822218, 1537002063, 1747873779, 1955562222, 2024104815, 2227730452, 2361852424, 2428436474, 2756734187, 3204031479, 3329325298]
def Kt (t : Nat) : BitVec 32 := BitVec.ofNat 32 (Ktab.getD t 0)
def H0 : S8 := ⟨1779033703, 3144134277, 1013904242, 2773480762, 1359893119, 2600822924, 528734635, 1541459225⟩
/-- The words behind a block more. -/
def mixS (s : S8) (f : Nat → UInt8) : S8 := s.add (rnds Kt (wt f) s 64)

/-- The two tables of the program lie where its variables lie. -/
structure Glob (w : World) : Prop where
  two : 2 ≤ w.heap.size
  k : ∀ j, j < 64 → w.cell? ⟨1, j, none⟩ = some (.int .u32 (n32 (Kt j)))
  h : ∀ j, j < 8 → w.cell? ⟨0, j, none⟩ = some (.int .u32 (n32 (H0.at j)))
theorem Glob.below {w w' : World} {B : Nat} (h : Glob w) (hb : Go.RowKit.Below B w w') (h2 : 2 ≤ B) : Glob w' :=
  ⟨Nat.le_trans h.two hb.size, fun j hj => by rw [hb.cell (p := ⟨1, j, none⟩) (by show 1 < B; omega)]; exact h.k j hj, fun j hj => by rw [hb.cell (p := ⟨0, j, none⟩) (by show 0 < B; omega)]; exact h.h j hj⟩
theorem Glob.belowSize {w w' : World} (h : Glob w) (hb : Go.RowKit.Below w.heap.size w w') : Glob w' := h.below hb h.two
theorem Glob.grown {w w' : World} {b : Nat} (h : Glob w) (hb : w.grownBy w' (some b)) (h2 : 2 ≤ b) : Glob w' := h.below (below_of_grown hb h2 h.two) (Nat.le_refl _)
theorem Glob.drewN {w : World} (h : Glob w) (n : Nat) : Glob (w.drewN n) := ⟨h.two, h.k, h.h⟩
theorem Glob.drew {w : World} (h : Glob w) : Glob w.drew := ⟨h.two, h.k, h.h⟩
theorem Glob.range {w : World} (h : Glob w) : w.rangeAt 0 0 (row32 H0.at 8).toList := fun j v hv => by
  have hj : j < 8 := by have := (List.getElem?_eq_some_iff.1 hv).1; simpa [row32_size] using this
  rw [Nat.zero_add, h.h j hj, ← row32_get H0.at 8 j hj]; simpa using hv

/-- The words of s, the first i of them with those of t added. -/
def addTo (s t : S8) (i : Nat) : Nat → BitVec 32 := fun j => if j < i then add32 (s.at j) (t.at j) else s.at j
theorem addTo_zero (s t : S8) : addTo s t 0 = s.at := by funext j; unfold addTo; rw [if_neg (by omega)]
theorem addTo_succ (s t : S8) (i : Nat) : upd (addTo s t i) i (add32 (addTo s t i i) (t.at i)) = addTo s t (i + 1) := by
  funext j
  unfold upd addTo
  by_cases h : j = i
  · subst h; rw [if_pos rfl, if_neg (Nat.lt_irrefl _), if_pos (Nat.lt_succ_self _)]
  · rw [if_neg h]
    by_cases h2 : j < i
    · rw [if_pos h2, if_pos (by omega)]
    · rw [if_neg h2, if_neg (by omega)]
theorem S8.add_at (s t : S8) : ∀ j, j < 8 → (s.add t).at j = add32 (s.at j) (t.at j)
  | 0, _ => rfl
  | 1, _ => rfl
  | 2, _ => rfl
  | 3, _ => rfl
  | 4, _ => rfl
  | 5, _ => rfl
  | 6, _ => rfl
  | 7, _ => rfl
  | _ + 8, h => by omega
theorem addTo_all (s t : S8) : row32 (addTo s t 8) 8 = row32 (s.add t).at 8 := row32_congr fun j hj => by unfold addTo; rw [if_pos hj, S8.add_at s t j hj]
theorem row32_eight (s : S8) : #[Value.int .u32 (n32 s.a), .int .u32 (n32 s.b), .int .u32 (n32 s.c), .int .u32 (n32 s.d), .int .u32 (n32 s.e), .int .u32 (n32 s.f), .int .u32 (n32 s.g), .int .u32 (n32 s.h)] = row32 s.at 8 := rfl

end Go.Proofs.YtdolgkegeomafaaDoor.Sh
