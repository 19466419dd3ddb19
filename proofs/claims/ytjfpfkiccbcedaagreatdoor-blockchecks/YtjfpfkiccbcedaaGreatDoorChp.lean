/- What is kept where two batches are laid into variables of their own, in whatever order. Slices of transactions that are cut in two; where a number is taken into a list. What BlockChecks needs, plainly: of blocks whose header or count differs the bytes differ; and which of them are right. -/
import Derived.Test.YtjfpfkiccbcedaaGreatDoorNlb
import Derived.Test.YtjfpfkiccbcedaaGreatDoorHht
import Derived.Test.YtjfpfkiccbcedaaGreatDoorMkr
import Derived.Test.YtjfpfkiccbcedaaGreatDoorShc
import Derived.Test.YtjfpfkiccbcedaaGreatDoorSSm
import Derived.Test.YtjfpfkiccbcedaaGreatDoorOpc
namespace Go.Proofs.YtjfpfkiccbcedaaGreatDoor
open Go Go.RowKit
def Keep30 (w w' : World) : Prop := ∀ b c, Blk w b c 30 → c.size = 3 → ∃ c', Blk w' b c' 30 ∧ c'.size = 3
theorem Keep30.below {w w' : World} (h : Below w.heap.size w w') : Keep30 w w' := fun _ c hb hc => ⟨c, hb.belowSize h, hc⟩
theorem Keep30.store {w w' : World} {g : Nat} {c' : Array Value} (hg : w.grownBy w' (some g)) (hb : Blk w' g c' 30) (hc : c'.size = 3) : Keep30 w w' := fun b c h hs => by
  by_cases e : b = g
  · subst e; exact ⟨c', hb, hc⟩
  · exact ⟨c, h.grown hg (fun e2 => e (Option.some.inj e2)), hs⟩
def R1E (N : Nat) (i : Nat) (vs : Nat → Value) (w w' : World) (v : Value) : Prop :=
  (i ≠ 6 → i ≠ 7 → Below w.heap.size w w') ∧ (i = 6 ∨ i = 7 → ∃ g c, (i = 6 → vs 4 = .pointer (some ⟨g, 0, none⟩)) ∧ (i = 7 → vs 5 = .pointer (some ⟨g, 0, none⟩)) ∧ vs 4 ≠ vs 5 ∧ N ≤ g ∧ Blk w g c 30 ∧ w.grownBy w' (some g)) ∧ Keep30 w w' ∧ (i = 4 ∨ i = 5 → v = .pointer (some ⟨w.heap.size, 0, none⟩) ∧ w.heap.size < w'.heap.size)
def R1G (N : Nat) (w0 : World) (L : Nat → Bool) (vs : Nat → Value) (w : World) : Prop :=
  N ≤ w.heap.size ∧ Below N w0 w ∧ (L 4 = true → ∃ g, vs 4 = .pointer (some ⟨g, 0, none⟩) ∧ g < w.heap.size) ∧ (L 5 = true → ∃ g, vs 5 = .pointer (some ⟨g, 0, none⟩) ∧ g < w.heap.size) ∧ (L 4 = true → L 5 = true → vs 4 ≠ vs 5)
theorem R1G.step {N : Nat} {w0 : World} {L : Nat → Bool} {vs : Nat → Value} {w w' : World} {i : Nat} {v : Value} (h : R1G N w0 L vs w) (hE : R1E N i vs w w' v) : R1G N w0 (fun k => k == i || L k) (updV vs i v) w' := by
  obtain ⟨h1, h2, h3, h4, h5⟩ := h
  obtain ⟨e1, e2, _, e4⟩ := hE
  have hsz : w.heap.size ≤ w'.heap.size := by
    by_cases k : i = 6 ∨ i = 7
    · obtain ⟨g, c, _, _, _, _, _, hg⟩ := e2 k
      exact hg.size
    · exact (e1 (fun e => k (.inl e)) (fun e => k (.inr e))).size
  have hb : Below N w0 w' := by
    by_cases k : i = 6 ∨ i = 7
    · obtain ⟨g, c, _, _, _, hN, _, hg⟩ := e2 k
      exact h2.trans (below_of_grown hg hN h1)
    · exact h2.trans ((e1 (fun e => k (.inl e)) (fun e => k (.inr e))).mono h1)
  refine ⟨Nat.le_trans h1 hsz, hb, fun k => ?_, fun k => ?_, fun k1 k2 => ?_⟩
  · by_cases e : 4 = i
    · subst e; rw [updV_same]; obtain ⟨q1, q2⟩ := e4 (.inl rfl); exact ⟨_, q1, q2⟩
    · rw [updV_other e]; simp [e] at k; obtain ⟨g, q1, q2⟩ := h3 k; exact ⟨g, q1, by omega⟩
  · by_cases e : 5 = i
    · subst e; rw [updV_same]; obtain ⟨q1, q2⟩ := e4 (.inr rfl); exact ⟨_, q1, q2⟩
    · rw [updV_other e]; simp [e] at k; obtain ⟨g, q1, q2⟩ := h4 k; exact ⟨g, q1, by omega⟩
  · by_cases e : 4 = i
    · subst e
      rw [updV_same, updV_other (show (5 : Nat) ≠ 4 by decide)]
      simp at k2
      obtain ⟨g, q1, q2⟩ := h4 k2
      rw [q1, (e4 (.inl rfl)).1]
      exact fun e => absurd (congrArg (fun v => match v with | Value.pointer (some q) => q.block | _ => 0) e) (show w.heap.size ≠ g by omega)
    · by_cases e' : 5 = i
      · subst e'
        rw [updV_same, updV_other (show (4 : Nat) ≠ 5 by decide)]
        simp at k1
        obtain ⟨g, q1, q2⟩ := h3 k1
        rw [q1, (e4 (.inr rfl)).1]
        exact fun e => absurd (congrArg (fun v => match v with | Value.pointer (some q) => q.block | _ => 0) e) (show g ≠ w.heap.size by omega)
      · rw [updV_other e, updV_other e']
        simp [e] at k1
        simp [e'] at k2
        exact h5 k1 k2
def R1P (N : Nat) (A B A' B' : Array Value) (i : Nat) (vs : Nat → Value) (w : World) (v : Value) : Prop :=
  (i = 4 ∨ i = 5 → ∃ g c, v = .pointer (some ⟨g, 0, none⟩) ∧ N ≤ g ∧ Blk w g c 30 ∧ c.size = 3) ∧ (i = 6 → ∃ g, vs 4 = .pointer (some ⟨g, 0, none⟩) ∧ N ≤ g ∧ Blk w g A' 30) ∧ (i = 7 → ∃ g, vs 5 = .pointer (some ⟨g, 0, none⟩) ∧ N ≤ g ∧ Blk w g B' 30) ∧ (i = 0 → v = .agg A) ∧ (i = 1 → v = .agg A') ∧ (i = 2 → v = .agg B) ∧ (i = 3 → v = .agg B')
theorem R1P.stay {N : Nat} {A B A' B' : Array Value} {i j : Nat} {vs : Nat → Value} {w w' : World} {u v : Value} (hE : R1E N i vs w w' u) (hij : i ≠ j) (h : R1P N A B A' B' j vs w v) : R1P N A B A' B' j vs w' v := by
  obtain ⟨h1, h2, h3, h4⟩ := h
  obtain ⟨e1, e2, e3, _⟩ := hE
  refine ⟨fun k => ?_, fun k => ?_, fun k => ?_, h4⟩
  · obtain ⟨g, c, q1, q2, q3, q4⟩ := h1 k
    obtain ⟨c', q5, q6⟩ := e3 g c q3 q4
    exact ⟨g, c', q1, q2, q5, q6⟩
  · obtain ⟨g, q1, q2, q3⟩ := h2 k
    refine ⟨g, q1, q2, ?_⟩
    by_cases k2 : i = 6 ∨ i = 7
    · obtain ⟨g', c', _, r1, r2, _, _, r5⟩ := e2 k2
      have i7 : i = 7 := k2.resolve_left (fun e => hij (e.trans k.symm))
      refine q3.grown r5 (fun e => r2 ?_)
      rw [q1, r1 i7, Option.some.inj e]
    · exact q3.belowSize (e1 (fun e => k2 (.inl e)) (fun e => k2 (.inr e)))
  · obtain ⟨g, q1, q2, q3⟩ := h3 k
    refine ⟨g, q1, q2, ?_⟩
    by_cases k2 : i = 6 ∨ i = 7
    · obtain ⟨g', c', r0, _, r2, _, _, r5⟩ := e2 k2
      have i6 : i = 6 := k2.resolve_right (fun e => hij (e.trans k.symm))
      refine q3.grown r5 (fun e => r2 ?_)
      rw [q1, r0 i6, Option.some.inj e]
    · exact q3.belowSize (e1 (fun e => k2 (.inl e)) (fun e => k2 (.inr e)))
end Go.Proofs.YtjfpfkiccbcedaaGreatDoor
namespace Go.Proofs.YtjfpfkiccbcedaaGreatDoor
open Go Go.RowKit
/-- Where the rest of a slice lies. -/
def fromA (a : Option Addr) (cap k : Nat) : Option Addr := if cap = k then a else a.map (·.add (k * 3))
theorem sliceFrom (a : Option Addr) (n cap k : Nat) (hk : k ≤ n) (w : World) : (Instr.sliceAt 28 (.slice a n cap) (some (.int .i64 (k : Nat))) none none).run Tryz.prog w = .ok (.slice (fromA a cap k) (n - k) (cap - k)) w := by
  simp [Instr.sliceAt, Instr.slice, run_underlying Tryz.underlying28, Instr.sliceBounds, Instr.sliceBound, asIntOf, sizeOf_run zTx.2, Sem.run_bind, hk, fromA]
theorem TA.drop {w : World} {a : Option Addr} {l : List TX} {cap k : Nat} (h : TA w a l) (hk : k ≤ l.length) (hc : l.length ≤ cap) : TA w (fromA a cap k) (l.drop k) := fun i hi => by
  rw [List.length_drop] at hi
  have hlt : k + i < l.length := by omega
  obtain ⟨g, o, sa, cp, ha, hr, h2⟩ := h (k + i) hlt
  subst ha
  refine ⟨g, o + k * 3, sa, cp, ?_, ?_, ?_⟩
  · unfold fromA
    rw [if_neg (by omega)]
    simp [Addr.add]
  · rw [List.getElem_drop, show o + k * 3 + i * 3 = o + (k + i) * 3 from by omega]
    exact hr
  · rw [List.getElem_drop]
    exact h2
section
variable {op : Oper} {a : Act} {w : World}
theorem run_sliceFrom (x y : Operand) (ho : op.op = .slice 28 x (some y) none none) (s : Option Addr) (n cap k : Nat) (hx : a.eval x = .slice s n cap) (hy : a.eval y = .int .i64 (k : Nat)) (hk : k ≤ n) : (execOp a.eval op).run Tryz.prog w = .ok (.value (.slice (fromA s cap k) (n - k) (cap - k))) w := by
  unfold execOp
  simp only [ho, Option.map_some, Option.map_none, hx, hy]
  simp only [Sem.run_bind, sliceFrom s n cap k hk, Result.andThen_ok]
  rfl
theorem run_fieldAddr (ty : TypeId) (x : Operand) (f : Nat) (ho : op.op = .fieldAddr ty x f) (v r : Value) (hx : a.eval x = v) (h : (Instr.fieldAt ty v f).run Tryz.prog w = .ok r w) : (execOp a.eval op).run Tryz.prog w = .ok (.value r) w := by
  unfold execOp
  simp only [ho, hx]
  simp only [Sem.run_bind, h, Result.andThen_ok]
  rfl
end
end Go.Proofs.YtjfpfkiccbcedaaGreatDoor
namespace Go.Proofs.YtjfpfkiccbcedaaGreatDoor
open Go Go.RowKit
theorem Sz.sml {m : List KV} (h : Sz m) : Sml m := fun p hp => by have := h.each p hp; omega
theorem rb17_ok {l : List TX} (hl : l.length ≤ 17) (hok : ∀ x ∈ l, OkL x) : rb17 l = l := by
  unfold rb17
  rw [List.take_of_length_le hl]
  have e : l.map cut9 = l.map id := List.map_congr_left fun x hx => by
    have := (hok x hx).len1
    unfold cut9
    rw [List.take_of_length_le (by omega)]
    rfl
  rw [e, List.map_id]
/-- The bytes of a block. -/
def bB (h : HH) (l : List TX) : List UInt8 := hB h ++ batB ⟨l, false, []⟩
theorem bB_head {h h' : HH} (l : List TX) (k : OkH h) (k' : OkH h') (n : h.height < 18446744073709551616) (n' : h'.height < 18446744073709551616) (hne : h' ≠ h) : bB h' l ≠ bB h l := fun e => hne (hB_inj k' k n' n (List.append_cancel_right e))
theorem bB_count (h : HH) {l l' : List TX} (hl : l.length ≤ 17) (hl' : l'.length ≤ 17) (hne : l'.length ≠ l.length) : bB h l' ≠ bB h l := fun e => by
  have e2 : (0 :: num l'.length 4) ++ txsB l' = (0 :: num l.length 4) ++ txsB l := List.append_cancel_left e
  have e3 := (List.append_inj e2 (by simp [num_length])).1
  have e4 := congrArg val (List.cons.inj e3).2
  rw [val_num, val_num] at e4
  exact hne (by omega)
theorem turn_ne : ∀ (r : List UInt8) (x y : UInt8), r ++ [y] = x :: r → y = x
  | [], x, y, h => by simpa using h
  | a :: r, x, y, h => by
    rw [List.cons_append] at h
    obtain ⟨h1, h2⟩ := List.cons.inj h
    exact (turn_ne r a y h2).trans h1
theorem xor1_ne (x : UInt8) : x ^^^ 1 ≠ x := fun e => by
  have h : x ^^^ (x ^^^ 1) = x ^^^ x := congrArg (x ^^^ ·) e
  rw [← UInt8.xor_assoc, UInt8.xor_self, UInt8.zero_xor] at h
  exact absurd h (by decide)
/-- What is known of a block that was made. -/
structure YOk (m : List KV) (t : Tr) (p : List UInt8) (mem : List Int) (h : HH) (l : List TX) : Prop where
  head : hMk m t l 2 p h.mem = h
  all : exD m l = l
  ok : ∀ x ∈ l, okTx x = true
  len : l.length ≤ 16
  okh : OkH h
  kind : h.mem = mem ∨ l = []
theorem YOk.height {m : List KV} {t : Tr} {p : List UInt8} {mem : List Int} {h : HH} {l : List TX} (k : YOk m t p mem h l) : h.height = 2 := by rw [← k.head]; rfl
theorem YOk.right {m : List KV} {t : Tr} {p : List UInt8} {mem : List Int} {h : HH} {l : List TX} (k : YOk m t p mem h l) : RightB m t 2 p mem h l := ⟨k.kind, k.ok, k.len, k.head, k.all⟩
/-- What the other block is. -/
structure ZOk (od : Int) (m : List KV) (t : Tr) (p : List UInt8) (mem : List Int) (h : HH) (l : List TX) (h' : HH) (l' : List TX) : Prop where
  okh : OkH h'
  lt : h'.height < 18446744073709551616
  okl : ∀ x ∈ l', OkL x
  len : l'.length ≤ 17
  way : (h' = h ∧ l' = l) ∨ (bB h' l' ≠ bB h l ∧ ((od.tmod 7 ≠ 6 ∧ ¬ RightB m t 2 p mem h' l') ∨ (od.tmod 7 = 6 ∧ (∀ x ∈ l', okTx x = true) ∧ l'.length ≤ 16 ∧ (rootD Sh.digest (bys l') ≠ h'.txr → ¬ RightB m t 2 p mem h' l'))))
section
variable {od : Int} {m : List KV} {t : Tr} {p : List UInt8} {mem : List Int} {h : HH} {l : List TX}
theorem YOk.lt (k : YOk m t p mem h l) : h.height < 18446744073709551616 := by rw [k.height]; decide
theorem YOk.okl (k : YOk m t p mem h l) : ∀ x ∈ l, OkL x := fun x hx => (okTx_of (k.ok x hx)).l
theorem YOk.same (k : YOk m t p mem h l) : ZOk od m t p mem h l h l := ⟨k.okh, k.lt, k.okl, by have := k.len; omega, .inl ⟨rfl, rfl⟩⟩
theorem YOk.other (k : YOk m t p mem h l) (ho : od.tmod 7 ≠ 6) {h' : HH} (k' : OkH h') (hlt : h'.height < 18446744073709551616) (hne : h' ≠ h) (hm : h'.mem = h.mem) : ZOk od m t p mem h l h' l :=
  ⟨k', hlt, k.okl, by have := k.len; omega, .inr ⟨bB_head l k.okh k' k.lt hlt hne, .inl ⟨ho, fun r => hne (by rw [← r.head, hm, k.head])⟩⟩⟩
theorem ZOk.two {h' : HH} {l' : List TX} (k : ZOk od m t p mem h l h' l') {ch : Bool} (hch : ch = decide (bB h' l' ≠ bB h l)) : (ch = false ∧ h' = h ∧ l' = l) ∨ (ch = true ∧ od.tmod 7 ≠ 6 ∧ ¬ RightB m t 2 p mem h' l') ∨ (ch = true ∧ od.tmod 7 = 6 ∧ (∀ x ∈ l', okTx x = true) ∧ l'.length ≤ 16 ∧ (rootD Sh.digest (bys l') ≠ h'.txr → ¬ RightB m t 2 p mem h' l')) := by
  rcases k.way with ⟨rfl, rfl⟩ | ⟨hne, hw | hw⟩
  · exact .inl ⟨by rw [hch]; simp, rfl, rfl⟩
  · exact .inr (.inl ⟨by rw [hch]; simpa using hne, hw⟩)
  · exact .inr (.inr ⟨by rw [hch]; simpa using hne, hw⟩)
theorem YOk.higher (k : YOk m t p mem h l) (ho : od.tmod 7 ≠ 6) : ZOk od m t p mem h l ⟨3, h.prev, h.txr, h.str, h.mem⟩ l :=
  k.other ho ⟨(by decide : (3 : Nat) ≠ 0), k.okh.p, k.okh.t, k.okh.s, k.okh.m⟩ (by decide : (3 : Nat) < 18446744073709551616) (fun e => by have := k.height; rw [← e] at this; cases this) rfl
theorem YOk.prev (k : YOk m t p mem h l) (ho : od.tmod 7 ≠ 6) {x : UInt8} {r : List UInt8} (hp : h.prev = x :: r) : ZOk od m t p mem h l ⟨2, r ++ [x ^^^ 1], h.txr, h.str, h.mem⟩ l :=
  k.other ho ⟨(by decide : (2 : Nat) ≠ 0), by have := k.okh.p; rw [hp] at this; simp at this ⊢; exact this, k.okh.t, k.okh.s, k.okh.m⟩ (by decide : (2 : Nat) < 18446744073709551616) (fun e => by
    have e1 := congrArg HH.prev e
    rw [hp] at e1
    exact xor1_ne x (turn_ne r x _ e1)) rfl
theorem YOk.txr (k : YOk m t p mem h l) (ho : od.tmod 7 ≠ 6) {x : UInt8} {r : List UInt8} (hp : h.txr = x :: r) : ZOk od m t p mem h l ⟨2, h.prev, (x ^^^ 1) :: r, h.str, h.mem⟩ l :=
  k.other ho ⟨(by decide : (2 : Nat) ≠ 0), k.okh.p, by have := k.okh.t; rw [hp] at this; simpa using this, k.okh.s, k.okh.m⟩ (by decide : (2 : Nat) < 18446744073709551616) (fun e => by
    have e1 := congrArg HH.txr e
    rw [hp] at e1
    exact xor1_ne x (List.cons.inj e1).1) rfl
theorem YOk.str (k : YOk m t p mem h l) (ho : od.tmod 7 ≠ 6) {x : UInt8} {r : List UInt8} (hp : h.str = x :: r) : ZOk od m t p mem h l ⟨2, h.prev, h.txr, (x ^^^ 1) :: r, h.mem⟩ l :=
  k.other ho ⟨(by decide : (2 : Nat) ≠ 0), k.okh.p, k.okh.t, by have := k.okh.s; rw [hp] at this; simpa using this, k.okh.m⟩ (by decide : (2 : Nat) < 18446744073709551616) (fun e => by
    have e1 := congrArg HH.str e
    rw [hp] at e1
    exact xor1_ne x (List.cons.inj e1).1) rfl
theorem YOk.more (k : YOk m t p mem h l) (ho : od.tmod 7 ≠ 6) : ZOk od m t p mem h l h (l ++ [⟨0, 0, []⟩]) :=
  ⟨k.okh, k.lt, fun x hx => by
    rcases List.mem_append.1 hx with hx | hx
    · exact k.okl x hx
    · rw [List.mem_singleton] at hx
      subst hx
      exact ⟨by decide, fun ho => by cases ho⟩, by have := k.len; rw [List.length_append]; simp; omega, .inr ⟨bB_count h (by have := k.len; omega) (by have := k.len; rw [List.length_append]; simp; omega) (by rw [List.length_append]; simp), .inl ⟨ho, fun r => by
      have := r.ok ⟨0, 0, []⟩ (List.mem_append_right _ (List.mem_singleton.2 rfl))
      exact absurd this (by decide)⟩⟩⟩
theorem YOk.less (k : YOk m t p mem h l) (ho : od.tmod 7 = 6) {x : TX} {r : List TX} (hl : l = x :: r) : ZOk od m t p mem h l h r := by
  have hlen := k.len
  have hok := k.ok
  have hokl := k.okl
  rw [hl, List.length_cons] at hlen
  rw [hl] at hok hokl
  exact ⟨k.okh, k.lt, fun y hy => hokl y (List.mem_cons_of_mem _ hy), by omega, .inr ⟨by
    rw [hl]
    exact bB_count h (by rw [List.length_cons]; omega) (by omega) (by rw [List.length_cons]; omega), .inr ⟨ho, fun y hy => hok y (List.mem_cons_of_mem _ hy), by omega, fun hne q => hne (by
      have e1 := congrArg HH.txr q.head
      have e2 : rootD Sh.digest (bys (exD m r)) = h.txr := e1
      rw [q.all] at e2
      exact e2)⟩⟩⟩
end
/-- Three blocks lie in memory. -/
structure S3 (gz gy gx : Nat) (cz cy cx : Array Value) (w : World) : Prop where
  z : Blk w gz cz 46
  y : Blk w gy cy 46
  x : Blk w gx cx 46
theorem S3.below {gz gy gx : Nat} {cz cy cx : Array Value} {w w' : World} (h : S3 gz gy gx cz cy cx w) (hb : Below w.heap.size w w') : S3 gz gy gx cz cy cx w' := ⟨h.z.belowSize hb, h.y.belowSize hb, h.x.belowSize hb⟩
/-- What is known behind the switch. -/
def ZC (w3 : World) (gz : Nat) (od : Int) (m : List KV) (t : Tr) (p : List UInt8) (mem : List Int) (h : HH) (l : List TX) (wz : World) : Prop :=
  ∃ h' l' gm cm a cap, ZOk od m t p mem h l h' l' ∧ Blk wz gz (bk h'.height h'.prev h'.txr h'.str (.slice (some ⟨gm, 0, none⟩) h'.mem.length cm) (.slice a l'.length cap)) 46 ∧ IA wz (some ⟨gm, 0, none⟩) h'.mem ∧ TA wz a l' ∧ Below w3.heap.size w3 wz
/-- What Make leaves is right. -/
theorem yok_make {m : List KV} {t : Tr} {B : BT} (hB : chkB B = 0) {p : List UInt8} (hp : p.length = 32) {mem : List Int} (hm : okM mem = true) : YOk m t p mem ⟨2, p, rootD Sh.digest (bys (exD m B.txs)), (exR m t B.txs).hash Sh.TgD, if B.conf = true then B.mem else mem⟩ (exD m B.txs) := by
  obtain ⟨h1, h2, h3, h4⟩ := chkB_zero hB
  obtain ⟨e1, e2, e3⟩ := ex_again m t B.txs
  refine ⟨?_, e3, fun x hx => h1 x (exD_mem hx), Nat.le_trans (exD_len _ _) h2, ⟨(by decide : (2 : Nat) ≠ 0), hp, root_len Sh.digest Sh.digest_length _, Sh.hashT_len _, ?_⟩, ?_⟩
  · unfold hMk
    rw [e2, e3]
  · apply okM_iff.1
    show okM (if B.conf = true then B.mem else mem) = true
    by_cases hc : B.conf = true
    · rw [if_pos hc]; exact (h3 hc).2
    · rw [if_neg hc]; exact hm
  · by_cases hc : B.conf = true
    · right
      rw [(h3 hc).1]
      rfl
    · left
      exact if_neg hc
theorem GL_cap {w : World} {t : TypeId} {k lo n cap : Nat} {a : Option Addr} {ls : List (List Value)} (h : Sh.GL w t k lo (.slice a n cap) ls) : n ≤ cap := by
  rcases h.2 with ⟨_, e⟩ | ⟨g, c, _, e, h3⟩
  · cases e; exact Nat.le_refl _
  · cases e
    obtain ⟨cur, _, h4, _⟩ := h3.out
    exact h4
theorem CB.gl {w w1 : World} {g : Nat} {l : List Int} {t : TypeId} {k lo : Nat} {sl : Value} {ls : List (List Value)} (h : CB w g l) (hG : Sh.GL w t k lo sl ls) (ht : 3 ≠ t) (hg : w.grownBy w1 (Sh.slBlk sl)) : CB w1 g l := by
  obtain ⟨c, k1, k2⟩ := h.out
  exact ⟨c, k1.grown hg (fun e => hG.ne (Blk.sh k1) (.inl ht) g e.symm rfl), k2⟩
theorem Blk.gl {w w1 : World} {g : Nat} {c : Array Value} {u t : TypeId} {k lo : Nat} {sl : Value} {ls : List (List Value)} (h : Blk w g c u) (hG : Sh.GL w t k lo sl ls) (ht : u ≠ t) (hg : w.grownBy w1 (Sh.slBlk sl)) : Blk w1 g c u := h.grown hg (fun e => hG.ne (Blk.sh h) (.inl ht) g e.symm rfl)
/-- What stays where an empty transaction is put behind. -/
theorem app_more {w3 w w1 : World} {gz gm lo : Nat} {c : Array Value} {mem : List Int} {l : List TX} {a : Option Addr} {n cap : Nat} {sl1 : Value} {dls : List (List Value)} (hG : Sh.GL w 60 3 lo (.slice a n cap) dls) (hT : TXL w 0 90 dls l) (hz : Blk w gz c 46) (hC : CB w gm mem) (hX : Below w3.heap.size w3 w) (hlo : w3.heap.size ≤ lo)
    (hg : w.grownBy w1 (Sh.slBlk (.slice a n cap))) (hG1 : Sh.GL w1 60 3 lo sl1 (dls ++ [(txc 0 0 (.slice none 0 0)).toList])) :
    Blk w1 gz c 46 ∧ CB w1 gm mem ∧ Below w3.heap.size w3 w1 ∧ ∃ l5 sb sbc, Hid (l5 = l ++ [⟨0, 0, []⟩]) ∧ sl1 = .slice sb l5.length sbc ∧ TA w1 sb l5 := by
  have hT1 := (hT.snoc (⟨0, 0, []⟩ : TX) none 0 (SL.nil _ _) (NB.none _ _ _) (by decide) (by decide)).grown hg (GLbeside hG (Nat.zero_le _) (by decide))
  obtain ⟨sb, sbc, e, hTA⟩ := TXL.ta hG1 hT1
  exact ⟨hz.gl hG (by decide) hg, hC.gl hG (by decide) hg, hX.trans (below_row hg (fun r e => Nat.le_trans hlo (hG.lt r e).1) hX.size), _, sb, sbc, rfl, e, hTA⟩
theorem builtTx0 : Tryz.prog.built 60 [] = some (txc 0 0 (.slice none 0 0)) := by kernel_rfl
theorem beqD {α : Type} [BEq α] [LawfulBEq α] [DecidableEq α] (a b : α) : (a == b) = decide (a = b) := by by_cases h : a = b <;> simp [h]
section
variable {op : Oper} {a : Act} {w : World}
theorem run_tail1 {x : Operand} {b : UInt8} {r : List UInt8} {y : Operand} (ho : op.op = .slice 9 x (some y) none none) (hx : a.eval x = .string ⟨(b :: r).toArray⟩) (hy : a.eval y = .int .i64 1) : (execOp a.eval op).run Tryz.prog w = .ok (.value (.string ⟨r.toArray⟩)) w := by
  unfold execOp
  simp only [ho, Option.map_some, Option.map_none, hx, hy]
  simp [Instr.sliceAt, Instr.slice, go_sem]
  rw [if_pos (by omega), extract_dropTo (b :: r) 1 (r.length + 1) rfl]
  rfl
theorem run_head1 {x : Operand} {b : UInt8} {r : List UInt8} {y : Operand} (ho : op.op = .index 9 x y) (hx : a.eval x = .string ⟨(b :: r).toArray⟩) (hy : a.eval y = .int .i64 0) : (execOp a.eval op).run Tryz.prog w = .ok (.value (.int .u8 (Sh.n8 b))) w := by
  unfold execOp
  simp only [ho, hx, hy]
  simp [Instr.index, go_sem]
  rfl
theorem run_xor1 {x : Operand} {b : UInt8} {y : Operand} (ho : op.op = .binOp .xor 5 x y 5) (hx : a.eval x = .int .u8 (Sh.n8 b)) (hy : a.eval y = .int .u8 1) : (execOp a.eval op).run Tryz.prog w = .ok (.value (.int .u8 (Sh.n8 (b ^^^ 1)))) w := by
  unfold execOp
  simp only [ho, hx, hy]
  simp [go_sem]
  exact Sh.bits_xor8 b 1
theorem fieldRBk (ht : Nat) (p t s : List UInt8) (a a2 : Option Addr) (n cap n2 cap2 : Nat) (w : World) : (Instr.field 63 (.agg (bk ht p t s (.slice a2 n2 cap2) (.slice a n cap))) 1).run Tryz.prog w = .ok (.slice a n cap) w := by kernel_rfl
theorem run_fieldRBk {x : Operand} {ht : Nat} {p t s : List UInt8} {a1 a2 : Option Addr} {n cap n2 cap2 : Nat} (ho : op.op = .field 63 x 1) (hx : a.eval x = .agg (bk ht p t s (.slice a2 n2 cap2) (.slice a1 n cap))) : (execOp a.eval op).run Tryz.prog w = .ok (.value (.slice a1 n cap)) w := by
  unfold execOp
  simp only [ho, hx, Sem.run_bind, fieldRBk, Result.andThen_ok]
  rfl
theorem run_neqS {x y : Operand} {s t : List UInt8} (ho : op.op = .binOp .neq 9 x y 9) (hx : a.eval x = .string ⟨s.toArray⟩) (hy : a.eval y = .string ⟨t.toArray⟩) : (execOp a.eval op).run Tryz.prog w = .ok (.value (.bool (decide (s ≠ t)))) w := by
  unfold execOp
  simp only [ho, hx, hy]
  simp [go_sem]
  exact beqD _ _
theorem run_eqlS {x y : Operand} {s t : List UInt8} (ho : op.op = .binOp .eql 9 x y 9) (hx : a.eval x = .string ⟨s.toArray⟩) (hy : a.eval y = .string ⟨t.toArray⟩) : (execOp a.eval op).run Tryz.prog w = .ok (.value (.bool (decide (s = t)))) w := by
  unfold execOp
  simp only [ho, hx, hy]
  simp [go_sem]
  exact beqD _ _
theorem run_rem7 {x y : Operand} {n : Int} (ho : op.op = .binOp .rem 3 x y 3) (hx : a.eval x = .int .i64 n) (hy : a.eval y = .int .i64 7) : (execOp a.eval op).run Tryz.prog w = .ok (.value (.int .i64 (n.tmod 7))) w := by
  unfold execOp
  simp only [ho, hx, hy]
  simp [go_sem]
theorem run_eql6 {x y : Operand} {n : Int} (ho : op.op = .binOp .eql 3 x y 3) (hx : a.eval x = .int .i64 n) (hy : a.eval y = .int .i64 6) : (execOp a.eval op).run Tryz.prog w = .ok (.value (.bool (decide (n = 6)))) w := by
  unfold execOp
  simp only [ho, hx, hy]
  simp [go_sem]
  exact beqD _ _
theorem run_cat {x y : Operand} {s t : List UInt8} (ho : op.op = .binOp .add 9 x y 9) (hx : a.eval x = .string ⟨s.toArray⟩) (hy : a.eval y = .string ⟨t.toArray⟩) (hl : s.length + t.length ≤ 1000) : (execOp a.eval op).run Tryz.prog w = .ok (.value (.string ⟨(s ++ t).toArray⟩)) w := by
  unfold execOp
  simp only [ho, hx, hy]
  simp [go_sem]
  rw [if_neg (by omega)]
  rfl
end
namespace Sh
section
variable {P : Program} {md : Region.Mode} {ops : Array Oper} {Q : Exit → Act → World → Prop} {S : World → Prop} {z : Nat}
/-- One alone may come up: by a law of lists. -/
theorem wpAnyL_list {i : Nat} {o : Oper} {fuel : Nat} {listed : Array Bool} {a : Act} {w : World} (ho : ops[i]? = some o) (hr : Region.ready md ops listed = [i])
    (h : ∀ K : Act → World → Prop, (∀ a w, (i ≠ z → S w) → wpAnyL P md ops Q S z fuel (listed.setIfInBounds i true) a w → K a w) → wpList P ops (QK Q K) [o] a w) : wpAnyL P md ops Q S z (fuel + 1) listed a w :=
  ⟨(fun h0 => absurd (hr ▸ h0) (List.cons_ne_nil _ _)), fun j hj => by
    rw [hr] at hj
    obtain rfl := List.mem_singleton.1 hj
    exact wpOp_list ho (h _ (fun a w hS hW => ⟨hS, hW⟩))⟩
end
end Sh
end Go.Proofs.YtjfpfkiccbcedaaGreatDoor
