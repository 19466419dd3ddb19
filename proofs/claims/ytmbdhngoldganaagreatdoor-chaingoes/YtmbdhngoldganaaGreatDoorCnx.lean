/- A chain in memory: what it has, and what stays when it goes on. What Genesis and New of a chain do. A region that draws its order, by laws of lists: one that may come up, or two. What New of a chain does. -/
import Derived.Test.YtmbdhngoldganaaGreatDoorCbl
import Derived.Test.YtmbdhngoldganaaGreatDoorHht
import Derived.Test.YtmbdhngoldganaaGreatDoorRgn
import Derived.Test.YtmbdhngoldganaaGreatDoorLft
namespace Go.Proofs.YtmbdhngoldganaaGreatDoor
open Go Go.RowKit
/-- A block plainly. -/
structure BK where
  h : HH
  txs : List TX
/-- A chain plainly. -/
structure CN where
  name : List UInt8
  first : List Int
  ht : Nat
  hash : List UInt8
  mem : List Int
  m : List KV
  t : Tr
  kept : List BK
/-- The cells of a chain, and of where one stands. -/
def chC (name : List UInt8) (sf : Value) (ht : Nat) (hash : List UInt8) (sm : Value) (bs bt : Nat) (sk : Value) : Array Value :=
  #[.string ⟨name.toArray⟩, sf, .int .u64 (ht : Nat), .string ⟨hash.toArray⟩, sm, .pointer (some ⟨bs, 0, none⟩), .pointer (some ⟨bt, 0, none⟩), sk]
def tpC (ht : Nat) (hash : List UInt8) (sm : Value) : Array Value := #[.int .u64 (ht : Nat), .string ⟨hash.toArray⟩, sm]
theorem chC_size (name : List UInt8) (sf : Value) (ht : Nat) (hash : List UInt8) (sm : Value) (bs bt : Nat) (sk : Value) : (chC name sf ht hash sm bs bt sk).size = 8 := rfl
theorem chC_g0 (name : List UInt8) (sf : Value) (ht : Nat) (hash : List UInt8) (sm : Value) (bs bt : Nat) (sk : Value) : (chC name sf ht hash sm bs bt sk)[0]? = some (.string ⟨name.toArray⟩) := rfl
theorem chC_g1 (name : List UInt8) (sf : Value) (ht : Nat) (hash : List UInt8) (sm : Value) (bs bt : Nat) (sk : Value) : (chC name sf ht hash sm bs bt sk)[1]? = some sf := rfl
theorem chC_g2 (name : List UInt8) (sf : Value) (ht : Nat) (hash : List UInt8) (sm : Value) (bs bt : Nat) (sk : Value) : (chC name sf ht hash sm bs bt sk)[2]? = some (.int .u64 (ht : Nat)) := rfl
theorem chC_g3 (name : List UInt8) (sf : Value) (ht : Nat) (hash : List UInt8) (sm : Value) (bs bt : Nat) (sk : Value) : (chC name sf ht hash sm bs bt sk)[3]? = some (.string ⟨hash.toArray⟩) := rfl
theorem chC_g4 (name : List UInt8) (sf : Value) (ht : Nat) (hash : List UInt8) (sm : Value) (bs bt : Nat) (sk : Value) : (chC name sf ht hash sm bs bt sk)[4]? = some sm := rfl
theorem chC_g5 (name : List UInt8) (sf : Value) (ht : Nat) (hash : List UInt8) (sm : Value) (bs bt : Nat) (sk : Value) : (chC name sf ht hash sm bs bt sk)[5]? = some (.pointer (some ⟨bs, 0, none⟩)) := rfl
theorem chC_g6 (name : List UInt8) (sf : Value) (ht : Nat) (hash : List UInt8) (sm : Value) (bs bt : Nat) (sk : Value) : (chC name sf ht hash sm bs bt sk)[6]? = some (.pointer (some ⟨bt, 0, none⟩)) := rfl
theorem chC_g7 (name : List UInt8) (sf : Value) (ht : Nat) (hash : List UInt8) (sm : Value) (bs bt : Nat) (sk : Value) : (chC name sf ht hash sm bs bt sk)[7]? = some sk := rfl
theorem chC_set7 (name : List UInt8) (sf : Value) (ht : Nat) (hash : List UInt8) (sm : Value) (bs bt : Nat) (sk sk' : Value) : (chC name sf ht hash sm bs bt sk).setIfInBounds 7 sk' = chC name sf ht hash sm bs bt sk' := rfl
theorem tpC_size (ht : Nat) (hash : List UInt8) (sm : Value) : (tpC ht hash sm).size = 3 := rfl
theorem tpC_one (ht : Nat) (hash : List UInt8) (a : Option Addr) (n cap : Nat) : (tpC ht hash (.slice a n cap)).all (·.oneCell') = true := by simp [tpC, Value.oneCell']
theorem tpC_set2 (ht : Nat) (hash : List UInt8) (sm sm' : Value) : (tpC ht hash sm).setIfInBounds 2 sm' = tpC ht hash sm' := rfl
theorem chC_tip {w : World} {b : Nat} {name : List UInt8} {sf : Value} {ht : Nat} {hash : List UInt8} {sm : Value} {bs bt : Nat} {sk : Value} {ty : TypeId} (h : Blk w b (chC name sf ht hash sm bs bt sk) ty) : w.rangeAt b 2 (tpC ht hash sm).toList := fun j v hv => by
  rw [h.cell]
  have hj : j < 3 := (List.getElem?_eq_some_iff.1 hv).1
  rw [← hv]
  rcases (show j = 0 ∨ j = 1 ∨ j = 2 by omega) with rfl | rfl | rfl <;> rfl
theorem zTip : (∀ w, (zeroValue 39).run Tryz.prog w = .ok (.agg (tpC 0 [] (.slice none 0 0))) w) ∧ (Tryz.prog.info? 39).map (·.size) = some 3 := zero_of_info (by kernel_rfl)
theorem tpC_info (ht : Nat) (hash : List UInt8) (sm : Value) : (Tryz.prog.info? 39).map (·.size) = some (tpC ht hash sm).size := zTip.2
/-- What stays but the blocks of O. -/
structure Own (O : Nat → Prop) (w w' : World) : Prop where
  os : w'.os = w.os
  tape : w'.tape = w.tape
  output : w'.output = w.output
  size : w.heap.size ≤ w'.heap.size
  block : ∀ k, k < w.heap.size → ¬ O k → w'.heap[k]? = w.heap[k]?
theorem Own.trans {O O' : Nat → Prop} {a b c : World} (h : Own O a b) (k : Own O' b c) (hO : ∀ i, i < a.heap.size → O' i → O i) : Own O a c :=
  ⟨k.os.trans h.os, k.tape.trans h.tape, k.output.trans h.output, Nat.le_trans h.size k.size, fun i hi hn => (k.block i (Nat.lt_of_lt_of_le hi h.size) (fun e => hn (hO i hi e))).trans (h.block i hi hn)⟩
theorem Own.of_below {O : Nat → Prop} {w w' : World} (h : Below w.heap.size w w') : Own O w w' := ⟨h.os, h.tape, h.output, h.size, fun i hi _ => h.block i hi⟩
theorem Own.of_two {bs bt : Nat} {w w' : World} (h : Two bs bt w w') : Own (fun i => i = bs ∨ i = bt) w w' := ⟨h.os, h.tape, h.output, h.size, fun i hi hn => h.block i hi (fun e => hn (.inl e)) (fun e => hn (.inr e))⟩
theorem Own.of_grown {w w' : World} {row : Option Nat} (h : w.grownBy w' row) : Own (fun i => some i = row) w w' := ⟨h.os, h.tape, h.output, h.size, fun i hi hn => h.block i hi hn⟩
theorem Own.below {O : Nat → Prop} {w w' : World} {N : Nat} (h : Own O w w') (hO : ∀ i, i < w.heap.size → O i → N ≤ i) (hN : N ≤ w.heap.size) : Below N w w' :=
  ⟨h.os, h.tape, h.output, h.size, fun i hi => h.block i (by omega) (fun e => by have := hO i (by omega) e; omega)⟩
theorem Blk.own {O : Nat → Prop} {w w' : World} {b : Nat} {c : Array Value} {t : TypeId} (h : Blk w b c t) (k : Own O w w') (hn : ¬ O b) : Blk w' b c t := ⟨(k.block b h.lt hn).trans h.out⟩
/-- Numbers, transactions and operations stay where they lie. -/
structure Stay (w w' : World) : Prop where
  size : w.heap.size ≤ w'.heap.size
  all : ∀ (i : Nat) (c : Array Value) (t : TypeId) fr, w.heap[i]? = some (.cells c t fr) → t = 3 ∨ t = 95 ∨ t = 97 → w'.heap[i]? = some (.cells c t fr)
theorem Stay.trans {a b c : World} (h : Stay a b) (k : Stay b c) : Stay a c := ⟨Nat.le_trans h.size k.size, fun i x t fr h1 h2 => k.all i x t fr (h.all i x t fr h1 h2) h2⟩
theorem Stay.of_own {O : Nat → Prop} {w w' : World} (h : Own O w w') (hO : ∀ i, i < w.heap.size → O i → ∃ c u fr, w.heap[i]? = some (.cells c u fr) ∧ u ≠ 3 ∧ u ≠ 95 ∧ u ≠ 97) : Stay w w' :=
  ⟨h.size, fun i c t fr h1 h2 => by
    have hi : i < w.heap.size := (Array.getElem?_eq_some_iff.1 h1).1
    refine (h.block i hi (fun e => ?_)).trans h1
    obtain ⟨c', u, fr', h3, h4, h5, h6⟩ := hO i hi e
    rw [h1] at h3
    simp only [Option.some.injEq, Obj.cells.injEq] at h3
    obtain ⟨_, rfl, _⟩ := h3
    rcases h2 with h | h | h
    · exact h4 h
    · exact h5 h
    · exact h6 h⟩
theorem Stay.of_below {w w' : World} (h : Below w.heap.size w w') : Stay w w' := .of_own (O := fun _ => False) (.of_below h) (fun _ _ e => e.elim)
theorem CB.stay {w w' : World} {g : Nat} {l : List Int} (h : CB w g l) (k : Stay w w') : CB w' g l := by
  obtain ⟨c, fr, h1, h2⟩ := h.out
  exact ⟨c, fr, k.all g c _ _ h1 (.inl rfl), h2⟩
theorem GLtx.stay {w w' : World} {k lo : Nat} {sl : Value} {ls : List (List Value)} (h : Sh.GL w 95 k lo sl ls) (hs : Stay w w') : Sh.GL w' 95 k lo sl ls := by
  refine ⟨h.1, ?_⟩
  rcases h.2 with h2 | ⟨g, cap, h2, h3, h4⟩
  · exact .inl h2
  · obtain ⟨cur, k1, k2⟩ := h4.out
    exact .inr ⟨g, cap, h2, h3, ⟨cur, hs.all g cur _ _ k1 (.inr (.inl rfl)), k2⟩⟩
theorem TXL.stay {w w' : World} {ls : List (List Value)} {l : List TX} (h : TXL w 0 97 ls l) (k : Stay w w') : TXL w' 0 97 ls l := by
  refine ⟨h.len, fun i hi => ?_⟩
  obtain ⟨sa, cap, h1, h2, h3, h4, h5⟩ := h.each i hi
  refine ⟨sa, cap, h1, fun j hj => ?_, fun g o hs => ?_, h4, h5⟩
  · obtain ⟨g, o, ha, hc⟩ := h2 j hj
    refine ⟨g, o, ha, fun q v hv => ?_⟩
    have h6 := hc q v hv
    obtain ⟨_, h7⟩ := h3 g o ha
    rcases h7 with h7 | ⟨c, fr, h7⟩
    · omega
    · have e := k.all g c _ fr h7 (.inr (.inr rfl))
      simp only [World.cell?, h7] at h6
      simp only [World.cell?, e]
      exact h6
  · obtain ⟨h6, h7⟩ := h3 g o hs
    refine ⟨Nat.lt_of_lt_of_le h6 k.size, ?_⟩
    rcases h7 with h7 | ⟨c, fr, h7⟩
    · exact .inl h7
    · exact .inr ⟨c, fr, k.all g c _ fr h7 (.inr (.inr rfl))⟩
/-- The cells of a block that lies in memory of its own. -/
structure KB (w : World) (c : List Value) (b : BK) : Prop where
  out : ∃ gm cm lo a cap dls, c = (bk b.h.height b.h.prev b.h.txr b.h.str (.slice (some ⟨gm, 0, none⟩) b.h.mem.length cm) (.slice a b.txs.length cap)).toList ∧ CB w gm b.h.mem ∧ Sh.GL w 95 3 lo (.slice a b.txs.length cap) dls ∧ TXL w 0 97 dls b.txs
theorem KB.stay {w w' : World} {c : List Value} {b : BK} (h : KB w c b) (k : Stay w w') : KB w' c b := by
  obtain ⟨gm, cm, lo, a, cap, dls, h1, h2, h3, h4⟩ := h.out
  exact ⟨gm, cm, lo, a, cap, dls, h1, h2.stay k, GLtx.stay h3 k, h4.stay k⟩
structure BKL (w : World) (ls : List (List Value)) (l : List BK) : Prop where
  len : ls.length = l.length
  each : ∀ i (h : i < l.length), ∃ c, ls[i]? = some c ∧ KB w c l[i]
theorem BKL.nil (w : World) : BKL w [] [] := ⟨rfl, fun _ h => absurd h (Nat.not_lt_zero _)⟩
theorem BKL.stay {w w' : World} {ls : List (List Value)} {l : List BK} (h : BKL w ls l) (k : Stay w w') : BKL w' ls l := ⟨h.len, fun i hi => by
  obtain ⟨c, h1, h2⟩ := h.each i hi
  exact ⟨c, h1, h2.stay k⟩⟩
theorem BKL.snoc {w : World} {ls : List (List Value)} {l : List BK} (h : BKL w ls l) {c : List Value} {b : BK} (hc : KB w c b) : BKL w (ls ++ [c]) (l ++ [b]) := ⟨by simp [h.len], fun i hi => by
  by_cases hlt : i < l.length
  · obtain ⟨d, h1, h2⟩ := h.each i hlt
    refine ⟨d, ?_, ?_⟩
    · rw [List.getElem?_append_left (by rw [h.len]; exact hlt)]; exact h1
    · rw [List.getElem_append_left hlt]; exact h2
  · have hi2 : i = l.length := by simp at hi; omega
    subst hi2
    refine ⟨c, ?_, ?_⟩
    · rw [← h.len, List.getElem?_concat_length]
    · rw [List.getElem_append_right (Nat.le_refl _)]
      simpa using hc⟩
/-- A chain in memory, its own blocks from N on. -/
structure CH (w : World) (N bc bs bt : Nat) (sl : Value) (c : CN) : Prop where
  blk : ∃ gf cf gm cm, Blk w bc (chC c.name (.slice (some ⟨gf, 0, none⟩) c.first.length cf) c.ht c.hash (.slice (some ⟨gm, 0, none⟩) c.mem.length cm) bs bt sl) 103 ∧ CB w gf c.first ∧ CB w gm c.mem
  ex : EX w bs bt c.m c.t
  kept : ∃ dls, Sh.GL w 53 6 N sl dls ∧ BKL w dls c.kept
  low : 2 ≤ N ∧ N ≤ bc ∧ N ≤ bs ∧ N ≤ bt
/-- What may be of a chain. -/
structure OkC (c : CN) : Prop where
  first : okM c.first = true
  mem : okM c.mem = true
  hash : c.hash.length = 32
  name : c.name.length ≤ 32
  sz : Sz c.m
  canon : Tr.Canon 0 c.t
  ht : c.ht < 18446744073709551616
  kept : c.kept.length ≤ c.ht
/-- The blocks that a chain writes. -/
def ownC (bc bs bt : Nat) (sl : Value) (i : Nat) : Prop := i = bc ∨ i = bs ∨ i = bt ∨ some i = Sh.slBlk sl
theorem CH.lt {w : World} {N bc bs bt : Nat} {sl : Value} {c : CN} (h : CH w N bc bs bt sl c) : bc < w.heap.size ∧ bs < w.heap.size ∧ bt < w.heap.size := by
  obtain ⟨_, _, _, _, h1, _⟩ := h.blk
  exact ⟨h1.lt, h.ex.lts, h.ex.ltt⟩
theorem CH.typed {w : World} {N bc bs bt : Nat} {sl : Value} {c : CN} (h : CH w N bc bs bt sl c) {i : Nat} (ho : ownC bc bs bt sl i) : ∃ d u fr, w.heap[i]? = some (.cells d u fr) ∧ (u = 103 ∨ u = 167 ∨ u = 215 ∨ u = 53) := by
  rcases ho with rfl | rfl | rfl | ho
  · obtain ⟨_, _, _, _, h1, _⟩ := h.blk
    exact ⟨_, _, _, h1.out, .inl rfl⟩
  · obtain ⟨mb, h1, _⟩ := h.ex.st.out
    exact ⟨_, _, _, h1.out, .inr (.inl rfl)⟩
  · obtain ⟨q, h1, _⟩ := h.ex.tr
    exact ⟨_, _, _, (Blk.of_sh h1).out, .inr (.inr (.inl rfl))⟩
  · obtain ⟨dls, h1, _⟩ := h.kept
    rcases h1.2 with ⟨_, rfl⟩ | ⟨g, cap, h4, rfl, h5⟩
    · cases ho
    · obtain ⟨cur, h6, _⟩ := h5.out
      have : i = g := by simpa [Sh.slBlk] using ho
      subst this
      exact ⟨_, _, _, h6, .inr (.inr (.inr rfl))⟩
theorem CH.from {w : World} {N bc bs bt : Nat} {sl : Value} {c : CN} (h : CH w N bc bs bt sl c) {i : Nat} (ho : ownC bc bs bt sl i) : N ≤ i := by
  obtain ⟨h0, h1, h2, h3⟩ := h.low
  rcases ho with rfl | rfl | rfl | ho
  · exact h1
  · exact h2
  · exact h3
  · obtain ⟨dls, k1, _⟩ := h.kept
    exact (k1.lt i ho.symm).1
theorem CH.stayOwn {w w' : World} {N bc bs bt : Nat} {sl : Value} {c : CN} (h : CH w N bc bs bt sl c) (k : Own (ownC bc bs bt sl) w w') : Stay w w' := .of_own k fun i _ ho => by
  obtain ⟨d, u, fr, h1, h2⟩ := h.typed ho
  refine ⟨d, u, fr, h1, ?_⟩
  rcases h2 with rfl | rfl | rfl | rfl <;> decide
/-- One chain goes on, the other stays. -/
theorem CH.apart {w w' : World} {N bc bs bt : Nat} {sl : Value} {c : CN} {N2 bc2 bs2 bt2 : Nat} {sl2 : Value} {c2 : CN} (h : CH w N bc bs bt sl c) (hb : CH w N2 bc2 bs2 bt2 sl2 c2) (k : Own (ownC bc bs bt sl) w w')
    (n1 : bc2 ≠ bc) (n2 : bs2 ≠ bs) (n3 : bt2 ≠ bt) (n4 : ∀ r, Sh.slBlk sl2 = some r → Sh.slBlk sl ≠ some r) : CH w' N2 bc2 bs2 bt2 sl2 c2 := by
  have hst := h.stayOwn k
  have hk : ∀ (i : Nat) d u fr, w.heap[i]? = some (Obj.cells d u fr) → u ≠ 103 → u ≠ 167 → u ≠ 215 → u ≠ 53 → w'.heap[i]? = some (Obj.cells d u fr) := fun i d u fr h1 a1 a2 a3 a4 => by
    refine (k.block i (Array.getElem?_eq_some_iff.1 h1).1 (fun e => ?_)).trans h1
    obtain ⟨d', u', fr', h3, h4⟩ := h.typed e
    rw [h1] at h3
    simp only [Option.some.injEq, Obj.cells.injEq] at h3
    obtain ⟨_, rfl, _⟩ := h3
    rcases h4 with h4 | h4 | h4 | h4
    · exact a1 h4
    · exact a2 h4
    · exact a3 h4
    · exact a4 h4
  have hne : ∀ (i : Nat) d u fr, w.heap[i]? = some (Obj.cells d u fr) → (u = 103 → i ≠ bc) → (u = 167 → i ≠ bs) → (u = 215 → i ≠ bt) → (u = 53 → some i ≠ Sh.slBlk sl) → w'.heap[i]? = some (Obj.cells d u fr) := fun i d u fr h1 a1 a2 a3 a4 => by
    refine (k.block i (Array.getElem?_eq_some_iff.1 h1).1 (fun e => ?_)).trans h1
    obtain ⟨d', u', fr', h3, h4⟩ := h.typed e
    rw [h1] at h3
    simp only [Option.some.injEq, Obj.cells.injEq] at h3
    obtain ⟨rfl, rfl, rfl⟩ := h3
    have hx : ∀ {j : Nat} {d2 u2 fr2}, w.heap[j]? = some (Obj.cells d2 u2 fr2) → i = j → u = u2 := fun h5 e => by
      subst e
      rw [h1] at h5
      simp only [Option.some.injEq, Obj.cells.injEq] at h5
      exact h5.2.1
    rcases e with e | e | e | e
    · obtain ⟨_, _, _, _, h5, _⟩ := h.blk
      exact a1 (hx h5.out e) e
    · obtain ⟨mb, h5, _⟩ := h.ex.st.out
      exact a2 (hx h5.out e) e
    · obtain ⟨q, h5, _⟩ := h.ex.tr
      exact a3 (hx (Blk.of_sh h5).out e) e
    · obtain ⟨dls, h5, _⟩ := h.kept
      rcases h5.2 with ⟨_, rfl⟩ | ⟨g, cap, _, rfl, h6⟩
      · cases e
      · obtain ⟨cur, h7, _⟩ := h6.out
        have e2 : i = g := by simpa [Sh.slBlk] using e
        exact a4 (hx h7 e2) e
  refine ⟨?_, ⟨?_, ?_, ?_, hb.ex.two⟩, ?_, hb.low⟩
  · obtain ⟨gf, cf, gm, cm, h1, h2, h3⟩ := hb.blk
    exact ⟨gf, cf, gm, cm, ⟨hne _ _ _ _ h1.out (fun _ => n1) (fun e => absurd e (by decide)) (fun e => absurd e (by decide)) (fun e => absurd e (by decide))⟩, h2.stay hst, h3.stay hst⟩
  · obtain ⟨mb, h1, h2⟩ := hb.ex.st.out
    refine ⟨⟨mb, ⟨hne _ _ _ _ h1.out (fun e => absurd e (by decide)) (fun _ => n2) (fun e => absurd e (by decide)) (fun e => absurd e (by decide))⟩, ?_⟩⟩
    obtain ⟨es, clock, k1, k2⟩ := h2
    refine ⟨es, clock, (k.block mb (Array.getElem?_eq_some_iff.1 k1).1 (fun e => ?_)).trans k1, k2⟩
    obtain ⟨d', u', fr', h3, _⟩ := h.typed e
    rw [k1] at h3
    cases h3
  · obtain ⟨q, h1, h2⟩ := hb.ex.tr
    exact ⟨q, Blk.sh ⟨hne _ _ _ _ (Blk.of_sh h1).out (fun e => absurd e (by decide)) (fun e => absurd e (by decide)) (fun _ => n3) (fun e => absurd e (by decide))⟩, h2.keep fun i d h3 => Blk.sh ⟨hk i d _ _ (Blk.of_sh h3).out (by decide) (by decide) (by decide) (by decide)⟩⟩
  · exact hb.ex.glob.below (k.below (N := 2) (fun i _ ho => Nat.le_trans h.low.1 (h.from ho)) hb.ex.glob.two) (Nat.le_refl _)
  · obtain ⟨dls, h1, h2⟩ := hb.kept
    refine ⟨dls, ⟨h1.1, ?_⟩, h2.stay hst⟩
    rcases h1.2 with h3 | ⟨g, cap, h3, h4, h5⟩
    · exact .inl h3
    · obtain ⟨cur, h6, h7⟩ := h5.out
      refine .inr ⟨g, cap, h3, h4, ⟨cur, hne _ _ _ _ h6 (fun e => absurd e (by decide)) (fun e => absurd e (by decide)) (fun e => absurd e (by decide)) (fun _ e => n4 g (by rw [h4]; rfl) e.symm), h7⟩⟩
theorem CH.below {w w' : World} {N bc bs bt : Nat} {sl : Value} {c : CN} (h : CH w N bc bs bt sl c) (hb : Below w.heap.size w w') : CH w' N bc bs bt sl c := by
  have hst := Stay.of_below hb
  obtain ⟨gf, cf, gm, cm, h1, h2, h3⟩ := h.blk
  obtain ⟨dls, h4, h5⟩ := h.kept
  exact ⟨⟨gf, cf, gm, cm, h1.belowSize hb, h2.stay hst, h3.stay hst⟩, h.ex.below hb, ⟨dls, h4.below hb, h5.stay hst⟩, h.low⟩
end Go.Proofs.YtmbdhngoldganaaGreatDoor
namespace Go.Proofs.YtmbdhngoldganaaGreatDoor
open Go Go.RowKit
/-- The digest ahead of the first block. -/
def gB (name : List UInt8) (mem : List Int) : List UInt8 := (num name.length 4 ++ name) ++ memB mem
def gD (name : List UInt8) (mem : List Int) : List UInt8 := Sh.digest (Sh.tagTo 71 [gB name mem] 1)
theorem gB_len (name : List UInt8) (mem : List Int) : (gB name mem).length = 5 + name.length + mem.length := by
  unfold gB
  rw [List.length_append, List.length_append, num_length, memB_len]
  omega
theorem gD_len (name : List UInt8) (mem : List Int) : (gD name mem).length = 32 := Sh.digest_length _
theorem gtag_len (s : List UInt8) (h : s.length ≤ 1000) : (Sh.tagTo 71 [s] 1).length ≤ 549755813888 := by
  have : Sh.tagTo 71 [s] 1 = [71] ++ Sh.be s.length 4 ++ s := rfl
  rw [this, List.length_append, List.length_append, Sh.be_length]
  simp
  omega
set_option maxRecDepth 100000 in
set_option maxHeartbeats 1000000 in
theorem genesis_any (name : List UInt8) (hn : name.length ≤ 32) (mem : List Int) (hm : OkM mem) (a : Option Addr) (cap : Nat) (w : World) (hI : IA w a mem) (hG : Sh.Glob w) :
    Calls Tryz.prog 70 #[.string ⟨name.toArray⟩, .slice a mem.length cap] w fun e w' => e = .returned (.string ⟨(gD name mem).toArray⟩) ∧ Below w.heap.size w w' := by
  have hl := gB_len name mem
  have h16 := hm.len
  have HN := neww_any w
  have HX := fun b w1 (h : WR w1 b []) => wtext_any b [] name w1 h (by simp; omega)
  have HP := fun b w1 (hB : Below w.heap.size w w1) (hb : w.heap.size ≤ b) (hW : WR w1 b (num name.length 4 ++ name)) => putM_any mem hm a cap b (num name.length 4 ++ name) w1 w hB hb hI hW (by rw [List.length_append, num_length]; omega)
  have HA := fun b w1 (h : WR w1 b (gB name mem)) => wall_any b (gB name mem) w1 h
  have HI : Hid (gD name mem = Sh.digest (Sh.tagTo 71 [gB name mem] 1)) := by exact rfl
  rw [HI.out]
  have HT := fun b w' (hG : Sh.Glob w') (hc : w'.cell? ⟨b, 0, none⟩ = some (.string ⟨(gB name mem).toArray⟩)) => Sh.tagged_any 71 b 0 1 1 [gB name mem] w' hG (one_cell hc) (gtag_len _ (by omega))
  change ∀ b w', Sh.Glob w' → w'.cell? ⟨b, 0, none⟩ = some (.string ⟨(gB name mem).toArray⟩) → Calls Tryz.prog 120 #[.int .u8 71, .slice (some ⟨b, 0, none⟩) 1 1] w' _ at HT
  have hg0 : gB name mem = (num name.length 4 ++ name) ++ memB mem := rfl
  clear HI hl
  generalize Sh.digest (Sh.tagTo 71 [gB name mem] 1) = dg at *
  generalize num name.length 4 ++ name = nm at *
  have hW0 : ∀ b w1, WR w1 b (nm ++ memB mem) → WR w1 b (gB name mem) := fun b w1 h => (by rw [hg0]; exact h)
  clear hg0
  generalize gB name mem = gb at *
  generalize memB mem = mb at *
  go_enter Tryz.func70, Tryz.ntmps70
  go_wp2_with (first
    | (go_at_call 48; refine HN.mono ?_; rintro e w1 ⟨rfl, hw1, hW1⟩; clear HN)
    | (go_at_call 49; refine (HX _ _ hW1).mono ?_; rintro e w2 ⟨rfl, hP2⟩; clear HX; have hB2 := hw1.trans hP2.below; have hW2 := hP2.wr; rw [List.nil_append] at hW2)
    | (go_at_call 50; refine (HP _ _ hB2 (Nat.le_refl _) hW2).mono ?_; rintro e w3 ⟨rfl, hP3⟩; clear HP; have hB3 := hB2.trans hP3.below)
    | (go_at_call 53; refine (HA _ _ (hW0 _ _ hP3.wr)).mono ?_; rintro e w' ⟨rfl, hw'⟩; have hw4 := hw'.symm; subst hw4; clear hw' HA)
    | (go_at_call 120; refine (HT _ _ (hG.belowSize (hB3.trans (hw5.mono hB3.size))) hc5).mono ?_; rintro e w6 ⟨rfl, hw6⟩)
    | (with_reducible refine at_list ?_; first
      | (refine wpList_bslS (op := ⟨some 15, _, _, _, _, _⟩) rfl _ rfl gb rfl ?_; intro w5 hw5 hc5)))
  go_ret
  exact ⟨rfl, (hB3.trans (hw5.mono hB3.size)).trans (hw6.mono (Nat.le_trans hB3.size hw5.size))⟩
theorem builtTip (h : List UInt8) (a : Option Addr) (n cap : Nat) : Tryz.prog.built 39 [(1, .string ⟨h.toArray⟩), (2, .slice a n cap)] = some (tpC 0 h (.slice a n cap)) := by kernel_rfl
theorem builtCh (name h : List UInt8) (a : Option Addr) (n cap : Nat) (a2 : Option Addr) (n2 cap2 : Nat) (ht bs bt : Nat) : Tryz.prog.built 103 [(0, .string ⟨name.toArray⟩), (1, .slice a n cap), (2, .agg (tpC ht h (.slice a2 n2 cap2))), (3, .pointer (some ⟨bs, 0, none⟩)), (4, .pointer (some ⟨bt, 0, none⟩))] = some (chC name (.slice a n cap) ht h (.slice a2 n2 cap2) bs bt (.slice none 0 0)) := by kernel_rfl
theorem run_built5 {P : Program} {op : Oper} {a : Act} {w : World} (t : TypeId) (k1 k2 k3 k4 k5 : Nat) (x1 x2 x3 x4 x5 : Operand) (ho : op.op = .build t #[(k1, x1), (k2, x2), (k3, x3), (k4, x4), (k5, x5)]) (v1 v2 v3 v4 v5 : Value) (h1 : a.eval x1 = v1) (h2 : a.eval x2 = v2) (h3 : a.eval x3 = v3) (h4 : a.eval x4 = v4) (h5 : a.eval x5 = v5) (c : Array Value) (h : P.built t [(k1, v1), (k2, v2), (k3, v3), (k4, v4), (k5, v5)] = some c) :
    (execOp a.eval op).run P w = .ok (.value (.agg c)) w := by
  subst h1 h2 h3 h4 h5
  have e : (#[(k1, x1), (k2, x2), (k3, x3), (k4, x4), (k5, x5)] : Array (Nat × Operand)).map (fun (i, x) => (i, a.eval x)) = #[(k1, a.eval x1), (k2, a.eval x2), (k3, a.eval x3), (k4, a.eval x4), (k5, a.eval x5)] := by simp
  unfold execOp
  simp only [ho, Sem.run_bind, e, run_build w t _ c h, Result.andThen_ok]
  rfl
theorem run_built3 {P : Program} {op : Oper} {a : Act} {w : World} (t : TypeId) (k1 k2 k3 : Nat) (x1 x2 x3 : Operand) (ho : op.op = .build t #[(k1, x1), (k2, x2), (k3, x3)]) (v1 v2 v3 : Value) (h1 : a.eval x1 = v1) (h2 : a.eval x2 = v2) (h3 : a.eval x3 = v3) (c : Array Value) (h : P.built t [(k1, v1), (k2, v2), (k3, v3)] = some c) :
    (execOp a.eval op).run P w = .ok (.value (.agg c)) w := by
  subst h1 h2 h3
  have e : (#[(k1, x1), (k2, x2), (k3, x3)] : Array (Nat × Operand)).map (fun (i, x) => (i, a.eval x)) = #[(k1, a.eval x1), (k2, a.eval x2), (k3, a.eval x3)] := by simp
  unfold execOp
  simp only [ho, Sem.run_bind, e, run_build w t _ c h, Result.andThen_ok]
  rfl
end Go.Proofs.YtmbdhngoldganaaGreatDoor
namespace Go.Proofs.YtmbdhngoldganaaGreatDoor
open Go Go.RowKit
theorem run_assignV {P : Program} {op : Oper} {a : Act} {w : World} (x : Operand) (ho : op.op = .assign x) (v : Value) (hv : a.eval x = v) : (execOp a.eval op).run P w = .ok (.value v) w := by rw [← hv]; exact run_assign x ho
theorem args0 {a : Act} : (#[] : Array Operand).map a.eval = #[] := by simp
theorem args1 {a : Act} {x : Operand} {u : Value} (hx : a.eval x = u) : #[x].map a.eval = #[u] := by simp [hx]
theorem args2 {a : Act} {x y : Operand} {u v : Value} (hx : a.eval x = u) (hy : a.eval y = v) : #[x, y].map a.eval = #[u, v] := by simp [hx, hy]
theorem args6 {a : Act} {x1 x2 x3 x4 x5 x6 : Operand} {v1 v2 v3 v4 v5 v6 : Value} (h1 : a.eval x1 = v1) (h2 : a.eval x2 = v2) (h3 : a.eval x3 = v3) (h4 : a.eval x4 = v4) (h5 : a.eval x5 = v5) (h6 : a.eval x6 = v6) : #[x1, x2, x3, x4, x5, x6].map a.eval = #[v1, v2, v3, v4, v5, v6] := by simp [h1, h2, h3, h4, h5, h6]
namespace Sh
section
variable {P : Program} {md : Region.Mode} {ops : Array Oper} {Q : Exit → Act → World → Prop} {S : World → Prop} {z : Nat}
/-- One alone may come up. -/
theorem wpAnyL_solo {i : Nat} {o : Oper} {fuel : Nat} {listed : Array Bool} {a : Act} {w : World} (ho : ops[i]? = some o) (hr : Region.ready md ops listed = [i])
    (h : ∀ K : Act → World → Prop, (∀ a w, (i ≠ z → S w) → wpAnyL P md ops Q S z fuel (listed.setIfInBounds i true) a w → K a w) → wpList P ops (QK Q K) [o] a w) : wpAnyL P md ops Q S z (fuel + 1) listed a w :=
  ⟨(fun h0 => absurd (hr ▸ h0) (List.cons_ne_nil _ _)), fun j hj => by
    rw [hr] at hj
    obtain rfl := List.mem_singleton.1 hj
    exact wpOp_list ho (h _ (fun a w hS hW => ⟨hS, hW⟩))⟩
/-- Two may come up. -/
theorem wpAnyL_duo {i k : Nat} {o p : Oper} {fuel : Nat} {listed : Array Bool} {a : Act} {w : World} (ho : ops[i]? = some o) (hp : ops[k]? = some p) (hr : Region.ready md ops listed = [i, k])
    (h : ∀ K : Act → World → Prop, (∀ a w, (i ≠ z → S w) → wpAnyL P md ops Q S z fuel (listed.setIfInBounds i true) a w → K a w) → wpList P ops (QK Q K) [o] a w)
    (h2 : ∀ K : Act → World → Prop, (∀ a w, (k ≠ z → S w) → wpAnyL P md ops Q S z fuel (listed.setIfInBounds k true) a w → K a w) → wpList P ops (QK Q K) [p] a w) : wpAnyL P md ops Q S z (fuel + 1) listed a w :=
  ⟨(fun h0 => absurd (hr ▸ h0) (List.cons_ne_nil _ _)), fun j hj => by
    rw [hr] at hj
    rcases List.mem_cons.1 hj with rfl | hj
    · exact wpOp_list ho (h _ (fun a w hS hW => ⟨hS, hW⟩))
    · obtain rfl := List.mem_singleton.1 hj
      exact wpOp_list hp (h2 _ (fun a w hS hW => ⟨hS, hW⟩))⟩
end
end Sh
end Go.Proofs.YtmbdhngoldganaaGreatDoor
namespace Go.Proofs.YtmbdhngoldganaaGreatDoor
open Go Go.RowKit
/-- A new chain. -/
def newC (name : List UInt8) (mem : List Int) : CN := ⟨name, mem, 0, gD name mem, mem, [], .emp, []⟩
theorem newC_ok {name : List UInt8} (hn : name.length ≤ 32) {mem : List Int} (hm : okM mem = true) : OkC (newC name mem) := ⟨hm, hm, gD_len _ _, hn, Sz.nil, trivial, (by decide : (0 : Nat) < 18446744073709551616), Nat.le_refl _⟩
set_option maxRecDepth 100000 in
set_option maxHeartbeats 2000000 in
theorem newCh_any (name : List UInt8) (hn : name.length ≤ 32) (mem : List Int) (hm : okM mem = true) (a : Option Addr) (cap : Nat) (w : World) (hI : IA w a mem) (hG : Sh.Glob w) :
    Calls Tryz.prog 47 #[.string ⟨name.toArray⟩, .slice a mem.length cap] w fun e w' => ∃ bc bs bt, e = .returned (.tuple #[.pointer (some ⟨bc, 0, none⟩), .int .i64 0]) ∧ CH w' w.heap.size bc bs bt (.slice none 0 0) (newC name mem) ∧ Below w.heap.size w w' := by
  have h2 := hG.two
  have hOk := okM_iff.1 hm
  have h16 := hOk.len
  have h0 := hOk.pos
  have HM := members_any mem a cap w hI true hm
  have HG := fun w1 (hb : Below w.heap.size w w1) => genesis_any name hn mem hOk a cap w1 (hI.below hb) (hG.belowSize hb)
  have HC := fun w1 (hb : Below w.heap.size w w1) => scloneI_any a mem cap w1 (hI.below hb) h0 (by omega)
  have hnI : ¬ (32 : Int) < (name.length : Int) := by omega
  have hnN : ¬ 32 < name.length := by omega
  have hgd : Hid ((newC name mem).hash = gD name mem) := rfl
  have HC2 := HC
  generalize hgg : gD name mem = gd at *
  go_enter Tryz.func47, Tryz.ntmps47
  go_upto_region 4 with (first
    | (go_at_call 93; refine HM.mono ?_; rintro e w' ⟨rfl, hw'⟩; have hw0 := hw'.symm; subst hw0; clear hw' HM)
    | (go_at_call 70; refine (HG _ (Below.refl _ _)).mono ?_; rintro e w1 ⟨rfl, hw1⟩; clear HG)
    | (go_at_call 54; refine (HC2 _ hw1).mono ?_; rintro e w2 ⟨g1, c1, rfl, hg1, hw2, hCB1⟩; clear HC2; have hB2 := hw1.trans (hw2.mono hw1.size))
    | (with_reducible refine at_list ?_; first
      | (refine wpList_run (op := ⟨some 20, _, _, _, _, _⟩) rfl _ _ (run_built2 _ _ _ _ _ rfl _ _ rfl rfl _ (builtTip _ _ _ _)) ?_)
      | (refine wpList_allocRow (op := ⟨some 6, _, _, _, _, _⟩) rfl _ rfl _ zTip.1 ?_; intro w5 hw5 hs5 h6; clear hs5; replace hCB1 := hCB1.below hw5; have hB5 := hB2.trans (hw5.mono hB2.size))
      | (refine wpList_storeRow (op := ⟨none, .store 39 (.tmp 6) (.tmp 20), _, _, _, _⟩) rfl _ _ _ rfl w2.heap.size (tpC 0 gd (.slice (some ⟨g1, 0, none⟩) mem.length c1)) rfl rfl _ _ h6 (by simp only [tpC_size]) (tpC_info _ _ _) (tpC_one _ _ _ _ _) ?_; intro w6 hg6 hs6 h6b; clear hs6; replace hCB1 := hCB1.other hg6 h6 (by decide); have hB6 := hB5.trans (below_of_grown hg6 hB2.size hB5.size); clear hg6 h6 hw5 hB5)))
  have hH := h6b.drew
  try go_frame
  refine Sh.wp_region_L (S := fun w' : World => Blk w' w2.heap.size (tpC 0 gd (.slice (some ⟨g1, 0, none⟩) mem.length c1)) 39) (z := 9) (by kernel_rfl) ?_
  refine Sh.wpAnyL_take (i := 0) (oi := ⟨some 21, _, _, _, _, _⟩) (v := .string ⟨name.toArray⟩) rfl (by kernel_rfl) (by kernel_rfl) (by kernel_rfl) (by kernel_rfl) (fun _ _ _ h => h) (Or.inl ⟨by rfl, fun w hSw => by go_simp⟩) hH ?_
  try simp only [Act.put, List.setIfInBounds_toArray, List.set_cons_zero, List.set_cons_succ]
  refine Sh.wpAnyL_take (i := 1) (oi := ⟨some 22, _, _, _, _, _⟩) (v := .slice a mem.length cap) rfl (by kernel_rfl) (by kernel_rfl) (by kernel_rfl) (by kernel_rfl) (fun _ _ _ h => h) (Or.inl ⟨by rfl, fun w hSw => by go_simp⟩) hH ?_
  try simp only [Act.put, List.setIfInBounds_toArray, List.set_cons_zero, List.set_cons_succ]
  refine Sh.wpAnyL_take (i := 3) (oi := ⟨some 24, _, _, _, _, _⟩) (v := .agg (tpC 0 gd (.slice (some ⟨g1, 0, none⟩) mem.length c1))) rfl (by kernel_rfl) (by kernel_rfl) (by kernel_rfl) (by kernel_rfl) (fun _ _ _ h => h) (Or.inl ⟨by rfl, fun w hSw => run_loadMid _ _ rfl _ 0 rfl _ hSw.rangeAll _ Tryz.underlying39 rfl (tpC_info _ _ _)⟩) hH ?_
  try simp only [Act.put, List.setIfInBounds_toArray, List.set_cons_zero, List.set_cons_succ]
  refine Sh.wpAnyL_solo (i := 2) (o := ⟨some 23, _, _, _, _, _⟩) rfl (by kernel_rfl) (fun K hK => ?_)
  refine wpList_callR Tryz.func54 (by kernel_rfl) (by kernel_rfl) rfl _ _ rfl #[.slice a mem.length cap] (args1 rfl) _ (HC _ hB6.drew) ?_
  rintro e w7 ⟨g2, c2, rfl, hg2, hw7, hCB2⟩
  have hH7 := hH.belowSize hw7
  have hB7 := hB6.drew.trans (hw7.mono hB6.size)
  replace hCB1 := hCB1.drew.below hw7
  clear hw7 hH
  refine ⟨_, rfl, ?_⟩
  refine hK _ _ (fun _ => hH7) ?_
  clear hK K
  try simp only [Act.put, List.setIfInBounds_toArray, List.set_cons_zero, List.set_cons_succ]
  refine Sh.wpAnyL_solo (i := 4) (o := ⟨some 25, _, _, _, _, _⟩) rfl (by kernel_rfl) (fun K hK => ?_)
  refine wpList_callR Tryz.func96 (by kernel_rfl) (by kernel_rfl) rfl _ _ rfl #[] args0 _ (new_any _) ?_
  rintro e w8 ⟨rfl, hw8, hS8, hs8⟩
  have hH8 := hH7.belowSize hw8
  replace hCB1 := hCB1.below hw8
  replace hCB2 := hCB2.below hw8
  have hB8 := hB7.trans (hw8.mono hB7.size)
  clear hw8 hH7
  refine ⟨_, rfl, ?_⟩
  refine hK _ _ (fun _ => hH8) ?_
  clear hK K
  try simp only [Act.put, List.setIfInBounds_toArray, List.set_cons_zero, List.set_cons_succ]
  refine Sh.wpAnyL_solo (i := 5) (o := ⟨some 26, _, _, _, _, _⟩) rfl (by kernel_rfl) (fun K hK => ?_)
  refine wpList_callR Tryz.func98 (by kernel_rfl) (by kernel_rfl) rfl _ _ rfl #[] args0 _ (Sh.tnew_any _) ?_
  rintro e w9 ⟨rfl, hb9, hw9⟩
  have hH9 := hH8.belowSize hw9
  replace hCB1 := hCB1.below hw9
  replace hCB2 := hCB2.below hw9
  have hB9 := hB8.trans (hw9.mono hB8.size)
  have hE9 : EX w9 (w7.heap.size + 1) w8.heap.size [] .emp := EX.new (hS8.below hw9) hb9 (hG.belowSize hB9) ⟨by have := hB7.size; omega, by have := hB8.size; omega⟩
  clear hw9 hH8 hb9 hS8
  refine ⟨_, rfl, ?_⟩
  refine hK _ _ (fun _ => hH9) ?_
  clear hK K
  try simp only [Act.put, List.setIfInBounds_toArray, List.set_cons_zero, List.set_cons_succ]
  refine Sh.wpAnyL_take (i := 6) (oi := ⟨some 27, _, _, _, _, _⟩) (v := .agg (chC name (.slice (some ⟨g2, 0, none⟩) mem.length c2) 0 gd (.slice (some ⟨g1, 0, none⟩) mem.length c1) (w7.heap.size + 1) w8.heap.size (.slice none 0 0))) rfl (by kernel_rfl) (by kernel_rfl) (by kernel_rfl) (by kernel_rfl) (fun _ _ _ h => h) (Or.inl ⟨by rfl, fun w hSw => run_built5 _ 0 1 2 3 4 _ _ _ _ _ rfl (.string ⟨name.toArray⟩) (.slice (some ⟨g2, 0, none⟩) mem.length c2) (.agg (tpC 0 gd (.slice (some ⟨g1, 0, none⟩) mem.length c1))) (.pointer (some ⟨w7.heap.size + 1, 0, none⟩)) (.pointer (some ⟨w8.heap.size, 0, none⟩)) rfl rfl rfl rfl rfl _ (builtCh name gd _ _ _ _ _ _ 0 (w7.heap.size + 1) w8.heap.size)⟩) hH9 ?_
  try simp only [Act.put, List.setIfInBounds_toArray, List.set_cons_zero, List.set_cons_succ]
  refine Sh.wpAnyL_solo (i := 7) (o := ⟨some 28, _, _, _, _, _⟩) rfl (by kernel_rfl) (fun K hK => ?_)
  refine wpList_boxRow rfl _ _ rfl _ rfl ?_
  intro wA hwA hsA hbA
  refine hK _ _ (fun _ => hH9.belowSize hwA) ?_
  clear hK K
  try simp only [Act.put, List.setIfInBounds_toArray, List.set_cons_zero, List.set_cons_succ]
  refine Sh.wpAnyL_solo (i := 8) (o := ⟨some 4, _, _, _, _, _⟩) rfl (by kernel_rfl) (fun K hK => ?_)
  refine wpList_pure rfl (.pointer (some ⟨w9.heap.size, 0, none⟩)) (run_assignV _ rfl _ rfl) ?_
  refine hK _ _ (fun _ => hH9.belowSize hwA) ?_
  clear hK K
  try simp only [Act.put, List.setIfInBounds_toArray, List.set_cons_zero, List.set_cons_succ]
  refine Sh.wpAnyL_solo (i := 9) (o := ⟨some 5, _, _, _, _, _⟩) rfl (by kernel_rfl) (fun K hK => ?_)
  refine wpList_pure rfl (.int .i64 0) (run_assignV _ rfl _ rfl) ?_
  refine hK _ _ (fun e => absurd rfl e) ?_
  clear hK K
  refine Sh.wpAnyL_done (by kernel_rfl) ?_ _
  simp only [Act.put]
  go_simp
  go_wp2_with fail
  go_ret2
  refine ⟨_, _, _, rfl, ⟨⟨g2, c2, g1, c1, ?_, hCB2.below hwA, hCB1.below hwA⟩, hE9.below hwA, ⟨[], Sh.GL.nil _ _ _ _, BKL.nil _⟩, h2, hB9.size, ?_, ?_⟩, hB9.trans (hwA.mono hB9.size)⟩
  · rw [hgd.out]
    exact hbA
  · have := hB7.size; omega
  · exact hB8.size
end Go.Proofs.YtmbdhngoldganaaGreatDoor
