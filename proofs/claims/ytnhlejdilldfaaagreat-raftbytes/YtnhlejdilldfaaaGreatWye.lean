/- What Take took, Put puts again; what Put put, Take takes whole: plainly. The law of bytes: yes, entry, said. -/
import Derived.Test.YtnhlejdilldfaaaGreatWtk
namespace Go.Proofs.YtnhlejdilldfaaaGreat
open Go Go.RowKit
theorem bool_goes {r : R} (hk : r.ok) (h : r.bool.1.err = 0) : Goes r r.bool.1 (num r.bool.2.toNat 1) := by
  by_cases h1 : 1 < (r.number 1).2
  · rw [R.bool_out h1] at h
    exact absurd (R.fail_zero (e := 6) (r := (r.number 1).1) h).2 (by decide)
  · rw [R.bool_in h1] at h ⊢
    have hg := number_goes (k := 1) hk (by omega) h
    have e : (decide ((r.number 1).2 = 1)).toNat = (r.number 1).2 := by
      by_cases h2 : (r.number 1).2 = 1
      · rw [decide_eq_true h2, h2]; rfl
      · rw [decide_eq_false h2]
        show 0 = _
        omega
    dsimp only
    rw [e]
    exact hg
theorem count_topN {r : R} (m : Nat) : ((r.count m).2 : Int) ≤ m := by have := R.count_le r m; omega
theorem count_top {r : R} (m : Int) (h0 : 0 ≤ m) : ((r.count m).2 : Int) ≤ m := by
  obtain ⟨k, rfl⟩ : ∃ k : Nat, m = (k : Int) := ⟨m.toNat, by omega⟩
  exact count_topN k
theorem text_topN {r : R} {m : Nat} (hk : r.ok) (h : (r.text m).1.err = 0) : (r.text m).2.length ≤ m := by
  have hg : ((r.count m).1.bytes (r.count m).2).1.err = 0 := by
    refine Classical.byContradiction fun hn => ?_
    rw [R.text_bad hn] at h
    exact hn (R.fail_zero (r := ((r.count m).1.bytes (r.count m).2).1) h).1
  rw [R.text_good hg]
  have h2 := (bytes_goes (R.ok_count hk m) hg).2
  have h3 := R.count_le r m
  omega
theorem text_top {r : R} {m : Int} (h0 : 0 ≤ m) (hk : r.ok) (h : (r.text m).1.err = 0) : ((r.text m).2.length : Int) ≤ m := by
  obtain ⟨k, rfl⟩ : ∃ k : Nat, m = (k : Int) := ⟨m.toNat, by omega⟩
  have := text_topN hk h
  omega
/-- An entry that can be put again. -/
structure EnOk (e : LE) : Prop where
  conf : e.conf = true → OkM e.mem
  term : 0 ≤ e.term ∧ e.term ≤ 2147483647
  text : e.s.length ≤ 1048576
theorem entry_goes {r : R} (hk : r.ok) (h : r.entry.1.err = 0) : Goes r r.entry.1 (lB r.entry.2) ∧ EnOk r.entry.2 := by
  have hk1 := R.ok_count hk 2147483647
  have hk2 := R.ok_bool hk1
  have ht := count_top (r := r) 2147483647 (by omega)
  by_cases hy : (r.count 2147483647).1.bool.2 = true
  · have e : r.entry = ((tkM (r.count 2147483647).1.bool.1).1, ⟨((r.count 2147483647).2 : Nat), [], true, (tkM (r.count 2147483647).1.bool.1).2⟩) := by unfold R.entry; exact if_pos hy
    rw [e] at h ⊢
    dsimp only at h ⊢
    have g3 := tkM_goes hk2 h
    have g2 := bool_goes hk1 g3.1.e0
    have g1 := count_goes hk g2.e0
    rw [hy] at g2
    refine ⟨?_, ⟨fun _ => g3.2, ⟨by show (0 : Int) ≤ ((r.count 2147483647).2 : Nat); omega, ht⟩, Nat.zero_le _⟩⟩
    unfold lB
    dsimp only
    rw [if_pos rfl, Int.toNat_natCast]
    exact g1.trans (g2.trans g3.1)
  · have e : r.entry = (((r.count 2147483647).1.bool.1.text 1048576).1, ⟨((r.count 2147483647).2 : Nat), ((r.count 2147483647).1.bool.1.text 1048576).2, false, []⟩) := by unfold R.entry; exact if_neg hy
    have hy : (r.count 2147483647).1.bool.2 = false := by simpa using hy
    rw [e] at h ⊢
    dsimp only at h ⊢
    have g3 := text_goes hk2 h
    have g2 := bool_goes hk1 g3.e0
    have g1 := count_goes hk g2.e0
    rw [hy] at g2
    refine ⟨?_, ⟨(fun e => absurd e Bool.false_ne_true), ⟨by show (0 : Int) ≤ ((r.count 2147483647).2 : Nat); omega, ht⟩, (by have := text_top (m := 1048576) (by omega) hk2 h; dsimp only; omega)⟩⟩
    unfold lB
    dsimp only
    rw [if_neg Bool.false_ne_true, Int.toNat_natCast]
    exact g1.trans (g2.trans g3)
def cR (r : R) (i : Nat) : List UInt8 := (List.range i).flatMap fun j => num (cn8 r j).toNat 4
theorem cR_succ (r : R) (i : Nat) : cR r (i + 1) = cR r i ++ num (cn8 r i).toNat 4 := by unfold cR; rw [List.range_succ, List.flatMap_append]; simp
theorem tk8_goes {r : R} (hk : r.ok) : ∀ i, (tk8 r i).err = 0 → Goes r (tk8 r i) (cR r i)
  | 0, h => ⟨h, h, rfl, by show _ = _ ++ []; rw [List.append_nil]; rfl⟩
  | i + 1, h => by
    have g := count_goes (tk8_ok hk i) (m := 2147483647) h
    rw [cR_succ]
    have e : (cn8 r i).toNat = ((tk8 r i).count 2147483647).2 := by unfold cn8; exact Int.toNat_natCast _
    rw [e]
    exact (tk8_goes hk i g.e0).trans g
theorem lsB_snoc (l : List LE) (e : LE) : lsB (l ++ [e]) = lsB l ++ lB e := by unfold lsB; rw [List.flatMap_append]; simp
theorem tkE_goes {r : R} (hk : r.ok) : ∀ i, (tkE r i).1.err = 0 → Goes r (tkE r i).1 (lsB (tkE r i).2) ∧ ∀ e ∈ (tkE r i).2, EnOk e
  | 0, h => ⟨⟨h, h, rfl, by show _ = _ ++ []; rw [List.append_nil]; rfl⟩, fun e he => by cases he⟩
  | i + 1, h => by
    have h : (tkE r i).1.entry.1.err = 0 := h
    obtain ⟨g, ge⟩ := entry_goes (tkE_ok hk i) h
    obtain ⟨g0, ge0⟩ := tkE_goes hk i g.e0
    have e1 : (tkE r (i + 1)).2 = (tkE r i).2 ++ [(tkE r i).1.entry.2] := by
      show (tkE r i).2 ++ [teOf (tkE r i).1] = _
      unfold teOf
      rw [if_pos h]
    rw [e1, lsB_snoc]
    refine ⟨g0.trans g, fun e he => ?_⟩
    rcases List.mem_append.1 he with he | he
    · exact ge0 e he
    · rw [List.mem_singleton] at he
      rw [he]
      exact ge
theorem m8_msg (r : R) : ∀ j, j < 8 → m8 r.msg.2 j = cn8 r j
  | 0, _ => rfl
  | 1, _ => rfl
  | 2, _ => rfl
  | 3, _ => rfl
  | 4, _ => rfl
  | 5, _ => rfl
  | 6, _ => rfl
  | 7, _ => rfl
  | n + 8, h => absurd h (by omega)
theorem cB_msgi (r : R) : ∀ i, i ≤ 8 → cB r.msg.2 i = cR r i
  | 0, _ => rfl
  | i + 1, h => by rw [cB_succ, cR_succ, cB_msgi r i (by omega), m8_msg r i (by omega)]
theorem cB_msg (r : R) : cB r.msg.2 8 = cR r 8 := cB_msgi r 8 (Nat.le_refl _)
theorem msg_fst (r : R) : r.msg.1 = (tkF r).1 := by unfold R.msg; dsimp only
theorem msg_piece (r : R) : r.msg.2.piece = ((tkE (tkN r).1 (tkN r).2).1.text 2147483647).2 := by unfold R.msg; dsimp only
theorem msg_ents (r : R) : r.msg.2.ents = (tkE (tkN r).1 (tkN r).2).2 := by unfold R.msg; dsimp only
theorem msg_mems (r : R) : r.msg.2.mems = (tkF r).2 := by unfold R.msg; dsimp only
theorem msg_yes (r : R) : r.msg.2.yes = (tk8 r 8).bool.2 := by unfold R.msg; dsimp only
theorem msg_done (r : R) : r.msg.2.done = (tk8 r 8).bool.1.bool.2 := by unfold R.msg; dsimp only
theorem msg_goes {r : R} (hk : r.ok) (h : r.msg.1.err = 0) : Goes r r.msg.1 (mB r.msg.2) ∧ PutOk r.msg.2 := by
  have hk8 := tk8_ok hk 8
  have hk9 := R.ok_bool hk8
  have hk10 := R.ok_bool hk9
  have hk11 : (tkN r).1.ok := R.ok_count hk10 16
  have hk12 := tkE_ok hk11 (tkN r).2
  have hk13 := R.ok_text hk12 2147483647
  have hk14 : (tkB r).1.ok := R.ok_bool hk13
  rw [msg_fst] at h ⊢
  have hF : Goes (tkB r).1 (tkF r).1 (if 0 < (tkF r).2.length then memB (tkF r).2 else []) ∧ (tkB r).2 = decide (0 < (tkF r).2.length) ∧ (0 < (tkF r).2.length → OkM (tkF r).2) := by
    unfold tkF at h ⊢
    by_cases hy : (tkB r).2 = true
    · rw [if_pos hy] at h ⊢
      have g := tkM_goes hk14 h
      have hp := g.2.pos
      rw [if_pos hp, decide_eq_true hp]
      exact ⟨g.1, hy, fun _ => g.2⟩
    · rw [if_neg hy] at h ⊢
      have hy : (tkB r).2 = false := by simpa using hy
      refine ⟨?_, ?_, fun e => absurd e (show ¬ 0 < ([] : List Int).length from Nat.lt_irrefl 0)⟩
      · dsimp only
        rw [if_neg (show ¬ 0 < ([] : List Int).length from Nat.lt_irrefl 0)]
        have h : (tkB r).1.err = 0 := by simpa only using h
        exact ⟨h, h, rfl, (List.append_nil _).symm⟩
      · rw [hy]; rfl
  obtain ⟨gF, hFb, hFo⟩ := hF
  have eB : tkB r = ((tkE (tkN r).1 (tkN r).2).1.text 2147483647).1.bool := by unfold tkB; exact rfl
  have gB : Goes ((tkE (tkN r).1 (tkN r).2).1.text 2147483647).1 (tkB r).1 (num (tkB r).2.toNat 1) := by
    have h0 := gF.e0
    rw [eB] at h0 ⊢
    exact bool_goes hk13 h0
  have gT := text_goes hk12 (m := 2147483647) gB.e0
  have hT := text_top (m := 2147483647) (by omega) hk12 gB.e0
  obtain ⟨gE, hE⟩ := tkE_goes hk11 (tkN r).2 gT.e0
  have gN : Goes (tk8 r 8).bool.1.bool.1 (tkN r).1 (num (tkN r).2 4) := count_goes hk10 (m := 16) gE.e0
  have gD := bool_goes hk9 gN.e0
  have gY := bool_goes hk8 gD.e0
  have g8 := tk8_goes hk 8 gY.e0
  have hl : (tkE (tkN r).1 (tkN r).2).2.length = (tkN r).2 := tkE_len _ _
  have hn : (tkN r).2 ≤ 16 := R.count_le _ 16
  have hc : ∀ i, cn8 r i ≤ 2147483647 := fun i => count_top 2147483647 (by omega)
  refine ⟨?_, ?_⟩
  · have e : mB r.msg.2 = cR r 8 ++ (num (tk8 r 8).bool.2.toNat 1 ++ (num (tk8 r 8).bool.1.bool.2.toNat 1 ++ (num (tkE (tkN r).1 (tkN r).2).2.length 4 ++ (lsB (tkE (tkN r).1 (tkN r).2).2 ++ ((num ((tkE (tkN r).1 (tkN r).2).1.text 2147483647).2.length 4 ++ ((tkE (tkN r).1 (tkN r).2).1.text 2147483647).2) ++ (num (tkB r).2.toNat 1 ++ if 0 < (tkF r).2.length then memB (tkF r).2 else [])))))) := by
      rw [hFb, ← cB_msg, ← msg_ents, ← msg_piece, ← msg_mems, ← msg_yes, ← msg_done]
      unfold mB
      rfl
    rw [e, hl]
    exact g8.trans (gY.trans (gD.trans (gN.trans (gE.trans (gT.trans (gB.trans gF))))))
  · have hT' : r.msg.2.piece.length ≤ 4294967296 := by rw [msg_piece]; omega
    have hl' : r.msg.2.ents.length ≤ 16 := by rw [msg_ents]; omega
    refine ⟨fun i => ?_, fun e he => ?_, by rw [msg_mems]; exact hFo, hT', hl', fun e he => ?_⟩
    rotate_left
    · rw [msg_ents] at he
      exact ⟨(hE e he).conf, by have := (hE e he).term; omega⟩
    · rw [msg_ents] at he
      exact (hE e he).text
    have : ∀ j, cn8 r j ≤ 9223372036854775807 := fun j => by have := hc j; omega
    unfold m8
    split <;> exact this _
/-- In s stands x at p. -/
def St (s : List UInt8) (p : Nat) (x : List UInt8) : Prop := ∃ a c, s = a ++ (x ++ c) ∧ a.length = p
theorem St.split {s : List UInt8} {p : Nat} {x y : List UInt8} (h : St s p (x ++ y)) : St s p x ∧ St s (p + x.length) y := by
  obtain ⟨a, c, rfl, rfl⟩ := h
  exact ⟨⟨a, y ++ c, by simp only [List.append_assoc], rfl⟩, ⟨a ++ x, c, by simp only [List.append_assoc], by rw [List.length_append]⟩⟩
theorem St.count {s : List UInt8} {p n : Nat} {m : Int} (h : St s p (num n 4)) (hn : n < 4294967296) (hm : (n : Int) ≤ m) : (⟨s, p, 0⟩ : R).count m = (⟨s, p + 4, 0⟩, n) := by
  obtain ⟨a, c, rfl, rfl⟩ := h
  exact R.count_at a c n m hn hm
theorem St.text {s t : List UInt8} {p : Nat} {m : Int} (h : St s p (num t.length 4 ++ t)) (ht : t.length < 4294967296) (hm : (t.length : Int) ≤ m) : (⟨s, p, 0⟩ : R).text m = (⟨s, p + (4 + t.length), 0⟩, t) := by
  obtain ⟨a, c, rfl, rfl⟩ := h
  exact R.text_at a t c m ht hm
theorem St.bool {s : List UInt8} {p : Nat} {y : Bool} (h : St s p (num y.toNat 1)) : (⟨s, p, 0⟩ : R).bool = (⟨s, p + 1, 0⟩, y) := by
  obtain ⟨a, c, rfl, rfl⟩ := h
  cases y
  · exact R.bool_at a c 0 (by decide)
  · exact R.bool_at a c 1 (by decide)
theorem St.mem {s : List UInt8} {p : Nat} {l : List Int} (h : St s p (memB l)) (hl : OkM l) : tkM (⟨s, p, 0⟩ : R) = (⟨s, p + (memB l).length, 0⟩, l) := by
  obtain ⟨a, c, rfl, rfl⟩ := h
  have hlen := hl.len
  have hpos := hl.pos
  have hS : ∀ i, i ≤ l.length → tkS (⟨a ++ (memB l ++ c), a.length + 1 + 0, 0⟩ : R) i = (⟨a ++ (memB l ++ c), a.length + 1 + i, 0⟩, l.take i) := by
    intro i
    induction i with
    | zero => intro _; rw [List.take_zero]; rfl
    | succ i ih =>
      intro hi
      have hlt : i < l.length := hi
      have h0 := hl.each (l.getD i 0) (by rw [List.getD_eq_getElem?_getD, List.getElem?_eq_getElem hlt]; exact List.getElem_mem hlt)
      have e : tkS (⟨a ++ (memB l ++ c), a.length + 1 + 0, 0⟩ : R) (i + 1) = (bif okM ((tkS (⟨a ++ (memB l ++ c), a.length + 1 + 0, 0⟩ : R) i).2 ++ [(((tkS (⟨a ++ (memB l ++ c), a.length + 1 + 0, 0⟩ : R) i).1.number 1).2 : Int)]) then ((tkS (⟨a ++ (memB l ++ c), a.length + 1 + 0, 0⟩ : R) i).1.number 1).1 else ((tkS (⟨a ++ (memB l ++ c), a.length + 1 + 0, 0⟩ : R) i).1.number 1).1.fail 6, (tkS (⟨a ++ (memB l ++ c), a.length + 1 + 0, 0⟩ : R) i).2 ++ [(((tkS (⟨a ++ (memB l ++ c), a.length + 1 + 0, 0⟩ : R) i).1.number 1).2 : Int)]) := rfl
      rw [e, ih (by omega)]
      dsimp only
      rw [mem_at a c l hl.each i hlt]
      dsimp only
      have et : l.take i ++ [((l.getD i 0).toNat : Int)] = l.take (i + 1) := by
        rw [List.take_succ_eq_append_getElem hlt, Int.toNat_of_nonneg h0.1, List.getD_eq_getElem?_getD, List.getElem?_eq_getElem hlt]
        rfl
      rw [et, okM_iff.2 (hl.take (by omega)), cond_true]
  unfold tkM
  rw [many_at a c l hlen]
  dsimp only
  rw [decide_eq_false (by omega), cond_false, hS l.length (Nat.le_refl _)]
  dsimp only
  rw [if_pos rfl, List.take_length, memB_len, Nat.add_assoc]
/-- An entry as it is taken again. -/
def nrm (e : LE) : LE := if e.conf = true then ⟨e.term, [], true, e.mem⟩ else ⟨e.term, e.s, false, []⟩
theorem nrm_lB (e : LE) : lB (nrm e) = lB e := by
  obtain ⟨t, s, c, l⟩ := e
  cases c <;> rfl
theorem entry_st {s : List UInt8} {p : Nat} {e : LE} (h : St s p (lB e)) (he : EnOk e) : (⟨s, p, 0⟩ : R).entry = (⟨s, p + (lB e).length, 0⟩, nrm e) := by
  obtain ⟨t, x, c, l⟩ := e
  have ht := he.term
  dsimp only at ht
  obtain ⟨k, rfl⟩ : ∃ k : Nat, t = (k : Int) := ⟨t.toNat, by omega⟩
  unfold lB at h
  dsimp only at h
  rw [Int.toNat_natCast] at h
  obtain ⟨h1, h2⟩ := h.split
  obtain ⟨h3, h4⟩ := h2.split
  have hx := he.text
  dsimp only at hx
  rw [num_length] at h3 h4
  rw [num_length] at h4
  have e1 := h1.count (m := 2147483647) (by omega) (by omega)
  have e2 := h3.bool
  unfold R.entry
  dsimp only
  rw [e1]
  dsimp only
  rw [e2]
  dsimp only
  cases c with
  | true =>
    rw [if_pos rfl] at h4 ⊢
    rw [h4.mem (he.conf rfl)]
    rw [lB_len, memB_len]
    dsimp only
    rw [if_pos rfl]
    unfold nrm
    rw [if_pos rfl]
    congr 2
    omega
  | false =>
    rw [if_neg Bool.false_ne_true] at h4 ⊢
    rw [h4.text (by omega) (by omega)]
    rw [lB_len]
    dsimp only
    rw [if_neg Bool.false_ne_true]
    unfold nrm
    rw [if_neg Bool.false_ne_true]
    congr 2
    omega
theorem tkE_st {s : List UInt8} {p : Nat} {l : List LE} (h : St s p (lsB l)) (hl : ∀ e ∈ l, EnOk e) : ∀ i, i ≤ l.length → (tkE (⟨s, p, 0⟩ : R) i).1 = ⟨s, p + (lsB (l.take i)).length, 0⟩
  | 0, _ => by rw [List.take_zero]; rfl
  | i + 1, hi => by
    have hlt : i < l.length := hi
    show (tkE (⟨s, p, 0⟩ : R) i).1.entry.1 = _
    rw [tkE_st h hl i (by omega)]
    have hs : lsB l = lsB (l.take i) ++ (lB l[i] ++ lsB (l.drop (i + 1))) := by
      conv => lhs; rw [← List.take_append_drop i l, List.drop_eq_getElem_cons hlt]
      unfold lsB
      rw [List.flatMap_append, List.flatMap_cons]
    rw [hs] at h
    have h2 := (h.split.2).split.1
    rw [entry_st h2 (hl _ (List.getElem_mem hlt)), lsB_take hlt, List.length_append]
    dsimp only
    rw [Nat.add_assoc]
/-- A message that Take takes whole. -/
structure TkOk (m : MSG) : Prop where
  ints : ∀ i, 0 ≤ m8 m i ∧ m8 m i ≤ 2147483647
  ents : ∀ e ∈ m.ents, EnOk e
  len : m.ents.length ≤ 16
  piece : m.piece.length ≤ 2147483647
  mems : 0 < m.mems.length → OkM m.mems
theorem tk8_st {s : List UInt8} {p : Nat} {m : MSG} (hm : ∀ i, 0 ≤ m8 m i ∧ m8 m i ≤ 2147483647) : ∀ i, St s p (cB m i) → tk8 (⟨s, p, 0⟩ : R) i = ⟨s, p + 4 * i, 0⟩
  | 0, _ => rfl
  | i + 1, h => by
    rw [cB_succ] at h
    obtain ⟨h1, h2⟩ := h.split
    rw [cB_len] at h2
    show ((tk8 (⟨s, p, 0⟩ : R) i).count 2147483647).1 = _
    rw [tk8_st hm i h1, h2.count (by have := hm i; omega) (by have := hm i; omega)]
    dsimp only
    rw [Nat.add_assoc]
    rfl
theorem msg_stg {m : MSG} (hm : TkOk m) {s : List UInt8} (h : St s 0 (mB m)) : (⟨s, 0, 0⟩ : R).msg.1 = ⟨s, (mB m).length, 0⟩ := by
  have hlen : (mB m).length = 32 + 1 + 1 + 4 + (lsB m.ents).length + (4 + m.piece.length) + 1 + (if 0 < m.mems.length then memB m.mems else []).length := by
    unfold mB
    simp only [List.length_append, num_length, cB_len]
    omega
  generalize hL : (mB m).length = LL at *
  unfold mB at h
  obtain ⟨h1, h⟩ := h.split
  obtain ⟨h2, h⟩ := h.split
  obtain ⟨h3, h⟩ := h.split
  obtain ⟨h4, h⟩ := h.split
  obtain ⟨h5, h⟩ := h.split
  obtain ⟨h6, h⟩ := h.split
  obtain ⟨h7, h8⟩ := h.split
  simp only [num_length, cB_len, List.length_append, Nat.zero_add] at h2 h3 h4 h5 h6 h7 h8
  have e1 : tk8 (⟨s, 0, 0⟩ : R) 8 = ⟨s, 32, 0⟩ := by
    have := tk8_st (s := s) (p := 0) hm.ints 8 h1
    rw [this]
  have hE := fun i hi => tkE_st h5 hm.ents i hi
  have hE2 := hE m.ents.length (Nat.le_refl _)
  rw [List.take_length] at hE2
  have eN : tkN (⟨s, 0, 0⟩ : R) = (⟨s, 38, 0⟩, m.ents.length) := by
    unfold tkN
    rw [e1, h2.bool]
    dsimp only
    rw [h3.bool]
    dsimp only
    exact h4.count (by have := hm.len; omega) (by have := hm.len; omega)
  have eB : tkB (⟨s, 0, 0⟩ : R) = (⟨s, 38 + (lsB m.ents).length + (4 + m.piece.length) + 1, 0⟩, decide (0 < m.mems.length)) := by
    unfold tkB
    rw [eN]
    dsimp only
    rw [hE2, h6.text (by have := hm.piece; omega) (by have := hm.piece; omega)]
    dsimp only
    exact h7.bool
  rw [msg_fst]
  unfold tkF
  rw [eB]
  dsimp only
  by_cases hp : 0 < m.mems.length
  · rw [if_pos (decide_eq_true hp)]
    rw [if_pos hp] at h8 hlen
    rw [h8.mem (hm.mems hp)]
    dsimp only
    exact congrArg (fun q => (⟨s, q, 0⟩ : R)) (by omega)
  · rw [if_neg (by rw [decide_eq_false hp]; decide)]
    rw [if_neg hp, List.length_nil] at hlen
    exact congrArg (fun q => (⟨s, q, 0⟩ : R)) (by omega)
theorem msg_st {m : MSG} (hm : TkOk m) : (⟨mB m, 0, 0⟩ : R).msg.1 = ⟨mB m, (mB m).length, 0⟩ := msg_stg hm ⟨[], [], by simp, rfl⟩
end Go.Proofs.YtnhlejdilldfaaaGreat
namespace Go.Proofs.YtnhlejdilldfaaaGreat
open Go Go.RowKit Go.Maps
section
attribute [local go_sem] mkApp2
variable (w : World)
set_option maxRecDepth 100000 in
set_option maxHeartbeats 1000000 in
theorem yes_any (y : Bool) : Calls Tryz.prog 45 #[.bool y] w fun e w' => e = .returned (.string ⟨(num y.toNat 1).toArray⟩) ∧ w' = w := by
  cases y
  · go_enter Tryz.func45, Tryz.ntmps45
    go_wp2_with fail
    go_ret
    exact ⟨rfl, rfl⟩
  · go_enter Tryz.func45, Tryz.ntmps45
    go_wp2_with fail
    go_ret
    exact ⟨rfl, rfl⟩
set_option maxRecDepth 100000 in
set_option maxHeartbeats 1000000 in
theorem said_any (e : LE) (he : EnOk e) (ma : Option Addr) (mc : Nat) (hI : IA w ma e.mem) : Calls Tryz.prog 25 #[.agg #[.int .i64 e.term, .string ⟨e.s.toArray⟩, .bool e.conf, .slice ma e.mem.length mc]] w fun o w' => o = .returned (.string ⟨(lB e).toArray⟩) ∧ Below w.heap.size w w' := by
  have hb1 := bl_al (Below.refl w.heap.size w) (.cells #[.int .i64 e.term, .string ⟨e.s.toArray⟩, .bool e.conf, .slice ma e.mem.length mc] 29)
  have hX1 := Blk.new w #[.int .i64 e.term, .string ⟨e.s.toArray⟩, .bool e.conf, .slice ma e.mem.length mc] 29
  have ht := he.term
  have hx := he.text
  go_enter Tryz.func25, Tryz.ntmps25
  go_upto_region 1 with fail
  generalize w.alloc (.cells #[.int .i64 e.term, .string ⟨e.s.toArray⟩, .bool e.conf, .slice ma e.mem.length mc] 29) = w1 at *
  have hs1 := hb1.size
  have HP := fun W (hW : Below w1.heap.size w1 W) (h : WR W w1.heap.size []) => putEntry_any e he.conf (by omega) ma mc w1.heap.size [] W w1 hW (Nat.le_refl _) (hI.below hb1) h (by show 0 + e.s.length ≤ _; omega)
  unfold lec at HP
  go_wp2_with (first
    | (go_at_call 16; refine (neww_any _).mono ?_; rintro o w2 ⟨rfl, hb2, hW2⟩; have hX2 := hX1.belowSize hb2; have e0 := hX2.cell 0; have e1 := hX2.cell 1; have e2 := hX2.cell 2; have e3 := hX2.cell 3)
    | (go_at_call 47; refine (HP _ hb2 hW2).mono ?_; rintro o w3 ⟨rfl, hP3⟩)
    | (go_at_call 18; refine (wall_any _ _ _ hP3.wr).mono ?_; rintro o w4 ⟨rfl, hw4⟩; replace hw4 := hw4.symm; subst hw4))
  go_ret
  exact ⟨rfl, hb1.trans ((hb2.mono hs1).trans (hP3.below.mono hs1))⟩
set_option maxRecDepth 100000 in
set_option maxHeartbeats 1000000 in
theorem entryB_any (e : LE) (he : EnOk e) (ma : Option Addr) (mc : Nat) (hI : IA w ma e.mem) : Calls Tryz.prog 46 #[.agg #[.int .i64 e.term, .string ⟨e.s.toArray⟩, .bool e.conf, .slice ma e.mem.length mc]] w fun o w' => o = .returned (.string ⟨(lB e).toArray⟩) ∧ Below w.heap.size w w' := by
  have ht := he.term
  have hx := he.text
  obtain ⟨t, ht0⟩ : ∃ t : Nat, e.term = (t : Int) := ⟨e.term.toNat, by omega⟩
  have hLB : Hid (lB e = num t 4 ++ (num e.conf.toNat 1 ++ (if e.conf = true then memB e.mem else num e.s.length 4 ++ e.s))) := by
    show _ = _
    unfold lB
    rw [ht0, Int.toNat_natCast]
  obtain ⟨RS, hRS⟩ : ∃ RS, Hid (RS = lB e) := ⟨_, rfl⟩
  have hRT : Hid (RS = num t 4 ++ (num e.conf.toNat 1 ++ (if e.conf = true then memB e.mem else num e.s.length 4 ++ e.s))) := by show _ = _; rw [hRS.out, hLB.out]
  rw [← hRS.out, ht0]
  rw [ht0] at ht
  clear hLB ht0 hRS
  have hwr : IntKind.u64.wrap ((t : Nat) : Int) = (t : Int) := by rw [IntKind.wrap_u64]; omega
  have hb1 := bl_al (Below.refl w.heap.size w) (.cells #[.int .i64 (t : Nat), .string ⟨e.s.toArray⟩, .bool e.conf, .slice ma e.mem.length mc] 29)
  have hX1 := Blk.new w #[.int .i64 (t : Nat), .string ⟨e.s.toArray⟩, .bool e.conf, .slice ma e.mem.length mc] 29
  go_enter Tryz.func46, Tryz.ntmps46
  go_upto_region 1 with fail
  generalize w.alloc (.cells #[.int .i64 (t : Nat), .string ⟨e.s.toArray⟩, .bool e.conf, .slice ma e.mem.length mc] 29) = w1 at *
  refine wp_region_held_drew (S := fun w' : World => Below w.heap.size w w' ∧ Blk w' w.heap.size #[.int .i64 (t : Nat), .string ⟨e.s.toArray⟩, .bool e.conf, .slice ma e.mem.length mc] 29) (by kernel_rfl) (And.intro (bl_dr hb1) hX1.drew) (fun hH => ?_)
  try go_frame
  refine wpAnyH_take (i := 0) (oi := ⟨some 4, _, _, _, _, _⟩) (v := .pointer (some ⟨w.heap.size, 0, none⟩)) rfl (by kernel_rfl) (by kernel_rfl) (by kernel_rfl) (fun _ _ _ h => h) (Or.inl ⟨by rfl, fun w hSw => by go_simp⟩) hH ?_
  try simp only [Act.put, List.setIfInBounds_toArray, List.set_cons_zero, List.set_cons_succ]
  refine wpAnyH_take (i := 1) (oi := ⟨some 5, _, _, _, _, _⟩) (v := .int .i64 (t : Nat)) rfl (by kernel_rfl) (by kernel_rfl) (by kernel_rfl) (fun _ _ _ h => h) (Or.inl ⟨by rfl, fun w hSw => run_loadC _ _ rfl _ _ rfl _ Tryz.underlying3 rfl _ (hSw.2.cell 0)⟩) hH ?_
  try simp only [Act.put, List.setIfInBounds_toArray, List.set_cons_zero, List.set_cons_succ]
  refine wpAnyH_take (i := 2) (oi := ⟨some 6, _, _, _, _, _⟩) (v := .int .u64 (t : Nat)) rfl (by kernel_rfl) (by kernel_rfl) (by kernel_rfl) (fun _ _ _ h => h) (Or.inl ⟨by rfl, fun w hSw => by first | (go_simp; done) | (go_simp; rw [hwr]) | (go_simp; simp [hwr])⟩) hH ?_
  try simp only [Act.put, List.setIfInBounds_toArray, List.set_cons_zero, List.set_cons_succ]
  refine wpAnyH_take (i := 4) (oi := ⟨some 8, _, _, _, _, _⟩) (v := .pointer (some ⟨w.heap.size, 2, none⟩)) rfl (by kernel_rfl) (by kernel_rfl) (by kernel_rfl) (fun _ _ _ h => h) (Or.inl ⟨by rfl, fun w hSw => by go_simp⟩) hH ?_
  try simp only [Act.put, List.setIfInBounds_toArray, List.set_cons_zero, List.set_cons_succ]
  refine wpAnyH_take (i := 5) (oi := ⟨some 9, _, _, _, _, _⟩) (v := .bool e.conf) rfl (by kernel_rfl) (by kernel_rfl) (by kernel_rfl) (fun _ _ _ h => h) (Or.inl ⟨by rfl, fun w hSw => run_loadC _ _ rfl _ _ rfl _ Tryz.underlying4 rfl _ (hSw.2.cell 2)⟩) hH ?_
  try simp only [Act.put, List.setIfInBounds_toArray, List.set_cons_zero, List.set_cons_succ]
  refine wpAnyH_solo (i := 3) (o := ⟨some 7, _, _, _, _, _⟩) rfl (by kernel_rfl) (fun K hK => ?_)
  refine wpList_callR Tryz.func44 (by kernel_rfl) (by kernel_rfl) rfl _ _ rfl #[.int .u64 (t : Nat), .int .i64 4] (args2 rfl rfl) _ (rnum_nat 4 (by decide) t _ (by omega)) ?_
  rintro o w3 ⟨rfl, hw3⟩
  have hH3 := And.intro (bl_ca hH.1 hw3) (hH.2.belowSize hw3)
  refine ⟨_, rfl, ?_⟩
  refine hK _ _ (hH3) ?_
  clear hH
  have hH := hH3
  clear hK K
  try simp only [Act.put, List.setIfInBounds_toArray, List.set_cons_zero, List.set_cons_succ]
  refine wpAnyH_solo (i := 6) (o := ⟨some 10, _, _, _, _, _⟩) rfl (by kernel_rfl) (fun K hK => ?_)
  refine wpList_callR Tryz.func45 (by kernel_rfl) (by kernel_rfl) rfl _ _ rfl #[.bool e.conf] (args1 rfl) _ (yes_any _ e.conf) ?_
  rintro o w4 ⟨rfl, hw4⟩
  replace hw4 := hw4.symm
  subst hw4
  refine ⟨_, rfl, ?_⟩
  refine hK _ _ (hH) ?_
  clear hK K
  try simp only [Act.put, List.setIfInBounds_toArray, List.set_cons_zero, List.set_cons_succ]
  refine wpAnyH_take (i := 7) (oi := ⟨some 11, _, _, _, _, _⟩) (v := .string ⟨(num t 4 ++ num e.conf.toNat 1).toArray⟩) rfl (by kernel_rfl) (by kernel_rfl) (by kernel_rfl) (fun _ _ _ h => h) (Or.inl ⟨by rfl, fun w hSw => by go_simp; rw [num_length, num_length]; omega⟩) hH ?_
  try simp only [Act.put, List.setIfInBounds_toArray, List.set_cons_zero, List.set_cons_succ]
  refine wpAnyH_solo (i := 8) (o := ⟨some 3, _, _, _, _, _⟩) rfl (by kernel_rfl) (fun K hK => ?_)
  refine wpList_pure rfl (.string ⟨(num t 4 ++ num e.conf.toNat 1).toArray⟩) (by go_simp) ?_
  refine hK _ _ hH ?_
  clear hK K
  try simp only [Act.put, List.setIfInBounds_toArray, List.set_cons_zero, List.set_cons_succ]
  refine wpAnyH_done (by kernel_rfl) ?_ _
  try simp only [Act.put]
  try go_simp
  have hwe := hH
  clear hH
  obtain ⟨hbe, hXe⟩ := hwe
  have e2 := hXe.cell 2
  cases hc : e.conf with
  | true =>
    have hk := he.conf hc
    have e3 := hXe.cell 3
    rw [hc] at e2 hRT
    rw [if_pos rfl] at hRT
    have HM := fun W (hW : Below w.heap.size w W) => rmemB_any e.mem ma mc W (hI.below hW) (fun x hx => hk.each x hx) hk.len
    have hml := memB_len e.mem
    have hkl := hk.len
    have hn1 := num_length 1 true.toNat
    have hn4 := num_length 4 t
    clear hc
    generalize memB e.mem = mb at *
    generalize num true.toNat 1 = n1 at *
    generalize num t 4 = n4 at *
    go_wp2_with (go_at_call 50; refine (HM _ hbe).mono ?_; rintro o w5 ⟨rfl, hw5⟩; clear HM)
    go_ret
    refine ⟨?_, hbe.trans (hw5.mono hbe.size)⟩
    rw [hRT.out, ← List.append_assoc]
    rfl
  | false =>
    have e1 := hXe.cell 1
    rw [hc] at e2 hRT
    rw [if_neg Bool.false_ne_true] at hRT
    have HM := fun W => rtext_str e.s W (by omega)
    have hn1 := num_length 1 false.toNat
    have hn4 := num_length 4 t
    have hml : (num e.s.length 4 ++ e.s).length ≤ 1048580 := by rw [List.length_append, num_length]; omega
    clear hc
    generalize num e.s.length 4 ++ e.s = mb at *
    generalize num false.toNat 1 = n1 at *
    generalize num t 4 = n4 at *
    go_wp2_with (go_at_call 49; refine (HM _).mono ?_; rintro o w5 ⟨rfl, hw5⟩; clear HM)
    go_ret
    refine ⟨?_, hbe.trans (hw5.mono hbe.size)⟩
    rw [hRT.out, ← List.append_assoc]
    rfl
end
end Go.Proofs.YtnhlejdilldfaaaGreat
