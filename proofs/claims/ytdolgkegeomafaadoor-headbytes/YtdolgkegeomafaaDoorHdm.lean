/- Headers, plainly: who may take part, which headers may be, their bytes, and what a reader takes. Bytes that are read as a header are just its bytes, and its bytes are read as it. -/
import Derived.Test.YtdolgkegeomafaaDoorTxm
namespace Go.Proofs.YtdolgkegeomafaaDoor
open Go
structure HH where
  height : Nat
  prev : List UInt8
  txr : List UInt8
  str : List UInt8
  mem : List Int
/-- May they be who takes part? -/
def okM (l : List Int) : Bool := decide (l ≠ []) && ((l.all fun m => decide (0 ≤ m ∧ m ≤ 15)) && decide (l.Pairwise (· < ·)))
structure OkM (l : List Int) : Prop where
  ne : l ≠ []
  each : ∀ m ∈ l, 0 ≤ m ∧ m ≤ 15
  up : l.Pairwise (· < ·)
theorem okM_iff {l : List Int} : okM l = true ↔ OkM l := by
  unfold okM
  rw [Bool.and_eq_true, Bool.and_eq_true, decide_eq_true_eq, decide_eq_true_eq, List.all_eq_true]
  exact ⟨fun ⟨h1, h2, h3⟩ => ⟨h1, fun m hm => of_decide_eq_true (h2 m hm), h3⟩, fun h => ⟨h.ne, fun m hm => decide_eq_true (h.each m hm), h.up⟩⟩
theorem rising_len : ∀ (l : List Int) (a b : Int), a ≤ b + 1 → (∀ m ∈ l, a ≤ m ∧ m ≤ b) → l.Pairwise (· < ·) → (l.length : Int) ≤ b - a + 1
  | [], a, b, h, _, _ => by simp only [List.length_nil]; omega
  | x :: r, a, b, h, hm, hp => by
    obtain ⟨h1, h2⟩ := List.pairwise_cons.1 hp
    obtain ⟨h3, h4⟩ := hm x (List.mem_cons_self ..)
    have h5 := rising_len r (x + 1) b (by omega) (fun m hr => ⟨by have := h1 m hr; omega, (hm m (List.mem_cons_of_mem _ hr)).2⟩) h2
    rw [List.length_cons]
    omega
theorem OkM.len {l : List Int} (h : OkM l) : l.length ≤ 16 := by
  have := rising_len l 0 15 (by decide) h.each h.up
  omega
theorem OkM.pos {l : List Int} (h : OkM l) : 0 < l.length := List.length_pos_iff.2 h.ne
def memsB (l : List Int) : List UInt8 := l.flatMap fun m => num m.toNat 1
def memB (l : List Int) : List UInt8 := num l.length 1 ++ memsB l
theorem memsB_nil : memsB [] = [] := rfl
theorem memsB_snoc (l : List Int) (m : Int) : memsB (l ++ [m]) = memsB l ++ num m.toNat 1 := by simp [memsB]
theorem memsB_len : ∀ l : List Int, (memsB l).length = l.length
  | [] => rfl
  | x :: r => by
    rw [memsB, List.flatMap_cons, List.length_append, num_length, List.length_cons]
    have := memsB_len r
    rw [memsB] at this
    omega
theorem memB_len (l : List Int) : (memB l).length = 1 + l.length := by rw [memB, List.length_append, num_length, memsB_len]
def okH (h : HH) : Bool := decide (h.height ≠ 0 ∧ h.prev.length = 32 ∧ h.txr.length = 32 ∧ h.str.length = 32) && okM h.mem
structure OkH (h : HH) : Prop where
  h0 : h.height ≠ 0
  p : h.prev.length = 32
  t : h.txr.length = 32
  s : h.str.length = 32
  m : OkM h.mem
theorem okH_iff {h : HH} : okH h = true ↔ OkH h := by
  unfold okH
  rw [Bool.and_eq_true, decide_eq_true_eq, okM_iff]
  exact ⟨fun ⟨⟨a, b, c, d⟩, e⟩ => ⟨a, b, c, d, e⟩, fun ⟨a, b, c, d, e⟩ => ⟨⟨a, b, c, d⟩, e⟩⟩
def chkH (h : HH) : Int := if okH h = true then 0 else 80
theorem chkH_ok {h : HH} (k : chkH h = 0) : OkH h := by
  unfold chkH at k
  split at k
  · rename_i h1; exact okH_iff.1 h1
  · simp at k
theorem chkH_zero {h : HH} (k : OkH h) : chkH h = 0 := if_pos (okH_iff.2 k)
theorem chkH_not {h : HH} (k : ¬ OkH h) : chkH h = 80 := if_neg (fun e => k (okH_iff.1 e))
/-- A header's bytes. -/
def hB (h : HH) : List UInt8 := num h.height 8 ++ (h.prev ++ (h.txr ++ (h.str ++ memB h.mem)))
theorem hB_len {h : HH} (k : OkH h) : (hB h).length = 105 + h.mem.length := by
  unfold hB
  simp only [List.length_append, num_length, k.p, k.t, k.s, memB_len]
  omega
/-- The reader behind n numbers of a byte, and these numbers. -/
def stM (r : R) : Nat → R
  | 0 => r
  | n + 1 => ((stM r n).number 1).1
def memAt (r : R) (i : Nat) : Int := ((stM r i).number 1).2
def memTo (r : R) (n : Nat) : List Int := (List.range n).map (memAt r)
theorem memTo_succ (r : R) (n : Nat) : memTo r (n + 1) = memTo r n ++ [memAt r n] := by simp [memTo, List.range_succ]
theorem memTo_len (r : R) (n : Nat) : (memTo r n).length = n := by simp [memTo]
theorem stM_s (r : R) : ∀ i, (stM r i).s = r.s
  | 0 => rfl
  | i + 1 => by rw [stM, R.number_s, stM_s r i]
theorem stM_ok {r : R} (h : r.ok) : ∀ i, (stM r i).ok
  | 0 => h
  | i + 1 => R.ok_number (stM_ok h i) 1
theorem stM_keep (r : R) (i : Nat) (h : (stM r i).err ≠ 0) : ∀ k, stM r (i + k) = stM r i
  | 0 => rfl
  | k + 1 => by
    show ((stM r (i + k)).number 1).1 = _
    rw [stM_keep r i h k, R.number_keep 1 h]
def rdMn (r : R) : R × Nat := r.number 1
/-- Who takes part, off a reader: the reader behind, and the list. -/
def rdMl (r : R) : List Int := memTo (r.number 1).1 (r.number 1).2
def rdMe (r : R) : R := (stM (r.number 1).1 (r.number 1).2).fail (if okM (rdMl r) = true then 0 else 6)
theorem rdMe_s (r : R) : (rdMe r).s = r.s := by unfold rdMe; rw [R.fail_s, stM_s, R.number_s]
theorem rdMe_ok {r : R} (h : r.ok) : (rdMe r).ok := R.ok_fail (stM_ok (R.ok_number h 1) _) _
def rd1 (r : R) : R := (r.number 8).1
def rd2 (r : R) : R := ((rd1 r).bytes 32).1
def rd3 (r : R) : R := ((rd2 r).bytes 32).1
def rd4 (r : R) : R := ((rd3 r).bytes 32).1
theorem rd1_ok {r : R} (h : r.ok) : (rd1 r).ok := R.ok_number h 8
theorem rd2_ok {r : R} (h : r.ok) : (rd2 r).ok := R.ok_bytes (rd1_ok h) 32
theorem rd3_ok {r : R} (h : r.ok) : (rd3 r).ok := R.ok_bytes (rd2_ok h) 32
theorem rd4_ok {r : R} (h : r.ok) : (rd4 r).ok := R.ok_bytes (rd3_ok h) 32
theorem rd4_s (r : R) : (rd4 r).s = r.s := by unfold rd4 rd3 rd2 rd1; rw [R.bytes_s, R.bytes_s, R.bytes_s, R.number_s]
def rdH (r : R) : HH := ⟨(r.number 8).2, ((rd1 r).bytes 32).2, ((rd2 r).bytes 32).2, ((rd3 r).bytes 32).2, rdMl (rd4 r)⟩
def rdHe (r : R) : R := (rdMe (rd4 r)).fail (chkH (rdH r))
theorem rdHe_s (r : R) : (rdHe r).s = r.s := by unfold rdHe; rw [R.fail_s, rdMe_s, rd4_s]
theorem rdHe_ok {r : R} (h : r.ok) : (rdHe r).ok := R.ok_fail (rdMe_ok (rd4_ok h)) _
theorem stM_goes {r : R} (hk : r.ok) : ∀ n, (stM r n).err = 0 → Goes r (stM r n) (memsB (memTo r n))
  | 0, h => ⟨h, h, rfl, by rw [show memTo r 0 = [] from rfl, memsB_nil, List.append_nil]; rfl⟩
  | n + 1, h => by
    have h1 := number_goes (k := 1) (stM_ok hk n) (by omega) h
    have h2 := stM_goes hk n h1.e0
    rw [memTo_succ, memsB_snoc]
    exact h2.trans h1
theorem okM_fail {l : List Int} (h : (if okM l = true then (0 : Int) else 6) = 0) : OkM l := by
  split at h
  · rename_i h1; exact okM_iff.1 h1
  · simp at h
theorem Goes.fail {a b : R} {x : List UInt8} {e : Int} (h : Goes a b x) (he : e = 0) : Goes a (b.fail e) x :=
  ⟨h.e0, by unfold R.fail; rw [if_pos h.e1]; exact he, by rw [R.fail_s]; exact h.s, by rw [R.fail_pos]; exact h.at'⟩
theorem rdMe_goes {r : R} (hk : r.ok) (h : (rdMe r).err = 0) : Goes r (rdMe r) (memB (rdMl r)) ∧ OkM (rdMl r) := by
  obtain ⟨h1, h2⟩ := R.fail_zero h
  have g2 := stM_goes (R.ok_number hk 1) _ h1
  have g1 := number_goes (k := 1) hk (by omega) g2.e0
  refine ⟨?_, okM_fail h2⟩
  have g := (g1.trans g2).fail h2
  rw [memB, show (rdMl r).length = (r.number 1).2 from memTo_len _ _]
  exact g
theorem rdH_goes {r : R} (hk : r.ok) (h : (rdHe r).err = 0) : Goes r (rdHe r) (hB (rdH r)) ∧ OkH (rdH r) := by
  obtain ⟨h1, h2⟩ := R.fail_zero h
  obtain ⟨g5, _⟩ := rdMe_goes (rd4_ok hk) h1
  have g4 := (bytes_goes (k := 32) (rd3_ok hk) g5.e0).1
  have g3 := (bytes_goes (k := 32) (rd2_ok hk) g4.e0).1
  have g2 := (bytes_goes (k := 32) (rd1_ok hk) g3.e0).1
  have g1 := number_goes (k := 8) hk (by omega) g2.e0
  exact ⟨(g1.trans (g2.trans (g3.trans (g4.trans g5)))).fail h2, chkH_ok h2⟩
/-- Bytes that are read whole are the header's bytes. -/
theorem rdH_all {s : List UInt8} (h : (rdHe ⟨s, 0, 0⟩).fin.err = 0) : hB (rdH ⟨s, 0, 0⟩) = s ∧ OkH (rdH ⟨s, 0, 0⟩) := by
  have hk : (⟨s, 0, 0⟩ : R).ok := Nat.zero_le _
  obtain ⟨h1, h2⟩ := R.fin_zero (rdHe_ok hk) h
  obtain ⟨g, ho⟩ := rdH_goes hk h1
  refine ⟨?_, ho⟩
  have := g.at'
  rw [h2, rdHe_s] at this
  simpa using this.symm
theorem stM_at (a c : List UInt8) (l : List Int) (hl : ∀ m ∈ l, 0 ≤ m ∧ m ≤ 15) : ∀ i, i ≤ l.length → stM ⟨a ++ (memsB l ++ c), a.length, 0⟩ i = ⟨a ++ (memsB l ++ c), a.length + i, 0⟩ ∧ memTo ⟨a ++ (memsB l ++ c), a.length, 0⟩ i = l.take i
  | 0, _ => ⟨by simp [stM], rfl⟩
  | i + 1, hi => by
    obtain ⟨h1, h2⟩ := stM_at a c l hl i (by omega)
    have hlt : i < l.length := by omega
    have hd : memsB l = memsB (l.take i) ++ (num l[i].toNat 1 ++ memsB (l.drop (i + 1))) := by
      conv => lhs; rw [← List.take_append_drop i l, List.drop_eq_getElem_cons hlt]
      unfold memsB
      rw [List.flatMap_append, List.flatMap_cons]
    obtain ⟨hm0, hm1⟩ := hl _ (List.getElem_mem hlt)
    have h3 := R.number_at (a ++ memsB (l.take i)) (num l[i].toNat 1) (memsB (l.drop (i + 1)) ++ c) 1 (by rw [num_length]; rfl) (by rw [num_length]; omega)
    have e : a ++ memsB (l.take i) ++ (num l[i].toNat 1 ++ (memsB (l.drop (i + 1)) ++ c)) = a ++ (memsB l ++ c) := by rw [hd]; simp only [List.append_assoc]
    rw [e, List.length_append, memsB_len, List.length_take, Nat.min_eq_left (Nat.le_of_lt hlt), num_length, val_num, show l[i].toNat % 256 ^ 1 = l[i].toNat from Nat.mod_eq_of_lt (by omega)] at h3
    constructor
    · show ((stM _ i).number 1).1 = _
      rw [h1, h3]
      rfl
    · rw [memTo_succ, h2, List.take_succ_eq_append_getElem hlt]
      unfold memAt
      rw [h1, h3]
      show l.take i ++ [((l[i].toNat : Nat) : Int)] = _
      rw [Int.toNat_of_nonneg hm0]
theorem rdM_at (a c : List UInt8) (l : List Int) (hl : OkM l) : rdMl ⟨a ++ (memB l ++ c), a.length, 0⟩ = l ∧ rdMe ⟨a ++ (memB l ++ c), a.length, 0⟩ = ⟨a ++ (memB l ++ c), a.length + (1 + l.length), 0⟩ := by
  have hlen := hl.len
  have h1 := R.number_at a (num l.length 1) (memsB l ++ c) 1 (by rw [num_length]; rfl) (by rw [num_length]; omega)
  rw [num_length, val_num, show l.length % 256 ^ 1 = l.length from Nat.mod_eq_of_lt (by omega)] at h1
  have e : a ++ (memB l ++ c) = a ++ (num l.length 1 ++ (memsB l ++ c)) := by rw [memB]; simp only [List.append_assoc]
  obtain ⟨h2, h3⟩ := stM_at (a ++ num l.length 1) c l hl.each l.length (Nat.le_refl _)
  have e2 : a ++ num l.length 1 ++ (memsB l ++ c) = a ++ (num l.length 1 ++ (memsB l ++ c)) := by simp only [List.append_assoc]
  rw [e2, List.length_append, num_length] at h2 h3
  have hm : rdMl ⟨a ++ (memB l ++ c), a.length, 0⟩ = l := by
    unfold rdMl
    rw [e, h1]
    exact h3.trans (List.take_length ..)
  refine ⟨hm, ?_⟩
  unfold rdMe
  rw [hm, if_pos (okM_iff.2 hl), e, h1]
  show (stM _ l.length).fail 0 = _
  rw [h2]
  show (⟨_, _, 0⟩ : R) = _
  rw [Nat.add_assoc]
/-- What is read of a header's bytes, with others behind them. -/
theorem rdH_at (h : HH) (hk : OkH h) (hh : h.height < 18446744073709551616) (a c : List UInt8) :
    rdH ⟨a ++ (hB h ++ c), a.length, 0⟩ = h ∧ rdHe ⟨a ++ (hB h ++ c), a.length, 0⟩ = ⟨a ++ (hB h ++ c), a.length + (hB h).length, 0⟩ := by
  obtain ⟨ht, p, t, s, m⟩ := h
  have hp := hk.p
  have ht' := hk.t
  have hs := hk.s
  dsimp only at hp ht' hs hh
  obtain ⟨S, hS⟩ : ∃ S, a ++ (hB ⟨ht, p, t, s, m⟩ ++ c) = S := ⟨_, rfl⟩
  have e0 : a ++ (num ht 8 ++ (p ++ (t ++ (s ++ (memB m ++ c))))) = S := by rw [← hS, hB]; simp only [List.append_assoc]
  have e1 : a ++ num ht 8 ++ (p ++ (t ++ (s ++ (memB m ++ c)))) = S := by rw [← e0]; simp only [List.append_assoc]
  have e2 : a ++ num ht 8 ++ p ++ (t ++ (s ++ (memB m ++ c))) = S := by rw [← e0]; simp only [List.append_assoc]
  have e3 : a ++ num ht 8 ++ p ++ t ++ (s ++ (memB m ++ c)) = S := by rw [← e0]; simp only [List.append_assoc]
  have e4 : a ++ num ht 8 ++ p ++ t ++ s ++ (memB m ++ c) = S := by rw [← e0]; simp only [List.append_assoc]
  have h1 := R.number_at a (num ht 8) (p ++ (t ++ (s ++ (memB m ++ c)))) 8 (by rw [num_length]; rfl) (by rw [num_length]; omega)
  rw [e0, num_length, num_eight ht hh] at h1
  have h2 := R.bytes_at (a ++ num ht 8) p (t ++ (s ++ (memB m ++ c)))
  have h3 := R.bytes_at (a ++ num ht 8 ++ p) t (s ++ (memB m ++ c))
  have h4 := R.bytes_at (a ++ num ht 8 ++ p ++ t) s (memB m ++ c)
  obtain ⟨h5, h6⟩ := rdM_at (a ++ num ht 8 ++ p ++ t ++ s) c m hk.m
  have l1 : (a ++ num ht 8).length = a.length + 8 := by rw [List.length_append, num_length]
  have l2 : (a ++ num ht 8 ++ p).length = a.length + 40 := by rw [List.length_append, l1, hp]
  have l3 : (a ++ num ht 8 ++ p ++ t).length = a.length + 72 := by rw [List.length_append, l2, ht']
  have l4 : (a ++ num ht 8 ++ p ++ t ++ s).length = a.length + 104 := by rw [List.length_append, l3, hs]
  rw [e1, l1, hp] at h2
  rw [e2, l2, ht'] at h3
  rw [e3, l3, hs] at h4
  rw [e4, l4] at h5 h6
  rw [hS]
  have r1 : rd1 ⟨S, a.length, 0⟩ = ⟨S, a.length + 8, 0⟩ := by unfold rd1; rw [h1]
  have h2' : (⟨S, a.length + 8, 0⟩ : R).bytes 32 = (⟨S, a.length + 40, 0⟩, p) := h2
  have r2 : rd2 ⟨S, a.length, 0⟩ = ⟨S, a.length + 40, 0⟩ := by unfold rd2; rw [r1, h2']
  have h3' : (⟨S, a.length + 40, 0⟩ : R).bytes 32 = (⟨S, a.length + 72, 0⟩, t) := h3
  have r3 : rd3 ⟨S, a.length, 0⟩ = ⟨S, a.length + 72, 0⟩ := by unfold rd3; rw [r2, h3']
  have h4' : (⟨S, a.length + 72, 0⟩ : R).bytes 32 = (⟨S, a.length + 104, 0⟩, s) := h4
  have r4 : rd4 ⟨S, a.length, 0⟩ = ⟨S, a.length + 104, 0⟩ := by unfold rd4; rw [r3, h4']
  have hH : rdH ⟨S, a.length, 0⟩ = ⟨ht, p, t, s, m⟩ := by
    unfold rdH
    rw [r1, r2, r3, r4, h1, h2', h3', h4', h5]
  refine ⟨hH, ?_⟩
  unfold rdHe
  rw [hH, chkH_zero hk, r4, h6, hB_len hk]
  show (⟨S, _, 0⟩ : R) = _
  rw [show a.length + 104 + (1 + m.length) = a.length + (105 + m.length) by omega]
/-- Unlike headers that may be have unlike bytes. -/
theorem hB_inj {x y : HH} (hx : OkH x) (hy : OkH y) (h1 : x.height < 18446744073709551616) (h2 : y.height < 18446744073709551616) (h : hB x = hB y) : x = y := by
  have k1 := (rdH_at x hx h1 [] []).1
  have k2 := (rdH_at y hy h2 [] []).1
  rw [h] at k1
  exact k1.symm.trans k2
end Go.Proofs.YtdolgkegeomafaaDoor
