/- Bytes as frames, plainly, up to the first one that is not whole and right; what the log's unframe does. A log on its disk in memory, and what stays when it changes. -/
import Derived.Test.YtaiiojbakmminaaGreatDoorWfm
import Derived.Test.YtaiiojbakmminaaGreatDoorWnu
namespace Go.Proofs.YtaiiojbakmminaaGreatDoor
open Go Go.RowKit Go.Shelf
theorem R.number_good {r : R} (hk : r.ok) (h : (r.number 4).1.err = 0) : r.err = 0 ∧ r.pos + 4 ≤ r.s.length ∧ r.number 4 = (⟨r.s, r.pos + 4, 0⟩, val ((r.s.drop r.pos).take 4)) := by
  have e : r.early 4 = r := if_neg (by omega)
  unfold R.number at h ⊢
  rw [e] at h ⊢
  obtain ⟨h1, h2, h3, _⟩ := R.bytes_good (n := 4) hk h
  have h3 : r.bytes 4 = (⟨r.s, r.pos + 4, 0⟩, (r.s.drop r.pos).take 4) := h3
  rw [h3]
  exact ⟨h1, h2, rfl⟩
theorem unframe_one (x : List UInt8) (h : (unframe x 0).2.2 = 0) : ∃ n : Nat, (unframe x 0).2.1 = n ∧ n ≤ x.length ∧ x.take n = frame (unframe x 0).1 ∧ (unframe x 0).1.length ≤ x.length := by
  unfold unframe at h ⊢
  rw [if_neg (by omega)] at h ⊢
  have e0 : x.drop (Int.toNat 0) = x := rfl
  rw [e0] at h ⊢
  unfold unfR at h ⊢
  by_cases h1 : (rdC x).1.err = 0
  · rw [if_neg (by simpa using h1)] at h ⊢
    by_cases h2 : (rdB x).2 = (fcheck (rdC x).2).toNat
    · rw [if_neg (by simpa using h2)]
      obtain ⟨b1, b2, b3, b4⟩ := R.bytes_good (rdB_ok x) h1
      obtain ⟨a1, a2, a3⟩ := R.number_good (rdA_ok x) b1
      have hn : (⟨x, 0, 0⟩ : R).count 2147483647 = (⟨x, 0, 0⟩ : R).number 4 ∧ ((⟨x, 0, 0⟩ : R).number 4).1.err = 0 := by
        by_cases hc : (2147483647 : Int) < 0 ∨ (2147483647 : Int) < ((⟨x, 0, 0⟩ : R).number 4).2
        · have hco := R.count_out hc
          have hr : (rdA x).1 = ((⟨x, 0, 0⟩ : R).number 4).1.refuse 0 3 := by unfold rdA; rw [hco]
          rw [hr] at a1
          unfold R.refuse R.fail at a1
          simp only at a1
          split at a1
          · cases a1
          · rename_i hne
            exact absurd a1 hne
        · have hci := R.count_in hc
          refine ⟨hci, ?_⟩
          have hr : (rdA x).1 = ((⟨x, 0, 0⟩ : R).number 4).1 := by unfold rdA; rw [hci]
          rw [← hr]
          exact a1
      obtain ⟨_, c2, c3⟩ := R.number_good (r := ⟨x, 0, 0⟩) (Nat.zero_le _) hn.2
      have hA : rdA x = (⟨x, 4, 0⟩, val (x.take 4)) := by unfold rdA; rw [hn.1, c3]; rfl
      have hB : rdB x = (⟨x, 8, 0⟩, val ((x.drop 4).take 4)) := by
        have : rdB x = (⟨(rdA x).1.s, (rdA x).1.pos + 4, 0⟩, val (((rdA x).1.s.drop (rdA x).1.pos).take 4)) := a3
        rw [hA] at this
        exact this
      have hC : rdC x = (⟨x, 8 + val (x.take 4), 0⟩, (x.drop 8).take (val (x.take 4))) := by
        have : rdC x = (⟨(rdB x).1.s, (rdB x).1.pos + (rdA x).2, 0⟩, ((rdB x).1.s.drop (rdB x).1.pos).take (rdA x).2) := b3
        rw [hA, hB] at this
        exact this
      rw [hA, hB] at b2
      have b2 : 8 + val (x.take 4) ≤ x.length := b2
      have b4 : (rdC x).2.length = (rdA x).2 := b4
      rw [hC, hA] at b4
      have b4 : ((x.drop 8).take (val (x.take 4))).length = val (x.take 4) := b4
      rw [hC] at h2 ⊢
      rw [hB] at h2
      simp only at h2 ⊢
      refine ⟨8 + val (x.take 4), by omega, b2, ?_, by rw [b4]; omega⟩
      have l4 : (x.take 4).length = 4 := by rw [List.length_take]; omega
      have l44 : ((x.drop 4).take 4).length = 4 := by rw [List.length_take, List.length_drop]; omega
      unfold frame
      rw [b4, num_val 4 _ l4]
      have hfc : (crc (x.take 4 ++ (x.drop 8).take (val (x.take 4)))).toNat = val ((x.drop 4).take 4) := by
        rw [h2]
        unfold fcheck
        rw [b4, num_val 4 _ l4]
      rw [hfc, num_val 4 _ l44]
      rw [show (8 + val (x.take 4)) = 4 + (4 + val (x.take 4)) from by omega, List.take_add, List.take_add, List.drop_drop]
    · rw [if_pos (by simpa using h2)] at h
      cases h
  · rw [if_pos h1] at h
    exact absurd h h1
theorem unframe_at (s : B) (p : Nat) (h : p ≤ s.length) : unframe s (p : Nat) = unfR p (rdB (s.drop p)).2 (rdC (s.drop p)) := by
  unfold unframe
  rw [if_neg (by omega), Int.toNat_natCast]
/-- What a frame at a place is, is what it is ahead. -/
theorem unframe_drop (s : B) (p : Nat) (h : p ≤ s.length) : (unframe s (p : Nat)).1 = (unframe (s.drop p) 0).1 ∧ (unframe s (p : Nat)).2.2 = (unframe (s.drop p) 0).2.2 ∧ ((unframe (s.drop p) 0).2.2 = 0 → (unframe s (p : Nat)).2.1 = (p : Int) + (unframe (s.drop p) 0).2.1) := by
  have h0 := unframe_at (s.drop p) 0 (Nat.zero_le _)
  rw [unframe_at s p h, show ((0 : Int)) = ((0 : Nat) : Int) from rfl, h0, List.drop_zero]
  unfold unfR
  split
  · rename_i he
    exact ⟨rfl, rfl, fun e => absurd e he⟩
  · split
    · exact ⟨rfl, rfl, fun e => absurd e (by decide)⟩
    · exact ⟨rfl, rfl, fun _ => by simp⟩
def unfF : Nat → B → List B × Nat
  | 0, _ => ([], 0)
  | k + 1, s => if s = [] then ([], 0) else if (unframe s 0).2.2 = 0 then ((unframe s 0).1 :: (unfF k (s.drop (unframe s 0).2.1.toNat)).1, (unframe s 0).2.1.toNat + (unfF k (s.drop (unframe s 0).2.1.toNat)).2) else ([], 0)
/-- The texts of the frames of bytes, and where the first begins that is not right. -/
def unfT (s : B) : List B × Nat := unfF s.length s
theorem unf_pos {s : B} (h : (unframe s 0).2.2 = 0) : ∃ n : Nat, (unframe s 0).2.1 = n ∧ 8 ≤ n ∧ n ≤ s.length ∧ s.take n = frame (unframe s 0).1 ∧ n = (unframe s 0).1.length + 8 := by
  obtain ⟨n, h1, h2, h3, h4⟩ := unframe_one s h
  have h5 := congrArg List.length h3
  rw [frame_len, List.length_take, Nat.min_eq_left h2] at h5
  exact ⟨n, h1, by omega, h2, h3, h5⟩
theorem unfF_fuel : ∀ (k j : Nat) (s : B), s.length ≤ k → s.length ≤ j → unfF k s = unfF j s
  | 0, 0, _, _, _ => rfl
  | 0, j + 1, s, h, _ => by
    have : s = [] := List.length_eq_zero_iff.1 (by omega)
    subst this
    rfl
  | k + 1, 0, s, _, h => by
    have : s = [] := List.length_eq_zero_iff.1 (by omega)
    subst this
    rfl
  | k + 1, j + 1, s, h, h2 => by
    unfold unfF
    by_cases hs : s = []
    · rw [if_pos hs, if_pos hs]
    · rw [if_neg hs, if_neg hs]
      by_cases he : (unframe s 0).2.2 = 0
      · obtain ⟨n, e1, e2, e3, _⟩ := unf_pos he
        rw [if_pos he, if_pos he, e1, Int.toNat_natCast, unfF_fuel k j (s.drop n) (by rw [List.length_drop]; omega) (by rw [List.length_drop]; omega)]
      · rw [if_neg he, if_neg he]
theorem unfT_nil : unfT [] = ([], 0) := rfl
theorem unfT_bad {s : B} (h : (unframe s 0).2.2 ≠ 0) : unfT s = ([], 0) := by
  unfold unfT
  cases hs : s.length with
  | zero => rfl
  | succ k =>
    unfold unfF
    rw [if_neg h]
    split <;> rfl
theorem unfT_step {s : B} {n : Nat} (hs : s ≠ []) (h : (unframe s 0).2.2 = 0) (hn : (unframe s 0).2.1 = n) : unfT s = ((unframe s 0).1 :: (unfT (s.drop n)).1, n + (unfT (s.drop n)).2) := by
  obtain ⟨m, e1, e2, e3, _⟩ := unf_pos h
  have hmn : m = n := by rw [hn] at e1; omega
  subst hmn
  unfold unfT
  cases hl : s.length with
  | zero => exact absurd (List.length_eq_zero_iff.1 hl) hs
  | succ k =>
    conv => lhs; unfold unfF
    rw [if_neg hs, if_pos h, hn, Int.toNat_natCast, unfF_fuel k (s.drop m).length (s.drop m) (by rw [List.length_drop]; omega) (Nat.le_refl _)]
theorem frame_ne (x : B) (m : B) : frame x ++ m ≠ [] := fun e => by
  have := congrArg List.length e
  rw [List.length_append, frame_len] at this
  simp at this
/-- Right frames ahead of bytes are read. -/
theorem unfT_app : ∀ (l : List B) (r : B), (∀ x ∈ l, x.length ≤ 2147483647) → unfT (frs l ++ r) = (l ++ (unfT r).1, (frs l).length + (unfT r).2)
  | [], r, _ => by simp [frs]
  | x :: l, r, h => by
    have ih := unfT_app l r (fun y hy => h y (List.mem_cons_of_mem _ hy))
    have e : frs (x :: l) ++ r = frame x ++ (frs l ++ r) := by unfold frs; simp
    have hu := unframe_frame x (frs l ++ r) (h x (List.mem_cons_self ..))
    have hl := frame_len x
    rw [e, unfT_step (n := x.length + 8) (frame_ne _ _) (by rw [hu]) (by rw [hu]; simp), hu, ← hl, List.drop_left' rfl, ih]
    simp only [List.cons_append, Prod.mk.injEq, true_and]
    have : (frs (x :: l)).length = (frame x).length + (frs l).length := by unfold frs; simp
    omega
theorem unfT_frs (l : List B) (h : ∀ x ∈ l, x.length ≤ 2147483647) : unfT (frs l) = (l, (frs l).length) := by
  have := unfT_app l [] h
  rw [List.append_nil, unfT_nil] at this
  simpa using this
set_option maxRecDepth 100000 in
set_option maxHeartbeats 1000000 in
theorem wunframe_any (s : B) (w : World) (hG : Glob w) (hl : s.length ≤ 4000000) :
    Calls Tryz.prog 94 #[.string ⟨s.toArray⟩] w fun e w' => ∃ sl, e = .returned (.tuple #[sl, .int .i64 ((unfT s).2 : Nat)]) ∧ Below w.heap.size w w' ∧ XL w' w.heap.size sl (unfT s).1 := by
  go_enter Tryz.func94, Tryz.ntmps94
  go_wp2_with fail
  go_loopw [4, 5, 6, 7, 8] (fun v4 v5 _ _ _ wl => ∃ (i : Nat) (ts : List B), i ≤ s.length ∧ v5 = .int .i64 i ∧ Below w.heap.size w wl ∧ XL wl w.heap.size v4 ts ∧ 8 * ts.length ≤ i ∧ Hid (unfT s = (ts ++ (unfT (s.drop i)).1, i + (unfT (s.drop i)).2))) (fun _ v5 _ _ _ _ => s.length - (intOf v5).toNat)
  case atStart => exact ⟨0, [], by omega, rfl, Below.refl _ _, XL.nil _ _, by simp, (by show unfT s = _; simp)⟩
  case round =>
    obtain ⟨i, ts, hil, rfl, hB, hX, htl, hH⟩ := hrel
    have hsz := hB.size
    by_cases hlt : i < s.length
    · have hz2 : (i : Int) < (s.length : Int) := by omega
      have HU := unframe_any s (i : Nat) wr (hG.belowSize hB) (by omega)
      obtain ⟨d1, d2, d3⟩ := unframe_drop s i hil
      have hne : s.drop i ≠ [] := fun e => by have := congrArg List.length e; rw [List.length_drop] at this; simp at this; omega
      by_cases he : (unframe (s.drop i) 0).2.2 = 0
      · obtain ⟨n, e1, e2, e3, -, -⟩ := unf_pos he
        have hst : Hid (unfT (s.drop i) = ((unframe (s.drop i) 0).1 :: (unfT ((s.drop i).drop n)).1, n + (unfT ((s.drop i).drop n)).2)) := unfT_step hne he e1
        have e4 := d3 he
        rw [List.length_drop] at e3
        rw [d1, d2, he, e4, e1] at HU
        have hadd : ((i : Int) + (n : Int)) = ((i + n : Nat) : Int) := by omega
        rw [hadd] at HU
        clear d1 d2 d3 he e1 e4 hne hadd
        generalize (unframe (s.drop i) 0).1 = tx at *
        have htl2 : ts.length ≤ 1000000 := by omega
        go_wp2_with (first
          | (go_at_call 113; refine HU.mono ?_; rintro e w2 ⟨rfl, hw2⟩; have hX2 := hX.below hw2; have hB2 := hB.trans (hw2.mono hsz); have hsz2 := hB2.size)
          | (with_reducible refine at_list ?_; first
            | (refine wpList_tsl1 (op := ⟨some 24, _, _, _, _, _⟩) rfl _ rfl tx rfl ?_; intro w3 hw3 hb3; have hX3 := hX2.below hw3; have hB3 := hB2.trans (hw3.mono hsz2))
            | (refine wpList_appX (op := ⟨some 25, _, _, _, _, _⟩) rfl _ _ rfl w.heap.size u4 ts (Nat.le_trans hsz2 hw3.size) (by with_unfolding_all exact rfl) hX3 w2.heap.size (by with_unfolding_all exact rfl) tx hb3 htl2 ?_; intro w4 sl4 hg4 hX4; have hB4 := hB3.trans (hX3.grow hg4 (Nat.le_trans hsz2 hw3.size)))))
        go_roundw
        case rel =>
          refine ⟨i + n, ts ++ [tx], by omega, rfl, hB4, hX4, by simp; omega, ?_⟩
          show unfT s = _
          rw [hH.out, hst.out, List.drop_drop]
          simp
          omega
        case measure => simp [intOf]; omega
      · have hbad := unfT_bad he
        have hR : Hid (unfT s = (ts, i)) := by
          show unfT s = _
          rw [hH.out, hbad]
          simp
        rw [d2] at HU
        generalize (unframe (s.drop i) 0).2.2 = ec at *
        clear hH d1 d2 d3 hne hbad
        have hez : (ec != 0) = true := by simpa using he
        go_wp2_with (go_at_call 113; refine HU.mono ?_; rintro e w2 ⟨rfl, hw2⟩; have hX2 := hX.below hw2; have hB2 := hB.trans (hw2.mono hsz))
        go_ret2
        exact ⟨_, by rw [hR.out]; rfl, hB2, by rw [hR.out]; exact hX2⟩
    · have hR : Hid (unfT s = (ts, i)) := by
        show unfT s = _
        rw [hH.out, List.drop_of_length_le (by omega), unfT_nil]
        simp
      clear hH
      go_wp2_with fail
      go_ret2
      exact ⟨_, by rw [hR.out]; rfl, hB, by rw [hR.out]; exact hX⟩
end Go.Proofs.YtaiiojbakmminaaGreatDoor
namespace Go.Proofs.YtaiiojbakmminaaGreatDoor
open Go Go.RowKit
theorem args4 {a : Act} {x y z t : Operand} {u v r s : Value} (hx : a.eval x = u) (hy : a.eval y = v) (hz : a.eval z = r) (ht : a.eval t = s) : #[x, y, z, t].map a.eval = #[u, v, r, s] := by simp [hx, hy, hz, ht]
/-- A log lies at q, its disk at p with its files in block b, its records in block rb. -/
structure WK (w : World) (q p : Nat) (b rb : Option Nat) (L : LG) (m : DN) : Prop where
  out : ∃ rv, Blk w q (lC p L rv) 64 ∧ TS w rv rb L.recs ∧ DD w p b m
  q2 : 2 ≤ q
  p2 : 2 ≤ p
  b2 : ∀ k, b = some k → 2 ≤ k
  r2 : ∀ k, rb = some k → 2 ≤ k
/-- What stays but a log's own blocks. -/
structure Wch (w w' : World) (q p : Nat) (b rb b' rb' : Option Nat) : Prop where
  os : w'.os = w.os
  tape : w'.tape = w.tape
  output : w'.output = w.output
  size : w.heap.size ≤ w'.heap.size
  block : ∀ k, k < w.heap.size → k ≠ q → k ≠ p → some k ≠ b → some k ≠ rb → w'.heap[k]? = w.heap[k]?
  newb : ∀ k, b' = some k → b = some k ∨ w.heap.size ≤ k
  newr : ∀ k, rb' = some k → rb = some k ∨ w.heap.size ≤ k
theorem Wch.refl (w : World) (q p : Nat) (b rb : Option Nat) : Wch w w q p b rb b rb := ⟨rfl, rfl, rfl, Nat.le_refl _, fun _ _ _ _ _ _ => rfl, fun _ e => .inl e, fun _ e => .inl e⟩
theorem Wch.trans {w w1 w2 : World} {q p : Nat} {b rb b1 rb1 b2 rb2 : Option Nat} (h : Wch w w1 q p b rb b1 rb1) (k : Wch w1 w2 q p b1 rb1 b2 rb2) : Wch w w2 q p b rb b2 rb2 := by
  refine ⟨k.os.trans h.os, k.tape.trans h.tape, k.output.trans h.output, Nat.le_trans h.size k.size, fun i hi h1 h2 h3 h4 => ?_, fun r e => ?_, fun r e => ?_⟩
  · refine (k.block i (Nat.lt_of_lt_of_le hi h.size) h1 h2 (fun e => ?_) (fun e => ?_)).trans (h.block i hi h1 h2 h3 h4)
    · rcases h.newb i e.symm with h5 | h5
      · exact h3 h5.symm
      · omega
    · rcases h.newr i e.symm with h5 | h5
      · exact h4 h5.symm
      · omega
  · rcases k.newb r e with h5 | h5
    · exact h.newb r h5
    · exact .inr (Nat.le_trans h.size h5)
  · rcases k.newr r e with h5 | h5
    · exact h.newr r h5
    · exact .inr (Nat.le_trans h.size h5)
theorem Wch.below {w w' : World} {q p : Nat} {b rb : Option Nat} (h : Below w.heap.size w w') : Wch w w' q p b rb b rb := ⟨h.os, h.tape, h.output, h.size, fun k hk _ _ _ _ => h.block k hk, fun _ e => .inl e, fun _ e => .inl e⟩
theorem Wch.chg {w w' : World} {q p : Nat} {b rb b' : Option Nat} (h : Chg w w' p b b') : Wch w w' q p b rb b' rb := ⟨h.os, h.tape, h.output, h.size, fun k hk _ h2 h3 _ => h.block k hk h2 h3, h.new, fun _ e => .inl e⟩
theorem Wch.own {w w' : World} {q p : Nat} {b rb : Option Nat} (h : w.grownBy w' (some q)) : Wch w w' q p b rb b rb := ⟨h.os, h.tape, h.output, h.size, fun k hk h1 _ _ _ => h.block k hk (fun e => h1 (Option.some.inj e)), fun _ e => .inl e, fun _ e => .inl e⟩
theorem Wch.row {w w' : World} {q p : Nat} {b rb rb' : Option Nat} (h : w.grownBy w' rb) (hn : ∀ k, rb' = some k → rb = some k ∨ w.heap.size ≤ k) : Wch w w' q p b rb b rb' := ⟨h.os, h.tape, h.output, h.size, fun k hk _ _ _ h4 => h.block k hk h4, fun _ e => .inl e, hn⟩
theorem Wch.sep {w w' : World} {q p i : Nat} {b rb b' rb' : Option Nat} (h : Wch w w' q p b rb b' rb') (hi : i < w.heap.size) (hr : some i ≠ rb) : some i ≠ rb' := fun e => by
  rcases h.newr i e.symm with h5 | h5
  · exact hr h5.symm
  · omega
theorem WK.qlt {w : World} {q p : Nat} {b rb : Option Nat} {L : LG} {m : DN} (h : WK w q p b rb L m) : q < w.heap.size := by
  obtain ⟨rv, h1, _⟩ := h.out
  exact h1.lt
theorem WK.rlt {w : World} {q p : Nat} {b rb : Option Nat} {L : LG} {m : DN} (h : WK w q p b rb L m) : ∀ k, rb = some k → k < w.heap.size := by
  obtain ⟨rv, _, h2, _⟩ := h.out
  exact h2.lt
/-- What kind of block each of them is. -/
theorem WK.kinds {w : World} {q p : Nat} {b rb : Option Nat} {L : LG} {m : DN} (h : WK w q p b rb L m) : (∃ c fr, w.heap[q]? = some (.cells c 64 fr)) ∧ (∃ c fr, w.heap[p]? = some (.cells c 61 fr)) ∧ (∀ k, b = some k → ∃ c fr, w.heap[k]? = some (.cells c 93 fr)) ∧ (∀ k, rb = some k → ∃ c fr, w.heap[k]? = some (.cells c 9 fr)) := by
  obtain ⟨rv, h1, h2, h3⟩ := h.out
  obtain ⟨v, hK, _⟩ := h3.out
  obtain ⟨sl, k1, k2, k3⟩ := hK.out
  refine ⟨⟨_, _, h1.out⟩, ⟨_, _, k1.out⟩, fun k e => ?_, fun k e => ?_⟩
  · rcases k2.2 with ⟨_, rfl⟩ | ⟨g, cap, _, rfl, h4⟩
    · rw [← k3] at e; cases e
    · rw [← k3] at e
      cases e
      obtain ⟨cur, h5, _⟩ := h4.out
      exact ⟨_, _, h5⟩
  · rcases h2.out with ⟨_, hb, _⟩ | ⟨g, o, cap, cur, _, hb, hg, _⟩
    · rw [hb] at e; cases e
    · rw [hb] at e
      cases e
      exact ⟨_, _, hg⟩
theorem kind_ne {w : World} {i k : Nat} {c c' : Array Value} {t t' : TypeId} {fr fr' : Nat × Nat} (h : w.heap[i]? = some (.cells c t fr)) (h' : w.heap[k]? = some (.cells c' t' fr')) (hne : t ≠ t') : i ≠ k := fun e => by
  subst e
  rw [h] at h'
  simp only [Option.some.injEq, Obj.cells.injEq] at h'
  exact hne h'.2.1
/-- A block of another kind stays. -/
theorem Wch.raw {w w' : World} {q p i : Nat} {b rb b' rb' : Option Nat} {L : LG} {m : DN} {c : Array Value} {t : TypeId} {fr : Nat × Nat} (h : Wch w w' q p b rb b' rb') (hK : WK w q p b rb L m) (hi : w.heap[i]? = some (.cells c t fr)) (h1 : t ≠ 64) (h2 : t ≠ 61) (h3 : t ≠ 93) (h4 : t ≠ 9 ∨ some i ≠ rb) : w'.heap[i]? = some (.cells c t fr) := by
  obtain ⟨⟨c1, f1, k1⟩, ⟨c2, f2, k2⟩, k3, k4⟩ := hK.kinds
  refine (h.block i (Array.getElem?_eq_some_iff.1 hi).1 (kind_ne hi k1 h1) (kind_ne hi k2 h2) (fun e => ?_) (fun e => ?_)).trans hi
  · obtain ⟨c3, f3, k5⟩ := k3 i e.symm
    exact kind_ne hi k5 h3 rfl
  · rcases h4 with h4 | h4
    · obtain ⟨c3, f3, k5⟩ := k4 i e.symm
      exact kind_ne hi k5 h4 rfl
    · exact h4 e
theorem Wch.blk {w w' : World} {q p i : Nat} {b rb b' rb' : Option Nat} {L : LG} {m : DN} {c : Array Value} {t : TypeId} (h : Wch w w' q p b rb b' rb') (hK : WK w q p b rb L m) (hi : Blk w i c t) (h1 : t ≠ 64) (h2 : t ≠ 61) (h3 : t ≠ 93) (h4 : t ≠ 9 ∨ some i ≠ rb) : Blk w' i c t := ⟨h.raw hK hi.out h1 h2 h3 h4⟩
theorem Wch.ta {w w' : World} {q p : Nat} {b rb b' rb' : Option Nat} {L : LG} {m : DN} {a : Option Addr} {l : List B} (h : Wch w w' q p b rb b' rb') (hK : WK w q p b rb L m) (hT : TA w a l) (hs : ∀ ad, a = some ad → some ad.block ≠ rb) : TA w' a l := by
  rcases hT.out with h0 | ⟨g, o, cur, fr, h1, h2, h3⟩
  · exact ⟨.inl h0⟩
  · exact ⟨.inr ⟨g, o, cur, fr, h1, h.raw hK h2 (by decide) (by decide) (by decide) (.inr (hs _ h1)), h3⟩⟩
theorem Wch.gw {w w' : World} {q p : Nat} {b rb b' rb' : Option Nat} {L : LG} {m : DN} (h : Wch w w' q p b rb b' rb') (hK : WK w q p b rb L m) (hG : Gw w) : Gw w' := by
  refine hG.keep h.size fun k hk => ?_
  have h1 := hK.q2
  have h2 := hK.p2
  have h3 := hG.two
  exact h.block k (by omega) (by omega) (by omega) (fun e => by have := hK.b2 k e.symm; omega) (fun e => by have := hK.r2 k e.symm; omega)
theorem WK.below {w w' : World} {q p : Nat} {b rb : Option Nat} {L : LG} {m : DN} (h : WK w q p b rb L m) (hb : Below w.heap.size w w') : WK w' q p b rb L m := by
  obtain ⟨rv, h1, h2, h3⟩ := h.out
  exact ⟨⟨rv, h1.belowSize hb, h2.below hb, h3.below hb⟩, h.q2, h.p2, h.b2, h.r2⟩
/-- The disk changes. -/
theorem WK.disk {w w' : World} {q p : Nat} {b rb b' : Option Nat} {L : LG} {m m' : DN} (h : WK w q p b rb L m) (hG : 2 ≤ w.heap.size) (hc : Chg w w' p b b') (hD : DD w' p b' m') : WK w' q p b' rb L m' := by
  obtain ⟨rv, h1, h2, h3⟩ := h.out
  have hw : Wch w w' q p b rb b' rb := Wch.chg hc
  obtain ⟨⟨c1, f1, k1⟩, ⟨c2, f2, k2⟩, k3, k4⟩ := h.kinds
  have hq : w'.heap[q]? = w.heap[q]? := hc.block q h1.lt (kind_ne k1 k2 (by decide)) (fun e => by obtain ⟨c3, f3, k5⟩ := k3 q e.symm; exact kind_ne k1 k5 (by decide) rfl)
  refine ⟨⟨rv, ⟨hq.trans h1.out⟩, h2.keep fun k e => ?_, hD⟩, h.q2, h.p2, fun k e => ?_, h.r2⟩
  · obtain ⟨c3, f3, k5⟩ := k4 k e
    exact hc.block k (h2.lt k e) (kind_ne k5 k2 (by decide)) (fun e2 => by obtain ⟨c4, f4, k6⟩ := k3 k e2.symm; exact kind_ne k5 k6 (by decide) rfl)
  · rcases hc.new k e with h5 | h5
    · exact h.b2 k h5
    · omega
theorem DD.grown {w w' : World} {p q : Nat} {b : Option Nat} {m : DN} {c : Array Value} {t : TypeId} (h : DD w p b m) (hg : w.grownBy w' (some q)) (hq : Blk w q c t) (h1 : t ≠ 61) (h2 : t ≠ 93) (h3 : t ≠ 32) : DD w' p b m := by
  obtain ⟨v, hK, hP⟩ := h.out
  obtain ⟨sl, k1, k2, k3⟩ := hK.out
  refine ⟨v, ⟨sl, k1.grown hg (fun e => ?_), k2.grown hg (k2.ne hq h2), k3⟩, ?_⟩
  · have := Option.some.inj e
    subst this
    exact kind_ne k1.out hq.out (fun e => h1 e.symm) rfl
  · cases hp : m.pl with
    | none => rw [hp] at hP; exact hP
    | some f =>
      rw [hp] at hP
      obtain ⟨g, o, cap, cur, fr, e1, e2, e3, e4⟩ := (show PlA w v f from hP).out
      exact (⟨g, o, cap, cur, fr, e1, e2, (hg.block g (Array.getElem?_eq_some_iff.1 e3).1 (fun e => by
        have := Option.some.inj e
        subst this
        exact kind_ne e3 hq.out (fun e => h3 e.symm) rfl)).trans e3, e4⟩ : PlA w' v f)
/-- A log of its parts. -/
theorem WK.of {w : World} {q p : Nat} {b rb : Option Nat} {L : LG} {m : DN} {rv : Value} (h1 : Blk w q (lC p L rv) 64) (h2 : TS w rv rb L.recs) (h3 : DD w p b m) (hq : 2 ≤ q) (hp : 2 ≤ p) (hb : ∀ k, b = some k → 2 ≤ k) (hr : ∀ k, rb = some k → 2 ≤ k) : WK w q p b rb L m := ⟨⟨rv, h1, h2, h3⟩, hq, hp, hb, hr⟩
end Go.Proofs.YtaiiojbakmminaaGreatDoor
