/- What put, Append, Write, Move, Remove and Truncate of a disk do. -/
import Derived.Test.YtgkkpmliociieaaLay
namespace Go.Proofs.Ytgkkpmliociieaa
open Go Go.RowKit
/-- What a change leaves. -/
def ChP (w : World) (p : Nat) (b : Option Nat) (r : DM × Nat) (e : Ending) (w' : World) : Prop := e = .returned (.int .i64 (r.2 : Nat)) ∧ ∃ b', Chg w w' p b b' ∧ DK w' p b' r.1
/-- What is asked of a disk. -/
structure Okd (m : DM) : Prop where
  l : Okl okN m.l
  len : m.l.length ≤ 999000
  used : usedL m.l ≤ 100000000000
  ch : m.ch ≤ 999000
  room : m.lim = true → 0 ≤ m.room ∧ m.room ≤ 9223372036854775807
def putD (m : DM) (n stay s : B) (how : Nat) : DM × Nat := if fullE m ((stay.length : Int) + (s.length : Int) - ((byt (atL n m.l)).length : Int)) = true then (m, 111) else ({ m with ch := m.ch + 1, l := lay n (some (stay ++ s)) how m.l }, 0)
theorem at_len (m : DM) (n : B) (h : Ris m.l) : (byt (atL n m.l)).length ≤ usedL m.l := by
  rw [at_now n m.l h, used_now]
  exact used_get
set_option maxRecDepth 100000 in
set_option maxHeartbeats 2000000 in
theorem put_any (p : Nat) (b : Option Nat) (m : DM) (n stay s : B) (how : Nat) (w : World) (hK : DK w p b m) (hm : Okd m) (h1 : stay.length ≤ 1000000000000) (h2 : s.length ≤ 1000000000000) :
    Calls Try.prog 45 #[.pointer (some ⟨p, 0, none⟩), .string ⟨n.toArray⟩, .string ⟨stay.toArray⟩, .string ⟨s.toArray⟩, .int .i64 (how : Nat)] w (ChP w p b (putD m n stay s how)) := by
  have hl := hm.len
  have hu := hm.used
  have hch := hm.ch
  have HA := at_any p b m n w hK hm.l.ris (by omega)
  have HF := fun w1 (hB : Below w.heap.size w w1) => isFull_any p b m ((stay.length : Int) + (s.length : Int) - ((byt (atL n m.l)).length : Int)) w1 (hK.below hB) (by omega) (by omega) hm.room
  have HS := fun w1 (hB : Below w.heap.size w w1) => struck_any p b m w1 (hK.below hB) (by omega)
  have HL := fun w1 (hD : DK w1 p b { m with ch := m.ch + 1 }) => lay_any p b { m with ch := m.ch + 1 } n (some (stay ++ s)) how w1 hD hm.l.ris (by show m.l.length ≤ _; omega)
  have hal := at_len m n hm.l.ris
  unfold putD
  generalize atL n m.l = c at *
  have hw1 : IntKind.i64.wrap ((stay.length : Int) + (s.length : Int)) = (stay.length : Int) + (s.length : Int) := by rw [IntKind.wrap_i64]; omega
  have hw2 : IntKind.i64.wrap ((stay.length : Int) + (s.length : Int) - ((byt c).length : Int)) = (stay.length : Int) + (s.length : Int) - ((byt c).length : Int) := by rw [IntKind.wrap_i64]; omega
  have hbig : ¬ 9223372036854775807 < stay.length + s.length := by omega
  generalize hd : (stay.length : Int) + (s.length : Int) - ((byt c).length : Int) = d at *
  cases hq : fullE m d
  · rw [hq] at HF
    rw [if_neg (by simp)]
    clear hq hal hu hl hm hch
    go_enter Try.func45, Try.ntmps45
    go_wp2_with (first
      | (go_at_call 55; refine HA.mono ?_; rintro e w1 ⟨rfl, hw1'⟩)
      | (go_at_call 63; refine (HF _ hw1').mono ?_; rintro e w2 ⟨rfl, hw2'⟩; have hB2 := hw1'.trans (hw2'.mono hw1'.size))
      | (go_at_call 64; refine (HS _ hB2).mono ?_; rintro e w3 ⟨rfl, hC3, hD3⟩)
      | (go_at_call 65; refine (HL _ hD3).mono ?_; rintro e w4 ⟨rfl, b4, hC4, hD4⟩)
      | (with_reducible refine at_list ?_; first
        | (refine wpList_run (op := ⟨some 20, _, _, _, _, _⟩) rfl _ _ (run_fieldC _ rfl c rfl) ?_)
        | (refine wpList_run (op := ⟨some 31, _, _, _, _, _⟩) rfl _ _ (run_built2 _ _ _ _ _ rfl _ _ rfl rfl _ (builtC (stay ++ s))) ?_)))
    go_ret
    exact ⟨rfl, b4, ((Chg.below hB2).trans hC3).trans hC4, hD4⟩
  · rw [hq] at HF
    rw [if_pos rfl]
    clear hq hal hu hl hm HL HS hch
    go_enter Try.func45, Try.ntmps45
    go_wp2_with (first
      | (go_at_call 55; refine HA.mono ?_; rintro e w1 ⟨rfl, hw1'⟩)
      | (go_at_call 63; refine (HF _ hw1').mono ?_; rintro e w2 ⟨rfl, hw2'⟩; have hB2 := hw1'.trans (hw2'.mono hw1'.size))
      | (with_reducible refine at_list ?_; first
        | (refine wpList_run (op := ⟨some 20, _, _, _, _, _⟩) rfl _ _ (run_fieldC _ rfl c rfl) ?_)))
    go_ret
    exact ⟨rfl, b, Chg.below hB2, hK.below hB2⟩
def appD (m : DM) (n s : B) : DM × Nat := if namE m n = 0 then putD m n (byt (atL n m.l)) s 1 else (m, namE m n)
def wriD (m : DM) (n s : B) : DM × Nat := if namE m n = 0 then putD m n [] s 2 else (m, namE m n)
theorem named_of (p : Nat) (b : Option Nat) (m : DM) (n : B) (w : World) (h : DK w p b m) (hn : n.length ≤ 9223372036854775807) :
    Calls Try.prog 44 #[.pointer (some ⟨p, 0, none⟩), .string ⟨n.toArray⟩] w fun e w' => e = .returned (.int .i64 (namE m n : Nat)) ∧ w' = w := by
  obtain ⟨sl, hD, _, _⟩ := h.out
  exact named_any p sl m n w hD hn
set_option maxRecDepth 100000 in
set_option maxHeartbeats 2000000 in
theorem append_any (p : Nat) (b : Option Nat) (m : DM) (n s : B) (w : World) (hK : DK w p b m) (hm : Okd m) (hn : n.length ≤ 9223372036854775807) (h2 : s.length ≤ 1000000000000) :
    Calls Try.prog 35 #[.pointer (some ⟨p, 0, none⟩), .string ⟨n.toArray⟩, .string ⟨s.toArray⟩] w (ChP w p b (appD m n s)) := by
  have hl := hm.len
  have hu := hm.used
  have HN := named_of p b m n w hK hn
  have HA := at_any p b m n w hK hm.l.ris (by omega)
  have hal := at_len m n hm.l.ris
  have HP := fun w1 (hB : Below w.heap.size w w1) => put_any p b m n (byt (atL n m.l)) s 1 w1 (hK.below hB) hm (by omega) h2
  unfold appD
  generalize namE m n = k at *
  generalize atL n m.l = c at *
  by_cases hk : k = 0
  · subst hk
    rw [if_pos rfl]
    generalize putD m n (byt c) s 1 = R at *
    go_enter Try.func35, Try.ntmps35
    go_wp2_with (first
      | (go_at_call 44; refine HN.mono ?_; rintro e w0 ⟨rfl, hw0⟩; subst hw0)
      | (go_at_call 55; refine HA.mono ?_; rintro e w1 ⟨rfl, hw1⟩)
      | (go_at_call 45; refine (HP _ hw1).mono ?_; rintro e w4 ⟨rfl, b4, hC4, hD4⟩)
      | (with_reducible refine at_list ?_; first
        | (refine wpList_run (op := ⟨some 19, _, _, _, _, _⟩) rfl _ _ (run_fieldC _ rfl c rfl) ?_)))
    go_ret
    exact ⟨rfl, b4, (Chg.below hw1).trans hC4, hD4⟩
  · rw [if_neg hk]
    have hkz : ¬ (k : Int) = 0 := by omega
    clear HP HA
    go_enter Try.func35, Try.ntmps35
    go_wp2_with (go_at_call 44; refine HN.mono ?_; rintro e w0 ⟨rfl, hw0⟩; subst hw0)
    go_ret
    exact ⟨rfl, b, Chg.refl _ _ _, hK⟩
set_option maxRecDepth 100000 in
set_option maxHeartbeats 2000000 in
theorem write_any (p : Nat) (b : Option Nat) (m : DM) (n s : B) (w : World) (hK : DK w p b m) (hm : Okd m) (hn : n.length ≤ 9223372036854775807) (h2 : s.length ≤ 1000000000000) :
    Calls Try.prog 22 #[.pointer (some ⟨p, 0, none⟩), .string ⟨n.toArray⟩, .string ⟨s.toArray⟩] w (ChP w p b (wriD m n s)) := by
  have HN := named_of p b m n w hK hn
  have HP := put_any p b m n [] s 2 w hK hm (by simp) h2
  unfold wriD
  generalize namE m n = k at *
  by_cases hk : k = 0
  · subst hk
    rw [if_pos rfl]
    generalize putD m n [] s 2 = R at *
    go_enter Try.func22, Try.ntmps22
    go_wp2_with (first
      | (go_at_call 44; refine HN.mono ?_; rintro e w0 ⟨rfl, hw0⟩; subst hw0)
      | (go_at_call 45; refine HP.mono ?_; rintro e w4 ⟨rfl, b4, hC4, hD4⟩))
    go_ret
    exact ⟨rfl, b4, hC4, hD4⟩
  · rw [if_neg hk]
    have hkz : ¬ (k : Int) = 0 := by omega
    clear HP
    go_enter Try.func22, Try.ntmps22
    go_wp2_with (go_at_call 44; refine HN.mono ?_; rintro e w0 ⟨rfl, hw0⟩; subst hw0)
    go_ret
    exact ⟨rfl, b, Chg.refl _ _ _, hK⟩
def remD (m : DM) (n : B) : DM × Nat := if theE m n = 0 then ({ m with ch := m.ch + 1, l := lay n none 4 m.l }, 0) else (m, theE m n)
set_option maxRecDepth 100000 in
set_option maxHeartbeats 2000000 in
theorem remove_any (p : Nat) (b : Option Nat) (m : DM) (n : B) (w : World) (hK : DK w p b m) (hm : Okd m) (hn : n.length ≤ 9223372036854775807) :
    Calls Try.prog 49 #[.pointer (some ⟨p, 0, none⟩), .string ⟨n.toArray⟩] w (ChP w p b (remD m n)) := by
  have hl := hm.len
  have hch := hm.ch
  have HT := there_any p b m n w hK hm.l.ris (by omega) hn
  have HS := fun w1 (hB : Below w.heap.size w w1) => struck_any p b m w1 (hK.below hB) (by omega)
  have HL := fun w1 (hD : DK w1 p b { m with ch := m.ch + 1 }) => lay_any p b { m with ch := m.ch + 1 } n none 4 w1 hD hm.l.ris (by show m.l.length ≤ _; omega)
  unfold remD
  generalize theE m n = k at *
  generalize theC m n = c at *
  by_cases hk : k = 0
  · subst hk
    rw [if_pos rfl]
    go_enter Try.func49, Try.ntmps49
    go_wp2_with (first
      | (go_at_call 39; refine HT.mono ?_; rintro e w1 ⟨rfl, hw1⟩)
      | (go_at_call 64; refine (HS _ hB3).mono ?_; rintro e w4 ⟨rfl, hC4, hD4⟩)
      | (go_at_call 65; refine (HL _ hD4).mono ?_; rintro e w5 ⟨rfl, b5, hC5, hD5⟩)
      | (with_reducible refine at_list ?_; first
        | (refine wpList_allocRow (op := ⟨some 5, _, _, _, _, _⟩) rfl _ rfl _ zCon.1 ?_; intro w2 hw2 hs2 h5; clear hs2; have hB2 := hw1.trans (hw2.mono hw1.size); have hsz := hw1.size)
        | (refine wpList_storeRow (op := ⟨none, .store 75 (.tmp 5) (.tmp 11), _, _, _, _⟩) rfl _ _ _ rfl w1.heap.size (cC c) rfl rfl _ _ h5 rfl (iCon _) (cC_one _) ?_; intro w3 hg3 hs3 h5b; clear hs3; have hB3 := hB2.trans (below_of_grown hg3 (by omega) hB2.size))
        | (refine wpList_run (op := ⟨some 20, _, _, _, _, _⟩) rfl _ _ (run_built0 _ rfl _ built0) ?_)))
    go_ret
    exact ⟨rfl, b5, ((Chg.below hB3).trans hC4).trans hC5, hD5⟩
  · rw [if_neg hk]
    have hkz : ¬ (k : Int) = 0 := by omega
    clear HL HS
    go_enter Try.func49, Try.ntmps49
    go_wp2_with (first
      | (go_at_call 39; refine HT.mono ?_; rintro e w1 ⟨rfl, hw1⟩)
      | (with_reducible refine at_list ?_; first
        | (refine wpList_allocRow (op := ⟨some 5, _, _, _, _, _⟩) rfl _ rfl _ zCon.1 ?_; intro w2 hw2 hs2 h5; clear hs2; have hB2 := hw1.trans (hw2.mono hw1.size); have hsz := hw1.size)
        | (refine wpList_storeRow (op := ⟨none, .store 75 (.tmp 5) (.tmp 11), _, _, _, _⟩) rfl _ _ _ rfl w1.heap.size (cC c) rfl rfl _ _ h5 rfl (iCon _) (cC_one _) ?_; intro w3 hg3 hs3 h5b; clear hs3; have hB3 := hB2.trans (below_of_grown hg3 (by omega) hB2.size))))
    go_ret
    exact ⟨rfl, b, Chg.below hB3, hK.below hB3⟩
end Go.Proofs.Ytgkkpmliociieaa
