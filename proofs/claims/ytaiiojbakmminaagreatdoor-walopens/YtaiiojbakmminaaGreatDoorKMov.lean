/- What put, Append, Write, Move, Remove and Truncate of a disk do. What Move and Truncate of a disk do. -/
import Derived.Test.YtaiiojbakmminaaGreatDoorKLay
namespace Go.Proofs.YtaiiojbakmminaaGreatDoor
open Go Go.RowKit
/-- What a change leaves. -/
def ChP (w : World) (p : Nat) (b : Option Nat) (r : DM × Nat) (e : Ending) (w' : World) : Prop := e = .returned (.int .i64 (r.2 : Nat)) ∧ ∃ b', Chg w w' p b b' ∧ DK w' p b' r.1
/-- What is asked of a disk. -/
structure Okd (m : DM) : Prop where
  l : Okl okN m.l
  len : m.l.length ≤ 999000
  used : usedL m.l ≤ 100000000000
  ch : m.ch ≤ 999000
  room : m.lim = true → 0 ≤ m.room ∧ m.room ≤ 9223372036854775807
def putD (m : DM) (n stay s : B) (how : Nat) : DM × Nat := if fullE m ((stay.length : Int) + (s.length : Int) - ((kbyt (atL n m.l)).length : Int)) = true then (m, 111) else ({ m with ch := m.ch + 1, l := lay n (some (stay ++ s)) how m.l }, 0)
theorem at_len (m : DM) (n : B) (h : Ris m.l) : (kbyt (atL n m.l)).length ≤ usedL m.l := by
  rw [at_now n m.l h, used_now]
  exact used_get
set_option maxRecDepth 100000 in
set_option maxHeartbeats 2000000 in
theorem put_any (p : Nat) (b : Option Nat) (m : DM) (n stay s : B) (how : Nat) (w : World) (hK : DK w p b m) (hm : Okd m) (hp : Calm w m) (h1 : stay.length ≤ 1000000000000) (h2 : s.length ≤ 1000000000000) :
    Calls Tryz.prog 58 #[.pointer (some ⟨p, 0, none⟩), .string ⟨n.toArray⟩, .string ⟨stay.toArray⟩, .string ⟨s.toArray⟩, .int .i64 (how : Nat)] w (ChP w p b (putD m n stay s how)) := by
  have hl := hm.len
  have hu := hm.used
  have hch := hm.ch
  have HA := at_any p b m n w hK hm.l.ris (by omega)
  have HF := fun w1 (hB : Below w.heap.size w w1) => isFull_any p b m ((stay.length : Int) + (s.length : Int) - ((kbyt (atL n m.l)).length : Int)) w1 (hK.below hB) (by omega) (by omega) hm.room
  have HS := fun w1 (hB : Below w.heap.size w w1) => struck_any p b m w1 (hK.below hB) (by omega) (hp.below hB)
  have HL := fun w1 (hD : DK w1 p b { m with ch := m.ch + 1 }) => lay_any p b { m with ch := m.ch + 1 } n (some (stay ++ s)) how w1 hD hm.l.ris (by show m.l.length ≤ _; omega)
  have hal := at_len m n hm.l.ris
  unfold putD
  generalize atL n m.l = c at *
  have hw1 : IntKind.i64.wrap ((stay.length : Int) + (s.length : Int)) = (stay.length : Int) + (s.length : Int) := by rw [IntKind.wrap_i64]; omega
  have hw2 : IntKind.i64.wrap ((stay.length : Int) + (s.length : Int) - ((kbyt c).length : Int)) = (stay.length : Int) + (s.length : Int) - ((kbyt c).length : Int) := by rw [IntKind.wrap_i64]; omega
  have hbig : ¬ 9223372036854775807 < stay.length + s.length := by omega
  generalize hd : (stay.length : Int) + (s.length : Int) - ((kbyt c).length : Int) = d at *
  cases hq : fullE m d
  · rw [hq] at HF
    rw [if_neg (by simp)]
    clear hq hal hu hl hm hch
    go_enter Tryz.func58, Tryz.ntmps58
    go_wp2_with (first
      | (go_at_call 82; refine HA.mono ?_; rintro e w1 ⟨rfl, hw1'⟩)
      | (go_at_call 86; refine (HF _ hw1').mono ?_; rintro e w2 ⟨rfl, hw2'⟩; have hB2 := hw1'.trans (hw2'.mono hw1'.size))
      | (go_at_call 74; refine (HS _ hB2).mono ?_; rintro e w3 ⟨rfl, hC3, hD3⟩)
      | (go_at_call 75; refine (HL _ hD3).mono ?_; rintro e w4 ⟨rfl, b4, hC4, hD4⟩)
      | (with_reducible refine at_list ?_; first
        | (refine wpList_run (op := ⟨some 20, _, _, _, _, _⟩) rfl _ _ (run_fieldC _ rfl c rfl) ?_)
        | (refine wpList_run (op := ⟨some 31, _, _, _, _, _⟩) rfl _ _ (run_built2 _ _ _ _ _ rfl _ _ rfl rfl _ (builtC (stay ++ s))) ?_)))
    go_ret
    exact ⟨rfl, b4, ((Chg.below hB2).trans hC3).trans hC4, hD4⟩
  · rw [hq] at HF
    rw [if_pos rfl]
    clear hq hal hu hl hm HL HS hch
    go_enter Tryz.func58, Tryz.ntmps58
    go_wp2_with (first
      | (go_at_call 82; refine HA.mono ?_; rintro e w1 ⟨rfl, hw1'⟩)
      | (go_at_call 86; refine (HF _ hw1').mono ?_; rintro e w2 ⟨rfl, hw2'⟩; have hB2 := hw1'.trans (hw2'.mono hw1'.size))
      | (with_reducible refine at_list ?_; first
        | (refine wpList_run (op := ⟨some 20, _, _, _, _, _⟩) rfl _ _ (run_fieldC _ rfl c rfl) ?_)))
    go_ret
    exact ⟨rfl, b, Chg.below hB2, hK.below hB2⟩
def appD (m : DM) (n s : B) : DM × Nat := if namE m n = 0 then putD m n (kbyt (atL n m.l)) s 1 else (m, namE m n)
def wriD (m : DM) (n s : B) : DM × Nat := if namE m n = 0 then putD m n [] s 2 else (m, namE m n)
theorem named_of (p : Nat) (b : Option Nat) (m : DM) (n : B) (w : World) (h : DK w p b m) (hn : n.length ≤ 9223372036854775807) :
    Calls Tryz.prog 57 #[.pointer (some ⟨p, 0, none⟩), .string ⟨n.toArray⟩] w fun e w' => e = .returned (.int .i64 (namE m n : Nat)) ∧ w' = w := by
  obtain ⟨sl, hD, _, _⟩ := h.out
  exact named_any p sl m n w hD hn
set_option maxRecDepth 100000 in
set_option maxHeartbeats 2000000 in
theorem append_any (p : Nat) (b : Option Nat) (m : DM) (n s : B) (w : World) (hK : DK w p b m) (hm : Okd m) (hp : Calm w m) (hn : n.length ≤ 9223372036854775807) (h2 : s.length ≤ 1000000000000) :
    Calls Tryz.prog 46 #[.pointer (some ⟨p, 0, none⟩), .string ⟨n.toArray⟩, .string ⟨s.toArray⟩] w (ChP w p b (appD m n s)) := by
  have hl := hm.len
  have hu := hm.used
  have HN := named_of p b m n w hK hn
  have HA := at_any p b m n w hK hm.l.ris (by omega)
  have hal := at_len m n hm.l.ris
  have HP := fun w1 (hB : Below w.heap.size w w1) => put_any p b m n (kbyt (atL n m.l)) s 1 w1 (hK.below hB) hm (hp.below hB) (by omega) h2
  unfold appD
  generalize namE m n = k at *
  generalize atL n m.l = c at *
  by_cases hk : k = 0
  · subst hk
    rw [if_pos rfl]
    generalize putD m n (kbyt c) s 1 = R at *
    go_enter Tryz.func46, Tryz.ntmps46
    go_wp2_with (first
      | (go_at_call 57; refine HN.mono ?_; rintro e w0 ⟨rfl, hw0⟩; subst hw0)
      | (go_at_call 82; refine HA.mono ?_; rintro e w1 ⟨rfl, hw1⟩)
      | (go_at_call 58; refine (HP _ hw1).mono ?_; rintro e w4 ⟨rfl, b4, hC4, hD4⟩)
      | (with_reducible refine at_list ?_; first
        | (refine wpList_run (op := ⟨some 19, _, _, _, _, _⟩) rfl _ _ (run_fieldC _ rfl c rfl) ?_)))
    go_ret
    exact ⟨rfl, b4, (Chg.below hw1).trans hC4, hD4⟩
  · rw [if_neg hk]
    have hkz : ¬ (k : Int) = 0 := by omega
    clear HP HA
    go_enter Tryz.func46, Tryz.ntmps46
    go_wp2_with (go_at_call 57; refine HN.mono ?_; rintro e w0 ⟨rfl, hw0⟩; subst hw0)
    go_ret
    exact ⟨rfl, b, Chg.refl _ _ _, hK⟩
set_option maxRecDepth 100000 in
set_option maxHeartbeats 2000000 in
theorem write_any (p : Nat) (b : Option Nat) (m : DM) (n s : B) (w : World) (hK : DK w p b m) (hm : Okd m) (hp : Calm w m) (hn : n.length ≤ 9223372036854775807) (h2 : s.length ≤ 1000000000000) :
    Calls Tryz.prog 25 #[.pointer (some ⟨p, 0, none⟩), .string ⟨n.toArray⟩, .string ⟨s.toArray⟩] w (ChP w p b (wriD m n s)) := by
  have HN := named_of p b m n w hK hn
  have HP := put_any p b m n [] s 2 w hK hm hp (by simp) h2
  unfold wriD
  generalize namE m n = k at *
  by_cases hk : k = 0
  · subst hk
    rw [if_pos rfl]
    generalize putD m n [] s 2 = R at *
    go_enter Tryz.func25, Tryz.ntmps25
    go_wp2_with (first
      | (go_at_call 57; refine HN.mono ?_; rintro e w0 ⟨rfl, hw0⟩; subst hw0)
      | (go_at_call 58; refine HP.mono ?_; rintro e w4 ⟨rfl, b4, hC4, hD4⟩))
    go_ret
    exact ⟨rfl, b4, hC4, hD4⟩
  · rw [if_neg hk]
    have hkz : ¬ (k : Int) = 0 := by omega
    clear HP
    go_enter Tryz.func25, Tryz.ntmps25
    go_wp2_with (go_at_call 57; refine HN.mono ?_; rintro e w0 ⟨rfl, hw0⟩; subst hw0)
    go_ret
    exact ⟨rfl, b, Chg.refl _ _ _, hK⟩
def remD (m : DM) (n : B) : DM × Nat := if theE m n = 0 then ({ m with ch := m.ch + 1, l := lay n none 4 m.l }, 0) else (m, theE m n)
set_option maxRecDepth 100000 in
set_option maxHeartbeats 2000000 in
theorem remove_any (p : Nat) (b : Option Nat) (m : DM) (n : B) (w : World) (hK : DK w p b m) (hm : Okd m) (hp : Calm w m) (hn : n.length ≤ 9223372036854775807) :
    Calls Tryz.prog 78 #[.pointer (some ⟨p, 0, none⟩), .string ⟨n.toArray⟩] w (ChP w p b (remD m n)) := by
  have hl := hm.len
  have hch := hm.ch
  have HT := there_any p b m n w hK hm.l.ris (by omega) hn
  have HS := fun w1 (hB : Below w.heap.size w w1) => struck_any p b m w1 (hK.below hB) (by omega) (hp.below hB)
  have HL := fun w1 (hD : DK w1 p b { m with ch := m.ch + 1 }) => lay_any p b { m with ch := m.ch + 1 } n none 4 w1 hD hm.l.ris (by show m.l.length ≤ _; omega)
  unfold remD
  generalize theE m n = k at *
  generalize theC m n = c at *
  by_cases hk : k = 0
  · subst hk
    rw [if_pos rfl]
    go_enter Tryz.func78, Tryz.ntmps78
    go_wp2_with (first
      | (go_at_call 72; refine HT.mono ?_; rintro e w1 ⟨rfl, hw1⟩)
      | (go_at_call 74; refine (HS _ hB3).mono ?_; rintro e w4 ⟨rfl, hC4, hD4⟩)
      | (go_at_call 75; refine (HL _ hD4).mono ?_; rintro e w5 ⟨rfl, b5, hC5, hD5⟩)
      | (with_reducible refine at_list ?_; first
        | (refine wpList_allocRow (op := ⟨some 5, _, _, _, _, _⟩) rfl _ rfl _ zCon.1 ?_; intro w2 hw2 hs2 h5; clear hs2; have hB2 := hw1.trans (hw2.mono hw1.size); have hsz := hw1.size)
        | (refine wpList_storeRow (op := ⟨none, .store 91 (.tmp 5) (.tmp 11), _, _, _, _⟩) rfl _ _ _ rfl w1.heap.size (cC c) rfl rfl _ _ h5 rfl (iCon _) (cC_one _) ?_; intro w3 hg3 hs3 h5b; clear hs3; have hB3 := hB2.trans (below_of_grown hg3 (by omega) hB2.size))
        | (refine wpList_run (op := ⟨some 20, _, _, _, _, _⟩) rfl _ _ (run_built0 _ rfl _ built0) ?_)))
    go_ret
    exact ⟨rfl, b5, ((Chg.below hB3).trans hC4).trans hC5, hD5⟩
  · rw [if_neg hk]
    have hkz : ¬ (k : Int) = 0 := by omega
    clear HL HS
    go_enter Tryz.func78, Tryz.ntmps78
    go_wp2_with (first
      | (go_at_call 72; refine HT.mono ?_; rintro e w1 ⟨rfl, hw1⟩)
      | (with_reducible refine at_list ?_; first
        | (refine wpList_allocRow (op := ⟨some 5, _, _, _, _, _⟩) rfl _ rfl _ zCon.1 ?_; intro w2 hw2 hs2 h5; clear hs2; have hB2 := hw1.trans (hw2.mono hw1.size); have hsz := hw1.size)
        | (refine wpList_storeRow (op := ⟨none, .store 91 (.tmp 5) (.tmp 11), _, _, _, _⟩) rfl _ _ _ rfl w1.heap.size (cC c) rfl rfl _ _ h5 rfl (iCon _) (cC_one _) ?_; intro w3 hg3 hs3 h5b; clear hs3; have hB3 := hB2.trans (below_of_grown hg3 (by omega) hB2.size))))
    go_ret
    exact ⟨rfl, b, Chg.below hB3, hK.below hB3⟩
end Go.Proofs.YtaiiojbakmminaaGreatDoor
namespace Go.Proofs.YtaiiojbakmminaaGreatDoor
open Go Go.RowKit
def movD (m : DM) (n t : B) : DM × Nat := if theE m n = 0 then (if okN t = true then (if n = t then (m, 1) else ({ m with ch := m.ch + 1, l := lay t (theC m n) 3 (lay n none 3 m.l) }, 0)) else (m, 110)) else (m, theE m n)
set_option maxRecDepth 100000 in
set_option maxHeartbeats 2000000 in
theorem move_any (p : Nat) (b : Option Nat) (m : DM) (n t : B) (w : World) (hK : DK w p b m) (hm : Okd m) (hp : Calm w m) (hn : n.length ≤ 9223372036854775807) (ht : t.length ≤ 9223372036854775807) (hnk : theE m n = 0 → okN n = true) :
    Calls Tryz.prog 41 #[.pointer (some ⟨p, 0, none⟩), .string ⟨n.toArray⟩, .string ⟨t.toArray⟩] w (ChP w p b (movD m n t)) := by
  have hl := hm.len
  have hch := hm.ch
  have HT := there_any p b m n w hK hm.l.ris (by omega) hn
  have HN := fun w1 => name_any t w1 ht
  have HS := fun w1 (hB : Below w.heap.size w w1) => struck_any p b m w1 (hK.below hB) (by omega) (hp.below hB)
  have HL := fun w1 (hD : DK w1 p b { m with ch := m.ch + 1 }) => lay_any p b { m with ch := m.ch + 1 } n none 3 w1 hD hm.l.ris (by show m.l.length ≤ _; omega)
  have hl2 := lay_len n none 3 m.l hm.l.ris
  have HL2 := fun (hk : theE m n = 0) b1 w1 (hD : DK w1 p b1 { m with ch := m.ch + 1, l := lay n none 3 m.l }) => lay_any p b1 { m with ch := m.ch + 1, l := lay n none 3 m.l } t (theC m n) 3 w1 hD (lay_ok hm.l (hnk hk)).ris (by show (lay n none 3 m.l).length ≤ _; omega)
  unfold movD
  clear hnk
  generalize theE m n = k at *
  generalize theC m n = c at *
  generalize okN t = o at *
  by_cases hk : k = 0
  · subst hk
    rw [if_pos rfl]
    have HL3 := HL2 rfl
    clear HL2
    cases o with
    | false =>
      rw [if_neg (by simp)]
      clear HL HL3 HS
      go_enter Tryz.func41, Tryz.ntmps41
      go_wp2_with (first
        | (go_at_call 72; refine HT.mono ?_; rintro e w1 ⟨rfl, hw1⟩)
        | (go_at_call 73; refine (HN _).mono ?_; rintro e w0 ⟨rfl, hw0⟩; subst hw0)
        | (with_reducible refine at_list ?_; first
          | (refine wpList_allocRow (op := ⟨some 7, _, _, _, _, _⟩) rfl _ rfl _ zCon.1 ?_; intro w2 hw2 hs2 h5; clear hs2; have hB2 := hw1.trans (hw2.mono hw1.size); have hsz := hw1.size)
          | (refine wpList_storeRow (op := ⟨none, .store 91 (.tmp 7) (.tmp 13), _, _, _, _⟩) rfl _ _ _ rfl w1.heap.size (cC c) rfl rfl _ _ h5 rfl (iCon _) (cC_one _) ?_; intro w3 hg3 hs3 h5b; clear hs3; have hB3 := hB2.trans (below_of_grown hg3 (by omega) hB2.size))))
      go_ret
      exact ⟨rfl, b, Chg.below hB3, hK.below hB3⟩
    | true =>
      rw [if_pos rfl]
      by_cases hnt : n = t
      · rw [if_pos hnt]
        have hd : (n == t) = true := by simp [hnt]
        clear HL HL3 HS hnt
        go_enter Tryz.func41, Tryz.ntmps41
        go_wp2_with (first
          | (go_at_call 72; refine HT.mono ?_; rintro e w1 ⟨rfl, hw1⟩)
          | (go_at_call 73; refine (HN _).mono ?_; rintro e w0 ⟨rfl, hw0⟩; subst hw0)
          | (with_reducible refine at_list ?_; first
            | (refine wpList_allocRow (op := ⟨some 7, _, _, _, _, _⟩) rfl _ rfl _ zCon.1 ?_; intro w2 hw2 hs2 h5; clear hs2; have hB2 := hw1.trans (hw2.mono hw1.size); have hsz := hw1.size)
            | (refine wpList_storeRow (op := ⟨none, .store 91 (.tmp 7) (.tmp 13), _, _, _, _⟩) rfl _ _ _ rfl w1.heap.size (cC c) rfl rfl _ _ h5 rfl (iCon _) (cC_one _) ?_; intro w3 hg3 hs3 h5b; clear hs3; have hB3 := hB2.trans (below_of_grown hg3 (by omega) hB2.size))))
        go_ret
        exact ⟨rfl, b, Chg.below hB3, hK.below hB3⟩
      · rw [if_neg hnt]
        have hd : (n == t) = false := by simp [hnt]
        clear hnt
        go_enter Tryz.func41, Tryz.ntmps41
        go_wp2_with (first
          | (go_at_call 72; refine HT.mono ?_; rintro e w1 ⟨rfl, hw1⟩)
          | (go_at_call 73; refine (HN _).mono ?_; rintro e w0 ⟨rfl, hw0⟩; subst hw0)
          | (go_at_call 74; refine (HS _ hB3).mono ?_; rintro e w4 ⟨rfl, hC4, hD4⟩; have h54 := hC4.blk (hK.below hB3) h5b (by decide) (by decide))
          | (go_at_call 75; refine (HL _ hD4).mono ?_; rintro e w5 ⟨rfl, b5, hC5, hD5⟩; clear HL; have h55 := hC5.blk hD4 h54 (by decide) (by decide))
          | (go_at_call 75; refine (HL3 b5 _ hD5).mono ?_; rintro e w6 ⟨rfl, b6, hC6, hD6⟩; clear HL3)
          | (with_reducible refine at_list ?_; first
            | (refine wpList_allocRow (op := ⟨some 7, _, _, _, _, _⟩) rfl _ rfl _ zCon.1 ?_; intro w2 hw2 hs2 h5; clear hs2; have hB2 := hw1.trans (hw2.mono hw1.size); have hsz := hw1.size)
            | (refine wpList_storeRow (op := ⟨none, .store 91 (.tmp 7) (.tmp 13), _, _, _, _⟩) rfl _ _ _ rfl w1.heap.size (cC c) rfl rfl _ _ h5 rfl (iCon _) (cC_one _) ?_; intro w3 hg3 hs3 h5b; clear hs3; have hB3 := hB2.trans (below_of_grown hg3 (by omega) hB2.size))
            | (refine wpList_run (op := ⟨some 28, _, _, _, _, _⟩) rfl _ _ (run_built0 _ rfl _ built0) ?_)
            | (refine wpList_loadRow (op := ⟨some 32, _, _, _, _, _⟩) rfl _ _ rfl w1.heap.size rfl _ _ h55 _ Tryz.underlying91 rfl (iCon _) ?_)))
        go_ret
        exact ⟨rfl, b6, (((Chg.below hB3).trans hC4).trans hC5).trans hC6, hD6⟩
  · rw [if_neg hk]
    have hkz : ¬ (k : Int) = 0 := by omega
    clear HL HS HL2 HN
    go_enter Tryz.func41, Tryz.ntmps41
    go_wp2_with (first
      | (go_at_call 72; refine HT.mono ?_; rintro e w1 ⟨rfl, hw1⟩)
      | (with_reducible refine at_list ?_; first
        | (refine wpList_allocRow (op := ⟨some 7, _, _, _, _, _⟩) rfl _ rfl _ zCon.1 ?_; intro w2 hw2 hs2 h5; clear hs2; have hB2 := hw1.trans (hw2.mono hw1.size); have hsz := hw1.size)
        | (refine wpList_storeRow (op := ⟨none, .store 91 (.tmp 7) (.tmp 13), _, _, _, _⟩) rfl _ _ _ rfl w1.heap.size (cC c) rfl rfl _ _ h5 rfl (iCon _) (cC_one _) ?_; intro w3 hg3 hs3 h5b; clear hs3; have hB3 := hB2.trans (below_of_grown hg3 (by omega) hB2.size))))
    go_ret
    exact ⟨rfl, b, Chg.below hB3, hK.below hB3⟩
def truD (m : DM) (n : B) (z : Int) : DM × Nat := if theE m n = 0 then (if 0 ≤ z ∧ z ≤ ((kbyt (theC m n)).length : Int) then ({ m with ch := m.ch + 1, l := lay n (some ((kbyt (theC m n)).take z.toNat)) 5 m.l }, 0) else (m, 1)) else (m, theE m n)
theorem kextract_take (l : List UInt8) (n : Nat) : (ByteArray.mk l.toArray).extract 0 n = ⟨(l.take n).toArray⟩ := by
  have : ((ByteArray.mk l.toArray).extract 0 n).data = (l.take n).toArray := by
    apply Array.ext'
    simp [ByteArray.extract, ByteArray.copySlice]
  rw [show (ByteArray.mk l.toArray).extract 0 n = ⟨((ByteArray.mk l.toArray).extract 0 n).data⟩ from rfl, this]
section
attribute [local go_sem] kextract_take
set_option maxRecDepth 100000 in
set_option maxHeartbeats 2000000 in
theorem truncate_any (p : Nat) (b : Option Nat) (m : DM) (n : B) (z : Int) (w : World) (hK : DK w p b m) (hm : Okd m) (hp : Calm w m) (hn : n.length ≤ 9223372036854775807) :
    Calls Tryz.prog 117 #[.pointer (some ⟨p, 0, none⟩), .string ⟨n.toArray⟩, .int .i64 z] w (ChP w p b (truD m n z)) := by
  have hl := hm.len
  have hch := hm.ch
  have HT := there_any p b m n w hK hm.l.ris (by omega) hn
  have HS := fun w1 (hB : Below w.heap.size w w1) => struck_any p b m w1 (hK.below hB) (by omega) (hp.below hB)
  have HL := fun s w1 (hD : DK w1 p b { m with ch := m.ch + 1 }) => lay_any p b { m with ch := m.ch + 1 } n (some s) 5 w1 hD hm.l.ris (by show m.l.length ≤ _; omega)
  unfold truD
  generalize theE m n = k at *
  generalize theC m n = c at *
  by_cases hk : k = 0
  · subst hk
    rw [if_pos rfl]
    by_cases hz : 0 ≤ z ∧ z ≤ ((kbyt c).length : Int)
    · rw [if_pos hz]
      obtain ⟨q, rfl⟩ := Int.eq_ofNat_of_zero_le hz.1
      have hz2 := hz.2
      have hzq : q ≤ (kbyt c).length := by omega
      have hz3 : ¬ ((kbyt c).length : Int) < (q : Int) := by omega
      rw [Int.toNat_natCast]
      clear hz
      go_enter Tryz.func117, Tryz.ntmps117
      go_wp2_with (first
        | (go_at_call 72; refine HT.mono ?_; rintro e w1 ⟨rfl, hw1⟩)
        | (go_at_call 74; refine (HS _ hB3).mono ?_; rintro e w4 ⟨rfl, hC4, hD4⟩; have h54 := hC4.blk (hK.below hB3) h5b (by decide) (by decide))
        | (go_at_call 75; refine (HL ((kbyt c).take q) _ hD4).mono ?_; rintro e w5 ⟨rfl, b5, hC5, hD5⟩; clear HL)
        | (with_reducible refine at_list ?_; first
          | (refine wpList_allocRow (op := ⟨some 7, _, _, _, _, _⟩) rfl _ rfl _ zCon.1 ?_; intro w2 hw2 hs2 h5; clear hs2; have hB2 := hw1.trans (hw2.mono hw1.size); have hsz := hw1.size)
          | (refine wpList_storeRow (op := ⟨none, .store 91 (.tmp 7) (.tmp 13), _, _, _, _⟩) rfl _ _ _ rfl w1.heap.size (cC c) rfl rfl _ _ h5 rfl (iCon _) (cC_one _) ?_; intro w3 hg3 hs3 h5b; clear hs3; have hB3 := hB2.trans (below_of_grown hg3 (by omega) hB2.size); have cc := (h5b.cell 1).trans (cC_g1 _))
          | (refine wpList_loadCell (op := ⟨some 32, _, _, _, _, _⟩) rfl _ _ rfl w1.heap.size 1 rfl _ _ h54 _ Tryz.underlying9 rfl _ (cC_g1 _) ?_)
          | (refine wpList_run (op := ⟨some 35, _, _, _, _, _⟩) rfl _ _ (run_built2 _ _ _ _ _ rfl _ _ rfl rfl _ (builtC ((kbyt c).take q))) ?_)))
      go_ret
      exact ⟨rfl, b5, ((Chg.below hB3).trans hC4).trans hC5, hD5⟩
    · rw [if_neg hz]
      clear HL HS
      by_cases hz0 : z < 0
      · clear hz
        go_enter Tryz.func117, Tryz.ntmps117
        go_wp2_with (first
          | (go_at_call 72; refine HT.mono ?_; rintro e w1 ⟨rfl, hw1⟩)
          | (with_reducible refine at_list ?_; first
            | (refine wpList_allocRow (op := ⟨some 7, _, _, _, _, _⟩) rfl _ rfl _ zCon.1 ?_; intro w2 hw2 hs2 h5; clear hs2; have hB2 := hw1.trans (hw2.mono hw1.size); have hsz := hw1.size)
            | (refine wpList_storeRow (op := ⟨none, .store 91 (.tmp 7) (.tmp 13), _, _, _, _⟩) rfl _ _ _ rfl w1.heap.size (cC c) rfl rfl _ _ h5 rfl (iCon _) (cC_one _) ?_; intro w3 hg3 hs3 h5b; clear hs3; have hB3 := hB2.trans (below_of_grown hg3 (by omega) hB2.size))))
        go_ret
        exact ⟨rfl, b, Chg.below hB3, hK.below hB3⟩
      · have hz1 : ((kbyt c).length : Int) < z := by omega
        clear hz
        go_enter Tryz.func117, Tryz.ntmps117
        go_wp2_with (first
          | (go_at_call 72; refine HT.mono ?_; rintro e w1 ⟨rfl, hw1⟩)
          | (with_reducible refine at_list ?_; first
            | (refine wpList_allocRow (op := ⟨some 7, _, _, _, _, _⟩) rfl _ rfl _ zCon.1 ?_; intro w2 hw2 hs2 h5; clear hs2; have hB2 := hw1.trans (hw2.mono hw1.size); have hsz := hw1.size)
            | (refine wpList_storeRow (op := ⟨none, .store 91 (.tmp 7) (.tmp 13), _, _, _, _⟩) rfl _ _ _ rfl w1.heap.size (cC c) rfl rfl _ _ h5 rfl (iCon _) (cC_one _) ?_; intro w3 hg3 hs3 h5b; clear hs3; have hB3 := hB2.trans (below_of_grown hg3 (by omega) hB2.size); have cc := (h5b.cell 1).trans (cC_g1 _))))
        go_ret
        exact ⟨rfl, b, Chg.below hB3, hK.below hB3⟩
  · rw [if_neg hk]
    have hkz : ¬ (k : Int) = 0 := by omega
    clear HL HS
    go_enter Tryz.func117, Tryz.ntmps117
    go_wp2_with (first
      | (go_at_call 72; refine HT.mono ?_; rintro e w1 ⟨rfl, hw1⟩)
      | (with_reducible refine at_list ?_; first
        | (refine wpList_allocRow (op := ⟨some 7, _, _, _, _, _⟩) rfl _ rfl _ zCon.1 ?_; intro w2 hw2 hs2 h5; clear hs2; have hB2 := hw1.trans (hw2.mono hw1.size); have hsz := hw1.size)
        | (refine wpList_storeRow (op := ⟨none, .store 91 (.tmp 7) (.tmp 13), _, _, _, _⟩) rfl _ _ _ rfl w1.heap.size (cC c) rfl rfl _ _ h5 rfl (iCon _) (cC_one _) ?_; intro w3 hg3 hs3 h5b; clear hs3; have hB3 := hB2.trans (below_of_grown hg3 (by omega) hB2.size))))
    go_ret
    exact ⟨rfl, b, Chg.below hB3, hK.below hB3⟩
end
end Go.Proofs.YtaiiojbakmminaaGreatDoor
