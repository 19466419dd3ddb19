/- A loss of power, plainly: what each file is behind it; at most one is torn. -/
import Derived.Test.YtgkkpmliociieaaStp
import Derived.Test.YtgkkpmliociieaaFal
namespace Go.Proofs.Ytgkkpmliociieaa
open Go Go.RowKit
/-- What a loss of power leaves, file by file: c loose ones came ahead, q of these were not kept. -/
def failR (z k : Int) : Nat → Nat → List F → List F
  | _, _, [] => []
  | c, q, f :: r => if isLoose f = true then (if kept z c = true then f :: failR z k (c + 1) q r else { f with is := lostC f k (decide (q = 0)) } :: failR z k (c + 1) (q + 1) r) else f :: failR z k c q r
theorem fail_fold (z k : Int) : ∀ (r acc : List F) (c q : Nat), (r.foldl (fstep z k) (acc, c, q)).1 = acc ++ failR z k c q r
  | [], acc, c, q => by simp [failR]
  | f :: r, acc, c, q => by
    rw [List.foldl_cons, failR]
    unfold fstep
    dsimp only
    by_cases h1 : isLoose f = true
    · rw [if_pos h1, if_pos h1]
      by_cases h2 : kept z c = true
      · rw [if_pos h2, if_pos h2]
        have := fail_fold z k r (acc ++ [f]) (c + 1) q
        unfold fstep at this
        rw [this]
        simp
      · rw [if_neg h2, if_neg h2]
        have := fail_fold z k r (acc ++ [{ f with is := lostC f k (decide (q = 0)) }]) (c + 1) (q + 1)
        unfold fstep at this
        rw [this]
        simp
    · rw [if_neg h1, if_neg h1]
      have := fail_fold z k r (acc ++ [f]) c q
      unfold fstep at this
      rw [this]
      simp
theorem failL_eq (z k : Int) (l : List F) : failL z k l = failR z k 0 0 l := by
  have := fail_fold z k l [] 0 0
  rw [List.nil_append] at this
  exact this
/-- Two files, ahead of a loss of power and behind it. -/
def Lk (f g : F) : Prop := g.name = f.name ∧ g.sure = f.sure ∧ (isLoose f = false → g = f)
theorem fail_lk (z k : Int) : ∀ (l : List F) (c q : Nat), (failR z k c q l).length = l.length ∧ ∀ p ∈ l.zip (failR z k c q l), Lk p.1 p.2
  | [], _, _ => ⟨rfl, fun p hp => by cases hp⟩
  | f :: r, c, q => by
    rw [failR]
    by_cases h1 : isLoose f = true
    · rw [if_pos h1]
      by_cases h2 : kept z c = true
      · rw [if_pos h2]
        obtain ⟨a1, a2⟩ := fail_lk z k r (c + 1) q
        refine ⟨by simp [a1], fun p hp => ?_⟩
        rw [List.zip_cons_cons] at hp
        rcases List.mem_cons.1 hp with rfl | hp
        · exact ⟨rfl, rfl, fun _ => rfl⟩
        · exact a2 p hp
      · rw [if_neg h2]
        obtain ⟨a1, a2⟩ := fail_lk z k r (c + 1) (q + 1)
        refine ⟨by simp [a1], fun p hp => ?_⟩
        rw [List.zip_cons_cons] at hp
        rcases List.mem_cons.1 hp with rfl | hp
        · exact ⟨rfl, rfl, fun h => absurd (h.symm.trans h1) (by decide)⟩
        · exact a2 p hp
    · rw [if_neg h1]
      obtain ⟨a1, a2⟩ := fail_lk z k r c q
      refine ⟨by simp [a1], fun p hp => ?_⟩
      rw [List.zip_cons_cons] at hp
      rcases List.mem_cons.1 hp with rfl | hp
      · exact ⟨rfl, rfl, fun _ => rfl⟩
      · exact a2 p hp
/-- Is a file neither as it was nor as it was sure to be? -/
def bad2 (p : F × F) : Bool := !decide (p.2.is = p.1.is) && !decide (p.2.is = p.1.sure)
theorem bad2_same (f : F) : bad2 (f, f) = false := by simp [bad2]
theorem bad_count (z k : Int) : ∀ (l : List F) (c q : Nat), ((l.zip (failR z k c q l)).filter bad2).length ≤ (if q = 0 ∧ 0 < k then 1 else 0)
  | [], _, _ => Nat.zero_le _
  | f :: r, c, q => by
    rw [failR]
    by_cases h1 : isLoose f = true
    · rw [if_pos h1]
      by_cases h2 : kept z c = true
      · rw [if_pos h2, List.zip_cons_cons, List.filter_cons, bad2_same, if_neg (by decide)]
        exact bad_count z k r (c + 1) q
      · rw [if_neg h2, List.zip_cons_cons, List.filter_cons]
        have ih := bad_count z k r (c + 1) (q + 1)
        rw [if_neg (fun h => absurd h.1 (Nat.succ_ne_zero _))] at ih
        by_cases hq : q = 0 ∧ 0 < k
        · rw [if_pos hq]
          split
          · rw [List.length_cons]
            omega
          · omega
        · have ht : torn f k (decide (q = 0)) = false := by
            unfold torn
            by_cases h3 : q = 0
            · have : ¬ 0 < k := fun h => hq ⟨h3, h⟩
              simp [this]
            · simp [h3]
          have hb : bad2 (f, { f with is := lostC f k (decide (q = 0)) }) = false := by
            unfold bad2 lostC
            rw [ht]
            simp
          rw [if_neg hq, hb, if_neg (by decide)]
          exact ih
    · rw [if_neg h1, List.zip_cons_cons, List.filter_cons, bad2_same, if_neg (by decide)]
      exact bad_count z k r c q
theorem zip_names (z k : Int) : ∀ (l : List F) (c q : Nat), (failR z k c q l).map (·.name) = l.map (·.name)
  | [], _, _ => rfl
  | f :: r, c, q => by
    rw [failR]
    split
    · split
      · rw [List.map_cons, List.map_cons, zip_names z k r]
      · rw [List.map_cons, List.map_cons, zip_names z k r]
    · rw [List.map_cons, List.map_cons, zip_names z k r]
theorem ris_names {l : List F} : Ris l ↔ (l.map (·.name)).Pairwise (· < ·) := by
  unfold Ris
  rw [List.pairwise_map]
theorem fail_ris {z k : Int} {l : List F} (h : Ris l) : Ris (failR z k 0 0 l) := by
  rw [ris_names] at h ⊢
  rw [zip_names]
  exact h
theorem ris_settle {l : List F} (h : Ris l) : Ris (settleL l) := by
  unfold settleL liveL
  have h1 : (l.map stl).Pairwise fun a b => a.name < b.name := by
    rw [List.pairwise_map]
    exact h
  exact h1.filter _
/-- What a name has ahead of a loss of power, what it was sure to have, what it has behind it. -/
def nA (l : List F) (n : B) : Option B := getP n (nowL l)
def nB (l : List F) (n : B) : Option B := getP n (sureL l)
def nC (z k : Int) (l : List F) (n : B) : Option B := getP n (nowL (failL z k l))
/-- Are two of these unlike? As the statement asks it. -/
def unl (c a : Option B) : Bool := (c.isSome != a.isSome) || (c.isSome && (byt c != byt a))
theorem unl_eq (c a : Option B) : unl c a = !decide (c = a) := by
  unfold unl
  cases c <;> cases a <;> simp [byt]
  rename_i x y
  by_cases h : x = y <;> simp [h]
def badN (z k : Int) (l : List F) (n : B) : Bool := unl (nC z k l n) (nA l n) && unl (nC z k l n) (nB l n)
theorem mem_zip {l : List F} {z k : Int} {f : F} (hf : f ∈ l) : ∃ g, (f, g) ∈ l.zip (failR z k 0 0 l) := by
  obtain ⟨j, hj, rfl⟩ := List.mem_iff_getElem.1 hf
  have hl := (fail_lk z k l 0 0).1
  refine ⟨(failR z k 0 0 l)[j]'(by omega), List.mem_iff_getElem.2 ⟨j, by rw [List.length_zip]; omega, ?_⟩⟩
  rw [List.getElem_zip]
theorem nC_mem {l : List F} {z k : Int} (hr : Ris l) {f g : F} (h : (f, g) ∈ l.zip (failR z k 0 0 l)) : nC z k l f.name = g.is := by
  have h1 := (fail_lk z k l 0 0).2 _ h
  have h2 : g ∈ failR z k 0 0 l := (List.of_mem_zip h).2
  have h3 := view_get (v := (·.is)) (fail_ris (z := z) (k := k) hr) h2
  rw [h1.1] at h3
  unfold nC nowL
  rw [failL_eq]
  exact h3
theorem bad_mem {l : List F} {z k : Int} (hr : Ris l) {p : F × F} (h : p ∈ l.zip (failR z k 0 0 l)) : badN z k l p.1.name = bad2 p := by
  obtain ⟨f, g⟩ := p
  have h1 : f ∈ l := (List.of_mem_zip h).1
  have e1 : nA l f.name = f.is := view_get (v := (·.is)) hr h1
  have e2 : nB l f.name = f.sure := view_get (v := (·.sure)) hr h1
  unfold badN bad2
  rw [nC_mem hr h, e1, e2, unl_eq, unl_eq]
theorem filter_congr_len {α : Type} {p q : α → Bool} : ∀ {l : List α}, (∀ x ∈ l, p x = true → q x = true) → (l.filter p).length ≤ (l.filter q).length
  | [], _ => Nat.le_refl _
  | x :: r, h => by
    have ih := filter_congr_len (p := p) (q := q) (l := r) (fun y hy => h y (List.mem_cons_of_mem _ hy))
    rw [List.filter_cons, List.filter_cons]
    by_cases hp : p x = true
    · rw [if_pos hp, if_pos (h x (List.mem_cons_self ..) hp)]
      simp only [List.length_cons]
      omega
    · rw [if_neg hp]
      split
      · simp only [List.length_cons]
        omega
      · exact ih
/-- At most one of the loose files is neither as it was nor as it was sure to be; none, if nothing is torn. -/
theorem bad_names (z k : Int) (l : List F) (hr : Ris l) : (((l.filter isLoose).map (·.name)).filter (badN z k l)).length ≤ (if 0 < k then 1 else 0) := by
  have h0 := bad_count z k l 0 0
  have hl := (fail_lk z k l 0 0).1
  have e1 : l = (l.zip (failR z k 0 0 l)).map Prod.fst := (List.map_fst_zip (by omega)).symm
  have e2 : ((l.filter isLoose).map (·.name)).filter (badN z k l) = ((l.filter isLoose).filter (fun f => badN z k l f.name)).map (·.name) := by
    rw [List.filter_map]
    rfl
  rw [e2, List.length_map, List.filter_filter]
  have h3 : (l.filter (fun f => badN z k l f.name)).length = ((l.zip (failR z k 0 0 l)).filter bad2).length := by
    have h4 : ∀ M : List (F × F), (∀ p ∈ M, p ∈ l.zip (failR z k 0 0 l)) → ((M.map Prod.fst).filter (fun f => badN z k l f.name)).length = (M.filter bad2).length := fun M hM => by
      rw [List.filter_map, List.length_map]
      congr 1
      refine List.filter_congr fun p hp => ?_
      exact bad_mem hr (hM p hp)
    have h5 := h4 _ (fun p hp => hp)
    rw [← e1] at h5
    exact h5
  have h6 : (l.filter (fun a => isLoose a && badN z k l a.name)).length ≤ (l.filter (fun f => badN z k l f.name)).length := filter_congr_len (fun x _ hx => by
    rw [Bool.and_eq_true] at hx
    exact hx.2)
  have h7 : (if (0 : Nat) = 0 ∧ 0 < k then 1 else 0) = (if 0 < k then 1 else 0 : Nat) := by simp
  rw [h7] at h0
  have h8 : (l.filter (fun a => badN z k l a.name && isLoose a)).length = (l.filter (fun a => isLoose a && badN z k l a.name)).length := by
    congr 1
    refine List.filter_congr fun p _ => ?_
    rw [Bool.and_comm]
  first
    | omega
    | (rw [h8]; omega)
/-- What is as it was sure to be stays. -/
theorem sure_keep {z k : Int} {l : List F} (hr : Ris l) {n s : B} (h : (n, s) ∈ sureL l) (ha : nA l n = some s) : nC z k l n = some s := by
  obtain ⟨f, hf, e1, e2⟩ := view_mem h
  dsimp only at e1 e2
  have e3 : nA l f.name = f.is := view_get (v := (·.is)) hr hf
  rw [e1, ha] at e3
  obtain ⟨g, hg⟩ := mem_zip (z := z) (k := k) hf
  have h1 := ((fail_lk z k l 0 0).2 _ hg).2.2 (by
    show isLoose f = false
    unfold isLoose
    rw [← e3, e2]
    simp)
  have h2 := nC_mem hr hg
  dsimp only at h1
  rw [h1, e1, ← e3] at h2
  exact h2
/-- The disk behind a loss of power, when the power came again. -/
def dmU (d : DM) (z k : Int) : DM := { d with dead := false, l := settleL (failL z k d.l) }
theorem up_read {d : DM} {z k : Int} (h : Okl okN d.l) {n : B} (hn : okN n = true) : Ris (dmU d z k).l ∧ theC (dmU d z k) n = nC z k d.l n ∧ theE (dmU d z k) n = if (nC z k d.l n).isSome = true then 0 else 2 := by
  have hr : Ris (settleL (failL z k d.l)) := by
    rw [failL_eq]
    exact ris_settle (fail_ris h.ris)
  have h0 : namE (dmU d z k) n = 0 := by
    unfold namE
    have e : (dmU d z k).dead = false := rfl
    rw [e, if_neg (by decide), if_pos hn]
  have h1 : atL n (dmU d z k).l = nC z k d.l n := by
    show atL n (settleL (failL z k d.l)) = _
    rw [at_now _ _ hr, settle_now]
    rfl
  refine ⟨hr, ?_, ?_⟩
  · unfold theC
    rw [if_pos h0, h1]
  · unfold theE
    rw [if_pos h0, h1]
theorem up_len (d : DM) (z k : Int) : (dmU d z k).l.length ≤ d.l.length := by
  show (settleL (failL z k d.l)).length ≤ _
  have h1 := settle_len (failL z k d.l)
  have h2 := (fail_lk z k d.l 0 0).1
  rw [← failL_eq] at h2
  omega
/-- What is sure has no more bytes than was done. -/
theorem chg_sure (m : RD) (c : RC) : (chgR m c).sure = m.sure := by
  unfold chgR
  split <;> rfl
theorem sure_step {d : DM} {m : RD} {i : Nat} (h : Inv d m i) (hs : usedR m.sure ≤ 50 * i) (a : AC) : usedR (stR m a).sure ≤ 50 * (i + 1) := by
  unfold stR
  split
  · show usedR (m.now.map syF) ≤ _
    have e : usedR (m.now.map syF) = usedR m.now := by
      unfold usedR
      rw [List.map_map]
      rfl
    have h1 := h.used
    rw [e, h.sam.used]
    omega
  · rw [chg_sure]
    omega
theorem inv_bytes {d : DM} {m : RD} {i : Nat} (h : Inv d m i) (hs : usedR m.sure ≤ 50 * i) (hi : i ≤ 1000) : ∀ f ∈ d.l, (byt f.is).length ≤ 1000000000000 ∧ (byt f.sure).length ≤ 1000000000000 := fun f hf => by
  have e1 := view_get (v := (·.is)) h.ok.ris hf
  have e2 := view_get (v := (·.sure)) h.ok.ris hf
  have h1 := used_get (n := f.name) (l := nowL d.l)
  have h2 := used_get (n := f.name) (l := sureL d.l)
  unfold nowL at h1
  unfold sureL at h2
  rw [e1] at h1
  rw [e2] at h2
  have h3 := h.used
  rw [used_now] at h3
  rw [pr_used, h.sam.sure] at hs
  unfold nowL at h3
  unfold sureL at hs
  omega
theorem loose_ok {l : List F} (h : Okl okN l) {n : B} (hn : n ∈ (l.filter isLoose).map (·.name)) : okN n = true := by
  obtain ⟨f, hf, rfl⟩ := List.mem_map.1 hn
  exact h.ok f (List.mem_filter.1 hf).1
theorem sure_ok {l : List F} (h : Okl okN l) {n s : B} (hn : (n, s) ∈ sureL l) : okN n = true := by
  obtain ⟨f, hf, e1, _⟩ := view_mem hn
  have h1 := h.ok f hf
  dsimp only at e1
  rw [e1] at h1
  exact h1
end Go.Proofs.Ytgkkpmliociieaa
