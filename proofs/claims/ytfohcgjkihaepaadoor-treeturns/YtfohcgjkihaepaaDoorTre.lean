/- A Merkle tree of a list, plainly: roots, proofs, and what a proof leads to. Over any digest. -/
import Derived.WalkKit
namespace Go.Proofs.YtfohcgjkihaepaaDoor
/-- Where a list of n things is cut: the greatest power of two below n. -/
def cutN (n : Nat) : Nat := 2 ^ (n - 1).log2
theorem cutN_pos (n : Nat) : 0 < cutN n := Nat.pow_pos (by decide)
theorem cutN_lt {n : Nat} (h : 2 ≤ n) : cutN n < n := by
  have := Nat.log2_self_le (n := n - 1) (by omega)
  unfold cutN
  omega
theorem cutN_ge {n : Nat} (h : 2 ≤ n) : n ≤ 2 * cutN n := by
  have := Nat.lt_log2_self (n := n - 1)
  unfold cutN
  rw [Nat.pow_succ] at this
  omega
/-- The greatest power of two below n is just that. -/
theorem cutN_eq {n e : Nat} (h1 : 2 ^ e < n) (h2 : n ≤ 2 * 2 ^ e) : cutN n = 2 ^ e := by
  unfold cutN
  have h0 : n - 1 ≠ 0 := by have := Nat.pow_pos (n := e) (show 0 < 2 by decide); omega
  have ha : e ≤ (n - 1).log2 := (Nat.le_log2 h0).2 (by omega)
  have hb : (n - 1).log2 < e + 1 := (Nat.log2_lt h0).2 (by rw [Nat.pow_succ]; omega)
  rw [show (n - 1).log2 = e by omega]
section
variable (H : List UInt8 → List UInt8)
/-- The digest of a leaf; of two halves. -/
def leafD (s : List UInt8) : List UInt8 := H (0 :: s)
def bothD (a b : List UInt8) : List UInt8 := H (1 :: (a ++ b))
/-- The digest of a list. -/
def rootD (l : List (List UInt8)) : List UInt8 :=
  if _h : 2 ≤ l.length then bothD H (rootD (l.take (cutN l.length))) (rootD (l.drop (cutN l.length)))
  else match l with
    | [] => H []
    | x :: _ => leafD H x
  termination_by l.length
  decreasing_by
  · have := cutN_lt (n := l.length) (by assumption); rw [List.length_take]; omega
  · have := cutN_pos l.length; rw [List.length_drop]; omega
/-- The proof of a place. -/
def pathD (l : List (List UInt8)) (i : Nat) : List (List UInt8) :=
  if _h : 2 ≤ l.length then
    if i < cutN l.length then pathD (l.take (cutN l.length)) i ++ [rootD H (l.drop (cutN l.length))]
    else pathD (l.drop (cutN l.length)) (i - cutN l.length) ++ [rootD H (l.take (cutN l.length))]
  else []
  termination_by l.length
  decreasing_by
  · have := cutN_lt (n := l.length) (by assumption); rw [List.length_take]; omega
  · have := cutN_pos l.length; rw [List.length_drop]; omega
theorem rootD_nil : rootD H [] = H [] := by rw [rootD]; simp
theorem rootD_one (x : List UInt8) : rootD H [x] = leafD H x := by rw [rootD]; simp
theorem rootD_cut {l : List (List UInt8)} (h : 2 ≤ l.length) : rootD H l = bothD H (rootD H (l.take (cutN l.length))) (rootD H (l.drop (cutN l.length))) := by
  rw [rootD, dif_pos h]
theorem pathD_short {l : List (List UInt8)} (h : l.length ≤ 1) (i : Nat) : pathD H l i = [] := by
  rw [pathD, dif_neg (by omega)]
theorem pathD_left {l : List (List UInt8)} {i : Nat} (h : 2 ≤ l.length) (hi : i < cutN l.length) : pathD H l i = pathD H (l.take (cutN l.length)) i ++ [rootD H (l.drop (cutN l.length))] := by
  rw [pathD, dif_pos h, if_pos hi]
theorem pathD_right {l : List (List UInt8)} {i : Nat} (h : 2 ≤ l.length) (hi : ¬ i < cutN l.length) : pathD H l i = pathD H (l.drop (cutN l.length)) (i - cutN l.length) ++ [rootD H (l.take (cutN l.length))] := by
  rw [pathD, dif_pos h, if_neg hi]
/-- What a proof leads to, from a leaf's digest: the digests beside the way, the lowest first; none where they are not as many as there must be. -/
def upD (n i : Nat) (d : List UInt8) (p : List (List UInt8)) : Option (List UInt8) :=
  if _h : 2 ≤ n then
    match p.getLast? with
    | none => none
    | some x => if i < cutN n then (upD (cutN n) i d p.dropLast).map (fun y => bothD H y x) else (upD (n - cutN n) (i - cutN n) d p.dropLast).map (fun y => bothD H x y)
  else if p = [] then some d else none
  termination_by n
  decreasing_by
  · exact cutN_lt (by assumption)
  · have := cutN_pos n; omega
theorem upD_one {n i : Nat} {d : List UInt8} {p : List (List UInt8)} (h : n ≤ 1) : upD H n i d p = if p = [] then some d else none := by
  rw [upD, dif_neg (by omega)]
theorem upD_nil {n i : Nat} {d : List UInt8} (h : 2 ≤ n) : upD H n i d [] = none := by
  rw [upD, dif_pos h]
  rfl
theorem upD_left {n i : Nat} {d x : List UInt8} {p : List (List UInt8)} (h : 2 ≤ n) (hi : i < cutN n) : upD H n i d (p ++ [x]) = (upD H (cutN n) i d p).map (fun y => bothD H y x) := by
  rw [upD, dif_pos h]
  simp only [List.getLast?_append, List.getLast?_singleton, Option.some_or, List.dropLast_concat, if_pos hi]
theorem upD_right {n i : Nat} {d x : List UInt8} {p : List (List UInt8)} (h : 2 ≤ n) (hi : ¬ i < cutN n) : upD H n i d (p ++ [x]) = (upD H (n - cutN n) (i - cutN n) d p).map (fun y => bothD H x y) := by
  rw [upD, dif_pos h]
  simp only [List.getLast?_append, List.getLast?_singleton, Option.some_or, List.dropLast_concat, if_neg hi]
/-- How many digests a proof must have. -/
def steps (n i : Nat) : Nat :=
  if _h : 2 ≤ n then if i < cutN n then steps (cutN n) i + 1 else steps (n - cutN n) (i - cutN n) + 1 else 0
  termination_by n
  decreasing_by
  · exact cutN_lt (by assumption)
  · have := cutN_pos n; omega
theorem upD_len : ∀ {n i : Nat} {d : List UInt8} {p : List (List UInt8)}, (upD H n i d p).isSome = decide (p.length = steps n i) := by
  intro n
  induction n using Nat.strongRecOn with
  | ind n ih =>
    intro i d p
    by_cases h : 2 ≤ n
    · rcases List.eq_nil_or_concat p with rfl | ⟨q, x, rfl⟩
      · rw [upD_nil H h, steps, dif_pos h]
        by_cases hi : i < cutN n
        · rw [if_pos hi]; simp
        · rw [if_neg hi]; simp
      · rw [List.concat_eq_append, steps, dif_pos h]
        by_cases hi : i < cutN n
        · rw [upD_left H h hi, if_pos hi, Option.isSome_map, ih _ (cutN_lt h), List.length_append, List.length_singleton]
          exact decide_eq_decide.2 (by omega)
        · have := cutN_pos n
          rw [upD_right H h hi, if_neg hi, Option.isSome_map, ih _ (by omega), List.length_append, List.length_singleton]
          exact decide_eq_decide.2 (by omega)
    · rw [upD_one H (by omega), steps, dif_neg h]
      cases p <;> simp
/-- What is proved leads to the root. -/
theorem up_path_of : ∀ (n : Nat) {l : List (List UInt8)} (_ : l.length = n) {i : Nat} {y : List UInt8} (_ : l[i]? = some y), upD H l.length i (leafD H y) (pathD H l i) = some (rootD H l) := by
  intro n
  induction n using Nat.strongRecOn with
  | ind n ih =>
    intro l hn i y hy
    have hi := (List.getElem?_eq_some_iff.1 hy).1
    by_cases h : 2 ≤ l.length
    · have hlt := cutN_lt h
      have hps := cutN_pos l.length
      rw [rootD_cut H h]
      by_cases hs : i < cutN l.length
      · have hl : (l.take (cutN l.length)).length = cutN l.length := by rw [List.length_take]; omega
        have := ih (cutN l.length) (by omega) hl (i := i) (y := y) (by rw [List.getElem?_take, if_pos hs]; exact hy)
        rw [hl] at this
        rw [pathD_left H h hs, upD_left H h hs, this]
        rfl
      · have hl : (l.drop (cutN l.length)).length = l.length - cutN l.length := by rw [List.length_drop]
        have := ih (l.length - cutN l.length) (by omega) hl (i := i - cutN l.length) (y := y) (by rw [List.getElem?_drop, show cutN l.length + (i - cutN l.length) = i by omega]; exact hy)
        rw [hl] at this
        rw [pathD_right H h hs, upD_right H h hs, this]
        rfl
    · rw [upD_one H (by omega), pathD_short H (by omega)]
      match l, hi, hy with
      | [x], hi, hy =>
        have : i = 0 := by simp at hi; omega
        subst this
        simp at hy
        subst hy
        rw [rootD_one]
        rfl
      | [], hi, _ => simp at hi
      | _ :: _ :: _, _, _ => simp at h
theorem up_path {l : List (List UInt8)} {i : Nat} (hi : i < l.length) : upD H l.length i (leafD H l[i]) (pathD H l i) = some (rootD H l) := up_path_of H _ rfl (List.getElem?_eq_getElem hi)
theorem path_len {l : List (List UInt8)} {i : Nat} (hi : i < l.length) : (pathD H l i).length = steps l.length i := by
  have h := upD_len H (n := l.length) (i := i) (d := leafD H l[i]) (p := pathD H l i)
  rw [up_path H hi] at h
  exact of_decide_eq_true h.symm
theorem root_len (hH : ∀ x, (H x).length = 32) (l : List (List UInt8)) : (rootD H l).length = 32 := by
  by_cases h : 2 ≤ l.length
  · rw [rootD_cut H h]
    exact hH _
  · match l, h with
    | [], _ => rw [rootD_nil]; exact hH _
    | [x], _ => rw [rootD_one]; exact hH _
    | _ :: _ :: _, h => simp at h
theorem path_32 (hH : ∀ x, (H x).length = 32) : ∀ (n : Nat) {l : List (List UInt8)} (_ : l.length = n) (i : Nat), ∀ x ∈ pathD H l i, x.length = 32 := by
  intro n
  induction n using Nat.strongRecOn with
  | ind n ih =>
    intro l hn i x hx
    by_cases h : 2 ≤ l.length
    · have hlt := cutN_lt h
      have hps := cutN_pos l.length
      by_cases hs : i < cutN l.length
      · rw [pathD_left H h hs] at hx
        rcases List.mem_append.1 hx with hx | hx
        · exact ih _ (by rw [List.length_take]; omega) rfl _ x hx
        · simp at hx
          rw [hx]
          exact root_len H hH _
      · rw [pathD_right H h hs] at hx
        rcases List.mem_append.1 hx with hx | hx
        · exact ih _ (by rw [List.length_drop]; omega) rfl _ x hx
        · simp at hx
          rw [hx]
          exact root_len H hH _
    · rw [pathD_short H (by omega)] at hx
      cases hx
/-- No more digests than the bits of the count less one. -/
theorem steps_le : ∀ (e : Nat) {n i : Nat}, n ≤ 2 ^ e → steps n i ≤ e := by
  intro e
  induction e with
  | zero =>
    intro n i h
    rw [steps, dif_neg (by simp at h; omega)]
    exact Nat.le_refl _
  | succ e ih =>
    intro n i h
    by_cases h2 : 2 ≤ n
    · have hlt := cutN_lt h2
      have hge := cutN_ge h2
      have hk : cutN n ≤ 2 ^ e := by
        unfold cutN
        refine Nat.pow_le_pow_right (by decide) ?_
        have : (n - 1).log2 < e + 1 := (Nat.log2_lt (by omega)).2 (by omega)
        omega
      rw [steps, dif_pos h2]
      by_cases hi : i < cutN n
      · rw [if_pos hi]
        have := ih (i := i) hk
        omega
      · rw [if_neg hi]
        have := ih (n := n - cutN n) (i := i - cutN n) (by omega)
        omega
    · rw [steps, dif_neg h2]
      omega
theorem path_short (l : List (List UInt8)) (i : Nat) (h : l.length ≤ 1000) : (pathD H l i).length ≤ 1000 := by
  have key : ∀ (n : Nat) {l : List (List UInt8)} (_ : l.length = n) (i : Nat), (pathD H l i).length ≤ n := by
    intro n
    induction n using Nat.strongRecOn with
    | ind n ih =>
      intro l hn i
      by_cases h : 2 ≤ l.length
      · have hlt := cutN_lt h
        have hps := cutN_pos l.length
        by_cases hs : i < cutN l.length
        · rw [pathD_left H h hs, List.length_append, List.length_singleton]
          have := ih (l.take (cutN l.length)).length (by rw [List.length_take]; omega) rfl i
          rw [List.length_take] at this
          omega
        · rw [pathD_right H h hs, List.length_append, List.length_singleton]
          have := ih (l.drop (cutN l.length)).length (by rw [List.length_drop]; omega) rfl (i - cutN l.length)
          rw [List.length_drop] at this
          omega
      · rw [pathD_short H (by omega)]
        simp
  exact Nat.le_trans (key _ rfl i) h
/-- Two texts of one digest that differ. -/
def Clash (x y : List UInt8) : Prop := x ≠ y ∧ H x = H y
/-- Two proofs that lead from unlike digests to one root show two unlike texts of one digest. -/
theorem up_clash (hH : ∀ x, (H x).length = 32) : ∀ {n i : Nat} {d e r : List UInt8} {p q : List (List UInt8)}, (∀ x ∈ p, x.length = 32) → (∀ x ∈ q, x.length = 32) → d.length = 32 → e.length = 32 → upD H n i d p = some r → upD H n i e q = some r → d ≠ e → ∃ x y, Clash H x y := by
  intro n
  induction n using Nat.strongRecOn with
  | ind n ih =>
    intro i d e r p q hp hq hd he h1 h2 hne
    by_cases h : 2 ≤ n
    · rcases List.eq_nil_or_concat p with rfl | ⟨p', x, rfl⟩
      · rw [upD_nil H h] at h1; cases h1
      rcases List.eq_nil_or_concat q with rfl | ⟨q', y, rfl⟩
      · rw [upD_nil H h] at h2; cases h2
      rw [List.concat_eq_append] at h1 h2 hp hq
      have hx : x.length = 32 := hp x (by simp)
      have hy : y.length = 32 := hq y (by simp)
      have hp' : ∀ z ∈ p', z.length = 32 := fun z hz => hp z (by simp [hz])
      have hq' : ∀ z ∈ q', z.length = 32 := fun z hz => hq z (by simp [hz])
      have hps := cutN_pos n
      have hlen : ∀ {n i : Nat} {d : List UInt8} {p : List (List UInt8)} {r : List UInt8}, d.length = 32 → upD H n i d p = some r → r.length = 32 := by
        intro n i d p r hd hr
        by_cases h : 2 ≤ n
        · rcases List.eq_nil_or_concat p with rfl | ⟨p', x, rfl⟩
          · rw [upD_nil H h] at hr; cases hr
          · rw [List.concat_eq_append] at hr
            by_cases hi : i < cutN n
            · rw [upD_left H h hi] at hr
              obtain ⟨z, _, rfl⟩ := Option.map_eq_some_iff.1 hr
              exact hH _
            · rw [upD_right H h hi] at hr
              obtain ⟨z, _, rfl⟩ := Option.map_eq_some_iff.1 hr
              exact hH _
        · rw [upD_one H (by omega)] at hr
          split at hr
          · cases hr; exact hd
          · cases hr
      by_cases hi : i < cutN n
      · rw [upD_left H h hi] at h1 h2
        obtain ⟨a, ha, ra⟩ := Option.map_eq_some_iff.1 h1
        obtain ⟨b, hb, rb⟩ := Option.map_eq_some_iff.1 h2
        by_cases hab : a = b
        · subst hab
          exact ih _ (cutN_lt h) hp' hq' hd he ha hb hne
        · refine ⟨1 :: (a ++ x), 1 :: (b ++ y), fun e1 => ?_, ra.trans rb.symm⟩
          have e2 := (List.cons.inj e1).2
          exact hab (List.append_inj_left e2 (by rw [hlen hd ha, hlen he hb]))
      · rw [upD_right H h hi] at h1 h2
        obtain ⟨a, ha, ra⟩ := Option.map_eq_some_iff.1 h1
        obtain ⟨b, hb, rb⟩ := Option.map_eq_some_iff.1 h2
        by_cases hab : a = b
        · subst hab
          exact ih _ (by omega) hp' hq' hd he ha hb hne
        · refine ⟨1 :: (x ++ a), 1 :: (y ++ b), fun e1 => ?_, ra.trans rb.symm⟩
          have e2 := (List.cons.inj e1).2
          exact hab (List.append_inj_right e2 (by rw [hx, hy]))
    · rw [upD_one H (by omega)] at h1 h2
      split at h1
      · split at h2
        · cases h1; cases h2; exact absurd rfl hne
        · cases h2
      · cases h1
end
end Go.Proofs.YtfohcgjkihaepaaDoor
