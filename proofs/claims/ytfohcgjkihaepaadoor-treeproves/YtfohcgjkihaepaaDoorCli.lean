/- The way up of a proof, plainly: its sides and the texts that are digested. Over any digest. -/
import Derived.Test.YtfohcgjkihaepaaDoorTre
namespace Go.Proofs.YtfohcgjkihaepaaDoor
/-- Of each step up from a place, the lowest first: does the half beside stand ahead? -/
def sides (n i : Nat) : List Bool :=
  if _h : 2 ≤ n then if i < cutN n then sides (cutN n) i ++ [false] else sides (n - cutN n) (i - cutN n) ++ [true] else []
  termination_by n
  decreasing_by
  · exact cutN_lt (by assumption)
  · have := cutN_pos n; omega
theorem sides_one {n i : Nat} (h : n ≤ 1) : sides n i = [] := by rw [sides, dif_neg (by omega)]
theorem sides_left {n i : Nat} (h : 2 ≤ n) (hi : i < cutN n) : sides n i = sides (cutN n) i ++ [false] := by rw [sides, dif_pos h, if_pos hi]
theorem sides_right {n i : Nat} (h : 2 ≤ n) (hi : ¬ i < cutN n) : sides n i = sides (n - cutN n) (i - cutN n) ++ [true] := by rw [sides, dif_pos h, if_neg hi]
theorem sides_len : ∀ {n i : Nat}, (sides n i).length = steps n i := by
  intro n
  induction n using Nat.strongRecOn with
  | ind n ih =>
    intro i
    by_cases h : 2 ≤ n
    · have hps := cutN_pos n
      by_cases hi : i < cutN n
      · rw [sides_left h hi, steps, dif_pos h, if_pos hi, List.length_append, ih _ (cutN_lt h)]
        rfl
      · rw [sides_right h hi, steps, dif_pos h, if_neg hi, List.length_append, ih _ (by omega)]
        rfl
    · rw [sides_one (by omega), steps, dif_neg h]
      rfl
theorem sides_short {n i : Nat} (h : n ≤ 100) : (sides n i).length ≤ 7 := by
  rw [sides_len]
  exact steps_le 7 (by omega)
section
variable (H : List UInt8 → List UInt8)
/-- The text of two halves: x is the way's digest, y stands beside. -/
def halvT (b : Bool) (x y : List UInt8) : List UInt8 := 1 :: (bif b then y ++ x else x ++ y)
/-- The text behind k steps. -/
def upT (bs : List Bool) (t : List UInt8) (ys : List (List UInt8)) : Nat → List UInt8
  | 0 => t
  | k + 1 => halvT (bs.getD k false) (H (upT bs t ys k)) (ys.getD k [])
/-- The texts of the way up to k steps. -/
def upL (bs : List Bool) (t : List UInt8) (ys : List (List UInt8)) (k : Nat) : List (List UInt8) := (List.range (k + 1)).map (upT H bs t ys)
theorem upL_zero (bs : List Bool) (t : List UInt8) (ys : List (List UInt8)) : upL H bs t ys 0 = [t] := rfl
theorem upL_succ (bs : List Bool) (t : List UInt8) (ys : List (List UInt8)) (k : Nat) : upL H bs t ys (k + 1) = upL H bs t ys k ++ [halvT (bs.getD k false) (H (upT H bs t ys k)) (ys.getD k [])] := by
  unfold upL
  rw [List.range_succ, List.map_append]
  rfl
theorem upL_len (bs : List Bool) (t : List UInt8) (ys : List (List UInt8)) (k : Nat) : (upL H bs t ys k).length = k + 1 := by simp [upL]
theorem upL_get (bs : List Bool) (t : List UInt8) (ys : List (List UInt8)) (k j : Nat) (h : j < (upL H bs t ys k).length) : (upL H bs t ys k)[j] = upT H bs t ys j := by
  simp [upL]
theorem halvT_length (b : Bool) (x y : List UInt8) : (halvT b x y).length = x.length + y.length + 1 := by
  cases b
  · simp [halvT]
  · simp [halvT]; omega
theorem upT_small (hH : ∀ x, (H x).length = 32) (bs : List Bool) (t : List UInt8) (ys : List (List UInt8)) (ht : t.length ≤ 1001) : ∀ k, (∀ j, j < k → (ys.getD j []).length = 32) → (upT H bs t ys k).length ≤ 1001
  | 0, _ => ht
  | k + 1, h => by
    show (halvT _ _ _).length ≤ 1001
    rw [halvT_length, hH, h k (by omega)]
    decide
theorem upT_app (bs cs : List Bool) (t : List UInt8) (ys zs : List (List UInt8)) : ∀ k, k ≤ bs.length → k ≤ ys.length → upT H (bs ++ cs) t (ys ++ zs) k = upT H bs t ys k
  | 0, _, _ => rfl
  | k + 1, h1, h2 => by
    show halvT _ _ _ = halvT _ _ _
    rw [upT_app bs cs t ys zs k (by omega) (by omega), List.getD_eq_getElem?_getD, List.getD_eq_getElem?_getD, List.getD_eq_getElem?_getD, List.getD_eq_getElem?_getD, List.getElem?_append_left (by omega), List.getElem?_append_left (by omega)]
theorem getD_snoc {α : Type} (l : List α) (x d : α) : (l ++ [x]).getD l.length d = x := by
  rw [List.getD_eq_getElem?_getD, List.getElem?_append_right (Nat.le_refl _)]
  simp
/-- What a proof leads to is the digest of the last text. -/
theorem up_text : ∀ {n i : Nat} {t : List UInt8} {p : List (List UInt8)}, p.length = (sides n i).length → upD H n i (H t) p = some (H (upT H (sides n i) t p p.length)) := by
  intro n
  induction n using Nat.strongRecOn with
  | ind n ih =>
    intro i t p hp
    by_cases h : 2 ≤ n
    · have hps := cutN_pos n
      rcases List.eq_nil_or_concat p with rfl | ⟨q, x, rfl⟩
      · exfalso
        by_cases hi : i < cutN n
        · rw [sides_left h hi] at hp; simp at hp
        · rw [sides_right h hi] at hp; simp at hp
      · rw [List.concat_eq_append] at hp ⊢
        by_cases hi : i < cutN n
        · rw [sides_left h hi, List.length_append, List.length_append] at hp
          have hq : q.length = (sides (cutN n) i).length := by simpa using hp
          rw [upD_left H h hi, ih _ (cutN_lt h) hq, sides_left h hi, List.length_append]
          show some (bothD H _ x) = some (H (halvT _ _ _))
          rw [getD_snoc, hq, getD_snoc, upT_app H _ _ _ _ _ _ (Nat.le_refl _) (by omega)]
          rfl
        · rw [sides_right h hi, List.length_append, List.length_append] at hp
          have hq : q.length = (sides (n - cutN n) (i - cutN n)).length := by simpa using hp
          rw [upD_right H h hi, ih _ (by omega) hq, sides_right h hi, List.length_append]
          show some (bothD H x _) = some (H (halvT _ _ _))
          rw [getD_snoc, hq, getD_snoc, upT_app H _ _ _ _ _ _ (Nat.le_refl _) (by omega)]
          rfl
    · rw [upD_one H (by omega)]
      rw [sides_one (by omega)] at hp ⊢
      obtain rfl : p = [] := List.length_eq_zero_iff.1 (by simpa using hp)
      rfl
theorem halvT_inj {b : Bool} {x y x' y' : List UInt8} (hx : x.length = x'.length) (hy : y.length = y'.length) (h : halvT b x y = halvT b x' y') : x = x' := by
  have h1 := (List.cons.inj h).2
  cases b
  · exact List.append_inj_left h1 hx
  · exact List.append_inj_right h1 hy
/-- Two ways up whose last texts have one digest, with no two unlike texts of one digest on them, begin with one text. -/
theorem no_clash (hH : ∀ x, (H x).length = 32) (bs : List Bool) (s t : List UInt8) (p q : List (List UInt8)) (hp : ∀ x ∈ p, x.length = 32) (hq : ∀ x ∈ q, x.length = 32) : ∀ k, k ≤ p.length → k ≤ q.length →
    (∀ j, j ≤ k → ¬ (upT H bs s p j ≠ upT H bs t q j ∧ H (upT H bs s p j) = H (upT H bs t q j))) → H (upT H bs s p k) = H (upT H bs t q k) → s = t
  | 0, _, _, hn, he => Classical.byContradiction fun h => hn 0 (Nat.le_refl _) ⟨h, he⟩
  | k + 1, h1, h2, hn, he => by
    have e : upT H bs s p (k + 1) = upT H bs t q (k + 1) := Classical.byContradiction fun h => hn (k + 1) (Nat.le_refl _) ⟨h, he⟩
    have l1 : (p.getD k []).length = 32 := by
      rw [List.getD_eq_getElem?_getD, List.getElem?_eq_getElem (by omega)]
      exact hp _ (List.getElem_mem (by omega))
    have l2 : (q.getD k []).length = 32 := by
      rw [List.getD_eq_getElem?_getD, List.getElem?_eq_getElem (by omega)]
      exact hq _ (List.getElem_mem (by omega))
    have e2 : H (upT H bs s p k) = H (upT H bs t q k) := halvT_inj (by rw [hH, hH]) (by rw [l1, l2]) e
    exact no_clash hH bs s t p q hp hq k (by omega) (by omega) (fun j hj => hn j (by omega)) e2
/-- A proof of place i of n, as far as its form goes. -/
def goodP (n i : Int) (p : List (List UInt8)) : Prop := 0 ≤ i ∧ i < n ∧ p.length = (sides n.toNat i.toNat).length ∧ ∀ x ∈ p, x.length = 32
/-- The digest that it leads to. -/
def topD (n i : Int) (s : List UInt8) (p : List (List UInt8)) : List UInt8 := H (upT H (sides n.toNat i.toNat) (0 :: s) p p.length)
theorem goodP_nat {n i : Nat} {p : List (List UInt8)} : goodP n i p ↔ i < n ∧ p.length = (sides n i).length ∧ ∀ x ∈ p, x.length = 32 := by
  unfold goodP
  rw [Int.toNat_natCast, Int.toNat_natCast]
  exact ⟨fun h => ⟨by omega, h.2.2⟩, fun h => ⟨by omega, by omega, h.2⟩⟩
theorem all32 {p : List (List UInt8)} (h : ∀ j, j < p.length → (p.getD j []).length = 32) : ∀ x ∈ p, x.length = 32 := by
  intro x hx
  obtain ⟨j, hj, rfl⟩ := List.getElem_of_mem hx
  have := h j hj
  rw [List.getD_eq_getElem?_getD, List.getElem?_eq_getElem hj] at this
  exact this
theorem good_path (hH : ∀ x, (H x).length = 32) {l : List (List UInt8)} {i : Nat} (hi : i < l.length) : goodP l.length i (pathD H l i) :=
  ⟨by omega, by omega, by rw [sides_len, path_len H hi]; simp, path_32 H hH _ rfl i⟩
theorem top_path {l : List (List UInt8)} {i : Nat} (hi : i < l.length) : topD H l.length i (l[i]) (pathD H l i) = rootD H l := by
  have h := up_text H (n := l.length) (i := i) (t := 0 :: l[i]) (p := pathD H l i) (by rw [sides_len, path_len H hi])
  have h2 := up_path H hi
  unfold leafD at h2
  rw [h] at h2
  exact Option.some.inj h2
end
end Go.Proofs.YtfohcgjkihaepaaDoor
