/- What WalOpens lays, plainly. -/
import Derived.Test.YtaiiojbakmminaaGreatDoorWdo
import Derived.Test.YtaiiojbakmminaaGreatDoorWrq
namespace Go.Proofs.YtaiiojbakmminaaGreatDoor
open Go Go.RowKit
/-- What is put behind a segment's frames. -/
def rsO (rs : List B) (i : Nat) : B := match rs[i]? with
  | some r => if r.length < 500 then r else []
  | none => []
theorem rsO_len (rs : List B) (i : Nat) : (rsO rs i).length ≤ 499 := by
  unfold rsO
  split
  · split
    · omega
    · simp
  · simp
/-- The bytes of a segment. -/
def txO (rs : List B) (sl : List SG) (i : Nat) : B := frs (cutL ((sl.getD i ⟨none, [], 0⟩).l)) ++ rsO rs i
def txsO (rs : List B) (sl : List SG) (i : Nat) : List B := (List.range i).map (txO rs sl)
theorem txsO_succ (rs : List B) (sl : List SG) (i : Nat) : txsO rs sl (i + 1) = txsO rs sl i ++ [txO rs sl i] := by unfold txsO; rw [List.range_succ, List.map_append]; rfl
theorem txsO_len (rs : List B) (sl : List SG) (i : Nat) : (txsO rs sl i).length = i := by unfold txsO; simp
theorem txO_len (rs : List B) (sl : List SG) (i : Nat) : (txO rs sl i).length ≤ 1747 := by
  unfold txO
  have := frs_cutl ((sl.getD i ⟨none, [], 0⟩).l)
  have := rsO_len rs i
  rw [List.length_append]
  omega
theorem txO_at {rs : List B} {sl : List SG} {i : Nat} {x : SG} (h : sl[i]? = some x) : txO rs sl i = frs (cutL x.l) ++ rsO rs i := by
  unfold txO
  rw [List.getD_eq_getElem?_getD, h]
  rfl
theorem txsO_mem {rs : List B} {sl : List SG} {i : Nat} {t : B} (h : t ∈ txsO rs sl i) : t.length ≤ 1747 := by
  obtain ⟨j, _, rfl⟩ := List.mem_map.1 h
  exact txO_len rs sl j
theorem fewO (rs : List B) (sl : List SG) : ∀ i, (((txsO rs sl i).map fun t => (unfT t).1).flatten).length ≤ i * 1747
  | 0 => Nat.le_refl _
  | i + 1 => by
    have h1 := fewO rs sl i
    have h2 := txO_len rs sl i
    have h3 := unfT_few (txO rs sl i)
    have e : ([txO rs sl i].map fun t => (unfT t).1).flatten = (unfT (txO rs sl i)).1 := by simp
    rw [txsO_succ, List.map_append, List.flatten_append, List.length_append, e]
    omega
theorem rd_le : ∀ (txs : List B) (a : List B × Nat × Bool), (txs.foldl (fun a t => if a.2.2 = true then (a.1, a.2.1 + t.length, true) else (a.1 ++ (unfT t).1, a.2.1 + (t.length - (unfT t).2), decide ((unfT t).2 < t.length))) a).1.length ≤ a.1.length + (txs.map List.length).sum
  | [], a => Nat.le_add_right _ _
  | t :: r, a => by
    rw [List.foldl_cons, List.map_cons, List.sum_cons]
    refine Nat.le_trans (rd_le r _) ?_
    have h3 := unfT_few t
    by_cases h : a.2.2 = true
    · rw [if_pos h]
      dsimp only
      omega
    · rw [if_neg h]
      dsimp only
      rw [List.length_append]
      omega
theorem sum_le (M : Nat) : ∀ l : List B, (∀ t ∈ l, t.length ≤ M) → (l.map List.length).sum ≤ l.length * M
  | [], _ => Nat.zero_le _
  | t :: r, h => by
    have h1 := sum_le M r (fun x hx => h x (List.mem_cons_of_mem _ hx))
    have h2 := h t (List.mem_cons_self ..)
    rw [List.map_cons, List.sum_cons, List.length_cons, Nat.add_mul, Nat.one_mul]
    omega
theorem rdO_few (rs : List B) (sl : List SG) (i : Nat) : (rdS (txsO rs sl i)).1.length ≤ i * 1747 := by
  have h1 := rd_le (txsO rs sl i) ([], 0, false)
  have h2 := sum_le 1747 (txsO rs sl i) (fun t ht => txsO_mem ht)
  rw [txsO_len] at h2
  refine Nat.le_trans h1 ?_
  rw [List.length_nil, Nat.zero_add]
  exact h2
theorem dx_firstg (g : Nat) (bt : B) (h1 : 1 ≤ g) (h2 : g < 100) : Dx (putP (baseN g) (some bt) []) g bt [] :=
  ⟨putP_ris (by simp [RisP]), h1, h2, by simp, by rw [getP_put, if_pos rfl], fun i t ht => by simp at ht, fun x hx => .inl (by
    have e : putP (baseN g) (some bt) [] = [(baseN g, bt)] := rfl
    rw [e] at hx
    rw [List.mem_singleton.1 hx]), Nat.le_trans (putP_len (n := baseN g) (c := some bt) (P := [])) (by decide)⟩
def P1O (fs : B) : PP := putP (baseN 1) (some [101, 108, 100, 101, 114]) (putP (baseN 2) (some fs) [])
theorem nm1 : baseN 1 = [98, 97, 115, 101, 45, 49] := by decide
theorem P1_eq (fs : B) : putP [98, 97, 115, 101, 45, 49] (some [101, 108, 100, 101, 114]) (putP [98, 97, 115, 101, 45, 50] (some fs) []) = P1O fs := by
  unfold P1O
  rw [nm1, nm2]
theorem p1_used (fs : B) : usedP (putP [98, 97, 115, 101, 45, 50] (some fs) []) ≤ fs.length := by
  have u1 := usedP_put (n := [98, 97, 115, 101, 45, 50]) (c := some fs) (P := []) (by simp [RisP])
  have e0 : usedP ([] : PP) = 0 := rfl
  have e1 : (kbyt (some fs)).length = fs.length := rfl
  omega
theorem dx_P1 (fs : B) : Dx (P1O fs) 2 fs [] ∧ (P1O fs).length ≤ 2 ∧ usedP (P1O fs) ≤ fs.length + 5 := by
  have l1 := putP_len (n := baseN 2) (c := some fs) (P := [])
  have l2 := putP_len (n := baseN 1) (c := some [101, 108, 100, 101, 114]) (P := putP (baseN 2) (some fs) [])
  have l0 : ([] : PP).length = 0 := rfl
  have d1 := dx_firstg 2 fs (by decide) (by decide)
  have d2 := dx_oth d1 (baseN 1) [101, 108, 100, 101, 114] (.base 1 (by decide) (by decide)) (by omega)
  have u1 := p1_used fs
  rw [← nm2] at u1
  have u2 := usedP_put (n := baseN 1) (c := some [101, 108, 100, 101, 114]) d1.ris
  have e2 : (kbyt (some ([101, 108, 100, 101, 114] : B))).length = 5 := rfl
  refine ⟨d2, by unfold P1O; omega, ?_⟩
  unfold P1O
  omega
theorem seg_nameO {i : Nat} (h : i < 5) : ([115, 101, 103, 45, 50, 45] ++ [UInt8.ofNat (49 + i)] : B) = segN 2 (i + 1) := by
  obtain rfl | rfl | rfl | rfl | rfl : i = 0 ∨ i = 1 ∨ i = 2 ∨ i = 3 ∨ i = 4 := by omega
  all_goals decide
theorem u8_nameO {i : Nat} (h : i < 5) : IntKind.u8.wrap (49 + (i : Int)) = n8 (UInt8.ofNat (49 + i)) := by
  obtain rfl | rfl | rfl | rfl | rfl : i = 0 ∨ i = 1 ∨ i = 2 ∨ i = 3 ∨ i = 4 := by omega
  all_goals decide
theorem rk_of {P : PP} {rs : List B} {sl : List SG} {i : Nat} (h : Dx P 2 (frs [[115]]) (txsO rs sl i)) (hi : i ≤ 5) (hu : usedP P ≤ 4000000) : Rk P (rdS (txsO rs sl i)).1 :=
  ⟨⟨_, h, rfl, fun t ht => by have := txsO_mem ht; omega, by have := fewO rs sl i; omega⟩, hu⟩
end Go.Proofs.YtaiiojbakmminaaGreatDoor
