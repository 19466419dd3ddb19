/- What SmtProves leans on. -/
import Derived.Test.YtmeolaeoaoldoaaDoorSaw
namespace Go.Proofs.YtmeolaeoaoldoaaDoor.Sh
open Go Go.RowKit
theorem halfD_perm {l m : List LF} (h : l.Perm m) (i b : Nat) : (halfD l i b).Perm (halfD m i b) := h.filter _
theorem proofS_perm : ∀ (f : Nat) {l m : List LF} (p : List UInt8) (i : Nat), l.Perm m → Stand l i → i + f = 256 → proofS TgD f l p i = proofS TgD f m p i
  | 0, l, m, p, i, h, hs, hf => by
    have hl : l.length ≤ 1 := by
      apply Classical.byContradiction
      intro h
      have := hs.lt (by omega)
      omega
    have hle := h.length_eq
    rw [proofS_short TgD 0 hl, proofS_short TgD 0 (by omega)]
    match l, m, h, hl, hle with
    | [], [], _, _, _ => rfl
    | [x], [y], h, _, _ => rw [List.perm_singleton.1 h.symm]
  | f + 1, l, m, p, i, h, hs, hf => by
    have hle := h.length_eq
    by_cases h2 : 2 ≤ l.length
    · rw [proofS_cut TgD h2, proofS_cut TgD (by omega), proofS_perm f p (i + 1) (halfD_perm h i (bitD p i)) (hs.half _) (by omega), rootS_perm TgD f (i + 1) (halfD_perm h i (1 - bitD p i))]
    · rw [proofS_short TgD (f + 1) (by omega), proofS_short TgD (f + 1) (by omega)]
      match l, m, h, h2, hle with
      | [], [], _, _, _ => rfl
      | [x], [y], h, _, _ => rw [List.perm_singleton.1 h.symm]
      | _ :: _ :: _, _, _, h2, _ => simp at h2
/-- The plain proof of the model's leaves is the tree's. -/
theorem way_of {K : List (List UInt8)} {t : Tr} {m : List LF} (hc : Tr.Canon 0 t) (hr : Rel7 K t m) (p : List UInt8) : t.way TgD 0 p = proofS TgD 256 (leavesD m) p 0 :=
  (Tr.way_proof TgD p hc rfl).trans (proofS_perm 256 p 0 hr.perm hc.stand rfl)
theorem stand_of {K : List (List UInt8)} {t : Tr} {m : List LF} (hc : Tr.Canon 0 t) (hr : Rel7 K t m) : Stand (leavesD m) 0 := hc.stand.perm hr.perm
theorem leavesD_val (m : List LF) : ∀ x ∈ leavesD m, x.2.length = 32 := fun x hx => by
  obtain ⟨y, _, rfl⟩ := List.mem_map.1 hx
  exact TgD_len _ _
/-- What a key has in the model: its value, and whether. -/
def hasM (m : List LF) (k : List UInt8) : Prop := ∃ x ∈ m, x.1 = k
theorem ver_of {K : List (List UInt8)} (hn : ¬ TwinsP K) {t : Tr} {m : List LF} (hc : Tr.Canon 0 t) (hr : Rel7 K t m) {k : List UInt8} (hk : k ∈ K) {p : Pf7} (hp : PrfOf t k p) (v : List UInt8) (has : Bool) :
    verP (t.hash TgD) k v has p ↔ (has = true ↔ hasM m k) ∧ (has = true → ∀ x ∈ m, x.1 = k → valD7 x.2 = valD7 v) := by
  rw [prf_ver hc (fun x hx => leavesD_val m x (hr.perm.mem_iff.1 hx)) hp]
  have hex : (∃ x ∈ t.leaves, x.1 = pathD7 k) ↔ hasM m k := by
    constructor
    · rintro ⟨x, hx, hxk⟩
      obtain ⟨y, hy, rfl⟩ := List.mem_map.1 (hr.perm.mem_iff.1 hx)
      exact ⟨y, hy, no_twins hn (hr.keys y hy) hk hxk⟩
    · rintro ⟨y, hy, rfl⟩
      exact ⟨ofD TgD y.1 y.2, hr.perm.mem_iff.2 (List.mem_map.2 ⟨y, hy, rfl⟩), rfl⟩
  rw [hex]
  refine and_congr Iff.rfl ⟨fun h h1 y hy hyk => ?_, fun h h1 x hx hxk => ?_⟩
  · exact h h1 (ofD TgD y.1 y.2) (hr.perm.mem_iff.2 (List.mem_map.2 ⟨y, hy, rfl⟩)) (by rw [hyk]; rfl)
  · obtain ⟨y, hy, rfl⟩ := List.mem_map.1 (hr.perm.mem_iff.1 hx)
    exact h h1 y hy (no_twins hn (hr.keys y hy) hk hxk)
/-- The value that a loop over the keys comes to. -/
def scanM (k : List UInt8) (l : List LF) : List UInt8 × Bool := l.foldl (fun a x => if x.1 = k then (x.2, true) else a) ([], false)
theorem scanM_snoc (k : List UInt8) (l : List LF) (x : LF) : scanM k (l ++ [x]) = if x.1 = k then (x.2, true) else scanM k l := by
  unfold scanM
  rw [List.foldl_append]
  rfl
theorem scanM_has (k : List UInt8) : ∀ (l : List LF), ((scanM k l).2 = true ↔ hasM l k) ∧ ((scanM k l).2 = true → ∃ x ∈ l, x.1 = k ∧ x.2 = (scanM k l).1) ∧ ((scanM k l).2 = false → (scanM k l).1 = []) := by
  intro l
  rw [← List.reverse_reverse l]
  generalize l.reverse = r
  induction r with
  | nil => exact ⟨⟨fun h => Bool.noConfusion h, fun ⟨_, h, _⟩ => nomatch h⟩, fun h => Bool.noConfusion h, fun _ => rfl⟩
  | cons x r ih =>
    rw [List.reverse_cons, scanM_snoc]
    by_cases hx : x.1 = k
    · rw [if_pos hx]
      exact ⟨⟨fun _ => ⟨x, by simp, hx⟩, fun _ => rfl⟩, fun _ => ⟨x, by simp, hx, rfl⟩, fun h => Bool.noConfusion h⟩
    · rw [if_neg hx]
      refine ⟨⟨fun h => ?_, fun ⟨y, hy, hyk⟩ => ?_⟩, fun h => ?_, ih.2.2⟩
      · obtain ⟨y, hy, hyk⟩ := ih.1.1 h
        exact ⟨y, by simp [hy], hyk⟩
      · rcases List.mem_append.1 hy with hy | hy
        · exact ih.1.2 ⟨y, hy, hyk⟩
        · rw [List.mem_singleton.1 hy] at hyk
          exact absurd hyk hx
      · obtain ⟨y, hy, hyk⟩ := ih.2.1 h
        exact ⟨y, by simp [hy], hyk⟩
end Go.Proofs.YtmeolaeoaoldoaaDoor.Sh
