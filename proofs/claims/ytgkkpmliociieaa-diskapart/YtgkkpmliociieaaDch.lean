/- What change of the statements does to a disk. -/
import Derived.Test.YtgkkpmliociieaaBeg
import Derived.Test.YtgkkpmliociieaaArg
namespace Go.Proofs.Ytgkkpmliociieaa
open Go Go.RowKit
/-- What is asked of the plain disk. -/
def rcO (a : AC) : RC := ⟨a.kind, a.name, a.to, if a.kind < 2 then a.s.take 50 else [], a.n⟩
theorem the_ok {d : DM} {n : B} (h : theE d n = 0) : okN n = true := by
  unfold theE at h
  split at h
  · rename_i hn
    unfold namE at hn
    split at hn
    · cases hn
    · split at hn
      · assumption
      · cases hn
  · contradiction
theorem take50 (s : B) : (s.take 50).length ≤ 50 := by rw [List.length_take]; omega
theorem change_any (p : Nat) (b : Option Nat) (d : DM) (a : AC) (w : World) (hD : DK w p b d) (hm : Okd d) (hk : a.kind = 0 ∨ a.kind = 1 ∨ a.kind = 2 ∨ a.kind = 3 ∨ a.kind = 4) (h1 : a.name.length ≤ 9223372036854775807) (h2 : a.to.length ≤ 9223372036854775807) :
    Calls Try.prog 27 #[.pointer (some ⟨p, 0, none⟩), .agg (aC a)] w fun e w' => ∃ b', e = .returned (.int .i64 ((chD d (rcO a)).2 : Nat)) ∧ Chg w w' p b b' ∧ DK w' p b' (chD d (rcO a)).1 := by
  have key : ∀ (f : FuncId) (xs : Array Value) (r : DM × Nat), (∀ w1, DK w1 p b d → Calls Try.prog f xs w1 (ChP w1 p b r)) → CalQ f xs w a (fun v w' => v = .int .i64 (r.2 : Nat) ∧ ∃ b', Chg w w' p b b' ∧ DK w' p b' r.1) := fun f xs r hc w1 hB hb => by
    have hD1 := hD.below hB
    refine (hc w1 hD1).mono ?_
    rintro e w' ⟨rfl, b', hC, hD'⟩
    exact ⟨_, rfl, ⟨rfl, b', (Chg.below hB).trans hC, hD'⟩, hC.blk hD1 hb (by decide) (by decide)⟩
  have h50 : (a.s.take 50).length ≤ 1000000000000 := Nat.le_trans (take50 _) (by decide)
  refine (change_gen (.pointer (some ⟨p, 0, none⟩)) ⟨_, rfl⟩ a (fun v w' => v = .int .i64 ((chD d (rcO a)).2 : Nat) ∧ ∃ b', Chg w w' p b b' ∧ DK w' p b' (chD d (rcO a)).1) w ?_ ?_ ?_ ?_ ?_).mono ?_
  · intro k
    have e : chD d (rcO a) = wriD d a.name (a.s.take 50) := by simp [chD, rcO, k]
    rw [e]
    exact key _ _ _ (fun w1 hD1 => write_any p b d a.name (a.s.take 50) w1 hD1 hm h1 h50)
  · intro k
    have e : chD d (rcO a) = movD d a.name a.to := by simp [chD, rcO, k]
    rw [e]
    exact key _ _ _ (fun w1 hD1 => move_any p b d a.name a.to w1 hD1 hm h1 h2 the_ok)
  · intro k
    have e : chD d (rcO a) = remD d a.name := by simp [chD, rcO, k]
    rw [e]
    exact key _ _ _ (fun w1 hD1 => remove_any p b d a.name w1 hD1 hm h1)
  · intro k
    have e : chD d (rcO a) = truD d a.name a.n := by simp [chD, rcO, k]
    rw [e]
    exact key _ _ _ (fun w1 hD1 => truncate_any p b d a.name a.n w1 hD1 hm h1)
  · intro k1 k2 k3 k4
    have k0 : a.kind = 0 := by omega
    have e : chD d (rcO a) = appD d a.name (a.s.take 50) := by simp [chD, rcO, k0]
    rw [e]
    exact key _ _ _ (fun w1 hD1 => append_any p b d a.name (a.s.take 50) w1 hD1 hm h1 h50)
  · rintro e w' ⟨v, rfl, rfl, b', q1, q2⟩
    exact ⟨b', rfl, q1, q2⟩
end Go.Proofs.Ytgkkpmliociieaa
