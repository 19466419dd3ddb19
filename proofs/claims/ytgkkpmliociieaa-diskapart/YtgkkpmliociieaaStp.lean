/- What is done one behind the other: what stays, and how much there is. -/
import Derived.Test.YtgkkpmliociieaaDok
import Derived.Test.YtgkkpmliociieaaDo5
namespace Go.Proofs.Ytgkkpmliociieaa
open Go Go.RowKit
/-- The disk behind something that is done. -/
def stD (d : DM) (a : AC) : DM := if a.kind = 5 then { d with l := settleL d.l } else (chD d (rcO a)).1
def stR (m : RD) (a : AC) : RD := if a.kind = 5 then syD m else chgR m (rcO a)
/-- What stays while things are done to both. -/
structure Inv (d : DM) (m : RD) (i : Nat) : Prop where
  sam : Sam d m
  ok : Okl okN d.l
  len : d.l.length ≤ 2 * i
  used : usedL d.l ≤ 50 * i
  ch : d.ch ≤ i
  dead : d.dead = false
  room : d.lim = true → 0 ≤ d.room ∧ d.room ≤ 9223372036854775807
  top : m.room ≤ 9223372036854775807
theorem view_len (v : F → Option B) (l : List F) : (viewL v l).length ≤ l.length := List.length_filterMap_le _ _
theorem Inv.nowLen {d : DM} {m : RD} {i : Nat} (h : Inv d m i) : m.now.length ≤ 2 * i := by
  have h1 : m.now.length = (nowL d.l).length := by rw [← h.sam.now, List.length_map]
  have := view_len (·.is) d.l
  have h2 := h.len
  unfold nowL at h1
  omega
theorem Inv.sureLen {d : DM} {m : RD} {i : Nat} (h : Inv d m i) : m.sure.length ≤ 2 * i := by
  have h1 : m.sure.length = (sureL d.l).length := by rw [← h.sam.sure, List.length_map]
  have := view_len (·.sure) d.l
  have h2 := h.len
  unfold sureL at h1
  omega
theorem Inv.okd {d : DM} {m : RD} {i : Nat} (h : Inv d m i) (hi : i ≤ 1000) : Okd d := by
  have h1 := h.len
  have h2 := h.used
  have h3 := h.ch
  exact ⟨h.ok, by omega, by omega, by omega, h.room⟩
theorem Inv.more {d : DM} {m : RD} {i j : Nat} (h : Inv d m i) (hj : i ≤ j) : Inv d m j := by
  have h1 := h.len
  have h2 := h.used
  have h3 := h.ch
  exact ⟨h.sam, h.ok, by omega, by omega, by omega, h.dead, h.room, h.top⟩
theorem chg_room (m : RD) (c : RC) : (chgR m c).room = m.room := by
  unfold chgR
  split <;> rfl
theorem rcO_s (a : AC) : (rcO a).s.length ≤ 50 := by
  unfold rcO
  dsimp only
  split
  · exact take50 _
  · exact Nat.zero_le _
theorem Inv.step {d : DM} {m : RD} {i : Nat} (h : Inv d m i) (a : AC) (hk : 0 ≤ a.kind ∧ a.kind ≤ 5) : Inv (stD d a) (stR m a) (i + 1) := by
  have h1 := h.len
  have h2 := h.used
  have h3 := h.ch
  unfold stD stR
  by_cases k5 : a.kind = 5
  · rw [if_pos k5, if_pos k5]
    have h4 := settle_len d.l
    have h5 : usedL (settleL d.l) = usedL d.l := by rw [used_now, used_now, settle_now]
    exact ⟨sam_sync h.sam, settle_ok h.ok, by show (settleL d.l).length ≤ _; omega, by show usedL (settleL d.l) ≤ _; omega, by show d.ch ≤ _; omega, h.dead, h.room, h.top⟩
  · rw [if_neg k5, if_neg k5]
    obtain ⟨a1, a2, a3, a4, a5, a6, a7⟩ := chD_ok h.ok (rcO a)
    have hs := rcO_s a
    have hkk : (rcO a).kind = 0 ∨ (rcO a).kind = 1 ∨ (rcO a).kind = 2 ∨ (rcO a).kind = 3 ∨ (rcO a).kind = 4 := by
      show a.kind = 0 ∨ a.kind = 1 ∨ a.kind = 2 ∨ a.kind = 3 ∨ a.kind = 4
      omega
    obtain ⟨b1, _⟩ := sam_change h.sam h.ok (rcO a) hkk
    exact ⟨b1, a1, by omega, by omega, by omega, a7.trans h.dead, by rw [a5, a6]; exact h.room, by rw [chg_room]; exact h.top⟩
/-- What is put has room. -/
theorem used_put {d : DM} (h : Okl okN d.l) (hl : d.lim = true) (hu : (usedL d.l : Int) ≤ d.room) (n stay s : B) (k : Nat) : (usedL (putD d n stay s k).1.l : Int) ≤ d.room := by
  unfold putD
  split
  · exact hu
  · rename_i hf
    have hw := usedP_wo n (nowL d.l)
    have hp := usedP_put n (some (stay ++ s)) (nowL d.l)
    have e1 : (byt (some (stay ++ s))).length = stay.length + s.length := by show (stay ++ s).length = _; rw [List.length_append]
    have e2 := used_now d.l
    show (usedL (lay n (some (stay ++ s)) k d.l) : Int) ≤ _
    rw [used_now, lay_now _ _ _ _ h.ris]
    unfold fullE at hf
    rw [hl, at_now n d.l h.ris] at hf
    simp only [Bool.true_and, Bool.and_eq_true, decide_eq_true_eq, not_and] at hf
    by_cases q : 0 < (stay.length : Int) + (s.length : Int) - ((byt (getP n (nowL d.l))).length : Int)
    · have := hf q
      omega
    · omega
theorem used_step {d : DM} (h : Okl okN d.l) (hl : d.lim = true) (hu : (usedL d.l : Int) ≤ d.room) (a : AC) : (usedL (stD d a).l : Int) ≤ d.room := by
  unfold stD
  by_cases k5 : a.kind = 5
  · rw [if_pos k5]
    have h5 : usedL (settleL d.l) = usedL d.l := by rw [used_now, used_now, settle_now]
    show (usedL (settleL d.l) : Int) ≤ _
    rw [h5]
    exact hu
  · rw [if_neg k5]
    by_cases k2 : a.kind < 2
    · have e : ∀ f : DM × Nat, f = chD d (rcO a) → (usedL f.1.l : Int) ≤ d.room → (usedL (chD d (rcO a)).1.l : Int) ≤ d.room := fun f e q => e ▸ q
      by_cases k1 : a.kind = 1
      · refine e (wriD d a.name (rcO a).s) (by simp [chD, rcO, k1]) ?_
        unfold wriD
        split
        · exact used_put h hl hu _ _ _ _
        · exact hu
      · refine e (appD d a.name (rcO a).s) ?_ ?_
        · have q1 : ¬ (rcO a).kind = 1 := k1
          have q2 : ¬ (rcO a).kind = 2 := fun q => by have : a.kind = 2 := q; omega
          have q3 : ¬ (rcO a).kind = 3 := fun q => by have : a.kind = 3 := q; omega
          have q4 : ¬ (rcO a).kind = 4 := fun q => by have : a.kind = 4 := q; omega
          unfold chD
          rw [if_neg q1, if_neg q2, if_neg q3, if_neg q4]
          rfl
        · unfold appD
          split
          · exact used_put h hl hu _ _ _ _
          · exact hu
    · obtain ⟨_, _, a3, _⟩ := chD_ok h (rcO a)
      have e : (rcO a).s = [] := by
        show (if a.kind < 2 then a.s.take 50 else []) = []
        rw [if_neg k2]
      rw [e] at a3
      simp only [List.length_nil, Nat.add_zero] at a3
      omega
theorem st_same {d : DM} (h : Okl okN d.l) (a : AC) : (stD d a).lim = d.lim ∧ (stD d a).room = d.room := by
  unfold stD
  split
  · exact ⟨rfl, rfl⟩
  · obtain ⟨_, _, _, _, a5, a6, _⟩ := chD_ok h (rcO a)
    exact ⟨a5, a6⟩
/-- Something is done to both. -/
theorem do_step (p : Nat) (b : Option Nat) (d : DM) (m : RD) (x y : Value) (a : AC) (i : Nat) (w : World) (hD : DK w p b d) (hx : RL w 0 x m.now) (hy : RL w 0 y m.sure) (hI : Inv d m i) (hi : i ≤ 1000) (hk : 0 ≤ a.kind ∧ a.kind ≤ 5) (h1 : a.name.length ≤ 9223372036854775807) (h2 : a.to.length ≤ 9223372036854775807) :
    Calls Try.prog 8 #[.agg (pC p m x y), .agg (aC a)] w (DoP w p b (stD d a) (stR m a)) := by
  have hm := hI.okd hi
  have hn := hI.nowLen
  unfold stD stR
  by_cases k5 : a.kind = 5
  · rw [if_pos k5, if_pos k5]
    exact do_sync p b d m x y a w hD hx hy hI.sam hm (by omega) k5 hI.dead
  · rw [if_neg k5, if_neg k5]
    exact do_chg p b d m x y a w hD hx hy hI.sam hm (by omega) hI.top (by omega) h1 h2
end Go.Proofs.Ytgkkpmliociieaa
