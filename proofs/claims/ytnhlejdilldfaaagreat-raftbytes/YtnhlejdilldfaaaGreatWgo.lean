/- What a reader goes through, plainly. -/
import Derived.Test.YtnhlejdilldfaaaGreatVsi
import Derived.Test.YtnhlejdilldfaaaGreatWrb
namespace Go.Proofs.YtnhlejdilldfaaaGreat
open Go
theorem R.count_le (r : R) (m : Nat) : (r.count m).2 ≤ m := by
  unfold R.count
  split
  · exact Nat.zero_le _
  · rename_i h
    by_cases he : (r.number 4).1.err = 0
    · by_cases h2 : (m : Int) < 0 ∨ (m : Int) < (r.number 4).2
      · exact absurd ⟨he, h2⟩ h
      · omega
    · unfold R.number at *
      have hb : ((r.early 4).bytes 4).2 = [] := by
        have := he
        unfold R.bytes at *
        split
        · rfl
        · split
          · rfl
          · split
            · rfl
            · rename_i h1 h2 h3
              rw [if_neg h1, if_neg h2, if_neg h3] at this
              exact absurd (by simpa using h1) this
      simp only
      rw [hb]
      exact Nat.zero_le _
end Go.Proofs.YtnhlejdilldfaaaGreat
namespace Go.Proofs.YtnhlejdilldfaaaGreat
open Go
/-- From r to r' just the bytes bs were read, without an error. -/
structure Goes (r r' : R) (bs : List UInt8) : Prop where
  e0 : r.err = 0
  e1 : r'.err = 0
  s : r'.s = r.s
  at' : r.s.take r'.pos = r.s.take r.pos ++ bs
theorem Goes.trans {a b c : R} {x y : List UInt8} (h : Goes a b x) (k : Goes b c y) : Goes a c (x ++ y) :=
  ⟨h.e0, k.e1, k.s.trans h.s, by
    have h1 := k.at'
    rw [h.s, h.at'] at h1
    rw [h1, List.append_assoc]⟩
theorem bytes_goes {r : R} {k : Nat} (hk : r.ok) (h : (r.bytes (k : Nat)).1.err = 0) : Goes r (r.bytes (k : Nat)).1 (r.bytes (k : Nat)).2 ∧ (r.bytes (k : Nat)).2.length = k := by
  obtain ⟨h1, h2, h3, h4⟩ := R.bytes_good hk h
  refine ⟨⟨h1, h, R.bytes_s _ _, ?_⟩, h4⟩
  rw [h3]
  simp only
  rw [List.take_add]
theorem number_goes {r : R} {k : Nat} (hk : r.ok) (h8 : k ≤ 8) (h : (r.number (k : Nat)).1.err = 0) : Goes r (r.number (k : Nat)).1 (num (r.number (k : Nat)).2 k) := by
  have e : r.early (k : Nat) = r := if_neg (fun x => by have := x.2; omega)
  unfold R.number at h ⊢
  rw [e] at h ⊢
  obtain ⟨h1, h2⟩ := bytes_goes hk h
  simp only
  rw [num_val k _ h2]
  exact h1
theorem count_goes {r : R} {m : Int} (hk : r.ok) (h : (r.count m).1.err = 0) : Goes r (r.count m).1 (num (r.count m).2 4) := by
  by_cases hc : (r.number 4).1.err = 0 ∧ (m < 0 ∨ m < (r.number 4).2)
  · unfold R.count at h
    rw [if_pos hc] at h
    simp at h
  · have e : r.count m = r.number 4 := if_neg hc
    rw [e] at h ⊢
    exact number_goes (k := 4) hk (by omega) h
theorem text_goes {r : R} {m : Int} (hk : r.ok) (h : (r.text m).1.err = 0) : Goes r (r.text m).1 (num (r.text m).2.length 4 ++ (r.text m).2) := by
  by_cases hb : ((r.count m).1.bytes (r.count m).2).1.err ≠ 0
  · unfold R.text at h
    rw [if_pos hb] at h
    exact absurd h hb
  · have e : r.text m = (r.count m).1.bytes (r.count m).2 := if_neg hb
    rw [e] at h ⊢
    obtain ⟨h1, h2⟩ := bytes_goes (R.ok_count hk m) h
    have h3 := count_goes hk h1.e0
    rw [h2]
    exact h3.trans h1
theorem R.fail_zero {r : R} {e : Int} (h : (r.fail e).err = 0) : r.err = 0 ∧ e = 0 := by
  unfold R.fail at h
  by_cases h0 : r.err = 0
  · rw [if_pos h0] at h; exact ⟨h0, h⟩
  · rw [if_neg h0] at h; exact absurd h h0
end Go.Proofs.YtnhlejdilldfaaaGreat
