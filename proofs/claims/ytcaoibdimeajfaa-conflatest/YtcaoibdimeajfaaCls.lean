/- What ConfLists does, out of what Has, With and Without do. -/
import Derived.Test.YtcaoibdimeajfaaCnx
import Derived.Deep.CutRange
namespace Go.Proofs.Ytcaoibdimeajfaa
open Go Go.RowKit
theorem ris_ext : ∀ {l m : List Int}, l.Pairwise (· < ·) → m.Pairwise (· < ·) → (∀ x, x ∈ l ↔ x ∈ m) → l = m
  | [], [], _, _, _ => rfl
  | [], y :: m, _, _, h => by have := (h y).2 (List.mem_cons_self ..); cases this
  | x :: l, [], _, _, h => by have := (h x).1 (List.mem_cons_self ..); cases this
  | x :: l, y :: m, hl, hm, h => by
    have hl2 := List.pairwise_cons.1 hl
    have hm2 := List.pairwise_cons.1 hm
    have e : x = y := by
      have h1 := (h x).1 (List.mem_cons_self ..)
      have h2 := (h y).2 (List.mem_cons_self ..)
      rcases List.mem_cons.1 h1 with h1 | h1
      · exact h1
      · rcases List.mem_cons.1 h2 with h2 | h2
        · exact h2.symm
        · have := hl2.1 y h2
          have := hm2.1 x h1
          omega
    subst e
    rw [ris_ext hl2.2 hm2.2 fun z => ⟨fun hz => ?_, fun hz => ?_⟩]
    · rcases List.mem_cons.1 ((h z).1 (List.mem_cons_of_mem _ hz)) with e | e
      · have := hl2.1 z hz; omega
      · exact e
    · rcases List.mem_cons.1 ((h z).2 (List.mem_cons_of_mem _ hz)) with e | e
      · have := hm2.1 z hz; omega
      · exact e
/-- Numbers of replicas that rise. -/
structure Ris (l : List Int) : Prop where
  up : l.Pairwise (· < ·)
  each : ∀ x ∈ l, 0 ≤ x ∧ x ≤ 15
theorem ris_lsI (a : Nat) : Ris (lsI a) := ⟨lsI_ris a, fun x hx => by
  obtain ⟨i, h1, _, rfl⟩ := mem_lsI.1 hx
  omega⟩
theorem bit_mem (a k : Nat) (hk : k < 16) : decide (((k : Nat) : Int) ∈ lsI a) = a.testBit k := by
  cases h : a.testBit k with
  | true => exact decide_eq_true (mem_lsI.2 ⟨k, hk, h, rfl⟩)
  | false =>
    refine decide_eq_false fun hm => ?_
    obtain ⟨i, _, h2, h3⟩ := mem_lsI.1 hm
    obtain rfl : k = i := by omega
    rw [h] at h2
    cases h2
theorem with_eq {a k : Nat} {m : List Int} (hk : k < 16) (hm : m.Pairwise (· < ·)) (h : ∀ x, x ∈ m ↔ x ∈ lsI a ∨ x = (k : Int)) : m = lsI (a ||| 2 ^ k) := by
  refine ris_ext hm (lsI_ris _) fun x => ?_
  rw [h x, mem_lsI, mem_lsI]
  constructor
  · rintro (⟨i, h1, h2, h3⟩ | h3)
    · exact ⟨i, h1, by rw [or_bit, h2, Bool.true_or], h3⟩
    · exact ⟨k, hk, by rw [or_bit]; simp, h3⟩
  · rintro ⟨i, h1, h2, h3⟩
    rw [or_bit, Bool.or_eq_true, decide_eq_true_eq] at h2
    rcases h2 with h2 | h2
    · exact .inl ⟨i, h1, h2, h3⟩
    · subst h2; exact .inr h3
theorem without_eq {a k : Nat} {m : List Int} (ha : a < 65536) (hm : m.Pairwise (· < ·)) (h : ∀ x, x ∈ m ↔ x ∈ lsI a ∧ x ≠ (k : Int)) : m = lsI (nob a k) := by
  refine ris_ext hm (lsI_ris _) fun x => ?_
  rw [h x, mem_lsI, mem_lsI]
  constructor
  · rintro ⟨⟨i, h1, h2, h3⟩, h4⟩
    refine ⟨i, h1, ?_, h3⟩
    rw [nob_bit a k i ha, h2, decide_eq_false (fun e => h4 (by rw [h3, e]))]
    rfl
  · rintro ⟨i, h1, h2, h3⟩
    rw [nob_bit a k i ha, Bool.and_eq_true, Bool.not_eq_true', decide_eq_false_iff_not] at h2
    exact ⟨⟨i, h1, h2.1, h3⟩, fun e => h2.2 (by omega)⟩
/-- What Has, With and Without are asked to do. -/
def HasC : Prop := ∀ (l : List Int) (a : Option Addr) (cap : Nat) (k : Int) (w : World), IA w a l → Ris l → 0 ≤ k ∧ k ≤ 15 → Calls Try.prog 9 #[.slice a l.length cap, .int .i64 k] w fun e w' => e = .returned (.bool (decide (k ∈ l))) ∧ Below w.heap.size w w'
def WithC : Prop := ∀ (l : List Int) (a : Option Addr) (cap : Nat) (k : Int) (w : World), IA w a l → Ris l → 0 ≤ k ∧ k ≤ 15 → Calls Try.prog 11 #[.slice a l.length cap, .int .i64 k] w fun e w' => ∃ (m : List Int) (b : Option Addr) (cap' : Nat), e = .returned (.slice b m.length cap') ∧ IA w' b m ∧ m.Pairwise (· < ·) ∧ (∀ x, x ∈ m ↔ x ∈ l ∨ x = k) ∧ Below w.heap.size w w'
def WithoutC : Prop := ∀ (l : List Int) (a : Option Addr) (cap : Nat) (k : Int) (w : World), IA w a l → Ris l → 0 ≤ k ∧ k ≤ 15 → Calls Try.prog 12 #[.slice a l.length cap, .int .i64 k] w fun e w' => ∃ (m : List Int) (b : Option Addr) (cap' : Nat), e = .returned (.slice b m.length cap') ∧ IA w' b m ∧ m.Pairwise (· < ·) ∧ (∀ x, x ∈ m ↔ x ∈ l ∧ x ≠ k) ∧ Below w.heap.size w w'
set_option maxRecDepth 100000 in
set_option maxHeartbeats 1000000 in
theorem clists_any (HN : NextC) (HH : HasC) (HW : WithC) (HO : WithoutC) (n who : Int) (w : World) :
    Calls Try.prog 3 #[.int .i64 n, .int .i64 who] w fun e w' => e = .returned (.bool true) ∧ Below w.heap.size w w' := by
  obtain ⟨a, ea, ha⟩ := and_low n
  obtain ⟨k, ek, hk⟩ := and_15 who
  have HA := fun w => awakeC_any HN w
  have hk2 : 0 ≤ (k : Int) ∧ (k : Int) ≤ 15 := by omega
  have hp := pow_lt16 hk
  have ho : a ||| 2 ^ k < 65536 := Nat.or_lt_two_pow (n := 16) ha hp
  have hn := nob_lt a k ha
  have l16 := lsI_16 a
  have l16o := lsI_16 (a ||| 2 ^ k)
  have l16n := lsI_16 (nob a k)
  have HL := fun w => list_any a ha w
  have HL2 := HL
  have HLo := fun w => list_any _ ho w
  have HLn := fun w => list_any _ hn w
  have eo := or_i a (2 ^ k) ha hp
  have en := andNot_i a k ha hk
  have es := shl_1 k hk
  have eb := bit_eq a k ha
  have HH1 := fun x cap w h => HH (lsI a) x cap k w h (ris_lsI a) hk2
  rw [bit_mem a k hk] at HH1
  have HW1 := fun x cap w h => (HW (lsI a) x cap k w h (ris_lsI a) hk2).mono fun e w' ⟨m, b, c, h1, h2, h3, h4, h5⟩ => (⟨b, c, by rw [h1, with_eq hk h3 h4], by rw [← with_eq hk h3 h4]; exact h2, h5⟩ : ∃ (b : Option Addr) (c : Nat), e = Ending.returned (.slice b (lsI (a ||| 2 ^ k)).length c) ∧ IA w' b (lsI (a ||| 2 ^ k)) ∧ Below w.heap.size w w')
  have HO1 := fun x cap w h => (HO (lsI a) x cap k w h (ris_lsI a) hk2).mono fun e w' ⟨m, b, c, h1, h2, h3, h4, h5⟩ => (⟨b, c, by rw [h1, without_eq ha h3 h4], by rw [← without_eq ha h3 h4]; exact h2, h5⟩ : ∃ (b : Option Addr) (c : Nat), e = Ending.returned (.slice b (lsI (nob a k)).length c) ∧ IA w' b (lsI (nob a k)) ∧ Below w.heap.size w w')
  have HS := fun (l : List Int) x y c d w (h1 : IA w x l) (h2 : IA w y l) (h : l.length ≤ 140737488355328) => same_any l l x y c d w h1 h2 h true (decide_eq_true rfl)
  clear HH HW HO HN
  have es2 : IntKind.i64.wrap ((2 : Int) ^ k) = ((2 ^ k : Nat) : Int) := by rw [Int.one_mul] at es; exact es
  generalize ((2 ^ k : Nat) : Int) = P at *
  clear ha hp ho hn hk2
  have hi0 : (0 : Int) ≤ k := Int.natCast_nonneg k
  generalize a ||| 2 ^ k = o at *
  generalize nob a k = m at *
  generalize lsI a = la at *
  generalize lsI o = lo at *
  generalize lsI m = lm at *
  generalize a.testBit k = q at *
  have hB := Below.refl w.heap.size w
  have HS1 := fun x y c d w h1 h2 => HS la x y c d w h1 h2 (by omega)
  have HS2 := fun x y c d w h1 h2 => HS lo x y c d w h1 h2 (by omega)
  have HS3 := fun x y c d w h1 h2 => HS lm x y c d w h1 h2 (by omega)
  clear HS
  cases q <;> (
    go_enter Try.func3, Try.ntmps3
    go_wp2_with (first
      | (go_at_call 7; refine (HL _).mono ?_; rintro e w1 ⟨sl1, rfl, hV1, h1⟩; clear HL; replace hB := hB.trans (h1.mono hB.size); obtain ⟨a1, c1, rfl, hI1⟩ := hV1.ia; clear hV1)
      | (go_at_call 8; refine (HA _).mono ?_; rintro e w2 ⟨rfl, h2⟩; clear HA; replace hB := hB.trans (h2.mono hB.size); replace hI1 := hI1.below h2)
      | (go_at_call 9; refine (HH1 _ _ _ hI1).mono ?_; rintro e w3 ⟨rfl, h3⟩; clear HH1; replace hB := hB.trans (h3.mono hB.size); replace hI1 := hI1.below h3)
      | (go_at_call 11; refine (HW1 _ _ _ hI1).mono ?_; rintro e w4 ⟨a4, c4, rfl, hI4, h4⟩; clear HW1; replace hB := hB.trans (h4.mono hB.size); replace hI1 := hI1.below h4)
      | (go_at_call 7; refine (HLo _).mono ?_; rintro e w5 ⟨sl5, rfl, hV5, h5⟩; clear HLo; replace hB := hB.trans (h5.mono hB.size); replace hI1 := hI1.below h5; replace hI4 := hI4.below h5; obtain ⟨a5, c5, rfl, hI5⟩ := hV5.ia; clear hV5)
      | (go_at_call 10; refine (HS2 _ _ _ _ _ hI4 hI5).mono ?_; rintro e w6 ⟨rfl, h6⟩; clear HS2 hI4 hI5; replace hB := hB.trans (h6.mono hB.size); replace hI1 := hI1.below h6)
      | (go_at_call 12; refine (HO1 _ _ _ hI1).mono ?_; rintro e w7 ⟨a7, c7, rfl, hI7, h7⟩; clear HO1; replace hB := hB.trans (h7.mono hB.size); replace hI1 := hI1.below h7)
      | (go_at_call 7; refine (HLn _).mono ?_; rintro e w8 ⟨sl8, rfl, hV8, h8⟩; clear HLn; replace hB := hB.trans (h8.mono hB.size); replace hI1 := hI1.below h8; replace hI7 := hI7.below h8; obtain ⟨a8, c8, rfl, hI8⟩ := hV8.ia; clear hV8)
      | (go_at_call 10; refine (HS3 _ _ _ _ _ hI7 hI8).mono ?_; rintro e w9 ⟨rfl, h9⟩; clear HS3 hI7 hI8; replace hB := hB.trans (h9.mono hB.size); replace hI1 := hI1.below h9)
      | (go_at_call 7; refine (HL2 _).mono ?_; rintro e w10 ⟨sl10, rfl, hV10, h10⟩; clear HL2; replace hB := hB.trans (h10.mono hB.size); replace hI1 := hI1.below h10; obtain ⟨a10, c10, rfl, hI10⟩ := hV10.ia; clear hV10)
      | (go_at_call 10; refine (HS1 _ _ _ _ _ hI1 hI10).mono ?_; rintro e w11 ⟨rfl, h11⟩; clear HS1; replace hB := hB.trans (h11.mono hB.size)))
    go_ret
    exact ⟨rfl, hB⟩)
end Go.Proofs.Ytcaoibdimeajfaa
