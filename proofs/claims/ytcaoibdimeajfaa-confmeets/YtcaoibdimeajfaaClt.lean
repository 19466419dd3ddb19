/- What ConfLatest does, out of what Latest does. -/
import Derived.Test.YtcaoibdimeajfaaCnx
import Derived.Deep.CutRange
namespace Go.Proofs.Ytcaoibdimeajfaa
open Go Go.RowKit
/-- An entry of the log. -/
structure LE where
  term : Int
  s : List UInt8
  conf : Bool
  mem : List Int
def lec (e : LE) (sl : Value) : Array Value := #[.int .i64 e.term, .string ⟨e.s.toArray⟩, .bool e.conf, sl]
/-- The entries l lie at a. -/
def EA (w : World) (a : Option Addr) (l : List LE) : Prop := ∀ i (h : i < l.length), ∃ g o ma cap, a = some ⟨g, o, none⟩ ∧ w.rangeAt g (o + i * 4) (lec l[i] (.slice ma l[i].mem.length cap)).toList ∧ IA w ma l[i].mem ∧ l[i].mem.length ≤ 17592186044416
theorem EA.below {w w' : World} {a : Option Addr} {l : List LE} (h : EA w a l) (hb : Below w.heap.size w w') : EA w' a l := fun i hi => by
  obtain ⟨g, o, ma, cap, ha, hr, hs, h1⟩ := h i hi
  refine ⟨g, o, ma, cap, ha, fun j v hv => ?_, hs.below hb, h1⟩
  have h3 := hr j v hv
  rw [hb.cell (World.block_lt_of_cell? _ _ h3)]
  exact h3
theorem EA.ex {w : World} {a : Option Addr} {l : List LE} (h : EA w a l) (h0 : 0 < l.length) : ∃ g o, a = some ⟨g, o, none⟩ := by
  obtain ⟨g, o, _, _, ha, _⟩ := h 0 h0
  exact ⟨g, o, ha⟩
theorem EA.take {w : World} {a : Option Addr} {l : List LE} (h : EA w a l) (n : Nat) : EA w a (l.take n) := fun i hi => by
  have hi2 : i < l.length := by rw [List.length_take] at hi; omega
  obtain ⟨g, o, ma, cap, ha, hr, hs, h1⟩ := h i hi2
  have e : (l.take n)[i] = l[i] := List.getElem_take
  rw [e]
  exact ⟨g, o, ma, cap, ha, hr, hs, h1⟩
theorem EA.at {w : World} {g o : Nat} {l : List LE} (h : EA w (some ⟨g, o, none⟩) l) (i : Nat) (hi : i < l.length) : ∃ ma cap, w.cell? ⟨g, o + i * 4 + 2, none⟩ = some (.bool l[i].conf) ∧ w.cell? ⟨g, o + i * 4 + 3, none⟩ = some (.slice ma l[i].mem.length cap) ∧ IA w ma l[i].mem ∧ l[i].mem.length ≤ 17592186044416 := by
  obtain ⟨g', o', ma, cap, ha, hr, hs, h1⟩ := h i hi
  simp only [Option.some.injEq, Addr.mk.injEq, and_true] at ha
  obtain ⟨rfl, rfl⟩ := ha
  exact ⟨ma, cap, hr 2 _ rfl, hr 3 _ rfl, hs, h1⟩
/-- Who takes part by the first i entries, and the place. -/
def ltM (base : List Int) (l : List LE) : Nat → List Int × Nat
  | 0 => (base, 0)
  | i + 1 => if h : i < l.length then bif l[i].conf then (l[i].mem, i + 1) else ltM base l i else ltM base l i
theorem ltM_yes {base : List Int} {l : List LE} {i : Nat} (h : i < l.length) (hc : l[i].conf = true) : ltM base l (i + 1) = (l[i].mem, i + 1) := by
  show (if h : i < l.length then bif l[i].conf then (l[i].mem, i + 1) else ltM base l i else ltM base l i) = _
  rw [dif_pos h, hc, cond_true]
theorem ltM_no {base : List Int} {l : List LE} {i : Nat} (h : i < l.length) (hc : l[i].conf = false) : ltM base l (i + 1) = ltM base l i := by
  show (if h : i < l.length then bif l[i].conf then (l[i].mem, i + 1) else ltM base l i else ltM base l i) = _
  rw [dif_pos h, hc, cond_false]
/-- What Latest is asked to do. -/
def LatestC : Prop := ∀ (base : List Int) (l : List LE) (a b : Option Addr) (ca cb : Nat) (w : World), IA w a base → base.length ≤ 16 → EA w b l → l.length ≤ 60 → Calls Try.prog 17 #[.slice a base.length ca, .slice b l.length cb] w fun e w' => ∃ (x : Option Addr) (c : Nat), e = .returned (.tuple #[.slice x (ltM base l l.length).1.length c, .int .i64 ((ltM base l l.length).2 : Int)]) ∧ IA w' x (ltM base l l.length).1 ∧ Below w.heap.size w w'
set_option maxRecDepth 100000 in
set_option maxHeartbeats 2000000 in
theorem clatest_60 (HN : NextC) (HT : LatestC) (n : Int) (l : List LE) (r : Option Addr) (cap : Nat) (hl : l.length ≤ 60) (w : World) (hR : EA w r l) :
    Calls Try.prog 6 #[.int .i64 n, .slice r l.length cap] w fun e w' => e = .returned (.bool true) ∧ Below w.heap.size w w'  := by
  obtain ⟨a, ea, ha⟩ := and_low n
  have HA := fun w => awakeC_any HN w
  have HL := fun w => list_any a ha w
  have HL2 := HL
  have l16 := lsI_16 a
  have HT1 := fun x y c d w h1 h2 => HT (lsI a) l x y c d w h1 (by omega) h2 (by omega)
  clear HT HN ha
  generalize lsI a = la at *
  have hB := Below.refl w.heap.size w
  have hd : decide ((l.length : Int) > 60) = false := decide_eq_false (by omega)
  go_enter Try.func6, Try.ntmps6
  go_wp2_with (first
    | (go_at_call 7; refine (HL _).mono ?_; rintro e w1 ⟨sl1, rfl, hV1, h1⟩; clear HL; replace hB := hB.trans (h1.mono hB.size); obtain ⟨a1, c1, rfl, hI1⟩ := hV1.ia; clear hV1))
  go_loopw [5, 6, 7] (fun v5 v6 v7 wl => ∃ i : Nat, i ≤ l.length ∧ v7 = .int .i64 i ∧ v6 = .int .i64 ((ltM la l i).2 : Int) ∧ (∃ x c, v5 = .slice x (ltM la l i).1.length c ∧ IA w1 x (ltM la l i).1 ∧ (ltM la l i).1.length ≤ 17592186044416) ∧ wl = w1) (fun _ _ v7 _ => l.length - (intOf v7).toNat)
  case atStart => exact ⟨0, by omega, rfl, rfl, ⟨a1, c1, rfl, hI1, by show la.length ≤ _; omega⟩, rfl⟩
  case round =>
    obtain ⟨i, hil, rfl, rfl, ⟨x, c, rfl, hIx, hlx⟩, rfl⟩ := hrel
    by_cases hlt : i < l.length
    · have hw1 : IntKind.i64.wrap ((i : Int) + 1) = ((i + 1 : Nat) : Int) := by rw [IntKind.wrap_i64]; omega
      have hz1 : (0 : Int) ≤ (i : Int) := by omega
      have hz2 : (i : Int) < (l.length : Int) := by omega
      have hlt' : i < l.length := by omega
      have hR1 := hR.below h1
      obtain ⟨g, o, rfl⟩ := hR1.ex (by omega)
      obtain ⟨ma, cm, c2, c3, hIm, hml⟩ := hR1.at i hlt'
      cases hc : l[i].conf with
      | true =>
        have hy := ltM_yes (base := la) hlt' hc
        rw [hc] at c2
        generalize l[i].mem = mm at *
        clear hc hR1 hR
        go_wp2_with fail
        refine ⟨⟨i + 1, by omega, by go_num, by rw [hy]; rfl, ⟨ma, cm, by rw [hy], by rw [hy]; exact hIm, by rw [hy]; exact hml⟩, by trivial⟩, by simp only [intOf]; omega⟩
      | false =>
        have hy := ltM_no (base := la) hlt' hc
        rw [hc] at c2
        generalize l[i].mem = mm at *
        clear hc hR1 hR
        go_wp2_with fail
        refine ⟨⟨i + 1, by omega, by go_num, by rw [hy], ⟨x, c, by rw [hy], by rw [hy]; exact hIx, by rw [hy]; exact hlx⟩, by trivial⟩, by simp only [intOf]; omega⟩
    · have hz2 : ¬ (i : Int) < (l.length : Int) := by omega
      obtain rfl : i = l.length := by omega
      generalize ltM la l l.length = mk at *
      obtain ⟨mm, at'⟩ := mk
      dsimp only at *
      have HS := fun x y c d w h1 h2 => same_any mm mm x y c d w h1 h2 (by omega) true (decide_eq_true rfl)
      have hR1 := hR.below h1
      go_wp2_with (first
        | (go_at_call 7; refine (HL2 _).mono ?_; rintro e w2 ⟨sl2, rfl, hV2, h2⟩; clear HL2; replace hB := hB.trans (h2.mono hB.size); obtain ⟨a2, c2, rfl, hI2⟩ := hV2.ia; clear hV2; replace hR1 := hR1.below h2; replace hIx := hIx.below h2)
        | (go_at_call 17; refine (HT1 _ _ _ _ _ hI2 hR1).mono ?_; rintro e w3 ⟨x3, c3, rfl, hI3, h3⟩; clear HT1; replace hB := hB.trans (h3.mono hB.size); replace hIx := hIx.below h3)
        | (go_at_call 8; refine (HA _).mono ?_; rintro e w4 ⟨rfl, h4⟩; clear HA; replace hB := hB.trans (h4.mono hB.size); replace hIx := hIx.below h4; replace hI3 := hI3.below h4)
        | (go_at_call 10; refine (HS _ _ _ _ _ hI3 hIx).mono ?_; rintro e w5 ⟨rfl, h5⟩; clear HS; replace hB := hB.trans (h5.mono hB.size)))
      go_ret
      exact ⟨rfl, hB⟩
set_option maxRecDepth 100000 in
set_option maxHeartbeats 2000000 in
theorem clatest_more (HN : NextC) (HT : LatestC) (n : Int) (raw : List LE) (r : Option Addr) (cap : Nat) (hl : 60 < raw.length) (hcap : raw.length ≤ cap) (w : World) (hR : EA w r raw) :
    Calls Try.prog 6 #[.int .i64 n, .slice r raw.length cap] w fun e w' => e = .returned (.bool true) ∧ Below w.heap.size w w'  := by
  have hlen : (raw.take 60).length = 60 := by rw [List.length_take]; omega
  obtain ⟨a, ea, ha⟩ := and_low n
  have HA := fun w => awakeC_any HN w
  have HL := fun w => list_any a ha w
  have HL2 := HL
  have l16 := lsI_16 a
  have HT1 := fun x y c d w h1 h2 => HT (lsI a) (raw.take 60) x y c d w h1 (by omega) h2 (by omega)
  clear HT HN ha
  generalize lsI a = la at *
  have hB := Below.refl w.heap.size w
  rw [hlen] at HT1
  obtain ⟨g0, o0, rfl⟩ := hR.ex (by omega)
  replace hR := hR.take 60
  have hd : decide ((raw.length : Int) > 60) = true := decide_eq_true (by omega)
  generalize raw.take 60 = l at *
  have hlen : Hid (l.length = 60) := hlen
  go_enter Try.func6, Try.ntmps6
  go_wp2_with (first
    | (go_at_call 7; refine (HL _).mono ?_; rintro e w1 ⟨sl1, rfl, hV1, h1⟩; clear HL; replace hB := hB.trans (h1.mono hB.size); obtain ⟨a1, c1, rfl, hI1⟩ := hV1.ia; clear hV1))
  go_loopw [5, 6, 7] (fun v5 v6 v7 wl => ∃ i : Nat, i ≤ 60 ∧ v7 = .int .i64 i ∧ v6 = .int .i64 ((ltM la l i).2 : Int) ∧ (∃ x c, v5 = .slice x (ltM la l i).1.length c ∧ IA w1 x (ltM la l i).1 ∧ (ltM la l i).1.length ≤ 17592186044416) ∧ wl = w1) (fun _ _ v7 _ => 60 - (intOf v7).toNat)
  case atStart => exact ⟨0, by omega, rfl, rfl, ⟨a1, c1, rfl, hI1, by show la.length ≤ _; omega⟩, rfl⟩
  case round =>
    obtain ⟨i, hil, rfl, rfl, ⟨x, c, rfl, hIx, hlx⟩, rfl⟩ := hrel
    by_cases hlt : i < 60
    · have hw1 : IntKind.i64.wrap ((i : Int) + 1) = ((i + 1 : Nat) : Int) := by rw [IntKind.wrap_i64]; omega
      have hz1 : (0 : Int) ≤ (i : Int) := by omega
      have hz2 : (i : Int) < (60 : Int) := by omega
      have hlt' : i < l.length := by have := hlen.out; omega
      have hR1 := hR.below h1
      obtain ⟨ma, cm, c2, c3, hIm, hml⟩ := hR1.at i hlt'
      cases hc : l[i].conf with
      | true =>
        have hy := ltM_yes (base := la) hlt' hc
        rw [hc] at c2
        generalize l[i].mem = mm at *
        clear hc hR1 hR
        go_wp2_with fail
        refine ⟨⟨i + 1, by omega, by go_num, by rw [hy]; rfl, ⟨ma, cm, by rw [hy], by rw [hy]; exact hIm, by rw [hy]; exact hml⟩, by trivial⟩, by simp only [intOf]; omega⟩
      | false =>
        have hy := ltM_no (base := la) hlt' hc
        rw [hc] at c2
        generalize l[i].mem = mm at *
        clear hc hR1 hR
        go_wp2_with fail
        refine ⟨⟨i + 1, by omega, by go_num, by rw [hy], ⟨x, c, by rw [hy], by rw [hy]; exact hIx, by rw [hy]; exact hlx⟩, by trivial⟩, by simp only [intOf]; omega⟩
    · have hz2 : ¬ (i : Int) < (60 : Int) := by omega
      obtain rfl : i = 60 := by omega
      generalize ltM la l 60 = mk at *
      obtain ⟨mm, at'⟩ := mk
      dsimp only at *
      have HS := fun x y c d w h1 h2 => same_any mm mm x y c d w h1 h2 (by omega) true (decide_eq_true rfl)
      have hR1 := hR.below h1
      go_wp2_with (first
        | (go_at_call 7; refine (HL2 _).mono ?_; rintro e w2 ⟨sl2, rfl, hV2, h2⟩; clear HL2; replace hB := hB.trans (h2.mono hB.size); obtain ⟨a2, c2, rfl, hI2⟩ := hV2.ia; clear hV2; replace hR1 := hR1.below h2; replace hIx := hIx.below h2)
        | (go_at_call 17; refine (HT1 _ _ _ _ _ hI2 hR1).mono ?_; rintro e w3 ⟨x3, c3, rfl, hI3, h3⟩; clear HT1; replace hB := hB.trans (h3.mono hB.size); replace hIx := hIx.below h3)
        | (go_at_call 8; refine (HA _).mono ?_; rintro e w4 ⟨rfl, h4⟩; clear HA; replace hB := hB.trans (h4.mono hB.size); replace hIx := hIx.below h4; replace hI3 := hI3.below h4)
        | (go_at_call 10; refine (HS _ _ _ _ _ hI3 hIx).mono ?_; rintro e w5 ⟨rfl, h5⟩; clear HS; replace hB := hB.trans (h5.mono hB.size)))
      go_ret
      exact ⟨rfl, hB⟩
theorem clatest_any (HN : NextC) (HT : LatestC) (n : Int) (l : List LE) (r : Option Addr) (cap : Nat) (hcap : l.length ≤ cap) (w : World) (hR : EA w r l) :
    Calls Try.prog 6 #[.int .i64 n, .slice r l.length cap] w fun e w' => e = .returned (.bool true) ∧ Below w.heap.size w w' := by
  by_cases h : 60 < l.length
  · exact clatest_more HN HT n l r cap h hcap w hR
  · exact clatest_60 HN HT n l r cap (by omega) w hR
end Go.Proofs.Ytcaoibdimeajfaa
