/- What put does. -/
import Derived.Test.YtaccklbijihppaaDoorNla
import Derived.Test.YtaccklbijihppaaDoorOna
namespace Go.Proofs.YtaccklbijihppaaDoor
open Go Go.RowKit
/-- The bytes of an act that is put. -/
def putL (kind n : Int) (y : Nat) (t : List UInt8) : List UInt8 :=
  if kind = 0 then fewL t else if kind = 1 then num y 8 else if kind = 2 then num (n.tmod 65536).toNat 4 else if kind = 3 then num (fewL t).length 4 ++ fewL t else if kind = 4 then hash32 (fewL t) else num (y % 2) 1
set_option maxRecDepth 100000 in
set_option maxHeartbeats 400000 in
theorem put_0 (b : Nat) (l : List UInt8) (n : Int) (y : Nat) (t s : List UInt8) (w : World) (h : WR w b l)
    (HF : ∀ w, Calls Tryd.prog 13 #[.string ⟨t.toArray⟩] w fun e w' => e = .returned (.string ⟨s.toArray⟩) ∧ w' = w)
    (HP : ∀ w, WR w b l → Calls Tryd.prog 45 #[.pointer (some ⟨b, 0, none⟩), .string ⟨s.toArray⟩] w fun e w' => e = .returned (.tuple #[]) ∧ Puts w w' b l s)
     :
    Calls Tryd.prog 25 #[.pointer (some ⟨b, 0, none⟩), .agg (ac 0 n (y : Nat) t)] w fun e w' => e = .returned (.string ⟨s.toArray⟩) ∧ Puts w w' b l s := by
  have hbl := h.lt
  go_enter Tryd.func25, Tryd.ntmps25
  go_wp2_with (first
    | (go_at_call 13; refine (HF _).mono ?_; rintro e w' ⟨rfl, hw'⟩; have hw2' := hw'.symm; subst hw2'; clear hw')
    | (go_at_call 45; refine (HP _ (h.below hw1)).mono ?_; rintro e w2 ⟨rfl, hP⟩; replace ha := hP.keeps.out _ _ _ ha (by decide) (by decide))
    | (with_reducible refine at_list ?_; first
      | (refine wpList_boxRow (op := ⟨some 3, _, _, _, _, _⟩) rfl _ _ rfl _ rfl ?_; intro w1 hw1 hs1 ha; replace hs1 := hs1.symm)
      | (refine wpList_loadCell (op := ⟨some 8, _, _, _, _, _⟩) rfl _ _ rfl w.heap.size 3 rfl _ _ ha _ Tryd.underlying9 rfl _ (ac_g3 _ _ _ _) ?_)
      | (refine wpList_loadCell (op := ⟨some 11, _, _, _, _, _⟩) rfl _ _ rfl w.heap.size 0 rfl _ _ ha _ Tryd.underlying3 rfl _ (ac_g0 _ _ _ _) ?_)))
  go_ret
  refine ⟨rfl, ?_⟩
  have hB2 : Below b w w2 := (hw1.mono (by omega)).trans hP.below
  have hl2 : b ≤ w2.heap.size := Nat.le_of_lt hP.wr.lt
  exact ⟨hB2, (Keeps.of_below hw1).trans hP.keeps, hP.wr⟩
set_option maxRecDepth 100000 in
set_option maxHeartbeats 400000 in
theorem put_1 (b : Nat) (l : List UInt8) (n : Int) (y : Nat) (t s r : List UInt8) (w : World) (h : WR w b l)
    (HF : ∀ w, Calls Tryd.prog 13 #[.string ⟨t.toArray⟩] w fun e w' => e = .returned (.string ⟨s.toArray⟩) ∧ w' = w)
    (HP : ∀ w, WR w b l → Calls Tryd.prog 46 #[.pointer (some ⟨b, 0, none⟩), .int .u64 y, .int .i64 8] w fun e w' => e = .returned (.tuple #[]) ∧ Puts w w' b l r)
    (HQ : ∀ w, Calls Tryd.prog 11 #[.int .u64 y, .int .i64 8] w fun e w' => e = .returned (.string ⟨r.toArray⟩) ∧ Below w.heap.size w w') :
    Calls Tryd.prog 25 #[.pointer (some ⟨b, 0, none⟩), .agg (ac 1 n (y : Nat) t)] w fun e w' => e = .returned (.string ⟨r.toArray⟩) ∧ Puts w w' b l r := by
  have hbl := h.lt
  go_enter Tryd.func25, Tryd.ntmps25
  go_wp2_with (first
    | (go_at_call 13; refine (HF _).mono ?_; rintro e w' ⟨rfl, hw'⟩; have hw2' := hw'.symm; subst hw2'; clear hw')
    | (go_at_call 46; refine (HP _ (h.below hw1)).mono ?_; rintro e w2 ⟨rfl, hP⟩; replace ha := hP.keeps.out _ _ _ ha (by decide) (by decide))
    | (go_at_call 11; refine (HQ _).mono ?_; rintro e w3 ⟨rfl, hw3⟩)
    | (with_reducible refine at_list ?_; first
      | (refine wpList_boxRow (op := ⟨some 3, _, _, _, _, _⟩) rfl _ _ rfl _ rfl ?_; intro w1 hw1 hs1 ha; replace hs1 := hs1.symm)
      | (refine wpList_loadCell (op := ⟨some 8, _, _, _, _, _⟩) rfl _ _ rfl w.heap.size 3 rfl _ _ ha _ Tryd.underlying9 rfl _ (ac_g3 _ _ _ _) ?_)
      | (refine wpList_loadCell (op := ⟨some 11, _, _, _, _, _⟩) rfl _ _ rfl w.heap.size 0 rfl _ _ ha _ Tryd.underlying3 rfl _ (ac_g0 _ _ _ _) ?_)
      | (refine wpList_loadCell (op := ⟨some 22, _, _, _, _, _⟩) rfl _ _ rfl w.heap.size 2 rfl _ _ ha _ Tryd.underlying22 rfl _ (ac_g2 _ _ _ _) ?_)
      | (refine wpList_loadCell (op := ⟨some 25, _, _, _, _, _⟩) rfl _ _ rfl w.heap.size 2 rfl _ _ ha _ Tryd.underlying22 rfl _ (ac_g2 _ _ _ _) ?_)))
  go_ret
  refine ⟨rfl, ?_⟩
  have hB2 : Below b w w2 := (hw1.mono (by omega)).trans hP.below
  have hl2 : b ≤ w2.heap.size := Nat.le_of_lt hP.wr.lt
  exact ⟨hB2.trans (hw3.mono hl2), ((Keeps.of_below hw1).trans hP.keeps).trans (Keeps.of_below hw3), hP.wr.below hw3⟩
set_option maxRecDepth 100000 in
set_option maxHeartbeats 400000 in
theorem put_2 (b : Nat) (l : List UInt8) (n : Int) (y : Nat) (t s r : List UInt8) (m : Int) (hm : n.tmod 65536 = m) (hm1 : -65536 ≤ m) (hm2 : m ≤ 65535) (w : World) (h : WR w b l)
    (HF : ∀ w, Calls Tryd.prog 13 #[.string ⟨t.toArray⟩] w fun e w' => e = .returned (.string ⟨s.toArray⟩) ∧ w' = w)
    (HP : ∀ w, WR w b l → Calls Tryd.prog 47 #[.pointer (some ⟨b, 0, none⟩), .int .i64 m] w fun e w' => e = .returned (.tuple #[]) ∧ Puts w w' b l r)
    (HQ : ∀ w, Calls Tryd.prog 11 #[.int .u64 m.toNat, .int .i64 4] w fun e w' => e = .returned (.string ⟨r.toArray⟩) ∧ Below w.heap.size w w') :
    Calls Tryd.prog 25 #[.pointer (some ⟨b, 0, none⟩), .agg (ac 2 n (y : Nat) t)] w fun e w' => e = .returned (.string ⟨r.toArray⟩) ∧ Puts w w' b l r := by
  have hbl := h.lt
  have hwr : IntKind.i64.wrap (n.tmod 65536) = m := by rw [hm, IntKind.wrap_i64]; omega
  have hwm : IntKind.i64.wrap m = m := by rw [IntKind.wrap_i64]; omega
  by_cases h0 : m < 0
  · skip
    have hd : decide (m < 0) = true := decide_eq_true h0
    rw [show m.toNat = 0 from by omega] at HQ
    go_enter Tryd.func25, Tryd.ntmps25
    go_wp2_with (first
      | (go_at_call 13; refine (HF _).mono ?_; rintro e w' ⟨rfl, hw'⟩; have hw2' := hw'.symm; subst hw2'; clear hw')
      | (go_at_call 47; refine (HP _ (h.below hw1)).mono ?_; rintro e w2 ⟨rfl, hP⟩; replace ha := hP.keeps.out _ _ _ ha (by decide) (by decide))
      | (go_at_call 11; refine (HQ _).mono ?_; rintro e w3 ⟨rfl, hw3⟩)
      | (with_reducible refine at_list ?_; first
        | (refine wpList_boxRow (op := ⟨some 3, _, _, _, _, _⟩) rfl _ _ rfl _ rfl ?_; intro w1 hw1 hs1 ha; replace hs1 := hs1.symm)
        | (refine wpList_loadCell (op := ⟨some 8, _, _, _, _, _⟩) rfl _ _ rfl w.heap.size 3 rfl _ _ ha _ Tryd.underlying9 rfl _ (ac_g3 _ _ _ _) ?_)
        | (refine wpList_loadCell (op := ⟨some 11, _, _, _, _, _⟩) rfl _ _ rfl w.heap.size 0 rfl _ _ ha _ Tryd.underlying3 rfl _ (ac_g0 _ _ _ _) ?_)
        | (refine wpList_loadCell (op := ⟨some 30, _, _, _, _, _⟩) rfl _ _ rfl w.heap.size 1 rfl _ _ ha _ Tryd.underlying3 rfl _ (ac_g1 _ _ _ _) ?_)))
    go_ret
    refine ⟨rfl, ?_⟩
    have hB2 : Below b w w2 := (hw1.mono (by omega)).trans hP.below
    have hl2 : b ≤ w2.heap.size := Nat.le_of_lt hP.wr.lt
    exact ⟨hB2.trans (hw3.mono hl2), ((Keeps.of_below hw1).trans hP.keeps).trans (Keeps.of_below hw3), hP.wr.below hw3⟩
  · skip
    have hd : decide (m < 0) = false := decide_eq_false h0
    obtain ⟨k, rfl⟩ : ∃ k : Nat, m = k := ⟨m.toNat, by omega⟩
    have hk64 := wrap_u64_nat k (by omega)
    have hd2 : decide ((k : Int) < 0) = false := by simp
    rw [Int.toNat_natCast] at HQ
    go_enter Tryd.func25, Tryd.ntmps25
    go_wp2_with (first
      | (go_at_call 13; refine (HF _).mono ?_; rintro e w' ⟨rfl, hw'⟩; have hw2' := hw'.symm; subst hw2'; clear hw')
      | (go_at_call 47; refine (HP _ (h.below hw1)).mono ?_; rintro e w2 ⟨rfl, hP⟩; replace ha := hP.keeps.out _ _ _ ha (by decide) (by decide))
      | (go_at_call 11; refine (HQ _).mono ?_; rintro e w3 ⟨rfl, hw3⟩)
      | (with_reducible refine at_list ?_; first
        | (refine wpList_boxRow (op := ⟨some 3, _, _, _, _, _⟩) rfl _ _ rfl _ rfl ?_; intro w1 hw1 hs1 ha; replace hs1 := hs1.symm)
        | (refine wpList_loadCell (op := ⟨some 8, _, _, _, _, _⟩) rfl _ _ rfl w.heap.size 3 rfl _ _ ha _ Tryd.underlying9 rfl _ (ac_g3 _ _ _ _) ?_)
        | (refine wpList_loadCell (op := ⟨some 11, _, _, _, _, _⟩) rfl _ _ rfl w.heap.size 0 rfl _ _ ha _ Tryd.underlying3 rfl _ (ac_g0 _ _ _ _) ?_)
        | (refine wpList_loadCell (op := ⟨some 30, _, _, _, _, _⟩) rfl _ _ rfl w.heap.size 1 rfl _ _ ha _ Tryd.underlying3 rfl _ (ac_g1 _ _ _ _) ?_)))
    go_ret
    refine ⟨rfl, ?_⟩
    have hB2 : Below b w w2 := (hw1.mono (by omega)).trans hP.below
    have hl2 : b ≤ w2.heap.size := Nat.le_of_lt hP.wr.lt
    exact ⟨hB2.trans (hw3.mono hl2), ((Keeps.of_below hw1).trans hP.keeps).trans (Keeps.of_below hw3), hP.wr.below hw3⟩
set_option maxRecDepth 100000 in
set_option maxHeartbeats 400000 in
theorem put_3 (b : Nat) (l : List UInt8) (n : Int) (y : Nat) (t s r : List UInt8) (w : World) (h : WR w b l)
    (HF : ∀ w, Calls Tryd.prog 13 #[.string ⟨t.toArray⟩] w fun e w' => e = .returned (.string ⟨s.toArray⟩) ∧ w' = w)
    (HP : ∀ w, WR w b l → Calls Tryd.prog 48 #[.pointer (some ⟨b, 0, none⟩), .string ⟨s.toArray⟩] w fun e w' => e = .returned (.tuple #[]) ∧ Puts w w' b l r)
    (HQ : ∀ w, Calls Tryd.prog 49 #[.string ⟨s.toArray⟩] w fun e w' => e = .returned (.string ⟨r.toArray⟩) ∧ Below w.heap.size w w') :
    Calls Tryd.prog 25 #[.pointer (some ⟨b, 0, none⟩), .agg (ac 3 n (y : Nat) t)] w fun e w' => e = .returned (.string ⟨r.toArray⟩) ∧ Puts w w' b l r := by
  have hbl := h.lt
  go_enter Tryd.func25, Tryd.ntmps25
  go_wp2_with (first
    | (go_at_call 13; refine (HF _).mono ?_; rintro e w' ⟨rfl, hw'⟩; have hw2' := hw'.symm; subst hw2'; clear hw')
    | (go_at_call 48; refine (HP _ (h.below hw1)).mono ?_; rintro e w2 ⟨rfl, hP⟩; replace ha := hP.keeps.out _ _ _ ha (by decide) (by decide))
    | (go_at_call 49; refine (HQ _).mono ?_; rintro e w3 ⟨rfl, hw3⟩)
    | (with_reducible refine at_list ?_; first
      | (refine wpList_boxRow (op := ⟨some 3, _, _, _, _, _⟩) rfl _ _ rfl _ rfl ?_; intro w1 hw1 hs1 ha; replace hs1 := hs1.symm)
      | (refine wpList_loadCell (op := ⟨some 8, _, _, _, _, _⟩) rfl _ _ rfl w.heap.size 3 rfl _ _ ha _ Tryd.underlying9 rfl _ (ac_g3 _ _ _ _) ?_)
      | (refine wpList_loadCell (op := ⟨some 11, _, _, _, _, _⟩) rfl _ _ rfl w.heap.size 0 rfl _ _ ha _ Tryd.underlying3 rfl _ (ac_g0 _ _ _ _) ?_)))
  go_ret
  refine ⟨rfl, ?_⟩
  have hB2 : Below b w w2 := (hw1.mono (by omega)).trans hP.below
  have hl2 : b ≤ w2.heap.size := Nat.le_of_lt hP.wr.lt
  exact ⟨hB2.trans (hw3.mono hl2), ((Keeps.of_below hw1).trans hP.keeps).trans (Keeps.of_below hw3), hP.wr.below hw3⟩
set_option maxRecDepth 100000 in
set_option maxHeartbeats 400000 in
theorem put_4 (b : Nat) (l : List UInt8) (n : Int) (y : Nat) (t s r : List UInt8) (w : World) (h : WR w b l)
    (HF : ∀ w, Calls Tryd.prog 13 #[.string ⟨t.toArray⟩] w fun e w' => e = .returned (.string ⟨s.toArray⟩) ∧ w' = w)
    (HP : ∀ w, WR w b l → Calls Tryd.prog 50 #[.pointer (some ⟨b, 0, none⟩), .string ⟨s.toArray⟩] w fun e w' => e = .returned (.tuple #[]) ∧ Puts w w' b l r)
    (HQ : ∀ w, Calls Tryd.prog 33 #[.string ⟨s.toArray⟩] w fun e w' => e = .returned (.string ⟨r.toArray⟩) ∧ Below w.heap.size w w') :
    Calls Tryd.prog 25 #[.pointer (some ⟨b, 0, none⟩), .agg (ac 4 n (y : Nat) t)] w fun e w' => e = .returned (.string ⟨r.toArray⟩) ∧ Puts w w' b l r := by
  have hbl := h.lt
  go_enter Tryd.func25, Tryd.ntmps25
  go_wp2_with (first
    | (go_at_call 13; refine (HF _).mono ?_; rintro e w' ⟨rfl, hw'⟩; have hw2' := hw'.symm; subst hw2'; clear hw')
    | (go_at_call 50; refine (HP _ (h.below hw1)).mono ?_; rintro e w2 ⟨rfl, hP⟩; replace ha := hP.keeps.out _ _ _ ha (by decide) (by decide))
    | (go_at_call 33; refine (HQ _).mono ?_; rintro e w3 ⟨rfl, hw3⟩)
    | (with_reducible refine at_list ?_; first
      | (refine wpList_boxRow (op := ⟨some 3, _, _, _, _, _⟩) rfl _ _ rfl _ rfl ?_; intro w1 hw1 hs1 ha; replace hs1 := hs1.symm)
      | (refine wpList_loadCell (op := ⟨some 8, _, _, _, _, _⟩) rfl _ _ rfl w.heap.size 3 rfl _ _ ha _ Tryd.underlying9 rfl _ (ac_g3 _ _ _ _) ?_)
      | (refine wpList_loadCell (op := ⟨some 11, _, _, _, _, _⟩) rfl _ _ rfl w.heap.size 0 rfl _ _ ha _ Tryd.underlying3 rfl _ (ac_g0 _ _ _ _) ?_)))
  go_ret
  refine ⟨rfl, ?_⟩
  have hB2 : Below b w w2 := (hw1.mono (by omega)).trans hP.below
  have hl2 : b ≤ w2.heap.size := Nat.le_of_lt hP.wr.lt
  exact ⟨hB2.trans (hw3.mono hl2), ((Keeps.of_below hw1).trans hP.keeps).trans (Keeps.of_below hw3), hP.wr.below hw3⟩
set_option maxRecDepth 100000 in
set_option maxHeartbeats 400000 in
theorem put_5 (b : Nat) (l : List UInt8) (n : Int) (y : Nat) (t s r : List UInt8) (kind : Int) (hkd : ¬ (0 ≤ kind ∧ kind ≤ 4)) (w : World) (h : WR w b l)
    (HF : ∀ w, Calls Tryd.prog 13 #[.string ⟨t.toArray⟩] w fun e w' => e = .returned (.string ⟨s.toArray⟩) ∧ w' = w)
    (HP : ∀ w, WR w b l → Calls Tryd.prog 51 #[.pointer (some ⟨b, 0, none⟩), .bool (decide (y % 2 = 1))] w fun e w' => e = .returned (.tuple #[]) ∧ Puts w w' b l r)
    (HQ : ∀ w, Calls Tryd.prog 11 #[.int .u64 (y % 2 : Nat), .int .i64 1] w fun e w' => e = .returned (.string ⟨r.toArray⟩) ∧ Below w.heap.size w w') :
    Calls Tryd.prog 25 #[.pointer (some ⟨b, 0, none⟩), .agg (ac kind n (y : Nat) t)] w fun e w' => e = .returned (.string ⟨r.toArray⟩) ∧ Puts w w' b l r := by
  have hbl := h.lt
  have hd0 : decide (kind = 0) = false := decide_eq_false (by omega)
  have hd1 : decide (kind = 1) = false := decide_eq_false (by omega)
  have hd2 : decide (kind = 2) = false := decide_eq_false (by omega)
  have hd3 : decide (kind = 3) = false := decide_eq_false (by omega)
  have hd4 : decide (kind = 4) = false := decide_eq_false (by omega)
  have ht1 : ((y : Nat) : Int).tmod 2 = ((y % 2 : Nat) : Int) := by rw [Int.tmod_eq_emod_of_nonneg (by omega)]; omega
  have ht2 : ((y : Nat) : Int) % 2 = ((y % 2 : Nat) : Int) := by omega
  have hz : y % 2 = 0 ∨ y % 2 = 1 := by omega
  generalize y % 2 = z at *
  rcases hz with rfl | rfl
  · skip
    go_enter Tryd.func25, Tryd.ntmps25
    go_wp2_with (first
      | (go_at_call 13; refine (HF _).mono ?_; rintro e w' ⟨rfl, hw'⟩; have hw2' := hw'.symm; subst hw2'; clear hw')
      | (go_at_call 51; refine (HP _ (h.below hw1)).mono ?_; rintro e w2 ⟨rfl, hP⟩; replace ha := hP.keeps.out _ _ _ ha (by decide) (by decide))
      | (go_at_call 11; refine (HQ _).mono ?_; rintro e w3 ⟨rfl, hw3⟩)
      | (with_reducible refine at_list ?_; first
        | (refine wpList_boxRow (op := ⟨some 3, _, _, _, _, _⟩) rfl _ _ rfl _ rfl ?_; intro w1 hw1 hs1 ha; replace hs1 := hs1.symm)
        | (refine wpList_loadCell (op := ⟨some 8, _, _, _, _, _⟩) rfl _ _ rfl w.heap.size 3 rfl _ _ ha _ Tryd.underlying9 rfl _ (ac_g3 _ _ _ _) ?_)
        | (refine wpList_loadCell (op := ⟨some 11, _, _, _, _, _⟩) rfl _ _ rfl w.heap.size 0 rfl _ _ ha _ Tryd.underlying3 rfl _ (ac_g0 _ _ _ _) ?_)
        | (refine wpList_loadCell (op := ⟨some 56, _, _, _, _, _⟩) rfl _ _ rfl w.heap.size 2 rfl _ _ ha _ Tryd.underlying22 rfl _ (ac_g2 _ _ _ _) ?_)
        | (refine wpList_loadCell (op := ⟨some 61, _, _, _, _, _⟩) rfl _ _ rfl w.heap.size 2 rfl _ _ ha _ Tryd.underlying22 rfl _ (ac_g2 _ _ _ _) ?_)))
    go_ret
    refine ⟨rfl, ?_⟩
    have hB2 : Below b w w2 := (hw1.mono (by omega)).trans hP.below
    have hl2 : b ≤ w2.heap.size := Nat.le_of_lt hP.wr.lt
    exact ⟨hB2.trans (hw3.mono hl2), ((Keeps.of_below hw1).trans hP.keeps).trans (Keeps.of_below hw3), hP.wr.below hw3⟩
  · skip
    go_enter Tryd.func25, Tryd.ntmps25
    go_wp2_with (first
      | (go_at_call 13; refine (HF _).mono ?_; rintro e w' ⟨rfl, hw'⟩; have hw2' := hw'.symm; subst hw2'; clear hw')
      | (go_at_call 51; refine (HP _ (h.below hw1)).mono ?_; rintro e w2 ⟨rfl, hP⟩; replace ha := hP.keeps.out _ _ _ ha (by decide) (by decide))
      | (go_at_call 11; refine (HQ _).mono ?_; rintro e w3 ⟨rfl, hw3⟩)
      | (with_reducible refine at_list ?_; first
        | (refine wpList_boxRow (op := ⟨some 3, _, _, _, _, _⟩) rfl _ _ rfl _ rfl ?_; intro w1 hw1 hs1 ha; replace hs1 := hs1.symm)
        | (refine wpList_loadCell (op := ⟨some 8, _, _, _, _, _⟩) rfl _ _ rfl w.heap.size 3 rfl _ _ ha _ Tryd.underlying9 rfl _ (ac_g3 _ _ _ _) ?_)
        | (refine wpList_loadCell (op := ⟨some 11, _, _, _, _, _⟩) rfl _ _ rfl w.heap.size 0 rfl _ _ ha _ Tryd.underlying3 rfl _ (ac_g0 _ _ _ _) ?_)
        | (refine wpList_loadCell (op := ⟨some 56, _, _, _, _, _⟩) rfl _ _ rfl w.heap.size 2 rfl _ _ ha _ Tryd.underlying22 rfl _ (ac_g2 _ _ _ _) ?_)
        | (refine wpList_loadCell (op := ⟨some 61, _, _, _, _, _⟩) rfl _ _ rfl w.heap.size 2 rfl _ _ ha _ Tryd.underlying22 rfl _ (ac_g2 _ _ _ _) ?_)))
    go_ret
    refine ⟨rfl, ?_⟩
    have hB2 : Below b w w2 := (hw1.mono (by omega)).trans hP.below
    have hl2 : b ≤ w2.heap.size := Nat.le_of_lt hP.wr.lt
    exact ⟨hB2.trans (hw3.mono hl2), ((Keeps.of_below hw1).trans hP.keeps).trans (Keeps.of_below hw3), hP.wr.below hw3⟩
set_option maxRecDepth 100000 in
set_option maxHeartbeats 400000 in
theorem put_0n (n : Int) (y : Nat) (t s : List UInt8) (w : World)
    (HF : ∀ w, Calls Tryd.prog 13 #[.string ⟨t.toArray⟩] w fun e w' => e = .returned (.string ⟨s.toArray⟩) ∧ w' = w)
    (HP : ∀ w, Calls Tryd.prog 45 #[.pointer none, .string ⟨s.toArray⟩] w fun e w' => e = .returned (.tuple #[]) ∧ Below w.heap.size w w')
     :
    Calls Tryd.prog 25 #[.pointer none, .agg (ac 0 n (y : Nat) t)] w fun e w' => e = .returned (.string ⟨s.toArray⟩) ∧ Below w.heap.size w w' := by
  go_enter Tryd.func25, Tryd.ntmps25
  go_wp2_with (first
    | (go_at_call 13; refine (HF _).mono ?_; rintro e w' ⟨rfl, hw'⟩; have hw2' := hw'.symm; subst hw2'; clear hw')
    | (go_at_call 45; refine (HP _).mono ?_; rintro e w2 ⟨rfl, hP⟩; replace ha := ha.belowSize hP)
    | (with_reducible refine at_list ?_; first
      | (refine wpList_boxRow (op := ⟨some 3, _, _, _, _, _⟩) rfl _ _ rfl _ rfl ?_; intro w1 hw1 hs1 ha; replace hs1 := hs1.symm)
      | (refine wpList_loadCell (op := ⟨some 8, _, _, _, _, _⟩) rfl _ _ rfl w.heap.size 3 rfl _ _ ha _ Tryd.underlying9 rfl _ (ac_g3 _ _ _ _) ?_)
      | (refine wpList_loadCell (op := ⟨some 11, _, _, _, _, _⟩) rfl _ _ rfl w.heap.size 0 rfl _ _ ha _ Tryd.underlying3 rfl _ (ac_g0 _ _ _ _) ?_)))
  go_ret
  refine ⟨rfl, ?_⟩
  have hB2 := hw1.trans (hP.mono hw1.size)
  exact hB2
set_option maxRecDepth 100000 in
set_option maxHeartbeats 400000 in
theorem put_1n (n : Int) (y : Nat) (t s r : List UInt8) (w : World)
    (HF : ∀ w, Calls Tryd.prog 13 #[.string ⟨t.toArray⟩] w fun e w' => e = .returned (.string ⟨s.toArray⟩) ∧ w' = w)
    (HP : ∀ w, Calls Tryd.prog 46 #[.pointer none, .int .u64 y, .int .i64 8] w fun e w' => e = .returned (.tuple #[]) ∧ Below w.heap.size w w')
    (HQ : ∀ w, Calls Tryd.prog 11 #[.int .u64 y, .int .i64 8] w fun e w' => e = .returned (.string ⟨r.toArray⟩) ∧ Below w.heap.size w w') :
    Calls Tryd.prog 25 #[.pointer none, .agg (ac 1 n (y : Nat) t)] w fun e w' => e = .returned (.string ⟨r.toArray⟩) ∧ Below w.heap.size w w' := by
  go_enter Tryd.func25, Tryd.ntmps25
  go_wp2_with (first
    | (go_at_call 13; refine (HF _).mono ?_; rintro e w' ⟨rfl, hw'⟩; have hw2' := hw'.symm; subst hw2'; clear hw')
    | (go_at_call 46; refine (HP _).mono ?_; rintro e w2 ⟨rfl, hP⟩; replace ha := ha.belowSize hP)
    | (go_at_call 11; refine (HQ _).mono ?_; rintro e w3 ⟨rfl, hw3⟩)
    | (with_reducible refine at_list ?_; first
      | (refine wpList_boxRow (op := ⟨some 3, _, _, _, _, _⟩) rfl _ _ rfl _ rfl ?_; intro w1 hw1 hs1 ha; replace hs1 := hs1.symm)
      | (refine wpList_loadCell (op := ⟨some 8, _, _, _, _, _⟩) rfl _ _ rfl w.heap.size 3 rfl _ _ ha _ Tryd.underlying9 rfl _ (ac_g3 _ _ _ _) ?_)
      | (refine wpList_loadCell (op := ⟨some 11, _, _, _, _, _⟩) rfl _ _ rfl w.heap.size 0 rfl _ _ ha _ Tryd.underlying3 rfl _ (ac_g0 _ _ _ _) ?_)
      | (refine wpList_loadCell (op := ⟨some 22, _, _, _, _, _⟩) rfl _ _ rfl w.heap.size 2 rfl _ _ ha _ Tryd.underlying22 rfl _ (ac_g2 _ _ _ _) ?_)
      | (refine wpList_loadCell (op := ⟨some 25, _, _, _, _, _⟩) rfl _ _ rfl w.heap.size 2 rfl _ _ ha _ Tryd.underlying22 rfl _ (ac_g2 _ _ _ _) ?_)))
  go_ret
  refine ⟨rfl, ?_⟩
  have hB2 := hw1.trans (hP.mono hw1.size)
  exact hB2.trans (hw3.mono hB2.size)
set_option maxRecDepth 100000 in
set_option maxHeartbeats 400000 in
theorem put_2n (n : Int) (y : Nat) (t s r : List UInt8) (m : Int) (hm : n.tmod 65536 = m) (hm1 : -65536 ≤ m) (hm2 : m ≤ 65535) (w : World)
    (HF : ∀ w, Calls Tryd.prog 13 #[.string ⟨t.toArray⟩] w fun e w' => e = .returned (.string ⟨s.toArray⟩) ∧ w' = w)
    (HP : ∀ w, Calls Tryd.prog 47 #[.pointer none, .int .i64 m] w fun e w' => e = .returned (.tuple #[]) ∧ Below w.heap.size w w')
    (HQ : ∀ w, Calls Tryd.prog 11 #[.int .u64 m.toNat, .int .i64 4] w fun e w' => e = .returned (.string ⟨r.toArray⟩) ∧ Below w.heap.size w w') :
    Calls Tryd.prog 25 #[.pointer none, .agg (ac 2 n (y : Nat) t)] w fun e w' => e = .returned (.string ⟨r.toArray⟩) ∧ Below w.heap.size w w' := by
  have hwr : IntKind.i64.wrap (n.tmod 65536) = m := by rw [hm, IntKind.wrap_i64]; omega
  have hwm : IntKind.i64.wrap m = m := by rw [IntKind.wrap_i64]; omega
  by_cases h0 : m < 0
  · skip
    have hd : decide (m < 0) = true := decide_eq_true h0
    rw [show m.toNat = 0 from by omega] at HQ
    go_enter Tryd.func25, Tryd.ntmps25
    go_wp2_with (first
      | (go_at_call 13; refine (HF _).mono ?_; rintro e w' ⟨rfl, hw'⟩; have hw2' := hw'.symm; subst hw2'; clear hw')
      | (go_at_call 47; refine (HP _).mono ?_; rintro e w2 ⟨rfl, hP⟩; replace ha := ha.belowSize hP)
      | (go_at_call 11; refine (HQ _).mono ?_; rintro e w3 ⟨rfl, hw3⟩)
      | (with_reducible refine at_list ?_; first
        | (refine wpList_boxRow (op := ⟨some 3, _, _, _, _, _⟩) rfl _ _ rfl _ rfl ?_; intro w1 hw1 hs1 ha; replace hs1 := hs1.symm)
        | (refine wpList_loadCell (op := ⟨some 8, _, _, _, _, _⟩) rfl _ _ rfl w.heap.size 3 rfl _ _ ha _ Tryd.underlying9 rfl _ (ac_g3 _ _ _ _) ?_)
        | (refine wpList_loadCell (op := ⟨some 11, _, _, _, _, _⟩) rfl _ _ rfl w.heap.size 0 rfl _ _ ha _ Tryd.underlying3 rfl _ (ac_g0 _ _ _ _) ?_)
        | (refine wpList_loadCell (op := ⟨some 30, _, _, _, _, _⟩) rfl _ _ rfl w.heap.size 1 rfl _ _ ha _ Tryd.underlying3 rfl _ (ac_g1 _ _ _ _) ?_)))
    go_ret
    refine ⟨rfl, ?_⟩
    have hB2 := hw1.trans (hP.mono hw1.size)
    exact hB2.trans (hw3.mono hB2.size)
  · skip
    have hd : decide (m < 0) = false := decide_eq_false h0
    obtain ⟨k, rfl⟩ : ∃ k : Nat, m = k := ⟨m.toNat, by omega⟩
    have hk64 := wrap_u64_nat k (by omega)
    have hd2 : decide ((k : Int) < 0) = false := by simp
    rw [Int.toNat_natCast] at HQ
    go_enter Tryd.func25, Tryd.ntmps25
    go_wp2_with (first
      | (go_at_call 13; refine (HF _).mono ?_; rintro e w' ⟨rfl, hw'⟩; have hw2' := hw'.symm; subst hw2'; clear hw')
      | (go_at_call 47; refine (HP _).mono ?_; rintro e w2 ⟨rfl, hP⟩; replace ha := ha.belowSize hP)
      | (go_at_call 11; refine (HQ _).mono ?_; rintro e w3 ⟨rfl, hw3⟩)
      | (with_reducible refine at_list ?_; first
        | (refine wpList_boxRow (op := ⟨some 3, _, _, _, _, _⟩) rfl _ _ rfl _ rfl ?_; intro w1 hw1 hs1 ha; replace hs1 := hs1.symm)
        | (refine wpList_loadCell (op := ⟨some 8, _, _, _, _, _⟩) rfl _ _ rfl w.heap.size 3 rfl _ _ ha _ Tryd.underlying9 rfl _ (ac_g3 _ _ _ _) ?_)
        | (refine wpList_loadCell (op := ⟨some 11, _, _, _, _, _⟩) rfl _ _ rfl w.heap.size 0 rfl _ _ ha _ Tryd.underlying3 rfl _ (ac_g0 _ _ _ _) ?_)
        | (refine wpList_loadCell (op := ⟨some 30, _, _, _, _, _⟩) rfl _ _ rfl w.heap.size 1 rfl _ _ ha _ Tryd.underlying3 rfl _ (ac_g1 _ _ _ _) ?_)))
    go_ret
    refine ⟨rfl, ?_⟩
    have hB2 := hw1.trans (hP.mono hw1.size)
    exact hB2.trans (hw3.mono hB2.size)
set_option maxRecDepth 100000 in
set_option maxHeartbeats 400000 in
theorem put_3n (n : Int) (y : Nat) (t s r : List UInt8) (w : World)
    (HF : ∀ w, Calls Tryd.prog 13 #[.string ⟨t.toArray⟩] w fun e w' => e = .returned (.string ⟨s.toArray⟩) ∧ w' = w)
    (HP : ∀ w, Calls Tryd.prog 48 #[.pointer none, .string ⟨s.toArray⟩] w fun e w' => e = .returned (.tuple #[]) ∧ Below w.heap.size w w')
    (HQ : ∀ w, Calls Tryd.prog 49 #[.string ⟨s.toArray⟩] w fun e w' => e = .returned (.string ⟨r.toArray⟩) ∧ Below w.heap.size w w') :
    Calls Tryd.prog 25 #[.pointer none, .agg (ac 3 n (y : Nat) t)] w fun e w' => e = .returned (.string ⟨r.toArray⟩) ∧ Below w.heap.size w w' := by
  go_enter Tryd.func25, Tryd.ntmps25
  go_wp2_with (first
    | (go_at_call 13; refine (HF _).mono ?_; rintro e w' ⟨rfl, hw'⟩; have hw2' := hw'.symm; subst hw2'; clear hw')
    | (go_at_call 48; refine (HP _).mono ?_; rintro e w2 ⟨rfl, hP⟩; replace ha := ha.belowSize hP)
    | (go_at_call 49; refine (HQ _).mono ?_; rintro e w3 ⟨rfl, hw3⟩)
    | (with_reducible refine at_list ?_; first
      | (refine wpList_boxRow (op := ⟨some 3, _, _, _, _, _⟩) rfl _ _ rfl _ rfl ?_; intro w1 hw1 hs1 ha; replace hs1 := hs1.symm)
      | (refine wpList_loadCell (op := ⟨some 8, _, _, _, _, _⟩) rfl _ _ rfl w.heap.size 3 rfl _ _ ha _ Tryd.underlying9 rfl _ (ac_g3 _ _ _ _) ?_)
      | (refine wpList_loadCell (op := ⟨some 11, _, _, _, _, _⟩) rfl _ _ rfl w.heap.size 0 rfl _ _ ha _ Tryd.underlying3 rfl _ (ac_g0 _ _ _ _) ?_)))
  go_ret
  refine ⟨rfl, ?_⟩
  have hB2 := hw1.trans (hP.mono hw1.size)
  exact hB2.trans (hw3.mono hB2.size)
set_option maxRecDepth 100000 in
set_option maxHeartbeats 400000 in
theorem put_4n (n : Int) (y : Nat) (t s r : List UInt8) (w : World)
    (HF : ∀ w, Calls Tryd.prog 13 #[.string ⟨t.toArray⟩] w fun e w' => e = .returned (.string ⟨s.toArray⟩) ∧ w' = w)
    (HP : ∀ w, Calls Tryd.prog 50 #[.pointer none, .string ⟨s.toArray⟩] w fun e w' => e = .returned (.tuple #[]) ∧ Below w.heap.size w w')
    (HQ : ∀ w, Calls Tryd.prog 33 #[.string ⟨s.toArray⟩] w fun e w' => e = .returned (.string ⟨r.toArray⟩) ∧ Below w.heap.size w w') :
    Calls Tryd.prog 25 #[.pointer none, .agg (ac 4 n (y : Nat) t)] w fun e w' => e = .returned (.string ⟨r.toArray⟩) ∧ Below w.heap.size w w' := by
  go_enter Tryd.func25, Tryd.ntmps25
  go_wp2_with (first
    | (go_at_call 13; refine (HF _).mono ?_; rintro e w' ⟨rfl, hw'⟩; have hw2' := hw'.symm; subst hw2'; clear hw')
    | (go_at_call 50; refine (HP _).mono ?_; rintro e w2 ⟨rfl, hP⟩; replace ha := ha.belowSize hP)
    | (go_at_call 33; refine (HQ _).mono ?_; rintro e w3 ⟨rfl, hw3⟩)
    | (with_reducible refine at_list ?_; first
      | (refine wpList_boxRow (op := ⟨some 3, _, _, _, _, _⟩) rfl _ _ rfl _ rfl ?_; intro w1 hw1 hs1 ha; replace hs1 := hs1.symm)
      | (refine wpList_loadCell (op := ⟨some 8, _, _, _, _, _⟩) rfl _ _ rfl w.heap.size 3 rfl _ _ ha _ Tryd.underlying9 rfl _ (ac_g3 _ _ _ _) ?_)
      | (refine wpList_loadCell (op := ⟨some 11, _, _, _, _, _⟩) rfl _ _ rfl w.heap.size 0 rfl _ _ ha _ Tryd.underlying3 rfl _ (ac_g0 _ _ _ _) ?_)))
  go_ret
  refine ⟨rfl, ?_⟩
  have hB2 := hw1.trans (hP.mono hw1.size)
  exact hB2.trans (hw3.mono hB2.size)
set_option maxRecDepth 100000 in
set_option maxHeartbeats 400000 in
theorem put_5n (n : Int) (y : Nat) (t s r : List UInt8) (kind : Int) (hkd : ¬ (0 ≤ kind ∧ kind ≤ 4)) (w : World)
    (HF : ∀ w, Calls Tryd.prog 13 #[.string ⟨t.toArray⟩] w fun e w' => e = .returned (.string ⟨s.toArray⟩) ∧ w' = w)
    (HP : ∀ w, Calls Tryd.prog 51 #[.pointer none, .bool (decide (y % 2 = 1))] w fun e w' => e = .returned (.tuple #[]) ∧ Below w.heap.size w w')
    (HQ : ∀ w, Calls Tryd.prog 11 #[.int .u64 (y % 2 : Nat), .int .i64 1] w fun e w' => e = .returned (.string ⟨r.toArray⟩) ∧ Below w.heap.size w w') :
    Calls Tryd.prog 25 #[.pointer none, .agg (ac kind n (y : Nat) t)] w fun e w' => e = .returned (.string ⟨r.toArray⟩) ∧ Below w.heap.size w w' := by
  have hd0 : decide (kind = 0) = false := decide_eq_false (by omega)
  have hd1 : decide (kind = 1) = false := decide_eq_false (by omega)
  have hd2 : decide (kind = 2) = false := decide_eq_false (by omega)
  have hd3 : decide (kind = 3) = false := decide_eq_false (by omega)
  have hd4 : decide (kind = 4) = false := decide_eq_false (by omega)
  have ht1 : ((y : Nat) : Int).tmod 2 = ((y % 2 : Nat) : Int) := by rw [Int.tmod_eq_emod_of_nonneg (by omega)]; omega
  have ht2 : ((y : Nat) : Int) % 2 = ((y % 2 : Nat) : Int) := by omega
  have hz : y % 2 = 0 ∨ y % 2 = 1 := by omega
  generalize y % 2 = z at *
  rcases hz with rfl | rfl
  · skip
    go_enter Tryd.func25, Tryd.ntmps25
    go_wp2_with (first
      | (go_at_call 13; refine (HF _).mono ?_; rintro e w' ⟨rfl, hw'⟩; have hw2' := hw'.symm; subst hw2'; clear hw')
      | (go_at_call 51; refine (HP _).mono ?_; rintro e w2 ⟨rfl, hP⟩; replace ha := ha.belowSize hP)
      | (go_at_call 11; refine (HQ _).mono ?_; rintro e w3 ⟨rfl, hw3⟩)
      | (with_reducible refine at_list ?_; first
        | (refine wpList_boxRow (op := ⟨some 3, _, _, _, _, _⟩) rfl _ _ rfl _ rfl ?_; intro w1 hw1 hs1 ha; replace hs1 := hs1.symm)
        | (refine wpList_loadCell (op := ⟨some 8, _, _, _, _, _⟩) rfl _ _ rfl w.heap.size 3 rfl _ _ ha _ Tryd.underlying9 rfl _ (ac_g3 _ _ _ _) ?_)
        | (refine wpList_loadCell (op := ⟨some 11, _, _, _, _, _⟩) rfl _ _ rfl w.heap.size 0 rfl _ _ ha _ Tryd.underlying3 rfl _ (ac_g0 _ _ _ _) ?_)
        | (refine wpList_loadCell (op := ⟨some 56, _, _, _, _, _⟩) rfl _ _ rfl w.heap.size 2 rfl _ _ ha _ Tryd.underlying22 rfl _ (ac_g2 _ _ _ _) ?_)
        | (refine wpList_loadCell (op := ⟨some 61, _, _, _, _, _⟩) rfl _ _ rfl w.heap.size 2 rfl _ _ ha _ Tryd.underlying22 rfl _ (ac_g2 _ _ _ _) ?_)))
    go_ret
    refine ⟨rfl, ?_⟩
    have hB2 := hw1.trans (hP.mono hw1.size)
    exact hB2.trans (hw3.mono hB2.size)
  · skip
    go_enter Tryd.func25, Tryd.ntmps25
    go_wp2_with (first
      | (go_at_call 13; refine (HF _).mono ?_; rintro e w' ⟨rfl, hw'⟩; have hw2' := hw'.symm; subst hw2'; clear hw')
      | (go_at_call 51; refine (HP _).mono ?_; rintro e w2 ⟨rfl, hP⟩; replace ha := ha.belowSize hP)
      | (go_at_call 11; refine (HQ _).mono ?_; rintro e w3 ⟨rfl, hw3⟩)
      | (with_reducible refine at_list ?_; first
        | (refine wpList_boxRow (op := ⟨some 3, _, _, _, _, _⟩) rfl _ _ rfl _ rfl ?_; intro w1 hw1 hs1 ha; replace hs1 := hs1.symm)
        | (refine wpList_loadCell (op := ⟨some 8, _, _, _, _, _⟩) rfl _ _ rfl w.heap.size 3 rfl _ _ ha _ Tryd.underlying9 rfl _ (ac_g3 _ _ _ _) ?_)
        | (refine wpList_loadCell (op := ⟨some 11, _, _, _, _, _⟩) rfl _ _ rfl w.heap.size 0 rfl _ _ ha _ Tryd.underlying3 rfl _ (ac_g0 _ _ _ _) ?_)
        | (refine wpList_loadCell (op := ⟨some 56, _, _, _, _, _⟩) rfl _ _ rfl w.heap.size 2 rfl _ _ ha _ Tryd.underlying22 rfl _ (ac_g2 _ _ _ _) ?_)
        | (refine wpList_loadCell (op := ⟨some 61, _, _, _, _, _⟩) rfl _ _ rfl w.heap.size 2 rfl _ _ ha _ Tryd.underlying22 rfl _ (ac_g2 _ _ _ _) ?_)))
    go_ret
    refine ⟨rfl, ?_⟩
    have hB2 := hw1.trans (hP.mono hw1.size)
    exact hB2.trans (hw3.mono hB2.size)
end Go.Proofs.YtaccklbijihppaaDoor
