/- What awake does. -/
import Derived.Test.YtdikilhobmkpkaaGreatDoorEql
namespace Go.Proofs.YtdikilhobmkpkaaGreatDoor
open Go Go.RowKit Go.Maps
def o1 : O := ⟨1, [97], [49]⟩
def t1 : TX := ⟨1, 1, [o1]⟩
theorem t1_ok : okTx t1 = true := by decide
theorem t1_run : runM [] t1.ops = some [([107, 97], [49])] := by decide
theorem t1_end (lb : List UInt8) : putM (nOf 1) lb [([107, 97], [49])] = [([107, 97], [49]), (nOf 1, lb)] := by
  have h1 : delM (nOf 1) [([107, 97], [49])] = [([107, 97], [49])] := by decide
  have h2 : bytesBefore (nOf 1) [107, 97] = false := by decide
  unfold putM
  rw [h1]
  unfold insM
  simp only [h2]
  rfl
theorem t1_e : apE [] t1 = 0 := apE_ok t1_ok rfl t1_run (by
  have e : endM t1 [([107, 97], [49])] = putM (nOf 1) (lastB 1 (idB t1)) [([107, 97], [49])] := rfl
  rw [e, t1_end]
  decide)
theorem t1_m : apM [] t1 = [([107, 97], [49]), (nOf 1, lastB 1 (idB t1))] := by
  rw [apM_ok t1_e t1_run]
  exact t1_end _
theorem t1_l : apL [] t1 = 2 := by
  rw [apL_ok t1_e]
  have e : txs t1.client t1.ops = [nOf 1, [107, 97]] := by decide
  have hp : [nOf 1, [107, 97]].Perm [[107, 97], nOf 1] := List.Perm.swap _ _ _
  have hs : ([[107, 97], nOf 1] : List (List UInt8)).mergeSort (fun x y => decide (x ≤ y)) = [[107, 97], nOf 1] := by
    apply List.mergeSort_of_pairwise
    decide
  rw [e, show ([nOf 1, [107, 97]] : List (List UInt8)).mergeSort (fun x y => decide (x ≤ y)) = _ from mergeSort_of_perm hp, hs]
  decide
theorem t1_v : valM (apM [] t1) (kOf [97]) = [49] := by rw [t1_m]; rfl
theorem t1_h : hasM (apM [] t1) (kOf [97]) = true := by rw [t1_m]; rfl
set_option maxRecDepth 100000 in
set_option maxHeartbeats 400000 in
theorem awake_any (w : World) (hG : Sh.Glob w) : Calls Tryz.prog 6 #[] w fun e w' => e = .returned (.bool true) ∧ Below w.heap.size w w' := by
  have HN := new_any w
  have HA := fun a cap b w1 (hS : ST w1 b []) (hL : SL w1 a t1.ops) (hG : Sh.Glob w1) => apply_any t1 a cap b [] w1 hS hL hG (by simp) (by decide) (by decide) (by decide)
  have HP : ∀ b (w1 : World) e w2, ApP [] t1 b w1 e w2 → ∃ sl cp, e = .returned (.tuple #[.slice sl 2 cp, .int .i64 0]) ∧ ST w2 b (apM [] t1) ∧ w1.grownBy w2 (some b) := fun b w1 e w2 h => by
    obtain ⟨⟨sl, cp, he⟩, h2, h3⟩ := h
    rw [t1_l, t1_e] at he
    exact ⟨sl, cp, he, h2, h3⟩
  have HGt := fun b w1 (h : ST w1 b (apM [] t1)) => get_st b _ [97] w1 h (by simp)
  rw [t1_v, t1_h] at HGt
  generalize apM [] t1 = am at *
  have HA1 : ∀ w1 b, ST w1 b [] → Sh.Glob w1 → Calls Tryz.prog 7 #[.pointer (some ⟨b, 0, none⟩), .agg #[.int .u64 1, .int .u64 1, .slice (some ⟨w1.heap.size, 0, none⟩) 1 1]] (w1.alloc (.cells #[.int .i64 1, .string ⟨#[97]⟩, .string ⟨#[49]⟩] 59)) (fun e w2 => ∃ sl cp, e = .returned (.tuple #[.slice sl 2 cp, .int .i64 0]) ∧ ST w2 b am ∧ w1.grownBy w2 (some b)) := fun w1 b hS hG => by
    have hb1 := Blk.new w1 (opc o1) 59
    have hB : Below w1.heap.size w1 (w1.alloc (.cells (opc o1) 59)) := (Below.refl _ _).alloc (Nat.le_refl _) _
    have hSL : SL (w1.alloc (.cells (opc o1) 59)) (some ⟨w1.heap.size, 0, none⟩) t1.ops := fun i hi => by
      have h0 : i = 0 := by simp [t1] at hi; omega
      subst h0
      exact ⟨w1.heap.size, 0, rfl, fun j v hv => by rw [Nat.zero_mul, Nat.add_zero, Nat.zero_add, hb1.cell]; have hv2 : (opc o1).toList[j]? = some v := hv; simpa using hv2⟩
    refine (HA _ 1 b _ (hS.below hB) hSL (hG.belowSize hB)).mono ?_
    intro e w2 h
    obtain ⟨sl, cp, h1, h2, h3⟩ := HP _ _ _ _ h
    exact ⟨sl, cp, h1, h2, grown_trans (grown_of_below hB) h3⟩
  clear HA HP
  have h2 := hG.two
  go_enter Tryz.func6, Tryz.ntmps6
  go_wp2_with (first
    | (go_at_call 5; refine HN.mono ?_; rintro e w1 ⟨rfl, hw1, hS1, hs1⟩; clear hs1)
    | (go_at_call 7; refine (HA1 _ _ hS1 (hG.belowSize hw1)).mono ?_; rintro e w2 ⟨sl, cp, rfl, hS2, hg2⟩; have hB2 := hw1.trans (below_of_grown hg2 (Nat.le_succ _) hw1.size))
    | (go_at_call 13; refine (HGt _ _ hS2).mono ?_; rintro e w3 ⟨rfl, hw3⟩))
  go_ret
  exact ⟨rfl, hB2.trans (hw3.mono hB2.size)⟩
end Go.Proofs.YtdikilhobmkpkaaGreatDoor
