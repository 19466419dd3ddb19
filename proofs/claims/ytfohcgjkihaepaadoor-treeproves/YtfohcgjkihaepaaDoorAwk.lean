/- awake tells true. -/
import Derived.Test.YtfohcgjkihaepaaDoorExt
namespace Go.Proofs.YtfohcgjkihaepaaDoor.Sh
open Go Go.RowKit
set_option maxRecDepth 100000 in
theorem digest_0ab : digest [0, 98] ≠ digest [0, 97] := by decide +kernel
theorem XA.ofBlk {w : World} {g : Nat} {x : List UInt8} (h : Blk w g #[.string ⟨x.toArray⟩] 9) : XA w (some ⟨g, 0, none⟩) [x] := (SS.one (x := x) h).xa
theorem goodP_one : goodP 1 0 [] := ⟨by decide, by decide, by rw [sides_one (by decide)]; rfl, fun x hx => by cases hx⟩
theorem topD_one (s : List UInt8) : topD digest 1 0 s [] = digest (0 :: s) := rfl
theorem VL.nilform {w : World} {t : TypeId} {lo : Nat} {sl : Value} (h : VL w t lo sl []) : ∃ a c, sl = .slice a 0 c := h.form
set_option maxRecDepth 100000 in
set_option maxHeartbeats 1000000 in
theorem awake_any (w : World) (hG : Glob w) : Calls Tryd.prog 11 #[] w fun e w' => e = .returned (.bool true) ∧ Below w.heap.size w w' := by
  have HT1 : ∀ w1 : World, (Instr.buildSlice 22 1 #[(0, .string ⟨#[97]⟩)]).run Tryd.prog w1 = .ok (.slice (some ⟨w1.heap.size, 0, none⟩) 1 1) (w1.alloc (.cells #[.string ⟨#[97]⟩] 9)) := fun w1 => tsl1 [97] w1
  have hAl : ∀ w1 : World, Below w.heap.size w w1 → Below w.heap.size w (w1.alloc (.cells #[.string ⟨#[97]⟩] 9)) := fun w1 h => h.trans (((Below.refl _ _).alloc (Nat.le_refl _) _).mono h.size)
  have hXa : ∀ w1 : World, XA (w1.alloc (.cells #[.string ⟨#[97]⟩] 9)) (some ⟨w1.heap.size, 0, none⟩) [[97]] := fun w1 => XA.ofBlk (x := [97]) (Blk.new w1 _ _)
  have hall : ∀ x ∈ [([97] : List UInt8)], x.length ≤ 1000 := fun x hx => by rw [List.mem_singleton.1 hx]; decide
  have HP : ∀ (w1 : World) (g : Nat), Below w.heap.size w w1 → XA w1 (some ⟨g, 0, none⟩) [[97]] → Calls Tryd.prog 10 #[.slice (some ⟨g, 0, none⟩) 1 1, .int .i64 0] w1 fun e w' => ∃ a c, e = .returned (.tuple #[.slice a 0 c, .int .i64 0]) ∧ Below w1.heap.size w1 w' := fun w1 g h hX => by
    refine (prove_any [[97]] (some ⟨g, 0, none⟩) 1 0 w1 hX (by simp) (by simp) hall (hG.belowSize h) (by simp)).mono ?_
    rintro e w' ⟨sl, rfl, hV, hb⟩
    rw [pathD_short digest (by simp)] at hV
    obtain ⟨a, c, rfl⟩ := VL.nilform hV
    exact ⟨a, c, rfl, hb⟩
  have HR : ∀ (w1 : World) (g : Nat), Below w.heap.size w w1 → XA w1 (some ⟨g, 0, none⟩) [[97]] → Calls Tryd.prog 9 #[.slice (some ⟨g, 0, none⟩) 1 1] w1 fun e w' => e = .returned (.string ⟨(digest [0, 97]).toArray⟩) ∧ Below w1.heap.size w1 w' := fun w1 g h hX => by
    have hr := troot_of 1 [[97]] (some ⟨g, 0, none⟩) 1 w1 rfl hX (by simp) (by simp) hall (hG.belowSize h)
    rw [rootD_one] at hr
    exact hr
  have HV1 : ∀ (w1 : World) (a : Option Addr) (c : Nat), Below w.heap.size w w1 → Calls Tryd.prog 13 #[.string ⟨(digest [0, 97]).toArray⟩, .string ⟨#[97]⟩, .int .i64 0, .int .i64 1, .slice a 0 c] w1 fun e w' => e = .returned (.bool true) ∧ Below w1.heap.size w1 w' := fun w1 a c h =>
    verify_any (digest [0, 97]) [97] 0 1 [] a c w1 (by decide) (by decide) (XA.nil _ _) (hG.belowSize h) true ⟨fun _ => ⟨goodP_one, topD_one [97]⟩, fun _ => rfl⟩
  have HV2 : ∀ (w1 : World) (a : Option Addr) (c : Nat), Below w.heap.size w w1 → Calls Tryd.prog 13 #[.string ⟨(digest [0, 97]).toArray⟩, .string ⟨#[98]⟩, .int .i64 0, .int .i64 1, .slice a 0 c] w1 fun e w' => e = .returned (.bool false) ∧ Below w1.heap.size w1 w' := fun w1 a c h =>
    verify_any (digest [0, 97]) [98] 0 1 [] a c w1 (by decide) (by decide) (XA.nil _ _) (hG.belowSize h) false ⟨fun h => Bool.noConfusion h, fun h => absurd h.2 digest_0ab⟩
  generalize digest [0, 97] = d at *
  have f1 : True := trivial
  have f2 : True := trivial
  have B0 : Below w.heap.size w w := Below.refl _ _
  go_enter Tryd.func11, Tryd.ntmps11
  go_wp2_with (first
    | (go_at_call 10; refine (HP _ _ (hAl _ B0) (hXa _)).mono ?_; rintro e w1 ⟨a, c, rfl, hw1⟩; have B1 := (hAl _ B0).trans (hw1.mono (hAl _ B0).size))
    | (go_at_call 9; clear f1; refine (HR _ _ (hAl _ B1) (hXa _)).mono ?_; rintro e w2 ⟨rfl, hw2⟩; have B2 := (hAl _ B1).trans (hw2.mono (hAl _ B1).size))
    | (go_at_call 13; clear f2; refine (HV1 _ _ _ B2).mono ?_; rintro e w3 ⟨rfl, hw3⟩; have B3 := B2.trans (hw3.mono B2.size))
    | (go_at_call 9; refine (HR _ _ (hAl _ B3) (hXa _)).mono ?_; rintro e w4 ⟨rfl, hw4⟩; have B4 := (hAl _ B3).trans (hw4.mono (hAl _ B3).size))
    | (go_at_call 13; refine (HV2 _ _ _ B4).mono ?_; rintro e w5 ⟨rfl, hw5⟩; have B5 := B4.trans (hw5.mono B4.size)))
  go_ret
  exact ⟨rfl, B5⟩
end Go.Proofs.YtfohcgjkihaepaaDoor.Sh
