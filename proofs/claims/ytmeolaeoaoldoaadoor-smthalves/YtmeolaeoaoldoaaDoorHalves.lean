/- Proved: for every two keys and every value, SmtHalves returns true: the root of a tree with one key is its leaf, and that of one with two keys is made of both leaves, joined at the first bit in which their paths differ, with nothing beside the way there (of texts cut to sixty bytes); the two tables of the program start as its text lays them. -/
import Derived.Test.YtmeolaeoaoldoaaDoorShw
import Derived.Test.YtmeolaeoaoldoaaDoorArg
import Derived.Test.YtmeolaeoaoldoaaDoorTie
import Derived.Test.YtmeolaeoaoldoaaDoorCards
import Derived.SevenTiedAt
import Derived.SizedLaws
import Derived.ChangeMaps5
namespace Go.Proofs.YtmeolaeoaoldoaaDoor
open Go Go.ChangeShapes Go.WideShapes Go.ChangeAt Go.WideMaps Go.WideElems Go.RowKit
open Go.ChangeMaps (open_string shut_string)
set_option maxRecDepth 100000 in
theorem smtHalves_lifted (os : Os) (started : os.Started) (H : Type) (enc : TypeId × Value → H) :
    ReturnsInHanded {} Tryd.checked os 7 .any (fun w args => (Rows.smtHalvesSpec.pre enc Tryd.prog Tryd.f7 [] false w args ∧ laidMetH Tryd.prog Rows.smtRootsRow.laid w) ∧ sizedMet enc Tryd.prog Tryd.f7 (OpenSpec.ofChange Rows.smtHalvesSpec) false w args)
      (Rows.smtHalvesSpec.post enc Tryd.prog Tryd.f7 false true false false) := by
  refine returnsInHanded_of_change_and (C := Tryd.checked) (X := fun w _ => laidMetH Tryd.prog Rows.smtRootsRow.laid w) (fun _ _ _ hh h => h.of_heap hh) Sh.ownK started (by kernel_rfl) Tryd.func7
    (ChangeSpec.witness_shaped (enc := enc) (C := Tryd.checked) (os := os) (X := fun w _ => laidMetH Tryd.prog Rows.smtRootsRow.laid w) false (World.doorLaid Tryd.prog 400 os) #[.string ⟨#[]⟩, .string ⟨#[]⟩, .string ⟨#[]⟩] 8 rfl (World.shaped_of_RefB (by kernel_rfl) (by kernel_rfl)) (by kernel_rfl) (by kernel_rfl) (by kernel_rfl) (Sh.door_met os _)) ?_
  intro W base args ds gs before hval0 hW _ hsz0 hL _
  have hsz : (DataW.weightsEach Tryd.prog (Tryd.f7.params.toList ++ Rows.smtHalvesSpec.plain.varTypes Tryd.prog) (ds ++ gs)).all (· ≤ reachBytes) = true := hsz0
  clear hsz0
  have hval : ∀ (j : Nat) t v, Tryd.f7.params[j]? = some t → args[j]? = some v → Value.okWide Tryd.prog W .any base t v := hval0
  have hW' := hW
  obtain ⟨p, q, hA0, hV, rfl, hfz, hnd⟩ := hW
  have hA : DataW.TrodAll enc Tryd.prog W 0 (fun _ => true) true Tryd.f7.params.toList args.toList ds p := hA0
  rw [Tryd.params7] at hA hval hsz
  obtain ⟨v0, v1, v2, d0, d1, d2, p0, p1, p2, rfl, rfl, rfl, h0, h1, h2⟩ := trodAll_three hA
  obtain ⟨rfl, rfl⟩ := trodVars_none hV
  clear hA0 hval0
  obtain ⟨k0, rfl, rfl, rfl, hk0⟩ := open_string Tryd.underlying9 (hval 0 9 v0 rfl rfl) h0
  have s0 : k0.data.toList.length ≤ 9223372036854775807 := by
    have h1 := sized_string hsz (j := 0) (t := 9) (bytes := k0.data.toList) rfl rfl
    exact Nat.le_trans h1 (by decide)
  obtain ⟨k1, rfl, rfl, rfl, hk1⟩ := open_string Tryd.underlying9 (hval 1 9 v1 rfl rfl) h1
  have s1 : k1.data.toList.length ≤ 9223372036854775807 := by
    have h1 := sized_string hsz (j := 1) (t := 9) (bytes := k1.data.toList) rfl rfl
    exact Nat.le_trans h1 (by decide)
  obtain ⟨k2, rfl, rfl, rfl, hk2⟩ := open_string Tryd.underlying9 (hval 2 9 v2 rfl rfl) h2
  have s2 : k2.data.toList.length ≤ 9223372036854775807 := by
    have h1 := sized_string hsz (j := 2) (t := 9) (bytes := k2.data.toList) rfl rfl
    exact Nat.le_trans h1 (by decide)
  have hcall : Calls Tryd.prog 7 #[.string ⟨k0.data.toList.toArray⟩, .string ⟨k1.data.toList.toArray⟩, .string ⟨k2.data.toList.toArray⟩] W fun e w' => e = .returned (.bool true) ∧ Below W.heap.size W w' := Sh.smtHalves_any k0.data.toList k1.data.toList k2.data.toList W (Sh.glob_of hL) s0 s1 s2
  refine hcall.mono fun e W' ⟨he, bel⟩ => ?_
  subst he
  exact ⟨_, rfl, _, _, _, [], _, [], hW', trodAll_mk1 (shut_bool Tryd.underlying4 _), trodAll_mk3 (shut_string Tryd.underlying9 hk0) (shut_string Tryd.underlying9 hk1) (shut_string Tryd.underlying9 hk2), rfl, bel.frame _, fun h => by cases h⟩
theorem smtHalves_holds : Rows.SmtHalvesSaid :=
  OpenClaim.holds_of_wide 7 Tryd.f7 rfl rfl rfl rfl rfl rfl rfl ⟨rfl, rfl, rfl, rfl, rfl⟩ rfl rfl rfl rfl rfl (by kernel_rfl) Tryd.func7 (by kernel_rfl)
    (of_decide_eq_true (by kernel_rfl)) (by unfold Func.isWrapper; first | (rw [if_pos (by decide +kernel)]; kernel_rfl) | (rw [if_neg (by decide +kernel)]; exact ⟨rfl, rfl⟩))
    (fun os started H enc _ => smtHalves_lifted os started H enc)
theorem smtHalves_card : Rows.SmtHalvesCardSaid :=
  Claim7.holds_tied_plain_at .later [] [.data, .data] true (true, "8b16552cd714a8834df6c705475534a5e760daeb41b158590f44d9f084c4198c") false
    smtHalves_holds (fun _ h => by cases h) (by kernel_rfl) (fun _ h => by cases h) smtHalves_row_tie rfl ⟨rfl, rfl⟩ (by kernel_rfl) rfl
    (fun f fn hf hfn => by
      obtain rfl : f = 7 := Option.some.inj ((show Tryd.prog.funcNamed Rows.smtHalvesRow.func = some 7 by kernel_rfl).symm.trans hf) |>.symm
      obtain rfl : fn = Tryd.f7 := (Option.some.inj (Tryd.func7.symm.trans hfn)).symm
      exact ⟨by kernel_rfl, fun j t ht => by
        rw [Tryd.params7] at ht
        have hm : t ∈ [9, 9, 9] := by simpa using Array.mem_of_getElem? ht
        have hall : ([9, 9, 9].all fun u => !Tryd.prog.wantsStandIn u) = true := by kernel_rfl
        exact (show Tryd.prog.wantsStandIn t = false by
          have := List.all_eq_true.1 hall t hm
          simpa using this)⟩)
    (by kernel_rfl)
end Go.Proofs.YtmeolaeoaoldoaaDoor
