/- Proved: for every two keys, text and bytes, MacSeals returns true: of their first 1000 bytes, what was sealed is opened by its key, by another key just where that makes the same tag, and any bytes are opened just where they end in the tag of what stands ahead; the two tables of the program start as its text lays them. -/
import Derived.Test.YtminjelnbnajhaaDoorSls
import Derived.Test.YtminjelnbnajhaaDoorGlb
import Derived.Test.YtminjelnbnajhaaDoorTie
import Derived.Test.YtminjelnbnajhaaDoorCards
import Derived.SevenTiedAt
namespace Go.Proofs.YtminjelnbnajhaaDoor
open Go Go.ChangeShapes Go.WideShapes Go.ChangeAt Go.WideMaps Go.WideElems Go.RowKit
open Go.ChangeMaps (open_string shut_string)
theorem cl9 : Tryd.prog.cellsOf 9 = 1 := by kernel_rfl
theorem cl28 : Tryd.prog.cellsOf 28 = 2 := by kernel_rfl
/-- An array of two texts that came in. -/
theorem pair_of {H : Type} {enc : TypeId × Value → H} {W : World} {base : Nat} {v : Value} {d : DataW H} {p : List MemPlace} (hv : Value.okWide Tryd.prog W .any base 28 v) (h : DataW.Trod enc Tryd.prog W 0 (fun _ => true) true 28 v d p) :
    ∃ s0 s1 : ByteArray, v = .agg #[.string s0, .string s1] := by
  unfold Value.okWide at hv
  simp only [Tryd.underlying28] at hv
  obtain ⟨cs, rfl, hsz, _⟩ := hv
  obtain ⟨fuel, hf⟩ := h
  obtain ⟨xs, m, _, _, hl, hn, hel⟩ := DataW.trod_array Tryd.underlying28 hf
  have e0 := hel 0 (by omega)
  have e1 := hel 1 (by omega)
  rw [cl9, List.getElem?_eq_getElem (by omega)] at e0 e1
  obtain ⟨s0, q0, _⟩ := DataW.trod_string Tryd.underlying9 e0
  obtain ⟨s1, q1, _⟩ := DataW.trod_string Tryd.underlying9 e1
  refine ⟨s0, s1, ?_⟩
  have hc : cs.toList = [.string s0, .string s1] := by
    have hl2 : cs.toList.length = 2 := by rw [cl28] at hl; exact hl
    have f0 : cs.toList[0]? = some (.string s0) := by
      have := congrArg (fun l => l[0]?) q0
      simpa [Value.cells] using this
    have f1 : cs.toList[1]? = some (.string s1) := by
      have := congrArg (fun l => l[0]?) q1
      simpa [Value.cells] using this
    apply List.ext_getElem?
    intro i
    match i with
    | 0 => rw [f0]; rfl
    | 1 => rw [f1]; rfl
    | i + 2 => rw [List.getElem?_eq_none (by omega)]; rfl
  rw [show cs = cs.toList.toArray from (Array.toArray_toList (xs := cs)).symm, hc]
set_option maxRecDepth 100000 in
theorem macSeals_lifted (os : Os) (started : os.Started) (H : Type) (enc : TypeId × Value → H) :
    ReturnsInHanded {} Tryd.checked os 5 .any (fun w args => (Rows.macSealsSpec.pre enc Tryd.prog Tryd.f5 [] false w args ∧ laidMetH Tryd.prog Rows.shaTablesRow.laid w) ∧ sizedMet enc Tryd.prog Tryd.f5 (OpenSpec.ofChange Rows.macSealsSpec) false w args)
      (Rows.macSealsSpec.post enc Tryd.prog Tryd.f5 false true false false) := by
  refine returnsInHanded_of_change_and (C := Tryd.checked) (X := fun w _ => laidMetH Tryd.prog Rows.shaTablesRow.laid w) (fun _ _ _ hh h => h.of_heap hh) ownK started (by kernel_rfl) Tryd.func5
    (ChangeSpec.witness_shaped (enc := enc) (C := Tryd.checked) (os := os) (X := fun w _ => laidMetH Tryd.prog Rows.shaTablesRow.laid w) false (World.doorLaid Tryd.prog 400 os) #[.agg #[.string ⟨#[]⟩, .string ⟨#[]⟩], .string ⟨#[]⟩, .string ⟨#[]⟩] 8 rfl (World.shaped_of_RefB (by kernel_rfl) (by kernel_rfl)) (by kernel_rfl) (by kernel_rfl) (by kernel_rfl) (door_met os _)) ?_
  intro W base args ds gs before hval0 hW _ _ hL _
  have hval : ∀ (j : Nat) t v, Tryd.f5.params[j]? = some t → args[j]? = some v → Value.okWide Tryd.prog W .any base t v := hval0
  have hW' := hW
  obtain ⟨p, q, hA0, hV, rfl, hfz, hnd⟩ := hW
  have hA : DataW.TrodAll enc Tryd.prog W 0 (fun _ => true) true Tryd.f5.params.toList args.toList ds p := hA0
  rw [Tryd.params5] at hA hval
  obtain ⟨v0, v1, v2, d0, d1, d2, p0, p1, p2, rfl, rfl, rfl, h0, h1, h2⟩ := trodAll_three hA
  obtain ⟨rfl, rfl⟩ := trodVars_none hV
  have lt0 : ∀ x ∈ p0, x.block < W.heap.size := by obtain ⟨m, hm⟩ := h0; exact DataW.trod_lt m _ _ _ hm
  obtain ⟨s0, s1, rfl⟩ := pair_of (hval 0 28 v0 rfl rfl) h0
  obtain ⟨t, rfl, rfl, rfl, ht⟩ := open_string Tryd.underlying9 (hval 1 9 v1 rfl rfl) h1
  obtain ⟨u, rfl, rfl, rfl, hu⟩ := open_string Tryd.underlying9 (hval 2 9 v2 rfl rfl) h2
  clear hA0 hval0
  refine (macSeals_any s0.data.toList s1.data.toList t.data.toList u.data.toList W (glob_of hL)).mono fun e W' ⟨he, bel⟩ => ?_
  subst he
  exact ⟨_, rfl, _, _, _, [], _, [], hW', trodAll_mk1 (shut_bool Tryd.underlying4 _), trodAll_mk3 (Below.trod laidOutT (by kernel_rfl) (of_decide_eq_true (by kernel_rfl)) h0 bel lt0) (shut_string Tryd.underlying9 ht) (shut_string Tryd.underlying9 hu), rfl, bel.frame _, fun h => by cases h⟩

theorem macSeals_holds : Rows.MacSealsSaid :=
  OpenClaim.holds_of_wide 5 Tryd.f5 rfl rfl rfl rfl rfl rfl rfl ⟨rfl, rfl, rfl, rfl, rfl⟩ rfl rfl rfl rfl rfl (by kernel_rfl) Tryd.func5 (by kernel_rfl)
    (of_decide_eq_true (by kernel_rfl)) (by unfold Func.isWrapper; first | (rw [if_pos (by decide +kernel)]; kernel_rfl) | (rw [if_neg (by decide +kernel)]; exact ⟨rfl, rfl⟩))
    (fun os started H enc _ => macSeals_lifted os started H enc)

theorem macSeals_card : Rows.MacSealsCardSaid :=
  Claim7.holds_tied_plain_at .later [] [.data, .data] true (true, "d67cd1a82bd2ed27715885dea7efa218f4cb9d9063e1a2277c0db43ef1bea73c") false
    macSeals_holds (fun _ h => by cases h) (by kernel_rfl) (fun _ h => by cases h) macSeals_row_tie rfl ⟨rfl, rfl⟩ (by kernel_rfl) rfl
    (fun f fn hf hfn => by
      obtain rfl : f = 5 := Option.some.inj ((show Tryd.prog.funcNamed Rows.macSealsRow.func = some 5 by kernel_rfl).symm.trans hf) |>.symm
      obtain rfl : fn = Tryd.f5 := (Option.some.inj (Tryd.func5.symm.trans hfn)).symm
      exact ⟨by kernel_rfl, fun j t ht => by
        rw [Tryd.params5] at ht
        have hm : t ∈ [28, 9, 9] := by simpa using Array.mem_of_getElem? ht
        have hall : ([28, 9, 9].all fun u => !Tryd.prog.wantsStandIn u) = true := by kernel_rfl
        exact (show Tryd.prog.wantsStandIn t = false by
          have := List.all_eq_true.1 hall t hm
          simpa using this)⟩)
    (by kernel_rfl)
end Go.Proofs.YtminjelnbnajhaaDoor
