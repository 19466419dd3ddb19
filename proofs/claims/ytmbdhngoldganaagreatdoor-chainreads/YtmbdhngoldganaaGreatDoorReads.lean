/- What ChainReads does. Proved: for all bytes, ChainReads returns true: any bytes are a chain's snapshot, or refused; the tables of the program start as its text lays them. No condition but the form's own reach. -/
import Derived.Test.YtmbdhngoldganaaGreatDoorCdc
import Derived.Test.YtmbdhngoldganaaGreatDoorCarg
import Derived.Test.YtmbdhngoldganaaGreatDoorSGlb
import Derived.Test.YtmbdhngoldganaaGreatDoorTie
import Derived.Test.YtmbdhngoldganaaGreatDoorCards
import Derived.SevenTiedAt
import Derived.SizedLaws
namespace Go.Proofs.YtmbdhngoldganaaGreatDoor
open Go Go.RowKit
section
attribute [local go_sem] Oper.semAt_some
set_option maxRecDepth 100000 in
set_option maxHeartbeats 4000000 in
theorem chainReads_any (s : List UInt8) (w : World) (hG : Sh.Glob w) (hl : s.length ≤ 140737488355328) :
    Calls Tryz.prog 4 #[.string ⟨s.toArray⟩] w fun e w' => e = .returned (.bool true) ∧ Below w.heap.size w w' := by
  have HD := decCh_any s w hG hl
  have HW := fun w1 (hb : Below w.heap.size w w1) => awakeC_any w1 (hG.belowSize hb)
  unfold DcP at HD
  by_cases he : decE s = 0
  · obtain ⟨hok, henc, hcnt⟩ := dec_good he
    have hk0 : (decC s).kept = [] := rfl
    rw [he] at HD
    have HE := fun cb bs bt w1 (h : CH w1 w.heap.size cb bs bt (.slice none 0 0) (decC s)) => encC_any _ _ _ _ _ _ w1 h hok
    rw [henc] at HE
    have HB := fun cb bs bt w1 (h : CH w1 w.heap.size cb bs bt (.slice none 0 0) (decC s)) => baseC_any _ _ _ _ _ _ w1 h hok (by rw [hk0]; exact Nat.zero_le _)
    have HT := fun cb bs bt w1 (h : CH w1 w.heap.size cb bs bt (.slice none 0 0) (decC s)) => tipC_any _ _ _ _ _ _ w1 h hok
    rw [hk0, List.length_nil, Nat.sub_zero] at HB
    clear hok henc hcnt hk0 he
    generalize decC s = c at *
    have hf0 := run_fieldT0
    go_enter Tryz.func4, Tryz.ntmps4
    go_wp2_with (first
      | (go_at_call 12; refine HD.mono ?_; rintro e w1 ⟨p, rfl, hw1, _, hp⟩; clear HD; obtain ⟨cb, bs, bt, rfl, hCH⟩ := hp rfl; clear hp)
      | (go_at_call 13; refine (HW _ hw1).mono ?_; rintro e w2 ⟨rfl, hw2⟩; clear HW; replace hCH := hCH.below hw2; have hB2 := hw1.trans (hw2.mono hw1.size))
      | (go_at_call 14; refine (HE _ _ _ _ hCH).mono ?_; rintro e w3 ⟨rfl, hw3⟩; clear HE; replace hCH := hCH.below hw3; have hB3 := hB2.trans (hw3.mono hB2.size))
      | (go_at_call 15; refine (HB _ _ _ _ hCH).mono ?_; rintro e w4 ⟨rfl, hw4⟩; clear HB; replace hCH := hCH.below hw4; have hB4 := hB3.trans (hw4.mono hB3.size))
      | (go_at_call 16; refine (HT _ _ _ _ hCH).mono ?_; rintro e w5 ⟨g, cap, rfl, _, hw5⟩; clear HT; have hB5 := hB4.trans (hw5.mono hB4.size)))
    go_ret
    exact ⟨rfl, hB5⟩
  · have hb1 : (decE s != 0) = true := by simpa using he
    have hd1 : (decE s == 0) = false := by simpa using he
    replace he : Hid (¬ decE s = 0) := he
    generalize decE s = er at *
    go_enter Tryz.func4, Tryz.ntmps4
    go_wp2_with (first
      | (go_at_call 12; refine HD.mono ?_; rintro e w1 ⟨p, rfl, hw1, hp, _⟩; clear HD; replace hp := hp he.out; subst hp)
      | (go_at_call 13; refine (HW _ hw1).mono ?_; rintro e w2 ⟨rfl, hw2⟩; clear HW; have hB2 := hw1.trans (hw2.mono hw1.size)))
    go_ret
    exact ⟨rfl, hB2⟩
end
end Go.Proofs.YtmbdhngoldganaaGreatDoor
namespace Go.Proofs.YtmbdhngoldganaaGreatDoor
open Go Go.ChangeShapes Go.WideShapes Go.ChangeAt Go.WideMaps Go.WideElems Go.RowKit
open Go.ChangeMaps (open_string shut_string)
set_option maxRecDepth 100000 in
theorem chainReads_lifted (os : Os) (started : os.Started) (H : Type) (enc : TypeId × Value → H) :
    ReturnsInHanded {} Tryz.checked os 4 .any (fun w args => (Rows.chainReadsSpec.pre enc Tryz.prog Tryz.f4 [] false w args ∧ laidMetH Tryz.prog Rows.chainNilRow.laid w) ∧ sizedMet enc Tryz.prog Tryz.f4 (OpenSpec.ofChange Rows.chainReadsSpec) false w args)
      (Rows.chainReadsSpec.post enc Tryz.prog Tryz.f4 false true false false) := by
  refine returnsInHanded_of_change_and (C := Tryz.checked) (X := fun w _ => laidMetH Tryz.prog Rows.chainNilRow.laid w) (fun _ _ _ hh h => h.of_heap hh) Sh.ownK started (by kernel_rfl) Tryz.func4
    (ChangeSpec.witness_shaped (enc := enc) (C := Tryz.checked) (os := os) (X := fun w _ => laidMetH Tryz.prog Rows.chainNilRow.laid w) false (World.doorLaid Tryz.prog 400 os) #[.string ⟨#[]⟩] 8 rfl (World.shaped_of_RefB (by kernel_rfl) (by kernel_rfl)) (by kernel_rfl) (by kernel_rfl) (by kernel_rfl) (Sh.door_met os _)) ?_
  intro W base args ds gs before hval0 hW _ hsz0 hL _
  have hsz : (DataW.weightsEach Tryz.prog (Tryz.f4.params.toList ++ Rows.chainReadsSpec.plain.varTypes Tryz.prog) (ds ++ gs)).all (· ≤ reachBytes) = true := hsz0
  have hval : ∀ (j : Nat) t v, Tryz.f4.params[j]? = some t → args[j]? = some v → Value.okWide Tryz.prog W .any base t v := hval0
  have hW' := hW
  obtain ⟨p, q, hA0, hV, rfl, hfz, hnd⟩ := hW
  have hA : DataW.TrodAll enc Tryz.prog W 0 (fun _ => true) true Tryz.f4.params.toList args.toList ds p := hA0
  rw [Tryz.params4] at hA hval hsz
  obtain ⟨v0, d0, rfl, rfl, h0⟩ := trodAll_one hA
  obtain ⟨rfl, rfl⟩ := trodVars_none hV
  clear hA0 hval0 hsz0
  obtain ⟨k0, rfl, rfl, rfl, hk0⟩ := open_string Tryz.underlying9 (hval 0 9 v0 rfl rfl) h0
  have hl0 : k0.data.toList.length ≤ 140737488355328 := by
    have h1 := sized_string hsz (j := 0) (t := 9) (bytes := k0.data.toList) rfl rfl
    exact Nat.le_trans h1 (by decide)
  have hcall : Calls Tryz.prog 4 #[.string ⟨k0.data.toList.toArray⟩] W fun e w' => e = .returned (.bool true) ∧ Below W.heap.size W w' := chainReads_any _ W (Sh.glob_of hL) hl0
  refine hcall.mono fun e W' ⟨he, bel⟩ => ?_
  subst he
  exact ⟨_, rfl, _, _, _, [], _, [], hW', trodAll_mk1 (shut_bool Tryz.underlying4 _), trodAll_mk1 (shut_string Tryz.underlying9 hk0), rfl, bel.frame _, fun h => by cases h⟩

theorem chainReads_holds : Rows.ChainReadsSaid :=
  OpenClaim.holds_of_wide 4 Tryz.f4 rfl rfl rfl rfl rfl rfl rfl ⟨rfl, rfl, rfl, rfl, rfl⟩ rfl rfl rfl rfl rfl (by kernel_rfl) Tryz.func4 (by kernel_rfl)
    (of_decide_eq_true (by kernel_rfl)) (by unfold Func.isWrapper; first | (rw [if_pos (by decide +kernel)]; kernel_rfl) | (rw [if_neg (by decide +kernel)]; exact ⟨rfl, rfl⟩))
    (fun os started H enc _ => chainReads_lifted os started H enc)

theorem chainReads_card : Rows.ChainReadsCardSaid :=
  Claim7.holds_tied_plain_at .later [] [.data, .data] true (true, "6fdc4d99b8ba02c22a4be4a7a7c6769339603fe1b55b7eef69d7d326c76bd50f") false
    chainReads_holds (fun _ h => by cases h) (by kernel_rfl) (fun _ h => by cases h) chainReads_row_tie rfl ⟨rfl, rfl⟩ (by kernel_rfl) rfl
    (fun f fn hf hfn => by
      obtain rfl : f = 4 := Option.some.inj ((show Tryz.prog.funcNamed Rows.chainReadsRow.func = some 4 by kernel_rfl).symm.trans hf) |>.symm
      obtain rfl : fn = Tryz.f4 := (Option.some.inj (Tryz.func4.symm.trans hfn)).symm
      exact ⟨by kernel_rfl, fun j t ht => by
        rw [Tryz.params4] at ht
        have hm : t ∈ [9] := by simpa using Array.mem_of_getElem? ht
        have hall : ([9].all fun u => !Tryz.prog.wantsStandIn u) = true := by kernel_rfl
        exact (show Tryz.prog.wantsStandIn t = false by
          have := List.all_eq_true.1 hall t hm
          simpa using this)⟩)
    (by kernel_rfl)
end Go.Proofs.YtmbdhngoldganaaGreatDoor
