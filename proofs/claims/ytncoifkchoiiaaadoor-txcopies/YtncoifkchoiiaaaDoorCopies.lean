/- Proved: for every two transactions, TxCopies returns true: a copy is the same, and its own; two transactions are the same just where all of both is; the tables of the program start as its text lays them. -/
import Derived.Test.YtncoifkchoiiaaaDoorTxc
import Derived.Test.YtncoifkchoiiaaaDoorArg
import Derived.Test.YtncoifkchoiiaaaDoorSGlb
import Derived.Test.YtncoifkchoiiaaaDoorTie
import Derived.Test.YtncoifkchoiiaaaDoorCards
import Derived.SevenTiedAt
namespace Go.Proofs.YtncoifkchoiiaaaDoor
open Go Go.ChangeShapes Go.WideShapes Go.ChangeAt Go.WideMaps Go.WideElems Go.RowKit
theorem copies_all (s t : TX) (hc : s.client < 18446744073709551616) (hn : s.nonce < 18446744073709551616) (hc' : t.client < 18446744073709551616) (hn' : t.nonce < 18446744073709551616) (a b : Option Addr) (cap cap2 : Nat) (w : World) (h : SL w a s.ops) (h' : SL w b t.ops) (hG : Sh.Glob w) :
    Calls Tryd.prog 4 #[.agg (txc s.client s.nonce (.slice a s.ops.length cap)), .agg (txc t.client t.nonce (.slice b t.ops.length cap2))] w fun e w' => e = .returned (.bool true) ∧ Below w.heap.size w w' := by
  by_cases hs : okTx s = true
  · by_cases ht : okTx t = true
    · exact copies_good s.client s.nonce t.client t.nonce s.ops t.ops hs ht hc hn hc' hn' a b cap cap2 w h h' hG
    · exact copies_bad s t (.inr ht) a b cap cap2 w h h'
  · exact copies_bad s t (.inl hs) a b cap cap2 w h h'
set_option maxRecDepth 100000 in
theorem txCopies_lifted (os : Os) (started : os.Started) (H : Type) (enc : TypeId × Value → H) :
    ReturnsInHanded {} Tryd.checked os 4 .any (fun w args => (Rows.txCopiesSpec.pre enc Tryd.prog Tryd.f4 [] false w args ∧ laidMetH Tryd.prog Rows.txBytesRow.laid w) ∧ sizedMet enc Tryd.prog Tryd.f4 (OpenSpec.ofChange Rows.txCopiesSpec) false w args)
      (Rows.txCopiesSpec.post enc Tryd.prog Tryd.f4 false true false false) := by
  refine returnsInHanded_of_change_and (C := Tryd.checked) (X := fun w _ => laidMetH Tryd.prog Rows.txBytesRow.laid w) (fun _ _ _ hh h => h.of_heap hh) Sh.ownK started (by kernel_rfl) Tryd.func4
    (ChangeSpec.witness_shaped (enc := enc) (C := Tryd.checked) (os := os) (X := fun w _ => laidMetH Tryd.prog Rows.txBytesRow.laid w) false (World.doorLaid Tryd.prog 400 os) #[.agg #[.int .u64 0, .int .u64 0, .slice none 0 0], .agg #[.int .u64 0, .int .u64 0, .slice none 0 0]] 8 rfl (World.shaped_of_RefB (by kernel_rfl) (by kernel_rfl)) (by kernel_rfl) (by kernel_rfl) (by kernel_rfl) (Sh.door_met os _)) ?_
  intro W base args ds gs before hval0 hW _ _ hL _
  have hval : ∀ (j : Nat) t v, Tryd.f4.params[j]? = some t → args[j]? = some v → Value.okWide Tryd.prog W .any base t v := hval0
  have hW' := hW
  obtain ⟨p, q, hA0, hV, rfl, hfz, hnd⟩ := hW
  have hA : DataW.TrodAll enc Tryd.prog W 0 (fun _ => true) true Tryd.f4.params.toList args.toList ds p := hA0
  rw [Tryd.params4] at hA hval
  obtain ⟨v0, v1, d0, d1, p0, p1, rfl, rfl, rfl, h0, h1⟩ := trodAll_two hA
  obtain ⟨rfl, rfl⟩ := trodVars_none hV
  clear hA0 hval0
  have lt0 : ∀ x ∈ p0, x.block < W.heap.size := by obtain ⟨m, hm⟩ := h0; exact DataW.trod_lt m _ _ _ hm
  have lt1 : ∀ x ∈ p1, x.block < W.heap.size := by obtain ⟨m, hm⟩ := h1; exact DataW.trod_lt m _ _ _ hm
  obtain ⟨s, a, cap, rfl, hSL, hc, hn⟩ := tx_of (hval 0 25 v0 rfl rfl) h0
  obtain ⟨t, b, cap2, rfl, hSL', hc', hn'⟩ := tx_of (hval 1 25 v1 rfl rfl) h1
  refine (copies_all s t hc hn hc' hn' a b cap cap2 W hSL hSL' (Sh.glob_of hL)).mono fun e W' ⟨he, bel⟩ => ?_
  subst he
  exact ⟨_, rfl, _, _, _, [], _, [], hW', trodAll_mk1 (shut_bool Tryd.underlying4 _), trodAll_mk2 (Below.trod Sh.laidOutT (by kernel_rfl) (of_decide_eq_true (by kernel_rfl)) h0 bel lt0) (Below.trod Sh.laidOutT (by kernel_rfl) (of_decide_eq_true (by kernel_rfl)) h1 bel lt1), rfl, bel.frame _, fun h => by cases h⟩

theorem txCopies_holds : Rows.TxCopiesSaid :=
  OpenClaim.holds_of_wide 4 Tryd.f4 rfl rfl rfl rfl rfl rfl rfl ⟨rfl, rfl, rfl, rfl, rfl⟩ rfl rfl rfl rfl rfl (by kernel_rfl) Tryd.func4 (by kernel_rfl)
    (of_decide_eq_true (by kernel_rfl)) (by unfold Func.isWrapper; first | (rw [if_pos (by decide +kernel)]; kernel_rfl) | (rw [if_neg (by decide +kernel)]; exact ⟨rfl, rfl⟩))
    (fun os started H enc _ => txCopies_lifted os started H enc)

theorem txCopies_card : Rows.TxCopiesCardSaid :=
  Claim7.holds_tied_plain_at .later [] [.data, .data] true (true, "0638c3a6fb3ad25c0219766f694a6f9ed4138e95f0b552e510faac837fb64621") false
    txCopies_holds (fun _ h => by cases h) (by kernel_rfl) (fun _ h => by cases h) txCopies_row_tie rfl ⟨rfl, rfl⟩ (by kernel_rfl) rfl
    (fun f fn hf hfn => by
      obtain rfl : f = 4 := Option.some.inj ((show Tryd.prog.funcNamed Rows.txCopiesRow.func = some 4 by kernel_rfl).symm.trans hf) |>.symm
      obtain rfl : fn = Tryd.f4 := (Option.some.inj (Tryd.func4.symm.trans hfn)).symm
      exact ⟨by kernel_rfl, fun j t ht => by
        rw [Tryd.params4] at ht
        have hm : t ∈ [25, 25] := by simpa using Array.mem_of_getElem? ht
        have hall : ([25, 25].all fun u => !Tryd.prog.wantsStandIn u) = true := by kernel_rfl
        exact (show Tryd.prog.wantsStandIn t = false by
          have := List.all_eq_true.1 hall t hm
          simpa using this)⟩)
    (by kernel_rfl)
end Go.Proofs.YtncoifkchoiiaaaDoor
