/- Proved: for every message and every number, RaftNil returns true: a nil node answers as the document says, New takes the numbers of replicas and no others, and a replica alone leads. No condition but the form's own reach. -/
import Derived.Test.YtahpkahbifnndaaRnz2
import Derived.Test.YtahpkahbifnndaaRows
import Derived.ProofKit
import Derived.OpenShut
import Derived.SizedLaws
import Derived.Stop.Joined
namespace Go.Proofs.Ytahpkahbifnndaa
open Go Go.ChangeShapes Go.WideShapes Go.ChangeAt Go.WideMaps Go.WideElems Go.RowKit
theorem ownK : ownKnob Try.prog.godebug = none := by kernel_rfl
theorem laidOutT : laidOutB Try.prog = true := by kernel_rfl
theorem raftNil_any (w : World) (m : MSG) (ea : Option Addr) (ec : Nat) (ma : Option Addr) (mc : Nat) (me : Int) : Calls Try.prog 3 #[.agg (mcells m (.slice ea m.ents.length ec) (.slice ma m.mems.length mc)), .int .i64 me] w fun e w' => e = .returned (.bool true) ∧ Below w.heap.size w w' := by
  by_cases h1 : me < 0
  · exact raftNil_low w m ea ec ma mc me h1
  · by_cases h2 : 16 ≤ me
    · exact raftNil_high w m ea ec ma mc me h2
    · exact raftNil_yes w m ea ec ma mc me ⟨by omega, by omega⟩
set_option maxRecDepth 100000 in
theorem raftNil_lifted (os : Os) (started : os.Started) (H : Type) (enc : TypeId × Value → H) :
    ReturnsInHanded {} Try.checked os 3 .any (Rows.raftNilSpec.pre6 enc Try.prog Try.f3 [] false) (Rows.raftNilSpec.post enc Try.prog Try.f3 false true false false) := by
  refine returnsInHanded_of_change_sized (C := Try.checked) ownK started (by kernel_rfl) Try.func3
    (ChangeSpec.witness6 (enc := enc) (C := Try.checked) false ⟨#[], #[.agg #[.int .i64 0, .int .i64 0, .int .i64 0, .int .i64 0, .int .i64 0, .int .i64 0, .int .i64 0, .bool false, .slice none 0 0, .int .i64 0, .string ⟨#[]⟩, .bool false, .slice none 0 0], .int .i64 0], []⟩ 8 (by kernel_rfl) (by kernel_rfl) (by kernel_rfl) (by kernel_rfl)) ?_
  intro W base args ds gs before hval0 hW _ hsz0 _
  have hval : ∀ (j : Nat) t v, Try.f3.params[j]? = some t → args[j]? = some v → Value.okWide Try.prog W .any base t v := hval0
  have hW' := hW
  obtain ⟨p, q, hA0, hV, rfl, hfz, hnd⟩ := hW
  have hA : DataW.TrodAll enc Try.prog W 0 (fun _ => true) true Try.f3.params.toList args.toList ds p := hA0
  have hsz : (DataW.weightsEach Try.prog (Try.f3.params.toList ++ Rows.raftNilSpec.plain.varTypes Try.prog) (ds ++ gs)).all (· ≤ reachBytes) = true := hsz0
  rw [Try.params3] at hA hval hsz
  obtain ⟨v0, v1, d0, d1, p0, p1, rfl, rfl, rfl, h0, h1⟩ := trodAll_two hA
  obtain ⟨rfl, rfl⟩ := trodVars_none hV
  clear hA0 hval0 hsz0
  have lt0 : ∀ x ∈ p0, x.block < W.heap.size := by obtain ⟨m, hm⟩ := h0; exact DataW.trod_lt m _ _ _ hm
  have hlg : Lgt 25 d0 := by
    unfold Lgt
    rw [List.all_eq_true]
    intro z hz
    exact List.all_eq_true.1 hsz z (DataW.weights_mem_each (j := 0) (t := 25) (d := d0) rfl rfl z hz)
  obtain ⟨m, ea, ec, ma, mc, rfl, _⟩ := msg_of (hval 0 25 v0 rfl rfl) h0 hlg
  obtain ⟨z1, rfl, rfl, rfl, hz1⟩ := open_int Try.underlying3 (hval 1 3 v1 rfl rfl) h1
  refine (raftNil_any W m ea ec ma mc z1).mono fun e W' ⟨he, bel⟩ => ?_
  subst he
  exact ⟨_, rfl, _, _, _, [], _, [], hW', trodAll_mk1 (shut_bool Try.underlying4 _), trodAll_mk2 (Below.trod laidOutT (by kernel_rfl) (of_decide_eq_true (by kernel_rfl)) h0 bel lt0) (shut_int Try.underlying3 hz1), rfl, bel.frame _, fun h => by cases h⟩
theorem raftNil_holds : Rows.RaftNilSaid :=
  OpenClaim.holds_of_wide 3 Try.f3 rfl rfl rfl rfl rfl rfl rfl ⟨rfl, rfl, rfl, rfl, rfl⟩ rfl rfl rfl rfl rfl (by kernel_rfl) Try.func3 (by kernel_rfl)
    (of_decide_eq_true (by kernel_rfl)) (by unfold Func.isWrapper; first | (rw [if_pos (by decide +kernel)]; kernel_rfl) | (rw [if_neg (by decide +kernel)]; exact ⟨rfl, rfl⟩))
    (fun os started H enc _ => raftNil_lifted os started H enc)
end Go.Proofs.Ytahpkahbifnndaa
