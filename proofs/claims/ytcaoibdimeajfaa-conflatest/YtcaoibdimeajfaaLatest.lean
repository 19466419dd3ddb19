/- What is proved here: Latest gives who takes part by the last entry that says so, and its place, else the base and 0; for every integer and every list of entries, no condition. -/
import Derived.Test.YtcaoibdimeajfaaClq
import Derived.Test.YtcaoibdimeajfaaCnp
import Derived.Test.YtcaoibdimeajfaaCcd
import Derived.Stop.Joined
namespace Go.Proofs.Ytcaoibdimeajfaa
open Go Go.RowKit
theorem confLatest_holds : Rows.ConfLatestSaid :=
  OpenClaim.holds_of_wide 6 Try.f6 rfl rfl rfl rfl rfl rfl rfl ⟨rfl, rfl, rfl, rfl, rfl⟩ rfl rfl rfl rfl rfl (by kernel_rfl) Try.func6 (by kernel_rfl)
    (of_decide_eq_true (by kernel_rfl)) (by unfold Func.isWrapper; first | (rw [if_pos (by decide +kernel)]; kernel_rfl) | (rw [if_neg (by decide +kernel)]; exact ⟨rfl, rfl⟩))
    (fun os started H enc _ => confLatest_lifted next_any latest_any os started H enc)
end Go.Proofs.Ytcaoibdimeajfaa
