/- What is proved here: Most says whether more than half of a list are among others, and any two such halves of two lists of which one may follow the other have one in common; for every four integers, no condition. -/
import Derived.Test.YtcaoibdimeajfaaCmq
import Derived.Test.YtcaoibdimeajfaaCnp
import Derived.Test.YtcaoibdimeajfaaCcd
import Derived.Stop.Joined
namespace Go.Proofs.Ytcaoibdimeajfaa
open Go Go.RowKit
theorem confMeets_holds : Rows.ConfMeetsSaid :=
  OpenClaim.holds_of_wide 5 Try.f5 rfl rfl rfl rfl rfl rfl rfl ⟨rfl, rfl, rfl, rfl, rfl⟩ rfl rfl rfl rfl rfl (by kernel_rfl) Try.func5 (by kernel_rfl)
    (of_decide_eq_true (by kernel_rfl)) (by unfold Func.isWrapper; first | (rw [if_pos (by decide +kernel)]; kernel_rfl) | (rw [if_neg (by decide +kernel)]; exact ⟨rfl, rfl⟩))
    (fun os started H enc _ => confMeets_lifted next_any most_any os started H enc)
end Go.Proofs.Ytcaoibdimeajfaa
