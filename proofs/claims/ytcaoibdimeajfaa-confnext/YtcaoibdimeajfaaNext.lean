/- What is proved here: Next says yes just where one comes or one goes and somebody is left, and never of a list that may not be; for every two integers and every list of numbers, no condition. -/
import Derived.Test.YtcaoibdimeajfaaCnp
import Derived.Test.YtcaoibdimeajfaaCcd
import Derived.Stop.Joined
namespace Go.Proofs.Ytcaoibdimeajfaa
open Go Go.RowKit
theorem confNext_holds : Rows.ConfNextSaid :=
  OpenClaim.holds_of_wide 4 Try.f4 rfl rfl rfl rfl rfl rfl rfl ⟨rfl, rfl, rfl, rfl, rfl⟩ rfl rfl rfl rfl rfl (by kernel_rfl) Try.func4 (by kernel_rfl)
    (of_decide_eq_true (by kernel_rfl)) (by unfold Func.isWrapper; first | (rw [if_pos (by decide +kernel)]; kernel_rfl) | (rw [if_neg (by decide +kernel)]; exact ⟨rfl, rfl⟩))
    (fun os started H enc _ => confNext_lifted next_any os started H enc)
end Go.Proofs.Ytcaoibdimeajfaa
