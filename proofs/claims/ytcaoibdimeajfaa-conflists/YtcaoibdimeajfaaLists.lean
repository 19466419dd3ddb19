/- What is proved here: Has, With and Without of any of the sixteen lists answer as sets of numbers do, and the input reads as it did; for every two integers, no condition. -/
import Derived.Test.YtcaoibdimeajfaaCwo
import Derived.Test.YtcaoibdimeajfaaCnp
import Derived.Test.YtcaoibdimeajfaaCcd
import Derived.Stop.Joined
namespace Go.Proofs.Ytcaoibdimeajfaa
open Go Go.RowKit
theorem confLists_holds : Rows.ConfListsSaid :=
  OpenClaim.holds_of_wide 3 Try.f3 rfl rfl rfl rfl rfl rfl rfl ⟨rfl, rfl, rfl, rfl, rfl⟩ rfl rfl rfl rfl rfl (by kernel_rfl) Try.func3 (by kernel_rfl)
    (of_decide_eq_true (by kernel_rfl)) (by unfold Func.isWrapper; first | (rw [if_pos (by decide +kernel)]; kernel_rfl) | (rw [if_neg (by decide +kernel)]; exact ⟨rfl, rfl⟩))
    (fun os started H enc _ => confLists_lifted next_any has_any with_any without_any os started H enc)
end Go.Proofs.Ytcaoibdimeajfaa
