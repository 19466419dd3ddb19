/- What do of the statements does, where a change is asked for. -/
import Derived.Test.YtgkkpmliociieaaDo0
import Derived.Test.YtgkkpmliociieaaDo1
import Derived.Test.YtgkkpmliociieaaDo2
import Derived.Test.YtgkkpmliociieaaDo3
import Derived.Test.YtgkkpmliociieaaDo4
namespace Go.Proofs.Ytgkkpmliociieaa
open Go Go.RowKit
theorem do_chg (p : Nat) (b : Option Nat) (d : DM) (m : RD) (x y : Value) (a : AC) (w : World) (hD : DK w p b d) (hx : RL w 0 x m.now) (hy : RL w 0 y m.sure) (hS : Sam d m) (hm : Okd d) (hl : m.now.length ≤ 99999) (hr : m.room ≤ 9223372036854775807) (hk : a.kind = 0 ∨ a.kind = 1 ∨ a.kind = 2 ∨ a.kind = 3 ∨ a.kind = 4) (h1 : a.name.length ≤ 9223372036854775807) (h2 : a.to.length ≤ 9223372036854775807) :
    Calls Try.prog 8 #[.agg (pC p m x y), .agg (aC a)] w (DoP w p b (chD d (rcO a)).1 (chgR m (rcO a))) := by
  rcases hk with hk | hk | hk | hk | hk
  · exact do_chg0 p b d m x y a w hD hx hy hS hm hl hr hk h1 h2
  · exact do_chg1 p b d m x y a w hD hx hy hS hm hl hr hk h1 h2
  · exact do_chg2 p b d m x y a w hD hx hy hS hm hl hr hk h1 h2
  · exact do_chg3 p b d m x y a w hD hx hy hS hm hl hr hk h1 h2
  · exact do_chg4 p b d m x y a w hD hx hy hS hm hl hr hk h1 h2
end Go.Proofs.Ytgkkpmliociieaa
