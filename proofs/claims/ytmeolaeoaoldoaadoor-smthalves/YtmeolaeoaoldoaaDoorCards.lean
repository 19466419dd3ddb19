/-
  DERIVED. GIVEN WITH THE SEED: THE CARDS: each row of YtmeolaeoaoldoaaDoorRows.lean that lists a variable, with what it lists TIED to the program's text (the seventh form; the later family's looks); each row that meets fmt, with fmt's text TOLD by the authors' own Lean function (tested against real Go, not proved from fmt's source: count such statements apart). THE CARD IS WHAT COUNTS. Prove the row's statement (the work); the ties are given (YtmeolaeoaoldoaaDoorTie.lean); close each card by the builder's one call (the guide's Derived/Test/ToyasCard.lean, 'card_holds'). Laid BY PROGRAM, IN A SANDBOX (cutbox-door.mjs). By AI agents, Wed Nov 11 2026. No macro, syntax, notation, axiom, sorry.
-/
import Derived.Test.YtmeolaeoaoldoaaDoorRows
import GoSem.ClaimSeven
namespace Go.Proofs.YtmeolaeoaoldoaaDoor
namespace Rows

/-- THE TIED CARD OF 'munimentlaw07.SmtRoots'. -/
def smtRootsCard : Claim7 := { stood := { row := smtRootsRow, standIns := [], harness := (true, "8b16552cd714a8834df6c705475534a5e760daeb41b158590f44d9f084c4198c"), looks := false }, kinds := [], alts := [], laidByText := true, laidKinds := [.data, .data], laidTests := true, laidLooks := .later }
def SmtRootsCardSaid : Prop := Claim7.holds Tryd.pinned (.plain (OpenSpec.ofChange smtRootsSpec)) smtRootsCard

/-- THE TIED CARD OF 'munimentlaw07.SmtProves'. -/
def smtProvesCard : Claim7 := { stood := { row := smtProvesRow, standIns := [], harness := (true, "8b16552cd714a8834df6c705475534a5e760daeb41b158590f44d9f084c4198c"), looks := false }, kinds := [], alts := [], laidByText := true, laidKinds := [.data, .data], laidTests := true, laidLooks := .later }
def SmtProvesCardSaid : Prop := Claim7.holds Tryd.pinned (.plain (OpenSpec.ofChange smtProvesSpec)) smtProvesCard

/-- THE TIED CARD OF 'munimentlaw07.SmtOwns'. -/
def smtOwnsCard : Claim7 := { stood := { row := smtOwnsRow, standIns := [], harness := (true, "8b16552cd714a8834df6c705475534a5e760daeb41b158590f44d9f084c4198c"), looks := false }, kinds := [], alts := [], laidByText := true, laidKinds := [.data, .data], laidTests := true, laidLooks := .later }
def SmtOwnsCardSaid : Prop := Claim7.holds Tryd.pinned (.plain (OpenSpec.ofChange smtOwnsSpec)) smtOwnsCard

/-- THE TIED CARD OF 'munimentlaw07.SmtDigests'. -/
def smtDigestsCard : Claim7 := { stood := { row := smtDigestsRow, standIns := [], harness := (true, "8b16552cd714a8834df6c705475534a5e760daeb41b158590f44d9f084c4198c"), looks := false }, kinds := [], alts := [], laidByText := true, laidKinds := [.data, .data], laidTests := true, laidLooks := .later }
def SmtDigestsCardSaid : Prop := Claim7.holds Tryd.pinned (.plain (OpenSpec.ofChange smtDigestsSpec)) smtDigestsCard

/-- THE TIED CARD OF 'munimentlaw07.SmtHalves'. -/
def smtHalvesCard : Claim7 := { stood := { row := smtHalvesRow, standIns := [], harness := (true, "8b16552cd714a8834df6c705475534a5e760daeb41b158590f44d9f084c4198c"), looks := false }, kinds := [], alts := [], laidByText := true, laidKinds := [.data, .data], laidTests := true, laidLooks := .later }
def SmtHalvesCardSaid : Prop := Claim7.holds Tryd.pinned (.plain (OpenSpec.ofChange smtHalvesSpec)) smtHalvesCard

/-- THE SECOND FORM's CARD OF 'munimentlaw07.SmtRoots'. -/
def smtRootsUptoCard : Claim7 := { stood := { row := smtRootsUptoRow, standIns := [], harness := (true, "8b16552cd714a8834df6c705475534a5e760daeb41b158590f44d9f084c4198c"), looks := false }, kinds := [], alts := [], laidByText := true, laidKinds := [.data, .data], laidTests := true, laidLooks := .later }
def SmtRootsUptoCardSaid : Prop := Claim7.holds Tryd.pinned (.plain (OpenSpec.upto smtRootsSpec)) smtRootsUptoCard

/-- THE SECOND FORM's CARD OF 'munimentlaw07.SmtProves'. -/
def smtProvesUptoCard : Claim7 := { stood := { row := smtProvesUptoRow, standIns := [], harness := (true, "8b16552cd714a8834df6c705475534a5e760daeb41b158590f44d9f084c4198c"), looks := false }, kinds := [], alts := [], laidByText := true, laidKinds := [.data, .data], laidTests := true, laidLooks := .later }
def SmtProvesUptoCardSaid : Prop := Claim7.holds Tryd.pinned (.plain (OpenSpec.upto smtProvesSpec)) smtProvesUptoCard

/-- THE SECOND FORM's CARD OF 'munimentlaw07.SmtOwns'. -/
def smtOwnsUptoCard : Claim7 := { stood := { row := smtOwnsUptoRow, standIns := [], harness := (true, "8b16552cd714a8834df6c705475534a5e760daeb41b158590f44d9f084c4198c"), looks := false }, kinds := [], alts := [], laidByText := true, laidKinds := [.data, .data], laidTests := true, laidLooks := .later }
def SmtOwnsUptoCardSaid : Prop := Claim7.holds Tryd.pinned (.plain (OpenSpec.upto smtOwnsSpec)) smtOwnsUptoCard

/-- THE SECOND FORM's CARD OF 'munimentlaw07.SmtDigests'. -/
def smtDigestsUptoCard : Claim7 := { stood := { row := smtDigestsUptoRow, standIns := [], harness := (true, "8b16552cd714a8834df6c705475534a5e760daeb41b158590f44d9f084c4198c"), looks := false }, kinds := [], alts := [], laidByText := true, laidKinds := [.data, .data], laidTests := true, laidLooks := .later }
def SmtDigestsUptoCardSaid : Prop := Claim7.holds Tryd.pinned (.plain (OpenSpec.upto smtDigestsSpec)) smtDigestsUptoCard

/-- THE SECOND FORM's CARD OF 'munimentlaw07.SmtHalves'. -/
def smtHalvesUptoCard : Claim7 := { stood := { row := smtHalvesUptoRow, standIns := [], harness := (true, "8b16552cd714a8834df6c705475534a5e760daeb41b158590f44d9f084c4198c"), looks := false }, kinds := [], alts := [], laidByText := true, laidKinds := [.data, .data], laidTests := true, laidLooks := .later }
def SmtHalvesUptoCardSaid : Prop := Claim7.holds Tryd.pinned (.plain (OpenSpec.upto smtHalvesSpec)) smtHalvesUptoCard
end Rows
end Go.Proofs.YtmeolaeoaoldoaaDoor
