/-
  DERIVED. GIVEN WITH THE SEED: THE CARDS: each row of YtjfpfkiccbcedaaGreatDoorRows.lean that lists a variable, with what it lists TIED to the program's text (the seventh form; the later family's looks); each row that meets fmt, with fmt's text TOLD by the authors' own Lean function (tested against real Go, not proved from fmt's source: count such statements apart). THE CARD IS WHAT COUNTS. Prove the row's statement (the work); the ties are given (YtjfpfkiccbcedaaGreatDoorTie.lean); close each card by the builder's one call (the guide's Derived/Test/ToyasCard.lean, 'card_holds'). Laid BY PROGRAM, IN A SANDBOX (cutbox-door.mjs). By AI agents, Wed Nov 11 2026. No macro, syntax, notation, axiom, sorry.
-/
import Derived.Test.YtjfpfkiccbcedaaGreatDoorRows
import GoSem.ClaimSeven
namespace Go.Proofs.YtjfpfkiccbcedaaGreatDoor
namespace Rows

/-- THE TIED CARD OF 'munimentlaw09.BlockMakes'. -/
def blockMakesCard : Claim7 := { stood := { row := blockMakesRow, standIns := [], harness := (true, "4d9c4bd9a0a1d05f27002b14bd47e004f05b284674bd437c999dd206db7a2840"), looks := false }, kinds := [], alts := [], laidByText := true, laidKinds := [.data, .data], laidTests := true, laidLooks := .later }
def BlockMakesCardSaid : Prop := Claim7.holds Tryz.pinned (.plain (OpenSpec.ofChange blockMakesSpec)) blockMakesCard

/-- THE TIED CARD OF 'munimentlaw09.BlockChecks'. -/
def blockChecksCard : Claim7 := { stood := { row := blockChecksRow, standIns := [], harness := (true, "4d9c4bd9a0a1d05f27002b14bd47e004f05b284674bd437c999dd206db7a2840"), looks := false }, kinds := [], alts := [], laidByText := true, laidKinds := [.data, .data], laidTests := true, laidLooks := .later }
def BlockChecksCardSaid : Prop := Claim7.holds Tryz.pinned (.plain (OpenSpec.ofChange blockChecksSpec)) blockChecksCard

/-- THE TIED CARD OF 'munimentlaw09.BlockNil'. -/
def blockNilCard : Claim7 := { stood := { row := blockNilRow, standIns := [], harness := (true, "4d9c4bd9a0a1d05f27002b14bd47e004f05b284674bd437c999dd206db7a2840"), looks := false }, kinds := [], alts := [], laidByText := true, laidKinds := [.data, .data], laidTests := true, laidLooks := .later }
def BlockNilCardSaid : Prop := Claim7.holds Tryz.pinned (.plain (OpenSpec.ofChange blockNilSpec)) blockNilCard

/-- THE TIED CARD OF 'munimentlaw09.BlockSplits'. -/
def blockSplitsCard : Claim7 := { stood := { row := blockSplitsRow, standIns := [], harness := (true, "4d9c4bd9a0a1d05f27002b14bd47e004f05b284674bd437c999dd206db7a2840"), looks := false }, kinds := [], alts := [], laidByText := true, laidKinds := [.data, .data], laidTests := true, laidLooks := .later }
def BlockSplitsCardSaid : Prop := Claim7.holds Tryz.pinned (.plain (OpenSpec.ofChange blockSplitsSpec)) blockSplitsCard

/-- THE SECOND FORM's CARD OF 'munimentlaw09.BlockMakes'. -/
def blockMakesUptoCard : Claim7 := { stood := { row := blockMakesUptoRow, standIns := [], harness := (true, "4d9c4bd9a0a1d05f27002b14bd47e004f05b284674bd437c999dd206db7a2840"), looks := false }, kinds := [], alts := [], laidByText := true, laidKinds := [.data, .data], laidTests := true, laidLooks := .later }
def BlockMakesUptoCardSaid : Prop := Claim7.holds Tryz.pinned (.plain (OpenSpec.upto blockMakesSpec)) blockMakesUptoCard

/-- THE SECOND FORM's CARD OF 'munimentlaw09.BlockChecks'. -/
def blockChecksUptoCard : Claim7 := { stood := { row := blockChecksUptoRow, standIns := [], harness := (true, "4d9c4bd9a0a1d05f27002b14bd47e004f05b284674bd437c999dd206db7a2840"), looks := false }, kinds := [], alts := [], laidByText := true, laidKinds := [.data, .data], laidTests := true, laidLooks := .later }
def BlockChecksUptoCardSaid : Prop := Claim7.holds Tryz.pinned (.plain (OpenSpec.upto blockChecksSpec)) blockChecksUptoCard

/-- THE SECOND FORM's CARD OF 'munimentlaw09.BlockNil'. -/
def blockNilUptoCard : Claim7 := { stood := { row := blockNilUptoRow, standIns := [], harness := (true, "4d9c4bd9a0a1d05f27002b14bd47e004f05b284674bd437c999dd206db7a2840"), looks := false }, kinds := [], alts := [], laidByText := true, laidKinds := [.data, .data], laidTests := true, laidLooks := .later }
def BlockNilUptoCardSaid : Prop := Claim7.holds Tryz.pinned (.plain (OpenSpec.upto blockNilSpec)) blockNilUptoCard

/-- THE SECOND FORM's CARD OF 'munimentlaw09.BlockSplits'. -/
def blockSplitsUptoCard : Claim7 := { stood := { row := blockSplitsUptoRow, standIns := [], harness := (true, "4d9c4bd9a0a1d05f27002b14bd47e004f05b284674bd437c999dd206db7a2840"), looks := false }, kinds := [], alts := [], laidByText := true, laidKinds := [.data, .data], laidTests := true, laidLooks := .later }
def BlockSplitsUptoCardSaid : Prop := Claim7.holds Tryz.pinned (.plain (OpenSpec.upto blockSplitsSpec)) blockSplitsUptoCard
end Rows
end Go.Proofs.YtjfpfkiccbcedaaGreatDoor
