/-
  DERIVED. GIVEN WITH THE SEED: THE CARDS: each row of YthighfdjlbkefaaDoorRows.lean that lists a variable, with what it lists TIED to the program's text (the seventh form; the later family's looks); each row that meets fmt, with fmt's text TOLD by the authors' own Lean function (tested against real Go, not proved from fmt's source: count such statements apart). THE CARD IS WHAT COUNTS. Prove the row's statement (the work); the ties are given (YthighfdjlbkefaaDoorTie.lean); close each card by the builder's one call (the guide's Derived/Test/ToyasCard.lean, 'card_holds'). Laid BY PROGRAM, IN A SANDBOX (cutbox-door.mjs). By AI agents, Wed Nov 11 2026. No macro, syntax, notation, axiom, sorry.
-/
import Derived.Test.YthighfdjlbkefaaDoorRows
import GoSem.ClaimSeven
namespace Go.Proofs.YthighfdjlbkefaaDoor
namespace Rows

/-- THE TIED CARD OF 'munimentlaw01.ShaSums'. -/
def shaSumsCard : Claim7 := { stood := { row := shaSumsRow, standIns := [], harness := (true, "40dcaf62929bcbe69e4b9821570750a83234c182b870f5a761ec4cc6bf249325"), looks := false }, kinds := [], alts := [], laidByText := true, laidKinds := [.data, .data], laidTests := true, laidLooks := .later }
def ShaSumsCardSaid : Prop := Claim7.holds Tryd.pinned (.plain (OpenSpec.ofChange shaSumsSpec)) shaSumsCard

/-- THE TIED CARD OF 'munimentlaw01.ShaPieces'. -/
def shaPiecesCard : Claim7 := { stood := { row := shaPiecesRow, standIns := [], harness := (true, "40dcaf62929bcbe69e4b9821570750a83234c182b870f5a761ec4cc6bf249325"), looks := false }, kinds := [], alts := [], laidByText := true, laidKinds := [.data, .data], laidTests := true, laidLooks := .later }
def ShaPiecesCardSaid : Prop := Claim7.holds Tryd.pinned (.plain (OpenSpec.ofChange shaPiecesSpec)) shaPiecesCard

/-- THE TIED CARD OF 'munimentlaw01.ShaPurposes'. -/
def shaPurposesCard : Claim7 := { stood := { row := shaPurposesRow, standIns := [], harness := (true, "40dcaf62929bcbe69e4b9821570750a83234c182b870f5a761ec4cc6bf249325"), looks := false }, kinds := [], alts := [], laidByText := true, laidKinds := [.data, .data], laidTests := true, laidLooks := .later }
def ShaPurposesCardSaid : Prop := Claim7.holds Tryd.pinned (.plain (OpenSpec.ofChange shaPurposesSpec)) shaPurposesCard

/-- THE TIED CARD OF 'munimentlaw01.ShaSame'. -/
def shaSameCard : Claim7 := { stood := { row := shaSameRow, standIns := [], harness := (true, "40dcaf62929bcbe69e4b9821570750a83234c182b870f5a761ec4cc6bf249325"), looks := false }, kinds := [], alts := [], laidByText := true, laidKinds := [.data, .data], laidTests := true, laidLooks := .later }
def ShaSameCardSaid : Prop := Claim7.holds Tryd.pinned (.plain (OpenSpec.ofChange shaSameSpec)) shaSameCard

/-- THE TIED CARD OF 'munimentlaw01.ShaTables'. -/
def shaTablesCard : Claim7 := { stood := { row := shaTablesRow, standIns := [], harness := (true, "40dcaf62929bcbe69e4b9821570750a83234c182b870f5a761ec4cc6bf249325"), looks := false }, kinds := [], alts := [], laidByText := true, laidKinds := [.data, .data], laidTests := true, laidLooks := .later }
def ShaTablesCardSaid : Prop := Claim7.holds Tryd.pinned (.plain (OpenSpec.ofChange shaTablesSpec)) shaTablesCard

/-- THE SECOND FORM's CARD OF 'munimentlaw01.ShaSums'. -/
def shaSumsUptoCard : Claim7 := { stood := { row := shaSumsUptoRow, standIns := [], harness := (true, "40dcaf62929bcbe69e4b9821570750a83234c182b870f5a761ec4cc6bf249325"), looks := false }, kinds := [], alts := [], laidByText := true, laidKinds := [.data, .data], laidTests := true, laidLooks := .later }
def ShaSumsUptoCardSaid : Prop := Claim7.holds Tryd.pinned (.plain (OpenSpec.upto shaSumsSpec)) shaSumsUptoCard

/-- THE SECOND FORM's CARD OF 'munimentlaw01.ShaPieces'. -/
def shaPiecesUptoCard : Claim7 := { stood := { row := shaPiecesUptoRow, standIns := [], harness := (true, "40dcaf62929bcbe69e4b9821570750a83234c182b870f5a761ec4cc6bf249325"), looks := false }, kinds := [], alts := [], laidByText := true, laidKinds := [.data, .data], laidTests := true, laidLooks := .later }
def ShaPiecesUptoCardSaid : Prop := Claim7.holds Tryd.pinned (.plain (OpenSpec.upto shaPiecesSpec)) shaPiecesUptoCard

/-- THE SECOND FORM's CARD OF 'munimentlaw01.ShaPurposes'. -/
def shaPurposesUptoCard : Claim7 := { stood := { row := shaPurposesUptoRow, standIns := [], harness := (true, "40dcaf62929bcbe69e4b9821570750a83234c182b870f5a761ec4cc6bf249325"), looks := false }, kinds := [], alts := [], laidByText := true, laidKinds := [.data, .data], laidTests := true, laidLooks := .later }
def ShaPurposesUptoCardSaid : Prop := Claim7.holds Tryd.pinned (.plain (OpenSpec.upto shaPurposesSpec)) shaPurposesUptoCard

/-- THE SECOND FORM's CARD OF 'munimentlaw01.ShaSame'. -/
def shaSameUptoCard : Claim7 := { stood := { row := shaSameUptoRow, standIns := [], harness := (true, "40dcaf62929bcbe69e4b9821570750a83234c182b870f5a761ec4cc6bf249325"), looks := false }, kinds := [], alts := [], laidByText := true, laidKinds := [.data, .data], laidTests := true, laidLooks := .later }
def ShaSameUptoCardSaid : Prop := Claim7.holds Tryd.pinned (.plain (OpenSpec.upto shaSameSpec)) shaSameUptoCard

/-- THE SECOND FORM's CARD OF 'munimentlaw01.ShaTables'. -/
def shaTablesUptoCard : Claim7 := { stood := { row := shaTablesUptoRow, standIns := [], harness := (true, "40dcaf62929bcbe69e4b9821570750a83234c182b870f5a761ec4cc6bf249325"), looks := false }, kinds := [], alts := [], laidByText := true, laidKinds := [.data, .data], laidTests := true, laidLooks := .later }
def ShaTablesUptoCardSaid : Prop := Claim7.holds Tryd.pinned (.plain (OpenSpec.upto shaTablesSpec)) shaTablesUptoCard
end Rows
end Go.Proofs.YthighfdjlbkefaaDoor
