/-
  DERIVED. GIVEN WITH THE SEED: THE CARDS: each row of YtfohcgjkihaepaaDoorRows.lean that lists a variable, with what it lists TIED to the program's text (the seventh form; the later family's looks); each row that meets fmt, with fmt's text TOLD by the authors' own Lean function (tested against real Go, not proved from fmt's source: count such statements apart). THE CARD IS WHAT COUNTS. Prove the row's statement (the work); the ties are given (YtfohcgjkihaepaaDoorTie.lean); close each card by the builder's one call (the guide's Derived/Test/ToyasCard.lean, 'card_holds'). Laid BY PROGRAM, IN A SANDBOX (cutbox-door.mjs). By AI agents, Wed Nov 11 2026. No macro, syntax, notation, axiom, sorry.
-/
import Derived.Test.YtfohcgjkihaepaaDoorRows
import GoSem.ClaimSeven
namespace Go.Proofs.YtfohcgjkihaepaaDoor
namespace Rows

/-- THE TIED CARD OF 'munimentlaw06.TreeProves'. -/
def treeProvesCard : Claim7 := { stood := { row := treeProvesRow, standIns := [], harness := (true, "c5643c7be86a24ec17f09cda1dbcc36663e5e4a525f0df16d110eb5cddf80806"), looks := false }, kinds := [], alts := [], laidByText := true, laidKinds := [.data, .data], laidTests := true, laidLooks := .later }
def TreeProvesCardSaid : Prop := Claim7.holds Tryd.pinned (.plain (OpenSpec.ofChange treeProvesSpec)) treeProvesCard

/-- THE TIED CARD OF 'munimentlaw06.TreeWrong'. -/
def treeWrongCard : Claim7 := { stood := { row := treeWrongRow, standIns := [], harness := (true, "c5643c7be86a24ec17f09cda1dbcc36663e5e4a525f0df16d110eb5cddf80806"), looks := false }, kinds := [], alts := [], laidByText := true, laidKinds := [.data, .data], laidTests := true, laidLooks := .later }
def TreeWrongCardSaid : Prop := Claim7.holds Tryd.pinned (.plain (OpenSpec.ofChange treeWrongSpec)) treeWrongCard

/-- THE TIED CARD OF 'munimentlaw06.TreeTurns'. -/
def treeTurnsCard : Claim7 := { stood := { row := treeTurnsRow, standIns := [], harness := (true, "c5643c7be86a24ec17f09cda1dbcc36663e5e4a525f0df16d110eb5cddf80806"), looks := false }, kinds := [], alts := [], laidByText := true, laidKinds := [.data, .data], laidTests := true, laidLooks := .later }
def TreeTurnsCardSaid : Prop := Claim7.holds Tryd.pinned (.plain (OpenSpec.ofChange treeTurnsSpec)) treeTurnsCard

/-- THE TIED CARD OF 'munimentlaw06.TreeExtracts'. -/
def treeExtractsCard : Claim7 := { stood := { row := treeExtractsRow, standIns := [], harness := (true, "c5643c7be86a24ec17f09cda1dbcc36663e5e4a525f0df16d110eb5cddf80806"), looks := false }, kinds := [], alts := [], laidByText := true, laidKinds := [.data, .data], laidTests := true, laidLooks := .later }
def TreeExtractsCardSaid : Prop := Claim7.holds Tryd.pinned (.plain (OpenSpec.ofChange treeExtractsSpec)) treeExtractsCard

/-- THE TIED CARD OF 'munimentlaw06.TreeShort'. -/
def treeShortCard : Claim7 := { stood := { row := treeShortRow, standIns := [], harness := (true, "c5643c7be86a24ec17f09cda1dbcc36663e5e4a525f0df16d110eb5cddf80806"), looks := false }, kinds := [], alts := [], laidByText := true, laidKinds := [.data, .data], laidTests := true, laidLooks := .later }
def TreeShortCardSaid : Prop := Claim7.holds Tryd.pinned (.plain (OpenSpec.ofChange treeShortSpec)) treeShortCard

/-- THE SECOND FORM's CARD OF 'munimentlaw06.TreeProves'. -/
def treeProvesUptoCard : Claim7 := { stood := { row := treeProvesUptoRow, standIns := [], harness := (true, "c5643c7be86a24ec17f09cda1dbcc36663e5e4a525f0df16d110eb5cddf80806"), looks := false }, kinds := [], alts := [], laidByText := true, laidKinds := [.data, .data], laidTests := true, laidLooks := .later }
def TreeProvesUptoCardSaid : Prop := Claim7.holds Tryd.pinned (.plain (OpenSpec.upto treeProvesSpec)) treeProvesUptoCard

/-- THE SECOND FORM's CARD OF 'munimentlaw06.TreeWrong'. -/
def treeWrongUptoCard : Claim7 := { stood := { row := treeWrongUptoRow, standIns := [], harness := (true, "c5643c7be86a24ec17f09cda1dbcc36663e5e4a525f0df16d110eb5cddf80806"), looks := false }, kinds := [], alts := [], laidByText := true, laidKinds := [.data, .data], laidTests := true, laidLooks := .later }
def TreeWrongUptoCardSaid : Prop := Claim7.holds Tryd.pinned (.plain (OpenSpec.upto treeWrongSpec)) treeWrongUptoCard

/-- THE SECOND FORM's CARD OF 'munimentlaw06.TreeTurns'. -/
def treeTurnsUptoCard : Claim7 := { stood := { row := treeTurnsUptoRow, standIns := [], harness := (true, "c5643c7be86a24ec17f09cda1dbcc36663e5e4a525f0df16d110eb5cddf80806"), looks := false }, kinds := [], alts := [], laidByText := true, laidKinds := [.data, .data], laidTests := true, laidLooks := .later }
def TreeTurnsUptoCardSaid : Prop := Claim7.holds Tryd.pinned (.plain (OpenSpec.upto treeTurnsSpec)) treeTurnsUptoCard

/-- THE SECOND FORM's CARD OF 'munimentlaw06.TreeExtracts'. -/
def treeExtractsUptoCard : Claim7 := { stood := { row := treeExtractsUptoRow, standIns := [], harness := (true, "c5643c7be86a24ec17f09cda1dbcc36663e5e4a525f0df16d110eb5cddf80806"), looks := false }, kinds := [], alts := [], laidByText := true, laidKinds := [.data, .data], laidTests := true, laidLooks := .later }
def TreeExtractsUptoCardSaid : Prop := Claim7.holds Tryd.pinned (.plain (OpenSpec.upto treeExtractsSpec)) treeExtractsUptoCard

/-- THE SECOND FORM's CARD OF 'munimentlaw06.TreeShort'. -/
def treeShortUptoCard : Claim7 := { stood := { row := treeShortUptoRow, standIns := [], harness := (true, "c5643c7be86a24ec17f09cda1dbcc36663e5e4a525f0df16d110eb5cddf80806"), looks := false }, kinds := [], alts := [], laidByText := true, laidKinds := [.data, .data], laidTests := true, laidLooks := .later }
def TreeShortUptoCardSaid : Prop := Claim7.holds Tryd.pinned (.plain (OpenSpec.upto treeShortSpec)) treeShortUptoCard
end Rows
end Go.Proofs.YtfohcgjkihaepaaDoor
