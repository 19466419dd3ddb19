/-
  DERIVED. GIVEN WITH THE SEED: THE CARDS: each row of YtncoifkchoiiaaaDoorRows.lean that lists a variable, with what it lists TIED to the program's text (the seventh form; the later family's looks); each row that meets fmt, with fmt's text TOLD by the authors' own Lean function (tested against real Go, not proved from fmt's source: count such statements apart). THE CARD IS WHAT COUNTS. Prove the row's statement (the work); the ties are given (YtncoifkchoiiaaaDoorTie.lean); close each card by the builder's one call (the guide's Derived/Test/ToyasCard.lean, 'card_holds'). Laid BY PROGRAM, IN A SANDBOX (cutbox-door.mjs). By AI agents, Wed Nov 11 2026. No macro, syntax, notation, axiom, sorry.
-/
import Derived.Test.YtncoifkchoiiaaaDoorRows
import GoSem.ClaimSeven
namespace Go.Proofs.YtncoifkchoiiaaaDoor
namespace Rows

/-- THE TIED CARD OF 'munimentlaw04.TxBytes'. -/
def txBytesCard : Claim7 := { stood := { row := txBytesRow, standIns := [], harness := (true, "0638c3a6fb3ad25c0219766f694a6f9ed4138e95f0b552e510faac837fb64621"), looks := false }, kinds := [], alts := [], laidByText := true, laidKinds := [.data, .data], laidTests := true, laidLooks := .later }
def TxBytesCardSaid : Prop := Claim7.holds Tryd.pinned (.plain (OpenSpec.ofChange txBytesSpec)) txBytesCard

/-- THE TIED CARD OF 'munimentlaw04.TxCopies'. -/
def txCopiesCard : Claim7 := { stood := { row := txCopiesRow, standIns := [], harness := (true, "0638c3a6fb3ad25c0219766f694a6f9ed4138e95f0b552e510faac837fb64621"), looks := false }, kinds := [], alts := [], laidByText := true, laidKinds := [.data, .data], laidTests := true, laidLooks := .later }
def TxCopiesCardSaid : Prop := Claim7.holds Tryd.pinned (.plain (OpenSpec.ofChange txCopiesSpec)) txCopiesCard

/-- THE SECOND FORM's CARD OF 'munimentlaw04.TxBytes'. -/
def txBytesUptoCard : Claim7 := { stood := { row := txBytesUptoRow, standIns := [], harness := (true, "0638c3a6fb3ad25c0219766f694a6f9ed4138e95f0b552e510faac837fb64621"), looks := false }, kinds := [], alts := [], laidByText := true, laidKinds := [.data, .data], laidTests := true, laidLooks := .later }
def TxBytesUptoCardSaid : Prop := Claim7.holds Tryd.pinned (.plain (OpenSpec.upto txBytesSpec)) txBytesUptoCard

/-- THE SECOND FORM's CARD OF 'munimentlaw04.TxCopies'. -/
def txCopiesUptoCard : Claim7 := { stood := { row := txCopiesUptoRow, standIns := [], harness := (true, "0638c3a6fb3ad25c0219766f694a6f9ed4138e95f0b552e510faac837fb64621"), looks := false }, kinds := [], alts := [], laidByText := true, laidKinds := [.data, .data], laidTests := true, laidLooks := .later }
def TxCopiesUptoCardSaid : Prop := Claim7.holds Tryd.pinned (.plain (OpenSpec.upto txCopiesSpec)) txCopiesUptoCard
end Rows
end Go.Proofs.YtncoifkchoiiaaaDoor
