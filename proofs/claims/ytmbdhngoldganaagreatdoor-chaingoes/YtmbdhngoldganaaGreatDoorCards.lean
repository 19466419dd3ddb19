/-
  DERIVED. GIVEN WITH THE SEED: THE CARDS: each row of YtmbdhngoldganaaGreatDoorRows.lean that lists a variable, with what it lists TIED to the program's text (the seventh form; the later family's looks); each row that meets fmt, with fmt's text TOLD by the authors' own Lean function (tested against real Go, not proved from fmt's source: count such statements apart). THE CARD IS WHAT COUNTS. Prove the row's statement (the work); the ties are given (YtmbdhngoldganaaGreatDoorTie.lean); close each card by the builder's one call (the guide's Derived/Test/ToyasCard.lean, 'card_holds'). Laid BY PROGRAM, IN A SANDBOX (cutbox-door.mjs). By AI agents, Wed Nov 11 2026. No macro, syntax, notation, axiom, sorry.
-/
import Derived.Test.YtmbdhngoldganaaGreatDoorRows
import GoSem.ClaimSeven
namespace Go.Proofs.YtmbdhngoldganaaGreatDoor
namespace Rows

/-- THE TIED CARD OF 'munimentlaw10.ChainSnaps'. -/
def chainSnapsCard : Claim7 := { stood := { row := chainSnapsRow, standIns := [], harness := (true, "6fdc4d99b8ba02c22a4be4a7a7c6769339603fe1b55b7eef69d7d326c76bd50f"), looks := false }, kinds := [], alts := [], laidByText := true, laidKinds := [.data, .data], laidTests := true, laidLooks := .later }
def ChainSnapsCardSaid : Prop := Claim7.holds Tryz.pinned (.plain (OpenSpec.ofChange chainSnapsSpec)) chainSnapsCard

/-- THE TIED CARD OF 'munimentlaw10.ChainReads'. -/
def chainReadsCard : Claim7 := { stood := { row := chainReadsRow, standIns := [], harness := (true, "6fdc4d99b8ba02c22a4be4a7a7c6769339603fe1b55b7eef69d7d326c76bd50f"), looks := false }, kinds := [], alts := [], laidByText := true, laidKinds := [.data, .data], laidTests := true, laidLooks := .later }
def ChainReadsCardSaid : Prop := Claim7.holds Tryz.pinned (.plain (OpenSpec.ofChange chainReadsSpec)) chainReadsCard

/-- THE TIED CARD OF 'munimentlaw10.ChainCuts'. -/
def chainCutsCard : Claim7 := { stood := { row := chainCutsRow, standIns := [], harness := (true, "6fdc4d99b8ba02c22a4be4a7a7c6769339603fe1b55b7eef69d7d326c76bd50f"), looks := false }, kinds := [], alts := [], laidByText := true, laidKinds := [.data, .data], laidTests := true, laidLooks := .later }
def ChainCutsCardSaid : Prop := Claim7.holds Tryz.pinned (.plain (OpenSpec.ofChange chainCutsSpec)) chainCutsCard

/-- THE TIED CARD OF 'munimentlaw10.ChainNil'. -/
def chainNilCard : Claim7 := { stood := { row := chainNilRow, standIns := [], harness := (true, "6fdc4d99b8ba02c22a4be4a7a7c6769339603fe1b55b7eef69d7d326c76bd50f"), looks := false }, kinds := [], alts := [], laidByText := true, laidKinds := [.data, .data], laidTests := true, laidLooks := .later }
def ChainNilCardSaid : Prop := Claim7.holds Tryz.pinned (.plain (OpenSpec.ofChange chainNilSpec)) chainNilCard

/-- THE TIED CARD OF 'munimentlaw10.ChainNames'. -/
def chainNamesCard : Claim7 := { stood := { row := chainNamesRow, standIns := [], harness := (true, "6fdc4d99b8ba02c22a4be4a7a7c6769339603fe1b55b7eef69d7d326c76bd50f"), looks := false }, kinds := [], alts := [], laidByText := true, laidKinds := [.data, .data], laidTests := true, laidLooks := .later }
def ChainNamesCardSaid : Prop := Claim7.holds Tryz.pinned (.plain (OpenSpec.ofChange chainNamesSpec)) chainNamesCard

/-- THE TIED CARD OF 'munimentlaw10.ChainGoes'. -/
def chainGoesCard : Claim7 := { stood := { row := chainGoesRow, standIns := [], harness := (true, "6fdc4d99b8ba02c22a4be4a7a7c6769339603fe1b55b7eef69d7d326c76bd50f"), looks := false }, kinds := [], alts := [], laidByText := true, laidKinds := [.data, .data], laidTests := true, laidLooks := .later }
def ChainGoesCardSaid : Prop := Claim7.holds Tryz.pinned (.plain (OpenSpec.ofChange chainGoesSpec)) chainGoesCard

/-- THE SECOND FORM's CARD OF 'munimentlaw10.ChainSnaps'. -/
def chainSnapsUptoCard : Claim7 := { stood := { row := chainSnapsUptoRow, standIns := [], harness := (true, "6fdc4d99b8ba02c22a4be4a7a7c6769339603fe1b55b7eef69d7d326c76bd50f"), looks := false }, kinds := [], alts := [], laidByText := true, laidKinds := [.data, .data], laidTests := true, laidLooks := .later }
def ChainSnapsUptoCardSaid : Prop := Claim7.holds Tryz.pinned (.plain (OpenSpec.upto chainSnapsSpec)) chainSnapsUptoCard

/-- THE SECOND FORM's CARD OF 'munimentlaw10.ChainReads'. -/
def chainReadsUptoCard : Claim7 := { stood := { row := chainReadsUptoRow, standIns := [], harness := (true, "6fdc4d99b8ba02c22a4be4a7a7c6769339603fe1b55b7eef69d7d326c76bd50f"), looks := false }, kinds := [], alts := [], laidByText := true, laidKinds := [.data, .data], laidTests := true, laidLooks := .later }
def ChainReadsUptoCardSaid : Prop := Claim7.holds Tryz.pinned (.plain (OpenSpec.upto chainReadsSpec)) chainReadsUptoCard

/-- THE SECOND FORM's CARD OF 'munimentlaw10.ChainCuts'. -/
def chainCutsUptoCard : Claim7 := { stood := { row := chainCutsUptoRow, standIns := [], harness := (true, "6fdc4d99b8ba02c22a4be4a7a7c6769339603fe1b55b7eef69d7d326c76bd50f"), looks := false }, kinds := [], alts := [], laidByText := true, laidKinds := [.data, .data], laidTests := true, laidLooks := .later }
def ChainCutsUptoCardSaid : Prop := Claim7.holds Tryz.pinned (.plain (OpenSpec.upto chainCutsSpec)) chainCutsUptoCard

/-- THE SECOND FORM's CARD OF 'munimentlaw10.ChainNil'. -/
def chainNilUptoCard : Claim7 := { stood := { row := chainNilUptoRow, standIns := [], harness := (true, "6fdc4d99b8ba02c22a4be4a7a7c6769339603fe1b55b7eef69d7d326c76bd50f"), looks := false }, kinds := [], alts := [], laidByText := true, laidKinds := [.data, .data], laidTests := true, laidLooks := .later }
def ChainNilUptoCardSaid : Prop := Claim7.holds Tryz.pinned (.plain (OpenSpec.upto chainNilSpec)) chainNilUptoCard

/-- THE SECOND FORM's CARD OF 'munimentlaw10.ChainNames'. -/
def chainNamesUptoCard : Claim7 := { stood := { row := chainNamesUptoRow, standIns := [], harness := (true, "6fdc4d99b8ba02c22a4be4a7a7c6769339603fe1b55b7eef69d7d326c76bd50f"), looks := false }, kinds := [], alts := [], laidByText := true, laidKinds := [.data, .data], laidTests := true, laidLooks := .later }
def ChainNamesUptoCardSaid : Prop := Claim7.holds Tryz.pinned (.plain (OpenSpec.upto chainNamesSpec)) chainNamesUptoCard

/-- THE SECOND FORM's CARD OF 'munimentlaw10.ChainGoes'. -/
def chainGoesUptoCard : Claim7 := { stood := { row := chainGoesUptoRow, standIns := [], harness := (true, "6fdc4d99b8ba02c22a4be4a7a7c6769339603fe1b55b7eef69d7d326c76bd50f"), looks := false }, kinds := [], alts := [], laidByText := true, laidKinds := [.data, .data], laidTests := true, laidLooks := .later }
def ChainGoesUptoCardSaid : Prop := Claim7.holds Tryz.pinned (.plain (OpenSpec.upto chainGoesSpec)) chainGoesUptoCard
end Rows
end Go.Proofs.YtmbdhngoldganaaGreatDoor
