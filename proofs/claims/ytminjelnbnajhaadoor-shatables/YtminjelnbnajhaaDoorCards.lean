/-
  DERIVED. GIVEN WITH THE SEED: THE CARDS: each row of YtminjelnbnajhaaDoorRows.lean that lists a variable, with what it lists TIED to the program's text (the seventh form; the later family's looks); each row that meets fmt, with fmt's text TOLD by the authors' own Lean function (tested against real Go, not proved from fmt's source: count such statements apart). THE CARD IS WHAT COUNTS. Prove the row's statement (the work); the ties are given (YtminjelnbnajhaaDoorTie.lean); close each card by the builder's one call (the guide's Derived/Test/ToyasCard.lean, 'card_holds'). Laid BY PROGRAM, IN A SANDBOX (cutbox-door.mjs). By AI agents, Wed Nov 11 2026. No macro, syntax, notation, axiom, sorry.
-/
import Derived.Test.YtminjelnbnajhaaDoorRows
import GoSem.ClaimSeven
namespace Go.Proofs.YtminjelnbnajhaaDoor
namespace Rows

/-- THE TIED CARD OF 'munimentlaw01.ShaTables'. -/
def shaTablesCard : Claim7 := { stood := { row := shaTablesRow, standIns := [], harness := (true, "d67cd1a82bd2ed27715885dea7efa218f4cb9d9063e1a2277c0db43ef1bea73c"), looks := false }, kinds := [], alts := [], laidByText := true, laidKinds := [.data, .data], laidTests := true, laidLooks := .later }
def ShaTablesCardSaid : Prop := Claim7.holds Tryd.pinned (.plain (OpenSpec.ofChange shaTablesSpec)) shaTablesCard

/-- THE TIED CARD OF 'munimentlaw02.MacTags'. -/
def macTagsCard : Claim7 := { stood := { row := macTagsRow, standIns := [], harness := (true, "d67cd1a82bd2ed27715885dea7efa218f4cb9d9063e1a2277c0db43ef1bea73c"), looks := false }, kinds := [], alts := [], laidByText := true, laidKinds := [.data, .data], laidTests := true, laidLooks := .later }
def MacTagsCardSaid : Prop := Claim7.holds Tryd.pinned (.plain (OpenSpec.ofChange macTagsSpec)) macTagsCard

/-- THE TIED CARD OF 'munimentlaw02.MacSeals'. -/
def macSealsCard : Claim7 := { stood := { row := macSealsRow, standIns := [], harness := (true, "d67cd1a82bd2ed27715885dea7efa218f4cb9d9063e1a2277c0db43ef1bea73c"), looks := false }, kinds := [], alts := [], laidByText := true, laidKinds := [.data, .data], laidTests := true, laidLooks := .later }
def MacSealsCardSaid : Prop := Claim7.holds Tryd.pinned (.plain (OpenSpec.ofChange macSealsSpec)) macSealsCard

/-- THE TIED CARD OF 'munimentlaw02.MacRings'. -/
def macRingsCard : Claim7 := { stood := { row := macRingsRow, standIns := [], harness := (true, "d67cd1a82bd2ed27715885dea7efa218f4cb9d9063e1a2277c0db43ef1bea73c"), looks := false }, kinds := [], alts := [], laidByText := true, laidKinds := [.data, .data], laidTests := true, laidLooks := .later }
def MacRingsCardSaid : Prop := Claim7.holds Tryd.pinned (.plain (OpenSpec.ofChange macRingsSpec)) macRingsCard

/-- THE TIED CARD OF 'munimentlaw02.MacNil'. -/
def macNilCard : Claim7 := { stood := { row := macNilRow, standIns := [], harness := (true, "d67cd1a82bd2ed27715885dea7efa218f4cb9d9063e1a2277c0db43ef1bea73c"), looks := false }, kinds := [], alts := [], laidByText := true, laidKinds := [.data, .data], laidTests := true, laidLooks := .later }
def MacNilCardSaid : Prop := Claim7.holds Tryd.pinned (.plain (OpenSpec.ofChange macNilSpec)) macNilCard

/-- THE TIED CARD OF 'munimentlaw02.MacLong'. -/
def macLongCard : Claim7 := { stood := { row := macLongRow, standIns := [], harness := (true, "d67cd1a82bd2ed27715885dea7efa218f4cb9d9063e1a2277c0db43ef1bea73c"), looks := false }, kinds := [], alts := [], laidByText := true, laidKinds := [.data, .data], laidTests := true, laidLooks := .later }
def MacLongCardSaid : Prop := Claim7.holds Tryd.pinned (.plain (OpenSpec.ofChange macLongSpec)) macLongCard

/-- THE SECOND FORM's CARD OF 'munimentlaw01.ShaTables'. -/
def shaTablesUptoCard : Claim7 := { stood := { row := shaTablesUptoRow, standIns := [], harness := (true, "d67cd1a82bd2ed27715885dea7efa218f4cb9d9063e1a2277c0db43ef1bea73c"), looks := false }, kinds := [], alts := [], laidByText := true, laidKinds := [.data, .data], laidTests := true, laidLooks := .later }
def ShaTablesUptoCardSaid : Prop := Claim7.holds Tryd.pinned (.plain (OpenSpec.upto shaTablesSpec)) shaTablesUptoCard

/-- THE SECOND FORM's CARD OF 'munimentlaw02.MacTags'. -/
def macTagsUptoCard : Claim7 := { stood := { row := macTagsUptoRow, standIns := [], harness := (true, "d67cd1a82bd2ed27715885dea7efa218f4cb9d9063e1a2277c0db43ef1bea73c"), looks := false }, kinds := [], alts := [], laidByText := true, laidKinds := [.data, .data], laidTests := true, laidLooks := .later }
def MacTagsUptoCardSaid : Prop := Claim7.holds Tryd.pinned (.plain (OpenSpec.upto macTagsSpec)) macTagsUptoCard

/-- THE SECOND FORM's CARD OF 'munimentlaw02.MacSeals'. -/
def macSealsUptoCard : Claim7 := { stood := { row := macSealsUptoRow, standIns := [], harness := (true, "d67cd1a82bd2ed27715885dea7efa218f4cb9d9063e1a2277c0db43ef1bea73c"), looks := false }, kinds := [], alts := [], laidByText := true, laidKinds := [.data, .data], laidTests := true, laidLooks := .later }
def MacSealsUptoCardSaid : Prop := Claim7.holds Tryd.pinned (.plain (OpenSpec.upto macSealsSpec)) macSealsUptoCard

/-- THE SECOND FORM's CARD OF 'munimentlaw02.MacRings'. -/
def macRingsUptoCard : Claim7 := { stood := { row := macRingsUptoRow, standIns := [], harness := (true, "d67cd1a82bd2ed27715885dea7efa218f4cb9d9063e1a2277c0db43ef1bea73c"), looks := false }, kinds := [], alts := [], laidByText := true, laidKinds := [.data, .data], laidTests := true, laidLooks := .later }
def MacRingsUptoCardSaid : Prop := Claim7.holds Tryd.pinned (.plain (OpenSpec.upto macRingsSpec)) macRingsUptoCard

/-- THE SECOND FORM's CARD OF 'munimentlaw02.MacNil'. -/
def macNilUptoCard : Claim7 := { stood := { row := macNilUptoRow, standIns := [], harness := (true, "d67cd1a82bd2ed27715885dea7efa218f4cb9d9063e1a2277c0db43ef1bea73c"), looks := false }, kinds := [], alts := [], laidByText := true, laidKinds := [.data, .data], laidTests := true, laidLooks := .later }
def MacNilUptoCardSaid : Prop := Claim7.holds Tryd.pinned (.plain (OpenSpec.upto macNilSpec)) macNilUptoCard

/-- THE SECOND FORM's CARD OF 'munimentlaw02.MacLong'. -/
def macLongUptoCard : Claim7 := { stood := { row := macLongUptoRow, standIns := [], harness := (true, "d67cd1a82bd2ed27715885dea7efa218f4cb9d9063e1a2277c0db43ef1bea73c"), looks := false }, kinds := [], alts := [], laidByText := true, laidKinds := [.data, .data], laidTests := true, laidLooks := .later }
def MacLongUptoCardSaid : Prop := Claim7.holds Tryd.pinned (.plain (OpenSpec.upto macLongSpec)) macLongUptoCard
end Rows
end Go.Proofs.YtminjelnbnajhaaDoor
