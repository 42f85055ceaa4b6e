/-
  DERIVED. GIVEN WITH THE SEED: THE CARDS: each row of YtepnghhgmjobjaaGreatDoorRows.lean that lists a variable, with what it lists TIED to the program's text (the seventh form; the later family's looks); each row that meets fmt, with fmt's text TOLD by the authors' own Lean function (tested against real Go, not proved from fmt's source: count such statements apart). THE CARD IS WHAT COUNTS. Prove the row's statement (the work); the ties are given (YtepnghhgmjobjaaGreatDoorTie.lean); close each card by the builder's one call (the guide's Derived/Test/ToyasCard.lean, 'card_holds'). Laid BY PROGRAM, IN A SANDBOX (cutbox-door.mjs). By AI agents, Wed Nov 11 2026. No macro, syntax, notation, axiom, sorry.
-/
import Derived.Test.YtepnghhgmjobjaaGreatDoorRows
import GoSem.ClaimSeven
namespace Go.Proofs.YtepnghhgmjobjaaGreatDoor
namespace Rows

/-- THE TIED CARD OF 'diapasonlaw02.GaussKnown'. -/
def gaussKnownCard : Claim7 := { stood := { row := gaussKnownRow, standIns := [], harness := (true, "c747b79b9f1a43fe4c34757cd8e5e2d31f120ab8e01a8c8bfa0c84ed34aa119a"), looks := false }, kinds := [], alts := [], laidByText := true, laidKinds := [.data, .data, .data, .data, .pinned], laidTests := true, laidLooks := .later }
def GaussKnownCardSaid : Prop := Claim7.holds Tryz.pinned (.plain (OpenSpec.ofChange gaussKnownSpec)) gaussKnownCard

/-- THE TIED CARD OF 'diapasonlaw02.GaussWholes'. -/
def gaussWholesCard : Claim7 := { stood := { row := gaussWholesRow, standIns := [], harness := (true, "c747b79b9f1a43fe4c34757cd8e5e2d31f120ab8e01a8c8bfa0c84ed34aa119a"), looks := false }, kinds := [], alts := [], laidByText := true, laidKinds := [.data, .data, .data, .data, .pinned], laidTests := true, laidLooks := .later }
def GaussWholesCardSaid : Prop := Claim7.holds Tryz.pinned (.plain (OpenSpec.ofChange gaussWholesSpec)) gaussWholesCard

/-- THE TIED CARD OF 'diapasonlaw02.GaussPrints'. -/
def gaussPrintsCard : Claim7 := { stood := { row := gaussPrintsRow, standIns := [], harness := (true, "c747b79b9f1a43fe4c34757cd8e5e2d31f120ab8e01a8c8bfa0c84ed34aa119a"), looks := false }, kinds := [], alts := [], laidByText := true, laidKinds := [.data, .data, .data, .data, .pinned], laidTests := true, laidLooks := .later }
def GaussPrintsCardSaid : Prop := Claim7.holds Tryz.pinned (.plain (OpenSpec.ofChange gaussPrintsSpec)) gaussPrintsCard

/-- THE TIED CARD OF 'diapasonlaw02.GaussBack'. -/
def gaussBackCard : Claim7 := { stood := { row := gaussBackRow, standIns := [], harness := (true, "c747b79b9f1a43fe4c34757cd8e5e2d31f120ab8e01a8c8bfa0c84ed34aa119a"), looks := false }, kinds := [], alts := [], laidByText := true, laidKinds := [.data, .data, .data, .data, .pinned], laidTests := true, laidLooks := .later }
def GaussBackCardSaid : Prop := Claim7.holds Tryz.pinned (.plain (OpenSpec.ofChange gaussBackSpec)) gaussBackCard

/-- THE TIED CARD OF 'diapasonlaw01.RatioBetween'. -/
def ratioBetweenCard : Claim7 := { stood := { row := ratioBetweenRow, standIns := [], harness := (true, "c747b79b9f1a43fe4c34757cd8e5e2d31f120ab8e01a8c8bfa0c84ed34aa119a"), looks := false }, kinds := [], alts := [], laidByText := true, laidKinds := [.data, .data, .data], laidTests := true, laidLooks := .later }
def RatioBetweenCardSaid : Prop := Claim7.holds Tryz.pinned (.plain (OpenSpec.ofChange ratioBetweenSpec)) ratioBetweenCard

/-- THE TIED CARD OF 'diapasonlaw07.TurnKnown'. -/
def turnKnownCard : Claim7 := { stood := { row := turnKnownRow, standIns := [], harness := (true, "c747b79b9f1a43fe4c34757cd8e5e2d31f120ab8e01a8c8bfa0c84ed34aa119a"), looks := false }, kinds := [], alts := [], laidByText := true, laidKinds := [.data, .data, .data], laidTests := true, laidLooks := .later }
def TurnKnownCardSaid : Prop := Claim7.holds Tryz.pinned (.plain (OpenSpec.ofChange turnKnownSpec)) turnKnownCard

/-- THE SECOND FORM's CARD OF 'diapasonlaw02.GaussKnown'. -/
def gaussKnownUptoCard : Claim7 := { stood := { row := gaussKnownUptoRow, standIns := [], harness := (true, "c747b79b9f1a43fe4c34757cd8e5e2d31f120ab8e01a8c8bfa0c84ed34aa119a"), looks := false }, kinds := [], alts := [], laidByText := true, laidKinds := [.data, .data, .data, .data, .pinned], laidTests := true, laidLooks := .later }
def GaussKnownUptoCardSaid : Prop := Claim7.holds Tryz.pinned (.plain (OpenSpec.upto gaussKnownSpec)) gaussKnownUptoCard

/-- THE SECOND FORM's CARD OF 'diapasonlaw02.GaussWholes'. -/
def gaussWholesUptoCard : Claim7 := { stood := { row := gaussWholesUptoRow, standIns := [], harness := (true, "c747b79b9f1a43fe4c34757cd8e5e2d31f120ab8e01a8c8bfa0c84ed34aa119a"), looks := false }, kinds := [], alts := [], laidByText := true, laidKinds := [.data, .data, .data, .data, .pinned], laidTests := true, laidLooks := .later }
def GaussWholesUptoCardSaid : Prop := Claim7.holds Tryz.pinned (.plain (OpenSpec.upto gaussWholesSpec)) gaussWholesUptoCard

/-- THE SECOND FORM's CARD OF 'diapasonlaw02.GaussPrints'. -/
def gaussPrintsUptoCard : Claim7 := { stood := { row := gaussPrintsUptoRow, standIns := [], harness := (true, "c747b79b9f1a43fe4c34757cd8e5e2d31f120ab8e01a8c8bfa0c84ed34aa119a"), looks := false }, kinds := [], alts := [], laidByText := true, laidKinds := [.data, .data, .data, .data, .pinned], laidTests := true, laidLooks := .later }
def GaussPrintsUptoCardSaid : Prop := Claim7.holds Tryz.pinned (.plain (OpenSpec.upto gaussPrintsSpec)) gaussPrintsUptoCard

/-- THE SECOND FORM's CARD OF 'diapasonlaw02.GaussBack'. -/
def gaussBackUptoCard : Claim7 := { stood := { row := gaussBackUptoRow, standIns := [], harness := (true, "c747b79b9f1a43fe4c34757cd8e5e2d31f120ab8e01a8c8bfa0c84ed34aa119a"), looks := false }, kinds := [], alts := [], laidByText := true, laidKinds := [.data, .data, .data, .data, .pinned], laidTests := true, laidLooks := .later }
def GaussBackUptoCardSaid : Prop := Claim7.holds Tryz.pinned (.plain (OpenSpec.upto gaussBackSpec)) gaussBackUptoCard

/-- THE SECOND FORM's CARD OF 'diapasonlaw01.RatioBetween'. -/
def ratioBetweenUptoCard : Claim7 := { stood := { row := ratioBetweenUptoRow, standIns := [], harness := (true, "c747b79b9f1a43fe4c34757cd8e5e2d31f120ab8e01a8c8bfa0c84ed34aa119a"), looks := false }, kinds := [], alts := [], laidByText := true, laidKinds := [.data, .data, .data], laidTests := true, laidLooks := .later }
def RatioBetweenUptoCardSaid : Prop := Claim7.holds Tryz.pinned (.plain (OpenSpec.upto ratioBetweenSpec)) ratioBetweenUptoCard

/-- THE SECOND FORM's CARD OF 'diapasonlaw07.TurnKnown'. -/
def turnKnownUptoCard : Claim7 := { stood := { row := turnKnownUptoRow, standIns := [], harness := (true, "c747b79b9f1a43fe4c34757cd8e5e2d31f120ab8e01a8c8bfa0c84ed34aa119a"), looks := false }, kinds := [], alts := [], laidByText := true, laidKinds := [.data, .data, .data], laidTests := true, laidLooks := .later }
def TurnKnownUptoCardSaid : Prop := Claim7.holds Tryz.pinned (.plain (OpenSpec.upto turnKnownSpec)) turnKnownUptoCard
end Rows
end Go.Proofs.YtepnghhgmjobjaaGreatDoor
