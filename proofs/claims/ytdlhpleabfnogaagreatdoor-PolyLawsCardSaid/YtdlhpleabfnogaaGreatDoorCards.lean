/-
  DERIVED. GIVEN WITH THE SEED: THE CARDS: each row of YtdlhpleabfnogaaGreatDoorRows.lean that lists a variable, with what it lists TIED to the program's text (the seventh form; the later family's looks); each row that meets fmt, with fmt's text TOLD by the authors' own Lean function (tested against real Go, not proved from fmt's source: count such statements apart). THE CARD IS WHAT COUNTS. Prove the row's statement (the work); the ties are given (YtdlhpleabfnogaaGreatDoorTie.lean); close each card by the builder's one call (the guide's Derived/Test/ToyasCard.lean, 'card_holds'). Laid BY PROGRAM, IN A SANDBOX (cutbox-door.mjs). By AI agents, Wed Nov 11 2026. No macro, syntax, notation, axiom, sorry.
-/
import Derived.Test.YtdlhpleabfnogaaGreatDoorRows
import GoSem.ClaimSeven
namespace Go.Proofs.YtdlhpleabfnogaaGreatDoor
namespace Rows

/-- THE TIED CARD OF 'diapasonlaw05.PolyOf'. -/
def polyOfCard : Claim7 := { stood := { row := polyOfRow, standIns := [], harness := (true, "b13cd94c51eefc6c71299b76400d8e7dbad71a25cdd6d8d04874f14aa5a4dccb"), looks := false }, kinds := [], alts := [], laidByText := true, laidKinds := [.data, .data, .data], laidTests := true, laidLooks := .later }
def PolyOfCardSaid : Prop := Claim7.holds Tryz.pinned (.plain (OpenSpec.ofChange polyOfSpec)) polyOfCard

/-- THE TIED CARD OF 'diapasonlaw05.PolyLaws'. -/
def polyLawsCard : Claim7 := { stood := { row := polyLawsRow, standIns := [], harness := (true, "b13cd94c51eefc6c71299b76400d8e7dbad71a25cdd6d8d04874f14aa5a4dccb"), looks := false }, kinds := [], alts := [], laidByText := true, laidKinds := [.data, .data, .data], laidTests := true, laidLooks := .later }
def PolyLawsCardSaid : Prop := Claim7.holds Tryz.pinned (.plain (OpenSpec.ofChange polyLawsSpec)) polyLawsCard

/-- THE TIED CARD OF 'diapasonlaw05.PolyTurns'. -/
def polyTurnsCard : Claim7 := { stood := { row := polyTurnsRow, standIns := [], harness := (true, "b13cd94c51eefc6c71299b76400d8e7dbad71a25cdd6d8d04874f14aa5a4dccb"), looks := false }, kinds := [], alts := [], laidByText := true, laidKinds := [.data, .data, .data], laidTests := true, laidLooks := .later }
def PolyTurnsCardSaid : Prop := Claim7.holds Tryz.pinned (.plain (OpenSpec.ofChange polyTurnsSpec)) polyTurnsCard

/-- THE TIED CARD OF 'diapasonlaw11.HeardKnown'. -/
def heardKnownCard : Claim7 := { stood := { row := heardKnownRow, standIns := [], harness := (true, "b13cd94c51eefc6c71299b76400d8e7dbad71a25cdd6d8d04874f14aa5a4dccb"), looks := false }, kinds := [], alts := [], laidByText := true, laidKinds := [.data], laidTests := true, laidLooks := .later }
def HeardKnownCardSaid : Prop := Claim7.holds Tryz.pinned (.plain (OpenSpec.ofChange heardKnownSpec)) heardKnownCard

/-- THE SECOND FORM's CARD OF 'diapasonlaw05.PolyOf'. -/
def polyOfUptoCard : Claim7 := { stood := { row := polyOfUptoRow, standIns := [], harness := (true, "b13cd94c51eefc6c71299b76400d8e7dbad71a25cdd6d8d04874f14aa5a4dccb"), looks := false }, kinds := [], alts := [], laidByText := true, laidKinds := [.data, .data, .data], laidTests := true, laidLooks := .later }
def PolyOfUptoCardSaid : Prop := Claim7.holds Tryz.pinned (.plain (OpenSpec.upto polyOfSpec)) polyOfUptoCard

/-- THE SECOND FORM's CARD OF 'diapasonlaw05.PolyLaws'. -/
def polyLawsUptoCard : Claim7 := { stood := { row := polyLawsUptoRow, standIns := [], harness := (true, "b13cd94c51eefc6c71299b76400d8e7dbad71a25cdd6d8d04874f14aa5a4dccb"), looks := false }, kinds := [], alts := [], laidByText := true, laidKinds := [.data, .data, .data], laidTests := true, laidLooks := .later }
def PolyLawsUptoCardSaid : Prop := Claim7.holds Tryz.pinned (.plain (OpenSpec.upto polyLawsSpec)) polyLawsUptoCard

/-- THE SECOND FORM's CARD OF 'diapasonlaw05.PolyTurns'. -/
def polyTurnsUptoCard : Claim7 := { stood := { row := polyTurnsUptoRow, standIns := [], harness := (true, "b13cd94c51eefc6c71299b76400d8e7dbad71a25cdd6d8d04874f14aa5a4dccb"), looks := false }, kinds := [], alts := [], laidByText := true, laidKinds := [.data, .data, .data], laidTests := true, laidLooks := .later }
def PolyTurnsUptoCardSaid : Prop := Claim7.holds Tryz.pinned (.plain (OpenSpec.upto polyTurnsSpec)) polyTurnsUptoCard

/-- THE SECOND FORM's CARD OF 'diapasonlaw11.HeardKnown'. -/
def heardKnownUptoCard : Claim7 := { stood := { row := heardKnownUptoRow, standIns := [], harness := (true, "b13cd94c51eefc6c71299b76400d8e7dbad71a25cdd6d8d04874f14aa5a4dccb"), looks := false }, kinds := [], alts := [], laidByText := true, laidKinds := [.data], laidTests := true, laidLooks := .later }
def HeardKnownUptoCardSaid : Prop := Claim7.holds Tryz.pinned (.plain (OpenSpec.upto heardKnownSpec)) heardKnownUptoCard
end Rows
end Go.Proofs.YtdlhpleabfnogaaGreatDoor
