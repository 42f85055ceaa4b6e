/-
  DERIVED. GIVEN WITH THE SEED: THE CARDS: each row of YtnlhjcfpfapafaaGreatDoorRows.lean that lists a variable, with what it lists TIED to the program's text (the seventh form; the later family's looks); each row that meets fmt, with fmt's text TOLD by the authors' own Lean function (tested against real Go, not proved from fmt's source: count such statements apart). THE CARD IS WHAT COUNTS. Prove the row's statement (the work); the ties are given (YtnlhjcfpfapafaaGreatDoorTie.lean); close each card by the builder's one call (the guide's Derived/Test/ToyasCard.lean, 'card_holds'). Laid BY PROGRAM, IN A SANDBOX (cutbox-door.mjs). By AI agents, Wed Nov 11 2026. No macro, syntax, notation, axiom, sorry.
-/
import Derived.Test.YtnlhjcfpfapafaaGreatDoorRows
import GoSem.ClaimSeven
namespace Go.Proofs.YtnlhjcfpfapafaaGreatDoor
namespace Rows

/-- THE TIED CARD OF 'diapasonlaw05.PolyOf'. -/
def polyOfCard : Claim7 := { stood := { row := polyOfRow, standIns := [], harness := (true, "8c089dd74509cdf1c13a1bc1146efa049376ebfe70fe198da6780040f23d7bd5"), looks := false }, kinds := [], alts := [], laidByText := true, laidKinds := [.data, .data, .data], laidTests := true, laidLooks := .later }
def PolyOfCardSaid : Prop := Claim7.holds Tryz.pinned (.plain (OpenSpec.ofChange polyOfSpec)) polyOfCard

/-- THE TIED CARD OF 'diapasonlaw05.PolyReckons'. -/
def polyReckonsCard : Claim7 := { stood := { row := polyReckonsRow, standIns := [], harness := (true, "8c089dd74509cdf1c13a1bc1146efa049376ebfe70fe198da6780040f23d7bd5"), looks := false }, kinds := [], alts := [], laidByText := true, laidKinds := [.data, .data, .data], laidTests := true, laidLooks := .later }
def PolyReckonsCardSaid : Prop := Claim7.holds Tryz.pinned (.plain (OpenSpec.ofChange polyReckonsSpec)) polyReckonsCard

/-- THE SECOND FORM's CARD OF 'diapasonlaw05.PolyOf'. -/
def polyOfUptoCard : Claim7 := { stood := { row := polyOfUptoRow, standIns := [], harness := (true, "8c089dd74509cdf1c13a1bc1146efa049376ebfe70fe198da6780040f23d7bd5"), looks := false }, kinds := [], alts := [], laidByText := true, laidKinds := [.data, .data, .data], laidTests := true, laidLooks := .later }
def PolyOfUptoCardSaid : Prop := Claim7.holds Tryz.pinned (.plain (OpenSpec.upto polyOfSpec)) polyOfUptoCard

/-- THE SECOND FORM's CARD OF 'diapasonlaw05.PolyReckons'. -/
def polyReckonsUptoCard : Claim7 := { stood := { row := polyReckonsUptoRow, standIns := [], harness := (true, "8c089dd74509cdf1c13a1bc1146efa049376ebfe70fe198da6780040f23d7bd5"), looks := false }, kinds := [], alts := [], laidByText := true, laidKinds := [.data, .data, .data], laidTests := true, laidLooks := .later }
def PolyReckonsUptoCardSaid : Prop := Claim7.holds Tryz.pinned (.plain (OpenSpec.upto polyReckonsSpec)) polyReckonsUptoCard
end Rows
end Go.Proofs.YtnlhjcfpfapafaaGreatDoor
