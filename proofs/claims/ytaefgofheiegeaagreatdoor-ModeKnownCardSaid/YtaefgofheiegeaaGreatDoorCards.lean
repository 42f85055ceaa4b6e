/-
  DERIVED. GIVEN WITH THE SEED: THE CARDS: each row of YtaefgofheiegeaaGreatDoorRows.lean that lists a variable, with what it lists TIED to the program's text (the seventh form; the later family's looks); each row that meets fmt, with fmt's text TOLD by the authors' own Lean function (tested against real Go, not proved from fmt's source: count such statements apart). THE CARD IS WHAT COUNTS. Prove the row's statement (the work); the ties are given (YtaefgofheiegeaaGreatDoorTie.lean); close each card by the builder's one call (the guide's Derived/Test/ToyasCard.lean, 'card_holds'). Laid BY PROGRAM, IN A SANDBOX (cutbox-door.mjs). By AI agents, Wed Nov 11 2026. No macro, syntax, notation, axiom, sorry.
-/
import Derived.Test.YtaefgofheiegeaaGreatDoorRows
import GoSem.ClaimSeven
namespace Go.Proofs.YtaefgofheiegeaaGreatDoor
namespace Rows

/-- THE TIED CARD OF 'diapasonlaw12.ModeKnown'. -/
def modeKnownCard : Claim7 := { stood := { row := modeKnownRow, standIns := [], harness := (true, "4f8f203578a46b58bda83439f9902ee0c0b740aabc30ddc4abcef7583a030005"), looks := false }, kinds := [], alts := [], laidByText := true, laidKinds := [.data, .data], laidTests := true, laidLooks := .later }
def ModeKnownCardSaid : Prop := Claim7.holds Tryz.pinned (.plain (OpenSpec.ofChange modeKnownSpec)) modeKnownCard

/-- THE TIED CARD OF 'diapasonlaw08.SchurBack'. -/
def schurBackCard : Claim7 := { stood := { row := schurBackRow, standIns := [], harness := (true, "4f8f203578a46b58bda83439f9902ee0c0b740aabc30ddc4abcef7583a030005"), looks := false }, kinds := [], alts := [], laidByText := true, laidKinds := [.data, .data], laidTests := true, laidLooks := .later }
def SchurBackCardSaid : Prop := Claim7.holds Tryz.pinned (.plain (OpenSpec.ofChange schurBackSpec)) schurBackCard

/-- THE TIED CARD OF 'diapasonlaw11.HeardAgain'. -/
def heardAgainCard : Claim7 := { stood := { row := heardAgainRow, standIns := [], harness := (true, "4f8f203578a46b58bda83439f9902ee0c0b740aabc30ddc4abcef7583a030005"), looks := false }, kinds := [], alts := [], laidByText := true, laidKinds := [.data], laidTests := true, laidLooks := .later }
def HeardAgainCardSaid : Prop := Claim7.holds Tryz.pinned (.plain (OpenSpec.ofChange heardAgainSpec)) heardAgainCard

/-- THE SECOND FORM's CARD OF 'diapasonlaw12.ModeKnown'. -/
def modeKnownUptoCard : Claim7 := { stood := { row := modeKnownUptoRow, standIns := [], harness := (true, "4f8f203578a46b58bda83439f9902ee0c0b740aabc30ddc4abcef7583a030005"), looks := false }, kinds := [], alts := [], laidByText := true, laidKinds := [.data, .data], laidTests := true, laidLooks := .later }
def ModeKnownUptoCardSaid : Prop := Claim7.holds Tryz.pinned (.plain (OpenSpec.upto modeKnownSpec)) modeKnownUptoCard

/-- THE SECOND FORM's CARD OF 'diapasonlaw08.SchurBack'. -/
def schurBackUptoCard : Claim7 := { stood := { row := schurBackUptoRow, standIns := [], harness := (true, "4f8f203578a46b58bda83439f9902ee0c0b740aabc30ddc4abcef7583a030005"), looks := false }, kinds := [], alts := [], laidByText := true, laidKinds := [.data, .data], laidTests := true, laidLooks := .later }
def SchurBackUptoCardSaid : Prop := Claim7.holds Tryz.pinned (.plain (OpenSpec.upto schurBackSpec)) schurBackUptoCard

/-- THE SECOND FORM's CARD OF 'diapasonlaw11.HeardAgain'. -/
def heardAgainUptoCard : Claim7 := { stood := { row := heardAgainUptoRow, standIns := [], harness := (true, "4f8f203578a46b58bda83439f9902ee0c0b740aabc30ddc4abcef7583a030005"), looks := false }, kinds := [], alts := [], laidByText := true, laidKinds := [.data], laidTests := true, laidLooks := .later }
def HeardAgainUptoCardSaid : Prop := Claim7.holds Tryz.pinned (.plain (OpenSpec.upto heardAgainSpec)) heardAgainUptoCard
end Rows
end Go.Proofs.YtaefgofheiegeaaGreatDoor
