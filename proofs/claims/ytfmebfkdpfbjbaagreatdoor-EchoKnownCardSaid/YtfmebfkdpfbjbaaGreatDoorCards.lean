/-
  DERIVED. GIVEN WITH THE SEED: THE CARDS: each row of YtfmebfkdpfbjbaaGreatDoorRows.lean that lists a variable, with what it lists TIED to the program's text (the seventh form; the later family's looks); each row that meets fmt, with fmt's text TOLD by the authors' own Lean function (tested against real Go, not proved from fmt's source: count such statements apart). THE CARD IS WHAT COUNTS. Prove the row's statement (the work); the ties are given (YtfmebfkdpfbjbaaGreatDoorTie.lean); close each card by the builder's one call (the guide's Derived/Test/ToyasCard.lean, 'card_holds'). Laid BY PROGRAM, IN A SANDBOX (cutbox-door.mjs). By AI agents, Wed Nov 11 2026. No macro, syntax, notation, axiom, sorry.
-/
import Derived.Test.YtfmebfkdpfbjbaaGreatDoorRows
import GoSem.ClaimSeven
namespace Go.Proofs.YtfmebfkdpfbjbaaGreatDoor
namespace Rows

/-- THE TIED CARD OF 'diapasonlaw14.EchoKnown'. -/
def echoKnownCard : Claim7 := { stood := { row := echoKnownRow, standIns := [], harness := (true, "a76b3a798598797bb8a2f3a054578e14b4f1cba78c448e474f2095f226cda995"), looks := false }, kinds := [], alts := [], laidByText := true, laidKinds := [.data, .data, .data], laidTests := true, laidLooks := .later }
def EchoKnownCardSaid : Prop := Claim7.holds Tryz.pinned (.plain (OpenSpec.ofChange echoKnownSpec)) echoKnownCard

/-- THE TIED CARD OF 'diapasonlaw14.EchoTubes'. -/
def echoTubesCard : Claim7 := { stood := { row := echoTubesRow, standIns := [], harness := (true, "a76b3a798598797bb8a2f3a054578e14b4f1cba78c448e474f2095f226cda995"), looks := false }, kinds := [], alts := [], laidByText := true, laidKinds := [.data, .data, .data], laidTests := true, laidLooks := .later }
def EchoTubesCardSaid : Prop := Claim7.holds Tryz.pinned (.plain (OpenSpec.ofChange echoTubesSpec)) echoTubesCard

/-- THE TIED CARD OF 'diapasonlaw08.SchurBack'. -/
def schurBackCard : Claim7 := { stood := { row := schurBackRow, standIns := [], harness := (true, "a76b3a798598797bb8a2f3a054578e14b4f1cba78c448e474f2095f226cda995"), looks := false }, kinds := [], alts := [], laidByText := true, laidKinds := [.data, .data], laidTests := true, laidLooks := .later }
def SchurBackCardSaid : Prop := Claim7.holds Tryz.pinned (.plain (OpenSpec.ofChange schurBackSpec)) schurBackCard

/-- THE SECOND FORM's CARD OF 'diapasonlaw14.EchoKnown'. -/
def echoKnownUptoCard : Claim7 := { stood := { row := echoKnownUptoRow, standIns := [], harness := (true, "a76b3a798598797bb8a2f3a054578e14b4f1cba78c448e474f2095f226cda995"), looks := false }, kinds := [], alts := [], laidByText := true, laidKinds := [.data, .data, .data], laidTests := true, laidLooks := .later }
def EchoKnownUptoCardSaid : Prop := Claim7.holds Tryz.pinned (.plain (OpenSpec.upto echoKnownSpec)) echoKnownUptoCard

/-- THE SECOND FORM's CARD OF 'diapasonlaw14.EchoTubes'. -/
def echoTubesUptoCard : Claim7 := { stood := { row := echoTubesUptoRow, standIns := [], harness := (true, "a76b3a798598797bb8a2f3a054578e14b4f1cba78c448e474f2095f226cda995"), looks := false }, kinds := [], alts := [], laidByText := true, laidKinds := [.data, .data, .data], laidTests := true, laidLooks := .later }
def EchoTubesUptoCardSaid : Prop := Claim7.holds Tryz.pinned (.plain (OpenSpec.upto echoTubesSpec)) echoTubesUptoCard

/-- THE SECOND FORM's CARD OF 'diapasonlaw08.SchurBack'. -/
def schurBackUptoCard : Claim7 := { stood := { row := schurBackUptoRow, standIns := [], harness := (true, "a76b3a798598797bb8a2f3a054578e14b4f1cba78c448e474f2095f226cda995"), looks := false }, kinds := [], alts := [], laidByText := true, laidKinds := [.data, .data], laidTests := true, laidLooks := .later }
def SchurBackUptoCardSaid : Prop := Claim7.holds Tryz.pinned (.plain (OpenSpec.upto schurBackSpec)) schurBackUptoCard
end Rows
end Go.Proofs.YtfmebfkdpfbjbaaGreatDoor
