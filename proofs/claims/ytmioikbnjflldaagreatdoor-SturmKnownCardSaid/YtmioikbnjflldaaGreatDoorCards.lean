/-
  DERIVED. GIVEN WITH THE SEED: THE CARDS: each row of YtmioikbnjflldaaGreatDoorRows.lean that lists a variable, with what it lists TIED to the program's text (the seventh form; the later family's looks); each row that meets fmt, with fmt's text TOLD by the authors' own Lean function (tested against real Go, not proved from fmt's source: count such statements apart). THE CARD IS WHAT COUNTS. Prove the row's statement (the work); the ties are given (YtmioikbnjflldaaGreatDoorTie.lean); close each card by the builder's one call (the guide's Derived/Test/ToyasCard.lean, 'card_holds'). Laid BY PROGRAM, IN A SANDBOX (cutbox-door.mjs). By AI agents, Wed Nov 11 2026. No macro, syntax, notation, axiom, sorry.
-/
import Derived.Test.YtmioikbnjflldaaGreatDoorRows
import GoSem.ClaimSeven
namespace Go.Proofs.YtmioikbnjflldaaGreatDoor
namespace Rows

/-- THE TIED CARD OF 'diapasonlaw05.PolyKnown'. -/
def polyKnownCard : Claim7 := { stood := { row := polyKnownRow, standIns := [], harness := (true, "332697188496b661bcf7a8ac2a9e0595303480479da3fdf64da73897805eda7c"), looks := false }, kinds := [], alts := [], laidByText := true, laidKinds := [.data, .data, .data, .data], laidTests := true, laidLooks := .later }
def PolyKnownCardSaid : Prop := Claim7.holds Tryz.pinned (.plain (OpenSpec.ofChange polyKnownSpec)) polyKnownCard

/-- THE TIED CARD OF 'diapasonlaw06.SturmKnown'. -/
def sturmKnownCard : Claim7 := { stood := { row := sturmKnownRow, standIns := [], harness := (true, "332697188496b661bcf7a8ac2a9e0595303480479da3fdf64da73897805eda7c"), looks := false }, kinds := [], alts := [], laidByText := true, laidKinds := [.data, .data], laidTests := true, laidLooks := .later }
def SturmKnownCardSaid : Prop := Claim7.holds Tryz.pinned (.plain (OpenSpec.ofChange sturmKnownSpec)) sturmKnownCard

/-- THE SECOND FORM's CARD OF 'diapasonlaw05.PolyKnown'. -/
def polyKnownUptoCard : Claim7 := { stood := { row := polyKnownUptoRow, standIns := [], harness := (true, "332697188496b661bcf7a8ac2a9e0595303480479da3fdf64da73897805eda7c"), looks := false }, kinds := [], alts := [], laidByText := true, laidKinds := [.data, .data, .data, .data], laidTests := true, laidLooks := .later }
def PolyKnownUptoCardSaid : Prop := Claim7.holds Tryz.pinned (.plain (OpenSpec.upto polyKnownSpec)) polyKnownUptoCard

/-- THE SECOND FORM's CARD OF 'diapasonlaw06.SturmKnown'. -/
def sturmKnownUptoCard : Claim7 := { stood := { row := sturmKnownUptoRow, standIns := [], harness := (true, "332697188496b661bcf7a8ac2a9e0595303480479da3fdf64da73897805eda7c"), looks := false }, kinds := [], alts := [], laidByText := true, laidKinds := [.data, .data], laidTests := true, laidLooks := .later }
def SturmKnownUptoCardSaid : Prop := Claim7.holds Tryz.pinned (.plain (OpenSpec.upto sturmKnownSpec)) sturmKnownUptoCard
end Rows
end Go.Proofs.YtmioikbnjflldaaGreatDoor
