/-
  DERIVED. GIVEN WITH THE SEED: THE CARDS: each row of YtjjbhadnakjhdaaGreatDoorRows.lean that lists a variable, with what it lists TIED to the program's text (the seventh form; the later family's looks); each row that meets fmt, with fmt's text TOLD by the authors' own Lean function (tested against real Go, not proved from fmt's source: count such statements apart). THE CARD IS WHAT COUNTS. Prove the row's statement (the work); the ties are given (YtjjbhadnakjhdaaGreatDoorTie.lean); close each card by the builder's one call (the guide's Derived/Test/ToyasCard.lean, 'card_holds'). Laid BY PROGRAM, IN A SANDBOX (cutbox-door.mjs). By AI agents, Wed Nov 11 2026. No macro, syntax, notation, axiom, sorry.
-/
import Derived.Test.YtjjbhadnakjhdaaGreatDoorRows
import GoSem.ClaimSeven
namespace Go.Proofs.YtjjbhadnakjhdaaGreatDoor
namespace Rows

/-- THE TIED CARD OF 'diapasonlaw01.RatioKnown'. -/
def ratioKnownCard : Claim7 := { stood := { row := ratioKnownRow, standIns := [], harness := (true, "1c66dbf34b4e894256a555e691a14a078c0cc2cdc04f9d755282e7b38280c1e8"), looks := false }, kinds := [], alts := [], laidByText := true, laidKinds := [.data, .data, .data], laidTests := true, laidLooks := .later }
def RatioKnownCardSaid : Prop := Claim7.holds Tryz.pinned (.plain (OpenSpec.ofChange ratioKnownSpec)) ratioKnownCard

/-- THE TIED CARD OF 'diapasonlaw04.DiscKnown'. -/
def discKnownCard : Claim7 := { stood := { row := discKnownRow, standIns := [], harness := (true, "1c66dbf34b4e894256a555e691a14a078c0cc2cdc04f9d755282e7b38280c1e8"), looks := false }, kinds := [], alts := [], laidByText := true, laidKinds := [.data, .data, .pinned], laidTests := true, laidLooks := .later }
def DiscKnownCardSaid : Prop := Claim7.holds Tryz.pinned (.plain (OpenSpec.ofChange discKnownSpec)) discKnownCard

/-- THE TIED CARD OF 'diapasonlaw07.TurnKnown'. -/
def turnKnownCard : Claim7 := { stood := { row := turnKnownRow, standIns := [], harness := (true, "1c66dbf34b4e894256a555e691a14a078c0cc2cdc04f9d755282e7b38280c1e8"), looks := false }, kinds := [], alts := [], laidByText := true, laidKinds := [.data, .data, .data], laidTests := true, laidLooks := .later }
def TurnKnownCardSaid : Prop := Claim7.holds Tryz.pinned (.plain (OpenSpec.ofChange turnKnownSpec)) turnKnownCard

/-- THE TIED CARD OF 'diapasonlaw05.PolyKnown'. -/
def polyKnownCard : Claim7 := { stood := { row := polyKnownRow, standIns := [], harness := (true, "1c66dbf34b4e894256a555e691a14a078c0cc2cdc04f9d755282e7b38280c1e8"), looks := false }, kinds := [], alts := [], laidByText := true, laidKinds := [.data, .data, .data, .data], laidTests := true, laidLooks := .later }
def PolyKnownCardSaid : Prop := Claim7.holds Tryz.pinned (.plain (OpenSpec.ofChange polyKnownSpec)) polyKnownCard

/-- THE TIED CARD OF 'diapasonlaw08.SchurKnown'. -/
def schurKnownCard : Claim7 := { stood := { row := schurKnownRow, standIns := [], harness := (true, "1c66dbf34b4e894256a555e691a14a078c0cc2cdc04f9d755282e7b38280c1e8"), looks := false }, kinds := [], alts := [], laidByText := true, laidKinds := [.data, .data], laidTests := true, laidLooks := .later }
def SchurKnownCardSaid : Prop := Claim7.holds Tryz.pinned (.plain (OpenSpec.ofChange schurKnownSpec)) schurKnownCard

/-- THE SECOND FORM's CARD OF 'diapasonlaw01.RatioKnown'. -/
def ratioKnownUptoCard : Claim7 := { stood := { row := ratioKnownUptoRow, standIns := [], harness := (true, "1c66dbf34b4e894256a555e691a14a078c0cc2cdc04f9d755282e7b38280c1e8"), looks := false }, kinds := [], alts := [], laidByText := true, laidKinds := [.data, .data, .data], laidTests := true, laidLooks := .later }
def RatioKnownUptoCardSaid : Prop := Claim7.holds Tryz.pinned (.plain (OpenSpec.upto ratioKnownSpec)) ratioKnownUptoCard

/-- THE SECOND FORM's CARD OF 'diapasonlaw04.DiscKnown'. -/
def discKnownUptoCard : Claim7 := { stood := { row := discKnownUptoRow, standIns := [], harness := (true, "1c66dbf34b4e894256a555e691a14a078c0cc2cdc04f9d755282e7b38280c1e8"), looks := false }, kinds := [], alts := [], laidByText := true, laidKinds := [.data, .data, .pinned], laidTests := true, laidLooks := .later }
def DiscKnownUptoCardSaid : Prop := Claim7.holds Tryz.pinned (.plain (OpenSpec.upto discKnownSpec)) discKnownUptoCard

/-- THE SECOND FORM's CARD OF 'diapasonlaw07.TurnKnown'. -/
def turnKnownUptoCard : Claim7 := { stood := { row := turnKnownUptoRow, standIns := [], harness := (true, "1c66dbf34b4e894256a555e691a14a078c0cc2cdc04f9d755282e7b38280c1e8"), looks := false }, kinds := [], alts := [], laidByText := true, laidKinds := [.data, .data, .data], laidTests := true, laidLooks := .later }
def TurnKnownUptoCardSaid : Prop := Claim7.holds Tryz.pinned (.plain (OpenSpec.upto turnKnownSpec)) turnKnownUptoCard

/-- THE SECOND FORM's CARD OF 'diapasonlaw05.PolyKnown'. -/
def polyKnownUptoCard : Claim7 := { stood := { row := polyKnownUptoRow, standIns := [], harness := (true, "1c66dbf34b4e894256a555e691a14a078c0cc2cdc04f9d755282e7b38280c1e8"), looks := false }, kinds := [], alts := [], laidByText := true, laidKinds := [.data, .data, .data, .data], laidTests := true, laidLooks := .later }
def PolyKnownUptoCardSaid : Prop := Claim7.holds Tryz.pinned (.plain (OpenSpec.upto polyKnownSpec)) polyKnownUptoCard

/-- THE SECOND FORM's CARD OF 'diapasonlaw08.SchurKnown'. -/
def schurKnownUptoCard : Claim7 := { stood := { row := schurKnownUptoRow, standIns := [], harness := (true, "1c66dbf34b4e894256a555e691a14a078c0cc2cdc04f9d755282e7b38280c1e8"), looks := false }, kinds := [], alts := [], laidByText := true, laidKinds := [.data, .data], laidTests := true, laidLooks := .later }
def SchurKnownUptoCardSaid : Prop := Claim7.holds Tryz.pinned (.plain (OpenSpec.upto schurKnownSpec)) schurKnownUptoCard
end Rows
end Go.Proofs.YtjjbhadnakjhdaaGreatDoor
