/-
  DERIVED. GIVEN WITH THE SEED: THE CARDS: each row of YtgcgmplepcfbaaaGreatDoorRows.lean that lists a variable, with what it lists TIED to the program's text (the seventh form; the later family's looks); each row that meets fmt, with fmt's text TOLD by the authors' own Lean function (tested against real Go, not proved from fmt's source: count such statements apart). THE CARD IS WHAT COUNTS. Prove the row's statement (the work); the ties are given (YtgcgmplepcfbaaaGreatDoorTie.lean); close each card by the builder's one call (the guide's Derived/Test/ToyasCard.lean, 'card_holds'). Laid BY PROGRAM, IN A SANDBOX (cutbox-door.mjs). By AI agents, Wed Nov 11 2026. No macro, syntax, notation, axiom, sorry.
-/
import Derived.Test.YtgcgmplepcfbaaaGreatDoorRows
import GoSem.ClaimSeven
namespace Go.Proofs.YtgcgmplepcfbaaaGreatDoor
namespace Rows

/-- THE TIED CARD OF 'diapasonlaw01.RatioReckons'. -/
def ratioReckonsCard : Claim7 := { stood := { row := ratioReckonsRow, standIns := [], harness := (true, "35d0721a1d3133ddfd3d000434f908a27f5604c751df3fc4f78beec99216d735"), looks := true }, kinds := [], alts := [], laidByText := true, laidKinds := [.data, .data, .data], laidTests := true, laidLooks := .later }
def RatioReckonsCardSaid : Prop := Claim7.holds Tryz.pinned (.plain (OpenSpec.ofChange ratioReckonsSpec)) ratioReckonsCard

/-- THE TIED CARD OF 'diapasonlaw01.RatioTells'. -/
def ratioTellsCard : Claim7 := { stood := { row := ratioTellsRow, standIns := [], harness := (true, "35d0721a1d3133ddfd3d000434f908a27f5604c751df3fc4f78beec99216d735"), looks := true }, kinds := [], alts := [], laidByText := true, laidKinds := [.data, .data, .data], laidTests := true, laidLooks := .later }
def RatioTellsCardSaid : Prop := Claim7.holds Tryz.pinned (.plain (OpenSpec.ofChange ratioTellsSpec)) ratioTellsCard

/-- THE TIED CARD OF 'diapasonlaw01.RatioKnown'. -/
def ratioKnownCard : Claim7 := { stood := { row := ratioKnownRow, standIns := [], harness := (true, "35d0721a1d3133ddfd3d000434f908a27f5604c751df3fc4f78beec99216d735"), looks := true }, kinds := [], alts := [], laidByText := true, laidKinds := [.data, .data, .data], laidTests := true, laidLooks := .later }
def RatioKnownCardSaid : Prop := Claim7.holds Tryz.pinned (.plain (OpenSpec.ofChange ratioKnownSpec)) ratioKnownCard

/-- THE TIED CARD OF 'diapasonlaw02.GaussLaws'. -/
def gaussLawsCard : Claim7 := { stood := { row := gaussLawsRow, standIns := [], harness := (true, "35d0721a1d3133ddfd3d000434f908a27f5604c751df3fc4f78beec99216d735"), looks := true }, kinds := [], alts := [], laidByText := true, laidKinds := [.data, .data, .data, .data, .pinned], laidTests := true, laidLooks := .later }
def GaussLawsCardSaid : Prop := Claim7.holds Tryz.pinned (.plain (OpenSpec.ofChange gaussLawsSpec)) gaussLawsCard

/-- THE TIED CARD OF 'diapasonlaw02.GaussNorms'. -/
def gaussNormsCard : Claim7 := { stood := { row := gaussNormsRow, standIns := [], harness := (true, "35d0721a1d3133ddfd3d000434f908a27f5604c751df3fc4f78beec99216d735"), looks := true }, kinds := [], alts := [], laidByText := true, laidKinds := [.data, .data, .data, .data, .pinned], laidTests := true, laidLooks := .later }
def GaussNormsCardSaid : Prop := Claim7.holds Tryz.pinned (.plain (OpenSpec.ofChange gaussNormsSpec)) gaussNormsCard

/-- THE TIED CARD OF 'diapasonlaw02.GaussPowers'. -/
def gaussPowersCard : Claim7 := { stood := { row := gaussPowersRow, standIns := [], harness := (true, "35d0721a1d3133ddfd3d000434f908a27f5604c751df3fc4f78beec99216d735"), looks := true }, kinds := [], alts := [], laidByText := true, laidKinds := [.data, .data, .data, .data, .pinned], laidTests := true, laidLooks := .later }
def GaussPowersCardSaid : Prop := Claim7.holds Tryz.pinned (.plain (OpenSpec.ofChange gaussPowersSpec)) gaussPowersCard

/-- THE TIED CARD OF 'diapasonlaw02.GaussBack'. -/
def gaussBackCard : Claim7 := { stood := { row := gaussBackRow, standIns := [], harness := (true, "35d0721a1d3133ddfd3d000434f908a27f5604c751df3fc4f78beec99216d735"), looks := true }, kinds := [], alts := [], laidByText := true, laidKinds := [.data, .data, .data, .data, .pinned], laidTests := true, laidLooks := .later }
def GaussBackCardSaid : Prop := Claim7.holds Tryz.pinned (.plain (OpenSpec.ofChange gaussBackSpec)) gaussBackCard

/-- THE TIED CARD OF 'diapasonlaw03.GrainBack'. -/
def grainBackCard : Claim7 := { stood := { row := grainBackRow, standIns := [], harness := (true, "35d0721a1d3133ddfd3d000434f908a27f5604c751df3fc4f78beec99216d735"), looks := true }, kinds := [], alts := [], laidByText := true, laidKinds := [.data, .data, .data, .sentinel, .sentinel], laidTests := true, laidLooks := .later }
def GrainBackCardSaid : Prop := Claim7.holds Tryz.pinned (.plain (OpenSpec.ofChange grainBackSpec)) grainBackCard

/-- THE TIED CARD OF 'diapasonlaw04.DiscKnown'. -/
def discKnownCard : Claim7 := { stood := { row := discKnownRow, standIns := [], harness := (true, "35d0721a1d3133ddfd3d000434f908a27f5604c751df3fc4f78beec99216d735"), looks := true }, kinds := [], alts := [], laidByText := true, laidKinds := [.data, .data, .pinned], laidTests := true, laidLooks := .later }
def DiscKnownCardSaid : Prop := Claim7.holds Tryz.pinned (.plain (OpenSpec.ofChange discKnownSpec)) discKnownCard

/-- THE TIED CARD OF 'diapasonlaw05.PolyLaws'. -/
def polyLawsCard : Claim7 := { stood := { row := polyLawsRow, standIns := [], harness := (true, "35d0721a1d3133ddfd3d000434f908a27f5604c751df3fc4f78beec99216d735"), looks := true }, kinds := [], alts := [], laidByText := true, laidKinds := [.data, .data, .data], laidTests := true, laidLooks := .later }
def PolyLawsCardSaid : Prop := Claim7.holds Tryz.pinned (.plain (OpenSpec.ofChange polyLawsSpec)) polyLawsCard

/-- THE TIED CARD OF 'diapasonlaw05.PolyTurns'. -/
def polyTurnsCard : Claim7 := { stood := { row := polyTurnsRow, standIns := [], harness := (true, "35d0721a1d3133ddfd3d000434f908a27f5604c751df3fc4f78beec99216d735"), looks := true }, kinds := [], alts := [], laidByText := true, laidKinds := [.data, .data, .data], laidTests := true, laidLooks := .later }
def PolyTurnsCardSaid : Prop := Claim7.holds Tryz.pinned (.plain (OpenSpec.ofChange polyTurnsSpec)) polyTurnsCard

/-- THE TIED CARD OF 'diapasonlaw05.PolyKnown'. -/
def polyKnownCard : Claim7 := { stood := { row := polyKnownRow, standIns := [], harness := (true, "35d0721a1d3133ddfd3d000434f908a27f5604c751df3fc4f78beec99216d735"), looks := true }, kinds := [], alts := [], laidByText := true, laidKinds := [.data, .data, .data, .data], laidTests := true, laidLooks := .later }
def PolyKnownCardSaid : Prop := Claim7.holds Tryz.pinned (.plain (OpenSpec.ofChange polyKnownSpec)) polyKnownCard

/-- THE SECOND FORM's CARD OF 'diapasonlaw01.RatioReckons'. -/
def ratioReckonsUptoCard : Claim7 := { stood := { row := ratioReckonsUptoRow, standIns := [], harness := (true, "35d0721a1d3133ddfd3d000434f908a27f5604c751df3fc4f78beec99216d735"), looks := true }, kinds := [], alts := [], laidByText := true, laidKinds := [.data, .data, .data], laidTests := true, laidLooks := .later }
def RatioReckonsUptoCardSaid : Prop := Claim7.holds Tryz.pinned (.plain (OpenSpec.upto ratioReckonsSpec)) ratioReckonsUptoCard

/-- THE SECOND FORM's CARD OF 'diapasonlaw01.RatioTells'. -/
def ratioTellsUptoCard : Claim7 := { stood := { row := ratioTellsUptoRow, standIns := [], harness := (true, "35d0721a1d3133ddfd3d000434f908a27f5604c751df3fc4f78beec99216d735"), looks := true }, kinds := [], alts := [], laidByText := true, laidKinds := [.data, .data, .data], laidTests := true, laidLooks := .later }
def RatioTellsUptoCardSaid : Prop := Claim7.holds Tryz.pinned (.plain (OpenSpec.upto ratioTellsSpec)) ratioTellsUptoCard

/-- THE SECOND FORM's CARD OF 'diapasonlaw01.RatioKnown'. -/
def ratioKnownUptoCard : Claim7 := { stood := { row := ratioKnownUptoRow, standIns := [], harness := (true, "35d0721a1d3133ddfd3d000434f908a27f5604c751df3fc4f78beec99216d735"), looks := true }, kinds := [], alts := [], laidByText := true, laidKinds := [.data, .data, .data], laidTests := true, laidLooks := .later }
def RatioKnownUptoCardSaid : Prop := Claim7.holds Tryz.pinned (.plain (OpenSpec.upto ratioKnownSpec)) ratioKnownUptoCard

/-- THE SECOND FORM's CARD OF 'diapasonlaw02.GaussLaws'. -/
def gaussLawsUptoCard : Claim7 := { stood := { row := gaussLawsUptoRow, standIns := [], harness := (true, "35d0721a1d3133ddfd3d000434f908a27f5604c751df3fc4f78beec99216d735"), looks := true }, kinds := [], alts := [], laidByText := true, laidKinds := [.data, .data, .data, .data, .pinned], laidTests := true, laidLooks := .later }
def GaussLawsUptoCardSaid : Prop := Claim7.holds Tryz.pinned (.plain (OpenSpec.upto gaussLawsSpec)) gaussLawsUptoCard

/-- THE SECOND FORM's CARD OF 'diapasonlaw02.GaussNorms'. -/
def gaussNormsUptoCard : Claim7 := { stood := { row := gaussNormsUptoRow, standIns := [], harness := (true, "35d0721a1d3133ddfd3d000434f908a27f5604c751df3fc4f78beec99216d735"), looks := true }, kinds := [], alts := [], laidByText := true, laidKinds := [.data, .data, .data, .data, .pinned], laidTests := true, laidLooks := .later }
def GaussNormsUptoCardSaid : Prop := Claim7.holds Tryz.pinned (.plain (OpenSpec.upto gaussNormsSpec)) gaussNormsUptoCard

/-- THE SECOND FORM's CARD OF 'diapasonlaw02.GaussPowers'. -/
def gaussPowersUptoCard : Claim7 := { stood := { row := gaussPowersUptoRow, standIns := [], harness := (true, "35d0721a1d3133ddfd3d000434f908a27f5604c751df3fc4f78beec99216d735"), looks := true }, kinds := [], alts := [], laidByText := true, laidKinds := [.data, .data, .data, .data, .pinned], laidTests := true, laidLooks := .later }
def GaussPowersUptoCardSaid : Prop := Claim7.holds Tryz.pinned (.plain (OpenSpec.upto gaussPowersSpec)) gaussPowersUptoCard

/-- THE SECOND FORM's CARD OF 'diapasonlaw02.GaussBack'. -/
def gaussBackUptoCard : Claim7 := { stood := { row := gaussBackUptoRow, standIns := [], harness := (true, "35d0721a1d3133ddfd3d000434f908a27f5604c751df3fc4f78beec99216d735"), looks := true }, kinds := [], alts := [], laidByText := true, laidKinds := [.data, .data, .data, .data, .pinned], laidTests := true, laidLooks := .later }
def GaussBackUptoCardSaid : Prop := Claim7.holds Tryz.pinned (.plain (OpenSpec.upto gaussBackSpec)) gaussBackUptoCard

/-- THE SECOND FORM's CARD OF 'diapasonlaw03.GrainBack'. -/
def grainBackUptoCard : Claim7 := { stood := { row := grainBackUptoRow, standIns := [], harness := (true, "35d0721a1d3133ddfd3d000434f908a27f5604c751df3fc4f78beec99216d735"), looks := true }, kinds := [], alts := [], laidByText := true, laidKinds := [.data, .data, .data, .sentinel, .sentinel], laidTests := true, laidLooks := .later }
def GrainBackUptoCardSaid : Prop := Claim7.holds Tryz.pinned (.plain (OpenSpec.upto grainBackSpec)) grainBackUptoCard

/-- THE SECOND FORM's CARD OF 'diapasonlaw04.DiscKnown'. -/
def discKnownUptoCard : Claim7 := { stood := { row := discKnownUptoRow, standIns := [], harness := (true, "35d0721a1d3133ddfd3d000434f908a27f5604c751df3fc4f78beec99216d735"), looks := true }, kinds := [], alts := [], laidByText := true, laidKinds := [.data, .data, .pinned], laidTests := true, laidLooks := .later }
def DiscKnownUptoCardSaid : Prop := Claim7.holds Tryz.pinned (.plain (OpenSpec.upto discKnownSpec)) discKnownUptoCard

/-- THE SECOND FORM's CARD OF 'diapasonlaw05.PolyLaws'. -/
def polyLawsUptoCard : Claim7 := { stood := { row := polyLawsUptoRow, standIns := [], harness := (true, "35d0721a1d3133ddfd3d000434f908a27f5604c751df3fc4f78beec99216d735"), looks := true }, kinds := [], alts := [], laidByText := true, laidKinds := [.data, .data, .data], laidTests := true, laidLooks := .later }
def PolyLawsUptoCardSaid : Prop := Claim7.holds Tryz.pinned (.plain (OpenSpec.upto polyLawsSpec)) polyLawsUptoCard

/-- THE SECOND FORM's CARD OF 'diapasonlaw05.PolyTurns'. -/
def polyTurnsUptoCard : Claim7 := { stood := { row := polyTurnsUptoRow, standIns := [], harness := (true, "35d0721a1d3133ddfd3d000434f908a27f5604c751df3fc4f78beec99216d735"), looks := true }, kinds := [], alts := [], laidByText := true, laidKinds := [.data, .data, .data], laidTests := true, laidLooks := .later }
def PolyTurnsUptoCardSaid : Prop := Claim7.holds Tryz.pinned (.plain (OpenSpec.upto polyTurnsSpec)) polyTurnsUptoCard

/-- THE SECOND FORM's CARD OF 'diapasonlaw05.PolyKnown'. -/
def polyKnownUptoCard : Claim7 := { stood := { row := polyKnownUptoRow, standIns := [], harness := (true, "35d0721a1d3133ddfd3d000434f908a27f5604c751df3fc4f78beec99216d735"), looks := true }, kinds := [], alts := [], laidByText := true, laidKinds := [.data, .data, .data, .data], laidTests := true, laidLooks := .later }
def PolyKnownUptoCardSaid : Prop := Claim7.holds Tryz.pinned (.plain (OpenSpec.upto polyKnownSpec)) polyKnownUptoCard
end Rows
end Go.Proofs.YtgcgmplepcfbaaaGreatDoor
