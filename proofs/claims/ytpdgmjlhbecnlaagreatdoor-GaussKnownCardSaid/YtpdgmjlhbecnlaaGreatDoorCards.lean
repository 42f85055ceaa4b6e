/-
  DERIVED. GIVEN WITH THE SEED: THE CARDS: each row of YtpdgmjlhbecnlaaGreatDoorRows.lean that lists a variable, with what it lists TIED to the program's text (the seventh form; the later family's looks); each row that meets fmt, with fmt's text TOLD by the authors' own Lean function (tested against real Go, not proved from fmt's source: count such statements apart). THE CARD IS WHAT COUNTS. Prove the row's statement (the work); the ties are given (YtpdgmjlhbecnlaaGreatDoorTie.lean); close each card by the builder's one call (the guide's Derived/Test/ToyasCard.lean, 'card_holds'). Laid BY PROGRAM, IN A SANDBOX (cutbox-door.mjs). By AI agents, Wed Nov 11 2026. No macro, syntax, notation, axiom, sorry.
-/
import Derived.Test.YtpdgmjlhbecnlaaGreatDoorRows
import GoSem.ClaimSeven
namespace Go.Proofs.YtpdgmjlhbecnlaaGreatDoor
namespace Rows

/-- THE TIED CARD OF 'diapasonlaw01.RatioKnown'. -/
def ratioKnownCard : Claim7 := { stood := { row := ratioKnownRow, standIns := [], harness := (true, "69256a0d40380f36de02c1aa8b3463392444a67d7988ea66fe0ba85cdab19d5a"), looks := true }, kinds := [], alts := [], laidByText := true, laidKinds := [.data, .data, .data], laidTests := true, laidLooks := .later }
def RatioKnownCardSaid : Prop := Claim7.holds Tryz.pinned (.plain (OpenSpec.ofChange ratioKnownSpec)) ratioKnownCard

/-- THE TIED CARD OF 'diapasonlaw02.GaussLaws'. -/
def gaussLawsCard : Claim7 := { stood := { row := gaussLawsRow, standIns := [], harness := (true, "69256a0d40380f36de02c1aa8b3463392444a67d7988ea66fe0ba85cdab19d5a"), looks := true }, kinds := [], alts := [], laidByText := true, laidKinds := [.data, .data, .data, .data, .pinned], laidTests := true, laidLooks := .later }
def GaussLawsCardSaid : Prop := Claim7.holds Tryz.pinned (.plain (OpenSpec.ofChange gaussLawsSpec)) gaussLawsCard

/-- THE TIED CARD OF 'diapasonlaw02.GaussNorms'. -/
def gaussNormsCard : Claim7 := { stood := { row := gaussNormsRow, standIns := [], harness := (true, "69256a0d40380f36de02c1aa8b3463392444a67d7988ea66fe0ba85cdab19d5a"), looks := true }, kinds := [], alts := [], laidByText := true, laidKinds := [.data, .data, .data, .data, .pinned], laidTests := true, laidLooks := .later }
def GaussNormsCardSaid : Prop := Claim7.holds Tryz.pinned (.plain (OpenSpec.ofChange gaussNormsSpec)) gaussNormsCard

/-- THE TIED CARD OF 'diapasonlaw02.GaussPowers'. -/
def gaussPowersCard : Claim7 := { stood := { row := gaussPowersRow, standIns := [], harness := (true, "69256a0d40380f36de02c1aa8b3463392444a67d7988ea66fe0ba85cdab19d5a"), looks := true }, kinds := [], alts := [], laidByText := true, laidKinds := [.data, .data, .data, .data, .pinned], laidTests := true, laidLooks := .later }
def GaussPowersCardSaid : Prop := Claim7.holds Tryz.pinned (.plain (OpenSpec.ofChange gaussPowersSpec)) gaussPowersCard

/-- THE TIED CARD OF 'diapasonlaw02.GaussBack'. -/
def gaussBackCard : Claim7 := { stood := { row := gaussBackRow, standIns := [], harness := (true, "69256a0d40380f36de02c1aa8b3463392444a67d7988ea66fe0ba85cdab19d5a"), looks := true }, kinds := [], alts := [], laidByText := true, laidKinds := [.data, .data, .data, .data, .pinned], laidTests := true, laidLooks := .later }
def GaussBackCardSaid : Prop := Claim7.holds Tryz.pinned (.plain (OpenSpec.ofChange gaussBackSpec)) gaussBackCard

/-- THE TIED CARD OF 'diapasonlaw02.GaussKnown'. -/
def gaussKnownCard : Claim7 := { stood := { row := gaussKnownRow, standIns := [], harness := (true, "69256a0d40380f36de02c1aa8b3463392444a67d7988ea66fe0ba85cdab19d5a"), looks := true }, kinds := [], alts := [], laidByText := true, laidKinds := [.data, .data, .data, .data, .pinned], laidTests := true, laidLooks := .later }
def GaussKnownCardSaid : Prop := Claim7.holds Tryz.pinned (.plain (OpenSpec.ofChange gaussKnownSpec)) gaussKnownCard

/-- THE TIED CARD OF 'diapasonlaw03.GrainBack'. -/
def grainBackCard : Claim7 := { stood := { row := grainBackRow, standIns := [], harness := (true, "69256a0d40380f36de02c1aa8b3463392444a67d7988ea66fe0ba85cdab19d5a"), looks := true }, kinds := [], alts := [], laidByText := true, laidKinds := [.data, .data, .data, .sentinel, .sentinel], laidTests := true, laidLooks := .later }
def GrainBackCardSaid : Prop := Claim7.holds Tryz.pinned (.plain (OpenSpec.ofChange grainBackSpec)) grainBackCard

/-- THE TIED CARD OF 'diapasonlaw04.DiscKnown'. -/
def discKnownCard : Claim7 := { stood := { row := discKnownRow, standIns := [], harness := (true, "69256a0d40380f36de02c1aa8b3463392444a67d7988ea66fe0ba85cdab19d5a"), looks := true }, kinds := [], alts := [], laidByText := true, laidKinds := [.data, .data, .pinned], laidTests := true, laidLooks := .later }
def DiscKnownCardSaid : Prop := Claim7.holds Tryz.pinned (.plain (OpenSpec.ofChange discKnownSpec)) discKnownCard

/-- THE SECOND FORM's CARD OF 'diapasonlaw01.RatioKnown'. -/
def ratioKnownUptoCard : Claim7 := { stood := { row := ratioKnownUptoRow, standIns := [], harness := (true, "69256a0d40380f36de02c1aa8b3463392444a67d7988ea66fe0ba85cdab19d5a"), looks := true }, kinds := [], alts := [], laidByText := true, laidKinds := [.data, .data, .data], laidTests := true, laidLooks := .later }
def RatioKnownUptoCardSaid : Prop := Claim7.holds Tryz.pinned (.plain (OpenSpec.upto ratioKnownSpec)) ratioKnownUptoCard

/-- THE SECOND FORM's CARD OF 'diapasonlaw02.GaussLaws'. -/
def gaussLawsUptoCard : Claim7 := { stood := { row := gaussLawsUptoRow, standIns := [], harness := (true, "69256a0d40380f36de02c1aa8b3463392444a67d7988ea66fe0ba85cdab19d5a"), looks := true }, kinds := [], alts := [], laidByText := true, laidKinds := [.data, .data, .data, .data, .pinned], laidTests := true, laidLooks := .later }
def GaussLawsUptoCardSaid : Prop := Claim7.holds Tryz.pinned (.plain (OpenSpec.upto gaussLawsSpec)) gaussLawsUptoCard

/-- THE SECOND FORM's CARD OF 'diapasonlaw02.GaussNorms'. -/
def gaussNormsUptoCard : Claim7 := { stood := { row := gaussNormsUptoRow, standIns := [], harness := (true, "69256a0d40380f36de02c1aa8b3463392444a67d7988ea66fe0ba85cdab19d5a"), looks := true }, kinds := [], alts := [], laidByText := true, laidKinds := [.data, .data, .data, .data, .pinned], laidTests := true, laidLooks := .later }
def GaussNormsUptoCardSaid : Prop := Claim7.holds Tryz.pinned (.plain (OpenSpec.upto gaussNormsSpec)) gaussNormsUptoCard

/-- THE SECOND FORM's CARD OF 'diapasonlaw02.GaussPowers'. -/
def gaussPowersUptoCard : Claim7 := { stood := { row := gaussPowersUptoRow, standIns := [], harness := (true, "69256a0d40380f36de02c1aa8b3463392444a67d7988ea66fe0ba85cdab19d5a"), looks := true }, kinds := [], alts := [], laidByText := true, laidKinds := [.data, .data, .data, .data, .pinned], laidTests := true, laidLooks := .later }
def GaussPowersUptoCardSaid : Prop := Claim7.holds Tryz.pinned (.plain (OpenSpec.upto gaussPowersSpec)) gaussPowersUptoCard

/-- THE SECOND FORM's CARD OF 'diapasonlaw02.GaussBack'. -/
def gaussBackUptoCard : Claim7 := { stood := { row := gaussBackUptoRow, standIns := [], harness := (true, "69256a0d40380f36de02c1aa8b3463392444a67d7988ea66fe0ba85cdab19d5a"), looks := true }, kinds := [], alts := [], laidByText := true, laidKinds := [.data, .data, .data, .data, .pinned], laidTests := true, laidLooks := .later }
def GaussBackUptoCardSaid : Prop := Claim7.holds Tryz.pinned (.plain (OpenSpec.upto gaussBackSpec)) gaussBackUptoCard

/-- THE SECOND FORM's CARD OF 'diapasonlaw02.GaussKnown'. -/
def gaussKnownUptoCard : Claim7 := { stood := { row := gaussKnownUptoRow, standIns := [], harness := (true, "69256a0d40380f36de02c1aa8b3463392444a67d7988ea66fe0ba85cdab19d5a"), looks := true }, kinds := [], alts := [], laidByText := true, laidKinds := [.data, .data, .data, .data, .pinned], laidTests := true, laidLooks := .later }
def GaussKnownUptoCardSaid : Prop := Claim7.holds Tryz.pinned (.plain (OpenSpec.upto gaussKnownSpec)) gaussKnownUptoCard

/-- THE SECOND FORM's CARD OF 'diapasonlaw03.GrainBack'. -/
def grainBackUptoCard : Claim7 := { stood := { row := grainBackUptoRow, standIns := [], harness := (true, "69256a0d40380f36de02c1aa8b3463392444a67d7988ea66fe0ba85cdab19d5a"), looks := true }, kinds := [], alts := [], laidByText := true, laidKinds := [.data, .data, .data, .sentinel, .sentinel], laidTests := true, laidLooks := .later }
def GrainBackUptoCardSaid : Prop := Claim7.holds Tryz.pinned (.plain (OpenSpec.upto grainBackSpec)) grainBackUptoCard

/-- THE SECOND FORM's CARD OF 'diapasonlaw04.DiscKnown'. -/
def discKnownUptoCard : Claim7 := { stood := { row := discKnownUptoRow, standIns := [], harness := (true, "69256a0d40380f36de02c1aa8b3463392444a67d7988ea66fe0ba85cdab19d5a"), looks := true }, kinds := [], alts := [], laidByText := true, laidKinds := [.data, .data, .pinned], laidTests := true, laidLooks := .later }
def DiscKnownUptoCardSaid : Prop := Claim7.holds Tryz.pinned (.plain (OpenSpec.upto discKnownSpec)) discKnownUptoCard
end Rows
end Go.Proofs.YtpdgmjlhbecnlaaGreatDoor
