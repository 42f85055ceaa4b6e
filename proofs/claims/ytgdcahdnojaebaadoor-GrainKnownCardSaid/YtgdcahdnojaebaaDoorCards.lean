/-
  DERIVED. GIVEN WITH THE SEED: THE CARDS: each row of YtgdcahdnojaebaaDoorRows.lean that lists a variable, with what it lists TIED to the program's text (the seventh form; the later family's looks); each row that meets fmt, with fmt's text TOLD by the authors' own Lean function (tested against real Go, not proved from fmt's source: count such statements apart). THE CARD IS WHAT COUNTS. Prove the row's statement (the work); the ties are given (YtgdcahdnojaebaaDoorTie.lean); close each card by the builder's one call (the guide's Derived/Test/ToyasCard.lean, 'card_holds'). Laid BY PROGRAM, IN A SANDBOX (cutbox-door.mjs). By AI agents, Wed Nov 11 2026. No macro, syntax, notation, axiom, sorry.
-/
import Derived.Test.YtgdcahdnojaebaaDoorRows
import GoSem.ClaimSeven
namespace Go.Proofs.YtgdcahdnojaebaaDoor
namespace Rows

/-- THE TIED CARD OF 'diapasonlaw01.RatioSimple'. -/
def ratioSimpleCard : Claim7 := { stood := { row := ratioSimpleRow, standIns := [], harness := (true, "b9e374ead2e34694e1e5ab129ffb67d0481a67d31a065014554a033d17ca9a27"), looks := true }, kinds := [], alts := [], laidByText := true, laidKinds := [.data, .data, .data], laidTests := true, laidLooks := .later }
def RatioSimpleCardSaid : Prop := Claim7.holds Tryd.pinned (.plain (OpenSpec.ofChange ratioSimpleSpec)) ratioSimpleCard

/-- THE TIED CARD OF 'diapasonlaw03.GrainReads'. -/
def grainReadsCard : Claim7 := { stood := { row := grainReadsRow, standIns := [], harness := (true, "b9e374ead2e34694e1e5ab129ffb67d0481a67d31a065014554a033d17ca9a27"), looks := true }, kinds := [], alts := [], laidByText := true, laidKinds := [.data, .data, .data, .sentinel, .sentinel], laidTests := true, laidLooks := .later }
def GrainReadsCardSaid : Prop := Claim7.holds Tryd.pinned (.plain (OpenSpec.ofChange grainReadsSpec)) grainReadsCard

/-- THE TIED CARD OF 'diapasonlaw03.GrainKnown'. -/
def grainKnownCard : Claim7 := { stood := { row := grainKnownRow, standIns := [], harness := (true, "b9e374ead2e34694e1e5ab129ffb67d0481a67d31a065014554a033d17ca9a27"), looks := true }, kinds := [], alts := [], laidByText := true, laidKinds := [.data, .data, .data, .sentinel, .sentinel], laidTests := true, laidLooks := .later }
def GrainKnownCardSaid : Prop := Claim7.holds Tryd.pinned (.plain (OpenSpec.ofChange grainKnownSpec)) grainKnownCard

/-- THE SECOND FORM's CARD OF 'diapasonlaw01.RatioSimple'. -/
def ratioSimpleUptoCard : Claim7 := { stood := { row := ratioSimpleUptoRow, standIns := [], harness := (true, "b9e374ead2e34694e1e5ab129ffb67d0481a67d31a065014554a033d17ca9a27"), looks := true }, kinds := [], alts := [], laidByText := true, laidKinds := [.data, .data, .data], laidTests := true, laidLooks := .later }
def RatioSimpleUptoCardSaid : Prop := Claim7.holds Tryd.pinned (.plain (OpenSpec.upto ratioSimpleSpec)) ratioSimpleUptoCard

/-- THE SECOND FORM's CARD OF 'diapasonlaw03.GrainReads'. -/
def grainReadsUptoCard : Claim7 := { stood := { row := grainReadsUptoRow, standIns := [], harness := (true, "b9e374ead2e34694e1e5ab129ffb67d0481a67d31a065014554a033d17ca9a27"), looks := true }, kinds := [], alts := [], laidByText := true, laidKinds := [.data, .data, .data, .sentinel, .sentinel], laidTests := true, laidLooks := .later }
def GrainReadsUptoCardSaid : Prop := Claim7.holds Tryd.pinned (.plain (OpenSpec.upto grainReadsSpec)) grainReadsUptoCard

/-- THE SECOND FORM's CARD OF 'diapasonlaw03.GrainKnown'. -/
def grainKnownUptoCard : Claim7 := { stood := { row := grainKnownUptoRow, standIns := [], harness := (true, "b9e374ead2e34694e1e5ab129ffb67d0481a67d31a065014554a033d17ca9a27"), looks := true }, kinds := [], alts := [], laidByText := true, laidKinds := [.data, .data, .data, .sentinel, .sentinel], laidTests := true, laidLooks := .later }
def GrainKnownUptoCardSaid : Prop := Claim7.holds Tryd.pinned (.plain (OpenSpec.upto grainKnownSpec)) grainKnownUptoCard
end Rows
end Go.Proofs.YtgdcahdnojaebaaDoor
