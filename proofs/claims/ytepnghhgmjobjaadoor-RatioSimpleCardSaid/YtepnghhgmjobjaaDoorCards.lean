/-
  DERIVED. GIVEN WITH THE SEED: THE CARDS: each row of YtepnghhgmjobjaaDoorRows.lean that lists a variable, with what it lists TIED to the program's text (the seventh form; the later family's looks); each row that meets fmt, with fmt's text TOLD by the authors' own Lean function (tested against real Go, not proved from fmt's source: count such statements apart). THE CARD IS WHAT COUNTS. Prove the row's statement (the work); the ties are given (YtepnghhgmjobjaaDoorTie.lean); close each card by the builder's one call (the guide's Derived/Test/ToyasCard.lean, 'card_holds'). Laid BY PROGRAM, IN A SANDBOX (cutbox-door.mjs). By AI agents, Wed Nov 11 2026. No macro, syntax, notation, axiom, sorry.
-/
import Derived.Test.YtepnghhgmjobjaaDoorRows
import GoSem.ClaimSeven
namespace Go.Proofs.YtepnghhgmjobjaaDoor
namespace Rows

/-- THE TIED CARD OF 'diapasonlaw01.RatioLaws'. -/
def ratioLawsCard : Claim7 := { stood := { row := ratioLawsRow, standIns := [], harness := (true, "702efcbfd594893a1f5d5e833e2a8bae10af173dc25258346e1231c02bd84204"), looks := false }, kinds := [], alts := [], laidByText := true, laidKinds := [.data, .data, .data], laidTests := true, laidLooks := .later }
def RatioLawsCardSaid : Prop := Claim7.holds Tryd.pinned (.plain (OpenSpec.ofChange ratioLawsSpec)) ratioLawsCard

/-- THE TIED CARD OF 'diapasonlaw01.RatioSimple'. -/
def ratioSimpleCard : Claim7 := { stood := { row := ratioSimpleRow, standIns := [], harness := (true, "702efcbfd594893a1f5d5e833e2a8bae10af173dc25258346e1231c02bd84204"), looks := false }, kinds := [], alts := [], laidByText := true, laidKinds := [.data, .data, .data], laidTests := true, laidLooks := .later }
def RatioSimpleCardSaid : Prop := Claim7.holds Tryd.pinned (.plain (OpenSpec.ofChange ratioSimpleSpec)) ratioSimpleCard

/-- THE SECOND FORM's CARD OF 'diapasonlaw01.RatioLaws'. -/
def ratioLawsUptoCard : Claim7 := { stood := { row := ratioLawsUptoRow, standIns := [], harness := (true, "702efcbfd594893a1f5d5e833e2a8bae10af173dc25258346e1231c02bd84204"), looks := false }, kinds := [], alts := [], laidByText := true, laidKinds := [.data, .data, .data], laidTests := true, laidLooks := .later }
def RatioLawsUptoCardSaid : Prop := Claim7.holds Tryd.pinned (.plain (OpenSpec.upto ratioLawsSpec)) ratioLawsUptoCard

/-- THE SECOND FORM's CARD OF 'diapasonlaw01.RatioSimple'. -/
def ratioSimpleUptoCard : Claim7 := { stood := { row := ratioSimpleUptoRow, standIns := [], harness := (true, "702efcbfd594893a1f5d5e833e2a8bae10af173dc25258346e1231c02bd84204"), looks := false }, kinds := [], alts := [], laidByText := true, laidKinds := [.data, .data, .data], laidTests := true, laidLooks := .later }
def RatioSimpleUptoCardSaid : Prop := Claim7.holds Tryd.pinned (.plain (OpenSpec.upto ratioSimpleSpec)) ratioSimpleUptoCard
end Rows
end Go.Proofs.YtepnghhgmjobjaaDoor
