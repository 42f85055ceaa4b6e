/-
  No cell of these rows narrows 'for every input' (looked for: loops, veiled, ifaces, maps, wideKeys, modest, calm, conditions, laid).
  DERIVED. THE GIVEN ROWS OF THIS SEAT. 3 by the template 'for every input the law returns true; each argument reads behind the call as it read before'; 0 by the template 'total and deterministic' (their statements: YtgdcahdnojaebaaTotals.lean).
  GIVEN WITH THE SEED: the statements are not yours to turn. If you find one false, say at which input.
  Laid BY PROGRAM, IN A SANDBOX (cutbox-rows.mjs): the forced cells as the released guide's own fill.sh prints them over the translation ef89dd5c52f5bfc8… (all of the seat's roots in one cut). By AI agents, Wed Nov 11 2026. No macro, syntax, notation, axiom, sorry.
-/
import Derived.Test.YtgdcahdnojaebaaChecked
import GoSem.Claim
import GoSem.ClaimJoined
import GoSem.ClaimMapViews
import Derived.JoinedTies
import Derived.KernelRfl
namespace Go.Proofs.Ytgdcahdnojaebaa
/- THE CELL 'sum', in the pinned program and in every row, IS THE sha256 OF THE DUMP (.gsa) THAT YtgdcahdnojaebaaProg.lean LOADS. Nothing in Lean hashes anything: it is a label: what it is worth is what the hold of that sum in a sandbox is worth. -/
noncomputable def Try.pinned : Pinned := { name := "ytgdcahdnojaebaa", sum := "ef89dd5c52f5bfc8865b5d0532f7d983b6cf1a52dda9ee5bfbf901a5ed5d6670", checked := Try.checked }
namespace Rows
def none {H : Type} : Left H := { results := [], args := [] }

/-- 'diapasonlaw03.GrainSides': WHATEVER THE INPUT: true; the input reads as it did. -/
def grainSidesSpec : ChangeSpec := { name := "grainSides", fn := fun _ => fun
  | [d1, d2] => { results := [.lit (.bool true)], args := [d1, d2] }
  | _ => none }
def grainSidesRow : OpenClaim := { program := "ytgdcahdnojaebaa", sum := "ef89dd5c52f5bfc8865b5d0532f7d983b6cf1a52dda9ee5bfbf901a5ed5d6670", func := "diapason/diapasonlaw03.GrainSides", spec := "grainSides", inPlace := ["math.Float64bits", "math.Float64frombits", "math.FMA"], apart := false }
def GrainSidesSaid : Prop := grainSidesRow.holds Try.pinned (OpenSpec.ofChange grainSidesSpec)

/-- ITS FALSE NEIGHBOUR: 'it returns false'. Refute it at one input. -/
def grainSidesWrong : ChangeSpec := { name := "grainSides", fn := fun _ => fun
  | [d1, d2] => { results := [.lit (.bool false)], args := [d1, d2] }
  | _ => none }
def GrainSidesWrongFalsely : Prop := grainSidesRow.holds Try.pinned (OpenSpec.ofChange grainSidesWrong)

/-- 'diapasonlaw03.GrainBeside': WHATEVER THE INPUT: true; the input reads as it did. -/
def grainBesideSpec : ChangeSpec := { name := "grainBeside", fn := fun _ => fun
  | [d1, d2] => { results := [.lit (.bool true)], args := [d1, d2] }
  | _ => none }
def grainBesideRow : OpenClaim := { program := "ytgdcahdnojaebaa", sum := "ef89dd5c52f5bfc8865b5d0532f7d983b6cf1a52dda9ee5bfbf901a5ed5d6670", func := "diapason/diapasonlaw03.GrainBeside", spec := "grainBeside", inPlace := ["math.Float64bits", "math.Float64frombits", "math.FMA"], apart := false }
def GrainBesideSaid : Prop := grainBesideRow.holds Try.pinned (OpenSpec.ofChange grainBesideSpec)

/-- ITS FALSE NEIGHBOUR: 'it returns false'. Refute it at one input. -/
def grainBesideWrong : ChangeSpec := { name := "grainBeside", fn := fun _ => fun
  | [d1, d2] => { results := [.lit (.bool false)], args := [d1, d2] }
  | _ => none }
def GrainBesideWrongFalsely : Prop := grainBesideRow.holds Try.pinned (OpenSpec.ofChange grainBesideWrong)

/-- 'diapasonlaw03.GrainRises': WHATEVER THE INPUT: true; the input reads as it did. -/
def grainRisesSpec : ChangeSpec := { name := "grainRises", fn := fun _ => fun
  | [d1, d2] => { results := [.lit (.bool true)], args := [d1, d2] }
  | _ => none }
def grainRisesRow : OpenClaim := { program := "ytgdcahdnojaebaa", sum := "ef89dd5c52f5bfc8865b5d0532f7d983b6cf1a52dda9ee5bfbf901a5ed5d6670", func := "diapason/diapasonlaw03.GrainRises", spec := "grainRises", inPlace := ["math.Float64frombits", "math.Float64bits", "math.FMA"], apart := false }
def GrainRisesSaid : Prop := grainRisesRow.holds Try.pinned (OpenSpec.ofChange grainRisesSpec)

/-- ITS FALSE NEIGHBOUR: 'it returns false'. Refute it at one input. -/
def grainRisesWrong : ChangeSpec := { name := "grainRises", fn := fun _ => fun
  | [d1, d2] => { results := [.lit (.bool false)], args := [d1, d2] }
  | _ => none }
def GrainRisesWrongFalsely : Prop := grainRisesRow.holds Try.pinned (OpenSpec.ofChange grainRisesWrong)

/- THE SECOND FORM. 'bulk': how many values and letters a reading holds, each counted each time it is reached (what is shared counts as often as it is met; a slice's spare places count too). A statement '..UptoSaid' is the law's where the arguments, and the package variables that the reading takes, are together of bulk at most 1048576: NARROWER than '..Said'. Prove '..Said' where nothing that the law and all that it calls make is longer than what came in: it says more and counts as full. Else prove '..UptoSaid'. A law counts once. -/
mutual
def uptoBulk {H : Type} : DataW H → Nat
  | .lit (.string bytes) => bytes.length + 1
  | .lit _ => 1
  | .nil => 1
  | .ptr d => uptoBulk d + 1
  | .slice elems spare => uptoBulkAll elems + uptoBulkAll spare + 1
  | .agg parts => uptoBulkAll parts + 1
  | .iface _ d => uptoBulk d + 1
  | .map entries => uptoBulkEntries entries + 1
  | .held _ => 1
def uptoBulkAll {H : Type} : List (DataW H) → Nat
  | [] => 0
  | d :: r => uptoBulk d + uptoBulkAll r
def uptoBulkEntries {H : Type} : List (Lit × DataW H) → Nat
  | [] => 0
  | x :: r => uptoBulkEntry x + uptoBulkEntries r
def uptoBulkEntry {H : Type} : Lit × DataW H → Nat
  | (.string bytes, d) => bytes.length + uptoBulk d + 1
  | (_, d) => uptoBulk d + 1
 end
def uptoSmall : (H : Type) → List (DataW H) → Bool := fun _ ds => decide (uptoBulkAll ds ≤ 1048576)
def OpenSpec.upto (s : _root_.Go.ChangeSpec) : _root_.Go.OpenSpec := { _root_.Go.OpenSpec.ofChange s with cond := some uptoSmall }

/-- 'diapasonlaw03.GrainSides', WHERE WHAT IT READS IS OF BULK AT MOST 1048576: true; the input reads as it did. -/
def grainSidesUptoRow : OpenClaim := { program := "ytgdcahdnojaebaa", sum := "ef89dd5c52f5bfc8865b5d0532f7d983b6cf1a52dda9ee5bfbf901a5ed5d6670", func := "diapason/diapasonlaw03.GrainSides", spec := "grainSides", inPlace := ["math.Float64bits", "math.Float64frombits", "math.FMA"], apart := false, narrowed := true }
def GrainSidesUptoSaid : Prop := grainSidesUptoRow.holds Try.pinned (OpenSpec.upto grainSidesSpec)

/-- 'diapasonlaw03.GrainBeside', WHERE WHAT IT READS IS OF BULK AT MOST 1048576: true; the input reads as it did. -/
def grainBesideUptoRow : OpenClaim := { program := "ytgdcahdnojaebaa", sum := "ef89dd5c52f5bfc8865b5d0532f7d983b6cf1a52dda9ee5bfbf901a5ed5d6670", func := "diapason/diapasonlaw03.GrainBeside", spec := "grainBeside", inPlace := ["math.Float64bits", "math.Float64frombits", "math.FMA"], apart := false, narrowed := true }
def GrainBesideUptoSaid : Prop := grainBesideUptoRow.holds Try.pinned (OpenSpec.upto grainBesideSpec)

/-- 'diapasonlaw03.GrainRises', WHERE WHAT IT READS IS OF BULK AT MOST 1048576: true; the input reads as it did. -/
def grainRisesUptoRow : OpenClaim := { program := "ytgdcahdnojaebaa", sum := "ef89dd5c52f5bfc8865b5d0532f7d983b6cf1a52dda9ee5bfbf901a5ed5d6670", func := "diapason/diapasonlaw03.GrainRises", spec := "grainRises", inPlace := ["math.Float64frombits", "math.Float64bits", "math.FMA"], apart := false, narrowed := true }
def GrainRisesUptoSaid : Prop := grainRisesUptoRow.holds Try.pinned (OpenSpec.upto grainRisesSpec)

end Rows
end Go.Proofs.Ytgdcahdnojaebaa
