/-
  No cell of these rows narrows 'for every input' (looked for: loops, veiled, ifaces, maps, wideKeys, modest, calm, conditions, laid).
  DERIVED. THE GIVEN ROWS OF THIS SEAT. 4 by the template 'for every input the law returns true; each argument reads behind the call as it read before'; 0 by the template 'total and deterministic' (their statements: YtnlhjcfpfapafaaTotals.lean).
  GIVEN WITH THE SEED: the statements are not yours to turn. If you find one false, say at which input.
  Laid BY PROGRAM, IN A SANDBOX (cutbox-rows.mjs): the forced cells as the released guide's own fill.sh prints them over the translation dc6972afd93fe75e… (all of the seat's roots in one cut). By AI agents, Wed Nov 11 2026. No macro, syntax, notation, axiom, sorry.
-/
import Derived.Test.YtnlhjcfpfapafaaChecked
import GoSem.Claim
import GoSem.ClaimJoined
import GoSem.ClaimMapViews
import Derived.JoinedTies
import Derived.KernelRfl
namespace Go.Proofs.Ytnlhjcfpfapafaa
/- THE CELL 'sum', in the pinned program and in every row, IS THE sha256 OF THE DUMP (.gsa) THAT YtnlhjcfpfapafaaProg.lean LOADS. Nothing in Lean hashes anything: it is a label: what it is worth is what the hold of that sum in a sandbox is worth. -/
noncomputable def Try.pinned : Pinned := { name := "ytnlhjcfpfapafaa", sum := "dc6972afd93fe75e55169e32190b3da474f77c6f29fd9af523e36ad95c987351", checked := Try.checked }
namespace Rows
def none {H : Type} : Left H := { results := [], args := [] }

/-- 'diapasonlaw13.EndsKnown': WHATEVER THE INPUT: true; the input reads as it did. -/
def endsKnownSpec : ChangeSpec := { name := "endsKnown", fn := fun _ => fun
  | [] => { results := [.lit (.bool true)], args := [] }
  | _ => none }
def endsKnownRow : OpenClaim := { program := "ytnlhjcfpfapafaa", sum := "dc6972afd93fe75e55169e32190b3da474f77c6f29fd9af523e36ad95c987351", func := "diapason/diapasonlaw13.EndsKnown", spec := "endsKnown", inPlace := ["math/bits.Add64", "math/bits.Sub64"], unfollowed := true, recurses := true, named := ["math/bits.divideError", "math/bits.overflowError"], apart := false }
def EndsKnownSaid : Prop := endsKnownRow.holds Try.pinned (OpenSpec.ofChange endsKnownSpec)

/-- ITS FALSE NEIGHBOUR: 'it returns false'. Refute it at one input. -/
def endsKnownWrong : ChangeSpec := { name := "endsKnown", fn := fun _ => fun
  | [] => { results := [.lit (.bool false)], args := [] }
  | _ => none }
def EndsKnownWrongFalsely : Prop := endsKnownRow.holds Try.pinned (OpenSpec.ofChange endsKnownWrong)

/-- 'diapasonlaw13.EndsBack': WHATEVER THE INPUT: true; the input reads as it did. -/
def endsBackSpec : ChangeSpec := { name := "endsBack", fn := fun _ => fun
  | [d1, d2, d3] => { results := [.lit (.bool true)], args := [d1, d2, d3] }
  | _ => none }
def endsBackRow : OpenClaim := { program := "ytnlhjcfpfapafaa", sum := "dc6972afd93fe75e55169e32190b3da474f77c6f29fd9af523e36ad95c987351", func := "diapason/diapasonlaw13.EndsBack", spec := "endsBack", inPlace := ["math/bits.Add64", "math/bits.Sub64"], unfollowed := true, recurses := true, named := ["math/bits.divideError", "math/bits.overflowError"], apart := false }
def EndsBackSaid : Prop := endsBackRow.holds Try.pinned (OpenSpec.ofChange endsBackSpec)

/-- ITS FALSE NEIGHBOUR: 'it returns false'. Refute it at one input. -/
def endsBackWrong : ChangeSpec := { name := "endsBack", fn := fun _ => fun
  | [d1, d2, d3] => { results := [.lit (.bool false)], args := [d1, d2, d3] }
  | _ => none }
def EndsBackWrongFalsely : Prop := endsBackRow.holds Try.pinned (OpenSpec.ofChange endsBackWrong)

/-- 'diapasonlaw13.EndsSpare': WHATEVER THE INPUT: true; the input reads as it did. -/
def endsSpareSpec : ChangeSpec := { name := "endsSpare", fn := fun _ => fun
  | [d1, d2, d3] => { results := [.lit (.bool true)], args := [d1, d2, d3] }
  | _ => none }
def endsSpareRow : OpenClaim := { program := "ytnlhjcfpfapafaa", sum := "dc6972afd93fe75e55169e32190b3da474f77c6f29fd9af523e36ad95c987351", func := "diapason/diapasonlaw13.EndsSpare", spec := "endsSpare", inPlace := ["math/bits.Add64", "math/bits.Sub64"], unfollowed := true, recurses := true, named := ["math/bits.divideError", "math/bits.overflowError"], apart := false }
def EndsSpareSaid : Prop := endsSpareRow.holds Try.pinned (OpenSpec.ofChange endsSpareSpec)

/-- ITS FALSE NEIGHBOUR: 'it returns false'. Refute it at one input. -/
def endsSpareWrong : ChangeSpec := { name := "endsSpare", fn := fun _ => fun
  | [d1, d2, d3] => { results := [.lit (.bool false)], args := [d1, d2, d3] }
  | _ => none }
def EndsSpareWrongFalsely : Prop := endsSpareRow.holds Try.pinned (OpenSpec.ofChange endsSpareWrong)

/-- 'diapasonlaw08.SchurSigns': WHATEVER THE INPUT: true; the input reads as it did. -/
def schurSignsSpec : ChangeSpec := { name := "schurSigns", fn := fun _ => fun
  | [d] => { results := [.lit (.bool true)], args := [d] }
  | _ => none }
def schurSignsRow : OpenClaim := { program := "ytnlhjcfpfapafaa", sum := "dc6972afd93fe75e55169e32190b3da474f77c6f29fd9af523e36ad95c987351", func := "diapason/diapasonlaw08.SchurSigns", spec := "schurSigns", inPlace := ["math/bits.Add64", "math/bits.Sub64"], unfollowed := true, recurses := true, named := ["math/bits.divideError", "math/bits.overflowError"], apart := false }
def SchurSignsSaid : Prop := schurSignsRow.holds Try.pinned (OpenSpec.ofChange schurSignsSpec)

/-- ITS FALSE NEIGHBOUR: 'it returns false'. Refute it at one input. -/
def schurSignsWrong : ChangeSpec := { name := "schurSigns", fn := fun _ => fun
  | [d] => { results := [.lit (.bool false)], args := [d] }
  | _ => none }
def SchurSignsWrongFalsely : Prop := schurSignsRow.holds Try.pinned (OpenSpec.ofChange schurSignsWrong)

/- THE SECOND FORM. 'bulk': how many values and letters a reading holds, each counted each time it is reached (what is shared counts as often as it is met; a slice's spare places count too). A statement '..UptoSaid' is the law's where the arguments, and the package variables that the reading takes, are together of bulk at most 1048576: NARROWER than '..Said'. Prove '..Said' where nothing that the law and all that it calls make is longer than what came in: it says more and counts as full. Else prove '..UptoSaid'. A law counts once. -/
mutual
def uptoBulk {H : Type} : DataW H → Nat
  | .lit (.string bytes) => bytes.length + 1
  | .lit _ => 1
  | .nil => 1
  | .ptr d => uptoBulk d + 1
  | .slice elems spare => uptoBulkAll elems + uptoBulkAll spare + 1
  | .agg parts => uptoBulkAll parts + 1
  | .iface _ d => uptoBulk d + 1
  | .map entries => uptoBulkEntries entries + 1
  | .held _ => 1
def uptoBulkAll {H : Type} : List (DataW H) → Nat
  | [] => 0
  | d :: r => uptoBulk d + uptoBulkAll r
def uptoBulkEntries {H : Type} : List (Lit × DataW H) → Nat
  | [] => 0
  | x :: r => uptoBulkEntry x + uptoBulkEntries r
def uptoBulkEntry {H : Type} : Lit × DataW H → Nat
  | (.string bytes, d) => bytes.length + uptoBulk d + 1
  | (_, d) => uptoBulk d + 1
 end
def uptoSmall : (H : Type) → List (DataW H) → Bool := fun _ ds => decide (uptoBulkAll ds ≤ 1048576)
def OpenSpec.upto (s : _root_.Go.ChangeSpec) : _root_.Go.OpenSpec := { _root_.Go.OpenSpec.ofChange s with cond := some uptoSmall }

/-- 'diapasonlaw13.EndsKnown', WHERE WHAT IT READS IS OF BULK AT MOST 1048576: true; the input reads as it did. -/
def endsKnownUptoRow : OpenClaim := { program := "ytnlhjcfpfapafaa", sum := "dc6972afd93fe75e55169e32190b3da474f77c6f29fd9af523e36ad95c987351", func := "diapason/diapasonlaw13.EndsKnown", spec := "endsKnown", inPlace := ["math/bits.Add64", "math/bits.Sub64"], unfollowed := true, recurses := true, named := ["math/bits.divideError", "math/bits.overflowError"], apart := false, narrowed := true }
def EndsKnownUptoSaid : Prop := endsKnownUptoRow.holds Try.pinned (OpenSpec.upto endsKnownSpec)

/-- 'diapasonlaw13.EndsBack', WHERE WHAT IT READS IS OF BULK AT MOST 1048576: true; the input reads as it did. -/
def endsBackUptoRow : OpenClaim := { program := "ytnlhjcfpfapafaa", sum := "dc6972afd93fe75e55169e32190b3da474f77c6f29fd9af523e36ad95c987351", func := "diapason/diapasonlaw13.EndsBack", spec := "endsBack", inPlace := ["math/bits.Add64", "math/bits.Sub64"], unfollowed := true, recurses := true, named := ["math/bits.divideError", "math/bits.overflowError"], apart := false, narrowed := true }
def EndsBackUptoSaid : Prop := endsBackUptoRow.holds Try.pinned (OpenSpec.upto endsBackSpec)

/-- 'diapasonlaw13.EndsSpare', WHERE WHAT IT READS IS OF BULK AT MOST 1048576: true; the input reads as it did. -/
def endsSpareUptoRow : OpenClaim := { program := "ytnlhjcfpfapafaa", sum := "dc6972afd93fe75e55169e32190b3da474f77c6f29fd9af523e36ad95c987351", func := "diapason/diapasonlaw13.EndsSpare", spec := "endsSpare", inPlace := ["math/bits.Add64", "math/bits.Sub64"], unfollowed := true, recurses := true, named := ["math/bits.divideError", "math/bits.overflowError"], apart := false, narrowed := true }
def EndsSpareUptoSaid : Prop := endsSpareUptoRow.holds Try.pinned (OpenSpec.upto endsSpareSpec)

/-- 'diapasonlaw08.SchurSigns', WHERE WHAT IT READS IS OF BULK AT MOST 1048576: true; the input reads as it did. -/
def schurSignsUptoRow : OpenClaim := { program := "ytnlhjcfpfapafaa", sum := "dc6972afd93fe75e55169e32190b3da474f77c6f29fd9af523e36ad95c987351", func := "diapason/diapasonlaw08.SchurSigns", spec := "schurSigns", inPlace := ["math/bits.Add64", "math/bits.Sub64"], unfollowed := true, recurses := true, named := ["math/bits.divideError", "math/bits.overflowError"], apart := false, narrowed := true }
def SchurSignsUptoSaid : Prop := schurSignsUptoRow.holds Try.pinned (OpenSpec.upto schurSignsSpec)

end Rows
end Go.Proofs.Ytnlhjcfpfapafaa
