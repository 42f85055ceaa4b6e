/-
  No cell of these rows narrows 'for every input' (looked for: loops, veiled, ifaces, maps, wideKeys, modest, calm, conditions, laid).
  DERIVED. THE GIVEN ROWS OF THIS SEAT. 2 by the template 'for every input the law returns true; each argument reads behind the call as it read before'; 0 by the template 'total and deterministic' (their statements: YtnmmgicjlbmcbaaTotals.lean).
  GIVEN WITH THE SEED: the statements are not yours to turn. If you find one false, say at which input.
  Laid BY PROGRAM, IN A SANDBOX (cutbox-rows.mjs): the forced cells as the released guide's own fill.sh prints them over the translation b61016e694879679… (all of the seat's roots in one cut). By AI agents, Wed Nov 11 2026. No macro, syntax, notation, axiom, sorry.
-/
import Derived.Test.YtnmmgicjlbmcbaaChecked
import GoSem.Claim
import GoSem.ClaimJoined
import GoSem.ClaimMapViews
import Derived.JoinedTies
import Derived.KernelRfl
namespace Go.Proofs.Ytnmmgicjlbmcbaa
/- THE CELL 'sum', in the pinned program and in every row, IS THE sha256 OF THE DUMP (.gsa) THAT YtnmmgicjlbmcbaaProg.lean LOADS. Nothing in Lean hashes anything: it is a label: what it is worth is what the hold of that sum in a sandbox is worth. -/
noncomputable def Try.pinned : Pinned := { name := "ytnmmgicjlbmcbaa", sum := "b61016e6948796790d4938e135706fcffb96894b0f6ced258213330dbf1a6320", checked := Try.checked }
namespace Rows
def none {H : Type} : Left H := { results := [], args := [] }

/-- 'diapasonlaw09.BoreCones': WHATEVER THE INPUT: true; the input reads as it did. -/
def boreConesSpec : ChangeSpec := { name := "boreCones", fn := fun _ => fun
  | [d] => { results := [.lit (.bool true)], args := [d] }
  | _ => none }
def boreConesRow : OpenClaim := { program := "ytnmmgicjlbmcbaa", sum := "b61016e6948796790d4938e135706fcffb96894b0f6ced258213330dbf1a6320", func := "diapason/diapasonlaw09.BoreCones", spec := "boreCones", inPlace := ["math/bits.Add64", "math/bits.Sub64"], unfollowed := true, recurses := true, named := ["math/bits.divideError", "math/bits.overflowError"], apart := false }
def BoreConesSaid : Prop := boreConesRow.holds Try.pinned (OpenSpec.ofChange boreConesSpec)

/-- ITS FALSE NEIGHBOUR: 'it returns false'. Refute it at one input. -/
def boreConesWrong : ChangeSpec := { name := "boreCones", fn := fun _ => fun
  | [d] => { results := [.lit (.bool false)], args := [d] }
  | _ => none }
def BoreConesWrongFalsely : Prop := boreConesRow.holds Try.pinned (OpenSpec.ofChange boreConesWrong)

/-- 'diapasonlaw09.BoreSimple': WHATEVER THE INPUT: true; the input reads as it did. -/
def boreSimpleSpec : ChangeSpec := { name := "boreSimple", fn := fun _ => fun
  | [d] => { results := [.lit (.bool true)], args := [d] }
  | _ => none }
def boreSimpleRow : OpenClaim := { program := "ytnmmgicjlbmcbaa", sum := "b61016e6948796790d4938e135706fcffb96894b0f6ced258213330dbf1a6320", func := "diapason/diapasonlaw09.BoreSimple", spec := "boreSimple", inPlace := ["math/bits.Add64", "math/bits.Sub64"], unfollowed := true, recurses := true, named := ["math/bits.divideError", "math/bits.overflowError"], apart := false }
def BoreSimpleSaid : Prop := boreSimpleRow.holds Try.pinned (OpenSpec.ofChange boreSimpleSpec)

/-- ITS FALSE NEIGHBOUR: 'it returns false'. Refute it at one input. -/
def boreSimpleWrong : ChangeSpec := { name := "boreSimple", fn := fun _ => fun
  | [d] => { results := [.lit (.bool false)], args := [d] }
  | _ => none }
def BoreSimpleWrongFalsely : Prop := boreSimpleRow.holds Try.pinned (OpenSpec.ofChange boreSimpleWrong)

/- THE SECOND FORM. 'bulk': how many values and letters a reading holds, each counted each time it is reached (what is shared counts as often as it is met; a slice's spare places count too). A statement '..UptoSaid' is the law's where the arguments, and the package variables that the reading takes, are together of bulk at most 1048576: NARROWER than '..Said'. Prove '..Said' where nothing that the law and all that it calls make is longer than what came in: it says more and counts as full. Else prove '..UptoSaid'. A law counts once. -/
mutual
def uptoBulk {H : Type} : DataW H → Nat
  | .lit (.string bytes) => bytes.length + 1
  | .lit _ => 1
  | .nil => 1
  | .ptr d => uptoBulk d + 1
  | .slice elems spare => uptoBulkAll elems + uptoBulkAll spare + 1
  | .agg parts => uptoBulkAll parts + 1
  | .iface _ d => uptoBulk d + 1
  | .map entries => uptoBulkEntries entries + 1
  | .held _ => 1
def uptoBulkAll {H : Type} : List (DataW H) → Nat
  | [] => 0
  | d :: r => uptoBulk d + uptoBulkAll r
def uptoBulkEntries {H : Type} : List (Lit × DataW H) → Nat
  | [] => 0
  | x :: r => uptoBulkEntry x + uptoBulkEntries r
def uptoBulkEntry {H : Type} : Lit × DataW H → Nat
  | (.string bytes, d) => bytes.length + uptoBulk d + 1
  | (_, d) => uptoBulk d + 1
 end
def uptoSmall : (H : Type) → List (DataW H) → Bool := fun _ ds => decide (uptoBulkAll ds ≤ 1048576)
def OpenSpec.upto (s : _root_.Go.ChangeSpec) : _root_.Go.OpenSpec := { _root_.Go.OpenSpec.ofChange s with cond := some uptoSmall }

/-- 'diapasonlaw09.BoreCones', WHERE WHAT IT READS IS OF BULK AT MOST 1048576: true; the input reads as it did. -/
def boreConesUptoRow : OpenClaim := { program := "ytnmmgicjlbmcbaa", sum := "b61016e6948796790d4938e135706fcffb96894b0f6ced258213330dbf1a6320", func := "diapason/diapasonlaw09.BoreCones", spec := "boreCones", inPlace := ["math/bits.Add64", "math/bits.Sub64"], unfollowed := true, recurses := true, named := ["math/bits.divideError", "math/bits.overflowError"], apart := false, narrowed := true }
def BoreConesUptoSaid : Prop := boreConesUptoRow.holds Try.pinned (OpenSpec.upto boreConesSpec)

/-- 'diapasonlaw09.BoreSimple', WHERE WHAT IT READS IS OF BULK AT MOST 1048576: true; the input reads as it did. -/
def boreSimpleUptoRow : OpenClaim := { program := "ytnmmgicjlbmcbaa", sum := "b61016e6948796790d4938e135706fcffb96894b0f6ced258213330dbf1a6320", func := "diapason/diapasonlaw09.BoreSimple", spec := "boreSimple", inPlace := ["math/bits.Add64", "math/bits.Sub64"], unfollowed := true, recurses := true, named := ["math/bits.divideError", "math/bits.overflowError"], apart := false, narrowed := true }
def BoreSimpleUptoSaid : Prop := boreSimpleUptoRow.holds Try.pinned (OpenSpec.upto boreSimpleSpec)

end Rows
end Go.Proofs.Ytnmmgicjlbmcbaa
