/- Contracts, in this order: diapasonlaw09.BoreKnown, run by the interpreter. -/
import Derived.Test.YtmioikbnjflldaaBq18
namespace Go.Proofs.Ytmioikbnjflldaa
open Go Go.RowKit
namespace Ev
set_option maxRecDepth 100000 in
theorem boreKnown_run : runsN [] 300 3 [] = some (.bool true) := by kernel_rfl
theorem boreKnown_any (W : World) (hG : Try.prog.globals.size ≤ W.heap.size) (hT : TabB W) : Calls Try.prog 3 #[] W fun e w' => e = .returned (.bool true) ∧ Below W.heap.size W w' :=
  runsN_calls (l := []) (fun _ h => by cases h) boreKnown_run (by kernel_rfl) hG hT
end Ev
end Go.Proofs.Ytmioikbnjflldaa
