/- Contracts, in this order: diapasonlaw13.EndsKnown, run by the interpreter. -/
import Derived.Test.YtnlhjcfpfapafaaEnq20
namespace Go.Proofs.Ytnlhjcfpfapafaa
open Go Go.RowKit
namespace Ev
set_option maxRecDepth 100000 in
theorem endsKnown_run : runsN [] 400 3 [] = some (.bool true) := by kernel_rfl
theorem endsKnown_any (W : World) (hG : Try.prog.globals.size ≤ W.heap.size) (hT : TabB W) : Calls Try.prog 3 #[] W fun e w' => e = .returned (.bool true) ∧ Below W.heap.size W w' :=
  runsN_calls (l := []) (fun _ h => by cases h) endsKnown_run (by kernel_rfl) hG hT
end Ev
end Go.Proofs.Ytnlhjcfpfapafaa
