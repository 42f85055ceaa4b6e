/- Contracts, in this order: diapasonlaw11.HeardKnown, run whole. -/
import Derived.Test.YtdlhpleabfnogaaGreatDoorHv21
namespace Go.Proofs.YtdlhpleabfnogaaGreatDoor
open Go Go.RowKit
namespace Ev
set_option maxRecDepth 100000
set_option maxHeartbeats 4000000 in
theorem heardKnown_run : runsR [] 20000 6 [] = some (.bool true) := by kernel_rfl
theorem heardKnown_any (W : World) (hG : Tryz.prog.globals.size ≤ W.heap.size) (hT : Tab W) : Calls Tryz.prog 6 #[] W fun e w' => e = .returned (.bool true) ∧ Below W.heap.size W w' :=
  runsR_calls (fun _ h => by cases h) heardKnown_run (by kernel_rfl) hG hT
end Ev
end Go.Proofs.YtdlhpleabfnogaaGreatDoor
