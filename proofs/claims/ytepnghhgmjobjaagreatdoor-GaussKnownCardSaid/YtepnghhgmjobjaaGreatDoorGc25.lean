/- Contracts, in this order: diapasonlaw02.GaussKnown, run over the answers of its calls. -/
import Derived.Test.YtepnghhgmjobjaaGreatDoorGc24
namespace Go.Proofs.YtepnghhgmjobjaaGreatDoor
open Go Go.RowKit
namespace Ev
set_option maxRecDepth 100000 in
theorem gaussKnown_run : runsBy gkAll 300 3 [] = some (.bool true) := by kernel_rfl
theorem gaussKnown_any (W : World) (hG : Tryz.prog.globals.size ≤ W.heap.size) (hT : Tab W) : Calls Tryz.prog 3 #[] W fun e w' => e = .returned (.bool true) ∧ Below W.heap.size W w' :=
  runsBy_calls gkAll_ok gaussKnown_run (by kernel_rfl) hG hT
end Ev
end Go.Proofs.YtepnghhgmjobjaaGreatDoor
