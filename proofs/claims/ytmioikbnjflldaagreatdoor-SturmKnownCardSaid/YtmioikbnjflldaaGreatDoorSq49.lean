/- Contracts, in this order: diapasonlaw06.SturmKnown, run over the answers of its calls. -/
import Derived.Test.YtmioikbnjflldaaGreatDoorSq45
import Derived.Test.YtmioikbnjflldaaGreatDoorSq48
namespace Go.Proofs.YtmioikbnjflldaaGreatDoor
open Go Go.RowKit
namespace Ev
set_option maxRecDepth 100000 in
theorem sturmKnown_run : runsC sthAll stgAll 3000 4 [] = some (.bool true) := by kernel_rfl
theorem sturmKnown_any (W : World) (hG : Tryz.prog.globals.size ≤ W.heap.size) (hT : TabB W) : Calls Tryz.prog 4 #[] W fun e w' => e = .returned (.bool true) ∧ Below W.heap.size W w' :=
  runsC_calls sthAll_ok stgAll_ok sturmKnown_run (by kernel_rfl) hG hT
end Ev
end Go.Proofs.YtmioikbnjflldaaGreatDoor
