/- Contracts, in this order: diapasonlaw07.TurnKnown, run over the answers of its calls. -/
import Derived.Test.YtjjbhadnakjhdaaGreatDoorKq20
namespace Go.Proofs.YtjjbhadnakjhdaaGreatDoor
open Go Go.RowKit
namespace Ev
set_option maxRecDepth 100000 in
theorem turnKnown_run : runsBy ktAll 300 5 [] = some (.bool true) := by kernel_rfl
theorem turnKnown_any (W : World) (hG : Tryz.prog.globals.size ≤ W.heap.size) (hT : Tab W) : Calls Tryz.prog 5 #[] W fun e w' => e = .returned (.bool true) ∧ Below W.heap.size W w' :=
  runsBy_calls ktAll_ok turnKnown_run (by kernel_rfl) hG hT
end Ev
end Go.Proofs.YtjjbhadnakjhdaaGreatDoor
