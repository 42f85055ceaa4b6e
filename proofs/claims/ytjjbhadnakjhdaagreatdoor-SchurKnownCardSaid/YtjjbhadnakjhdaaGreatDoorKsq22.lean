/- Contracts, in this order: diapasonlaw08.SchurKnown, run over the answers of its calls. -/
import Derived.Test.YtjjbhadnakjhdaaGreatDoorKsq21
namespace Go.Proofs.YtjjbhadnakjhdaaGreatDoor
open Go Go.RowKit
namespace Ev
set_option maxRecDepth 100000 in
theorem schurKnown_run : runsN ksAll 300 7 [] = some (.bool true) := by kernel_rfl
theorem schurKnown_any (W : World) (hG : Tryz.prog.globals.size ≤ W.heap.size) (hT : Tab W) : Calls Tryz.prog 7 #[] W fun e w' => e = .returned (.bool true) ∧ Below W.heap.size W w' :=
  runsN_calls ksAll_ok schurKnown_run (by kernel_rfl) hG hT
end Ev
end Go.Proofs.YtjjbhadnakjhdaaGreatDoor
