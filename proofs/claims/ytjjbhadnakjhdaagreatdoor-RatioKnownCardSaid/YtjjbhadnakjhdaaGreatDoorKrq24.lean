/- Contracts, in this order: diapasonlaw01.RatioKnown, run over the answers of its calls. -/
import Derived.Test.YtjjbhadnakjhdaaGreatDoorKrq23
namespace Go.Proofs.YtjjbhadnakjhdaaGreatDoor
open Go Go.RowKit
namespace Ev
set_option maxRecDepth 100000 in
theorem ratioKnown_run : runsT kxAll 300 3 [] = some (.bool true) := by kernel_rfl
theorem ratioKnown_any (W : World) (hG : Tryz.prog.globals.size ≤ W.heap.size) (hT : Tab W) : Calls Tryz.prog 3 #[] W fun e w' => e = .returned (.bool true) ∧ Below W.heap.size W w' :=
  runsT_calls kxAll_ok ratioKnown_run (by kernel_rfl) hG hT
end Ev
end Go.Proofs.YtjjbhadnakjhdaaGreatDoor
