/- Contracts, in this order: diapasonlaw14.EchoKnown, run over the answers of its calls. -/
import Derived.Test.YtfmebfkdpfbjbaaGreatDoorEkq25
namespace Go.Proofs.YtfmebfkdpfbjbaaGreatDoor
open Go Go.RowKit
namespace Ev
set_option maxRecDepth 100000 in
theorem echoKnown_run : runsN ekAll 300 3 [] = some (.bool true) := by kernel_rfl
theorem echoKnown_any (W : World) (hG : Tryz.prog.globals.size ≤ W.heap.size) (hT : Tab W) : Calls Tryz.prog 3 #[] W fun e w' => e = .returned (.bool true) ∧ Below W.heap.size W w' :=
  runsN_calls ekAll_ok echoKnown_run (by kernel_rfl) hG hT
end Ev
end Go.Proofs.YtfmebfkdpfbjbaaGreatDoor
