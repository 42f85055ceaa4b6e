/- Contracts, in this order: diapasonlaw10.WaveKnown, run by the interpreter. -/
import Derived.Test.YtbggpabkpmicgaaGreatWvq20
namespace Go.Proofs.YtbggpabkpmicgaaGreat
open Go Go.RowKit
namespace Ev
set_option maxRecDepth 100000 in
theorem waveKnown_run : runsN wvfAll 400 3 [] = some (.bool true) := by kernel_rfl
theorem waveKnown_any (W : World) (hG : Tryz.prog.globals.size ≤ W.heap.size) (hT : TabB W) : Calls Tryz.prog 3 #[] W fun e w' => e = .returned (.bool true) ∧ Below W.heap.size W w' :=
  runsN_calls wvfAll_ok waveKnown_run (by kernel_rfl) hG hT
end Ev
end Go.Proofs.YtbggpabkpmicgaaGreat
