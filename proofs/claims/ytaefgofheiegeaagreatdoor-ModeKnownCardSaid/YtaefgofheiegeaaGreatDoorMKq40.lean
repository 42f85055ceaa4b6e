/- Contracts, in this order: diapasonlaw12.ModeKnown, run over the answers of its calls. -/
import Derived.Test.YtaefgofheiegeaaGreatDoorMKq39
namespace Go.Proofs.YtaefgofheiegeaaGreatDoor
open Go Go.RowKit
namespace Ev
noncomputable def mslm : List SFact := mslAll ++ msmAll
theorem mslm_ok : ∀ x ∈ mslm, x.ok := fun x hx => (List.mem_append.1 hx).elim (mslAll_ok x) (msmAll_ok x)
set_option maxRecDepth 100000 in
theorem modeKnown_run : runsP mslm mkaAll [] 3000 3 [] = some (.bool true) := by kernel_rfl
theorem modeKnown_any (W : World) (hG : Tryz.prog.globals.size ≤ W.heap.size) (hT : TabB W) : Calls Tryz.prog 3 #[] W fun e w' => e = .returned (.bool true) ∧ Below W.heap.size W w' :=
  runsP_calls mslm_ok mkaAll_ok mk0_ok modeKnown_run (by kernel_rfl) hG hT
end Ev
end Go.Proofs.YtaefgofheiegeaaGreatDoor
