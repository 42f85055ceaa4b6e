/- Contracts, in this order: diapasonlaw05.PolyKnown, run over the answers of its calls. -/
import Derived.Test.YtmioikbnjflldaaGreatDoorPq29
namespace Go.Proofs.YtmioikbnjflldaaGreatDoor
open Go Go.RowKit
namespace Ev
noncomputable def pkAll : List Fact := pkc0 :: pkaAll
theorem pkAll_ok : ∀ x ∈ pkAll, x.ok := by
  intro x hx
  rcases List.mem_cons.1 hx with rfl | hx
  · exact pkc0_ok
  · exact pkaAll_ok x hx
set_option maxRecDepth 100000 in
theorem polyKnown_run : runsR pkAll 300 3 [] = some (.bool true) := by kernel_rfl
theorem polyKnown_any (W : World) (hG : Tryz.prog.globals.size ≤ W.heap.size) (hT : TabB W) : Calls Tryz.prog 3 #[] W fun e w' => e = .returned (.bool true) ∧ Below W.heap.size W w' :=
  runsR_calls pkAll_ok polyKnown_run (by kernel_rfl) hG hT
end Ev
end Go.Proofs.YtmioikbnjflldaaGreatDoor
