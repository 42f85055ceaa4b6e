/- Contracts, in this order: diapasonlaw04.DiscKnown, run over the answers of its calls. -/
import Derived.Test.YtjjbhadnakjhdaaGreatDoorKdq23
import Derived.Test.YtjjbhadnakjhdaaGreatDoorKdq24
namespace Go.Proofs.YtjjbhadnakjhdaaGreatDoor
open Go Go.RowKit
namespace Ev
noncomputable def kdAll2 : List Fact := mulNaN :: kdAll
theorem kdAll2_ok : ∀ x ∈ kdAll2, x.ok := fun x hx => by
  rcases List.mem_cons.1 hx with rfl | hx
  · exact mulNaN_ok
  · exact kdAll_ok x hx
set_option maxRecDepth 100000 in
theorem discKnown_run : runsBy kdAll2 300 4 [] = some (.bool true) := by kernel_rfl
theorem discKnown_any (W : World) (hG : Tryz.prog.globals.size ≤ W.heap.size) (hT : Tab W) : Calls Tryz.prog 4 #[] W fun e w' => e = .returned (.bool true) ∧ Below W.heap.size W w' :=
  runsBy_calls kdAll2_ok discKnown_run (by kernel_rfl) hG hT
end Ev
end Go.Proofs.YtjjbhadnakjhdaaGreatDoor
