/- Contracts, in this order: Calls run, all of them. -/
import Derived.Test.YtmioikbnjflldaaGreatDoorSq20
namespace Go.Proofs.YtmioikbnjflldaaGreatDoor
open Go Go.RowKit
namespace Ev
noncomputable def staAll : List Fact := [sta0, sta1, sta2, sta3, sta4, sta5, sta6, sta7, sta8, sta9, sta10, sta11, sta12, sta13, sta14, sta15, sta16, sta17, sta18, sta19, sta20]
theorem staAll_ok : ∀ x ∈ staAll, x.ok := by
  intro x hx
  simp only [staAll, List.mem_cons, List.not_mem_nil, or_false] at hx
  rcases hx with rfl | rfl | rfl | rfl | rfl | rfl | rfl | rfl | rfl | rfl | rfl | rfl | rfl | rfl | rfl | rfl | rfl | rfl | rfl | rfl | rfl
  · exact sta0_ok
  · exact sta1_ok
  · exact sta2_ok
  · exact sta3_ok
  · exact sta4_ok
  · exact sta5_ok
  · exact sta6_ok
  · exact sta7_ok
  · exact sta8_ok
  · exact sta9_ok
  · exact sta10_ok
  · exact sta11_ok
  · exact sta12_ok
  · exact sta13_ok
  · exact sta14_ok
  · exact sta15_ok
  · exact sta16_ok
  · exact sta17_ok
  · exact sta18_ok
  · exact sta19_ok
  · exact sta20_ok
end Ev
end Go.Proofs.YtmioikbnjflldaaGreatDoor
