/- Contracts, in this order: Calls over slices run, all of them. -/
import Derived.Test.YtmioikbnjflldaaGreatDoorSq37
import Derived.Test.YtmioikbnjflldaaGreatDoorSq38
import Derived.Test.YtmioikbnjflldaaGreatDoorSq39
import Derived.Test.YtmioikbnjflldaaGreatDoorSq40
import Derived.Test.YtmioikbnjflldaaGreatDoorSq41
import Derived.Test.YtmioikbnjflldaaGreatDoorSq42
import Derived.Test.YtmioikbnjflldaaGreatDoorSq43
import Derived.Test.YtmioikbnjflldaaGreatDoorSq44
namespace Go.Proofs.YtmioikbnjflldaaGreatDoor
open Go Go.RowKit
namespace Ev
noncomputable def sthAll : List BFact := [sth0, sth1, sth2, sth3, sth4, sth5, sth6, sth7, sth8, sth9, sth10, sth11, sth12, sth13, sth14, sth15, sth16, sth17, sth18, sth19, sth20, sth21, sth22]
theorem sthAll_ok : ∀ x ∈ sthAll, x.ok := by
  intro x hx
  simp only [sthAll, List.mem_cons, List.not_mem_nil, or_false] at hx
  rcases hx with rfl | rfl | rfl | rfl | rfl | rfl | rfl | rfl | rfl | rfl | rfl | rfl | rfl | rfl | rfl | rfl | rfl | rfl | rfl | rfl | rfl | rfl | rfl
  · exact sth0_ok
  · exact sth1_ok
  · exact sth2_ok
  · exact sth3_ok
  · exact sth4_ok
  · exact sth5_ok
  · exact sth6_ok
  · exact sth7_ok
  · exact sth8_ok
  · exact sth9_ok
  · exact sth10_ok
  · exact sth11_ok
  · exact sth12_ok
  · exact sth13_ok
  · exact sth14_ok
  · exact sth15_ok
  · exact sth16_ok
  · exact sth17_ok
  · exact sth18_ok
  · exact sth19_ok
  · exact sth20_ok
  · exact sth21_ok
  · exact sth22_ok
end Ev
end Go.Proofs.YtmioikbnjflldaaGreatDoor
