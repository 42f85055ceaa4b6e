/- Contracts, in this order: Calls run, all of them. -/
import Derived.Test.YtmioikbnjflldaaGreatDoorSq22
import Derived.Test.YtmioikbnjflldaaGreatDoorSq23
import Derived.Test.YtmioikbnjflldaaGreatDoorSq24
import Derived.Test.YtmioikbnjflldaaGreatDoorSq25
namespace Go.Proofs.YtmioikbnjflldaaGreatDoor
open Go Go.RowKit
namespace Ev
noncomputable def stdAll : List Fact := [std0, std1, std2, std3, std4, std5, std6, std7, std8, std9, std10, std11, std12, std13, std14, std15, std16, std17, std18, std19, std20, std21, std22, std23, std24, std25, std26, std27, std28, std29, std30, std31, std32]
theorem stdAll_ok : ∀ x ∈ stdAll, x.ok := by
  intro x hx
  simp only [stdAll, List.mem_cons, List.not_mem_nil, or_false] at hx
  rcases hx with rfl | rfl | rfl | rfl | rfl | rfl | rfl | rfl | rfl | rfl | rfl | rfl | rfl | rfl | rfl | rfl | rfl | rfl | rfl | rfl | rfl | rfl | rfl | rfl | rfl | rfl | rfl | rfl | rfl | rfl | rfl | rfl | rfl
  · exact std0_ok
  · exact std1_ok
  · exact std2_ok
  · exact std3_ok
  · exact std4_ok
  · exact std5_ok
  · exact std6_ok
  · exact std7_ok
  · exact std8_ok
  · exact std9_ok
  · exact std10_ok
  · exact std11_ok
  · exact std12_ok
  · exact std13_ok
  · exact std14_ok
  · exact std15_ok
  · exact std16_ok
  · exact std17_ok
  · exact std18_ok
  · exact std19_ok
  · exact std20_ok
  · exact std21_ok
  · exact std22_ok
  · exact std23_ok
  · exact std24_ok
  · exact std25_ok
  · exact std26_ok
  · exact std27_ok
  · exact std28_ok
  · exact std29_ok
  · exact std30_ok
  · exact std31_ok
  · exact std32_ok
end Ev
end Go.Proofs.YtmioikbnjflldaaGreatDoor
