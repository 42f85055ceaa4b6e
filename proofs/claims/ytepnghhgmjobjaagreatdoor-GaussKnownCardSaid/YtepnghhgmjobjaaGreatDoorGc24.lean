/- Contracts, in this order: Calls run, all of them. -/
import Derived.Test.YtepnghhgmjobjaaGreatDoorGc16
import Derived.Test.YtepnghhgmjobjaaGreatDoorGc17
import Derived.Test.YtepnghhgmjobjaaGreatDoorGc18
import Derived.Test.YtepnghhgmjobjaaGreatDoorGc19
import Derived.Test.YtepnghhgmjobjaaGreatDoorGc20
import Derived.Test.YtepnghhgmjobjaaGreatDoorGc21
import Derived.Test.YtepnghhgmjobjaaGreatDoorGc22
import Derived.Test.YtepnghhgmjobjaaGreatDoorGc23
namespace Go.Proofs.YtepnghhgmjobjaaGreatDoor
open Go Go.RowKit
namespace Ev
noncomputable def gkAll : List Fact := [gk0, gk1, gk2, gk3, gk4, gk5, gk6, gk7, gk8, gk9, gk10, gk11, gk12, gk13, gk14, gk15, gk16, gk17, gk18, gk19, gk20, gk21, gk22, gk23, gk24, gk25, gk26, gk27, gk28, gk29, gk30, gk31, gk32, gk33, gk34, gk35, gk36, gk37, gk38, gk39, gk40, gk41, gk42, gk43, gk44, gk45, gk46, gk47, gk48, gk49, gk50, gk51, gk52, gk53, gk54, gk55, gk56, gk57, gk58, gk59]
theorem gkAll_ok : ∀ x ∈ gkAll, x.ok := by
  intro x hx
  simp only [gkAll, List.mem_cons, List.not_mem_nil, or_false] at hx
  rcases hx with rfl | rfl | rfl | rfl | rfl | rfl | rfl | rfl | rfl | rfl | rfl | rfl | rfl | rfl | rfl | rfl | rfl | rfl | rfl | rfl | rfl | rfl | rfl | rfl | rfl | rfl | rfl | rfl | rfl | rfl | rfl | rfl | rfl | rfl | rfl | rfl | rfl | rfl | rfl | rfl | rfl | rfl | rfl | rfl | rfl | rfl | rfl | rfl | rfl | rfl | rfl | rfl | rfl | rfl | rfl | rfl | rfl | rfl | rfl | rfl
  · exact gk0_ok
  · exact gk1_ok
  · exact gk2_ok
  · exact gk3_ok
  · exact gk4_ok
  · exact gk5_ok
  · exact gk6_ok
  · exact gk7_ok
  · exact gk8_ok
  · exact gk9_ok
  · exact gk10_ok
  · exact gk11_ok
  · exact gk12_ok
  · exact gk13_ok
  · exact gk14_ok
  · exact gk15_ok
  · exact gk16_ok
  · exact gk17_ok
  · exact gk18_ok
  · exact gk19_ok
  · exact gk20_ok
  · exact gk21_ok
  · exact gk22_ok
  · exact gk23_ok
  · exact gk24_ok
  · exact gk25_ok
  · exact gk26_ok
  · exact gk27_ok
  · exact gk28_ok
  · exact gk29_ok
  · exact gk30_ok
  · exact gk31_ok
  · exact gk32_ok
  · exact gk33_ok
  · exact gk34_ok
  · exact gk35_ok
  · exact gk36_ok
  · exact gk37_ok
  · exact gk38_ok
  · exact gk39_ok
  · exact gk40_ok
  · exact gk41_ok
  · exact gk42_ok
  · exact gk43_ok
  · exact gk44_ok
  · exact gk45_ok
  · exact gk46_ok
  · exact gk47_ok
  · exact gk48_ok
  · exact gk49_ok
  · exact gk50_ok
  · exact gk51_ok
  · exact gk52_ok
  · exact gk53_ok
  · exact gk54_ok
  · exact gk55_ok
  · exact gk56_ok
  · exact gk57_ok
  · exact gk58_ok
  · exact gk59_ok
end Ev
end Go.Proofs.YtepnghhgmjobjaaGreatDoor
