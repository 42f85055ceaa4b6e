/- Contracts, in this order: Calls run, all of them. -/
import Derived.Test.YtjjbhadnakjhdaaGreatDoorKdq17
import Derived.Test.YtjjbhadnakjhdaaGreatDoorKdq18
import Derived.Test.YtjjbhadnakjhdaaGreatDoorKdq19
import Derived.Test.YtjjbhadnakjhdaaGreatDoorKdq20
import Derived.Test.YtjjbhadnakjhdaaGreatDoorKdq21
import Derived.Test.YtjjbhadnakjhdaaGreatDoorKdq22
namespace Go.Proofs.YtjjbhadnakjhdaaGreatDoor
open Go Go.RowKit
namespace Ev
noncomputable def kdAll : List Fact := [kd0, kd1, kd2, kd3, kd4, kd5, kd6, kd7, kd8, kd9, kd10, kd11, kd12, kd13, kd14, kd15, kd16, kd17, kd18, kd19, kd20, kd21, kd22, kd23, kd24, kd25, kd26, kd27, kd28, kd29, kd30, kd31, kd32, kd33, kd34, kd35, kd36, kd37, kd38, kd39, kd40, kd41, kd42, kd43, kd44, kd45, kd46, kd47, kd48, kd49, kd50, kd51, kd52, kd53, kd54, kd55, kd56, kd57, kd58, kd59, kd60, kd61, kd62, kd63, kd64, kd65, kd66, kd67, kd68, kd69, kd70, kd71, kd72, kd73, kd74, kd75, kd76, kd77, kd78, kd79, kd80, kd81, kd82, kd83, kd84, kd85, kd86, kd87, kd88, kd89]
theorem kdAll_ok : ∀ x ∈ kdAll, x.ok := by
  intro x hx
  simp only [kdAll, List.mem_cons, List.not_mem_nil, or_false] at hx
  rcases hx with rfl | rfl | rfl | rfl | rfl | rfl | rfl | rfl | rfl | rfl | rfl | rfl | rfl | rfl | rfl | rfl | rfl | rfl | rfl | rfl | rfl | rfl | rfl | rfl | rfl | rfl | rfl | rfl | rfl | rfl | rfl | rfl | rfl | rfl | rfl | rfl | rfl | rfl | rfl | rfl | rfl | rfl | rfl | rfl | rfl | rfl | rfl | rfl | rfl | rfl | rfl | rfl | rfl | rfl | rfl | rfl | rfl | rfl | rfl | rfl | rfl | rfl | rfl | rfl | rfl | rfl | rfl | rfl | rfl | rfl | rfl | rfl | rfl | rfl | rfl | rfl | rfl | rfl | rfl | rfl | rfl | rfl | rfl | rfl | rfl | rfl | rfl | rfl | rfl | rfl
  · exact kd0_ok
  · exact kd1_ok
  · exact kd2_ok
  · exact kd3_ok
  · exact kd4_ok
  · exact kd5_ok
  · exact kd6_ok
  · exact kd7_ok
  · exact kd8_ok
  · exact kd9_ok
  · exact kd10_ok
  · exact kd11_ok
  · exact kd12_ok
  · exact kd13_ok
  · exact kd14_ok
  · exact kd15_ok
  · exact kd16_ok
  · exact kd17_ok
  · exact kd18_ok
  · exact kd19_ok
  · exact kd20_ok
  · exact kd21_ok
  · exact kd22_ok
  · exact kd23_ok
  · exact kd24_ok
  · exact kd25_ok
  · exact kd26_ok
  · exact kd27_ok
  · exact kd28_ok
  · exact kd29_ok
  · exact kd30_ok
  · exact kd31_ok
  · exact kd32_ok
  · exact kd33_ok
  · exact kd34_ok
  · exact kd35_ok
  · exact kd36_ok
  · exact kd37_ok
  · exact kd38_ok
  · exact kd39_ok
  · exact kd40_ok
  · exact kd41_ok
  · exact kd42_ok
  · exact kd43_ok
  · exact kd44_ok
  · exact kd45_ok
  · exact kd46_ok
  · exact kd47_ok
  · exact kd48_ok
  · exact kd49_ok
  · exact kd50_ok
  · exact kd51_ok
  · exact kd52_ok
  · exact kd53_ok
  · exact kd54_ok
  · exact kd55_ok
  · exact kd56_ok
  · exact kd57_ok
  · exact kd58_ok
  · exact kd59_ok
  · exact kd60_ok
  · exact kd61_ok
  · exact kd62_ok
  · exact kd63_ok
  · exact kd64_ok
  · exact kd65_ok
  · exact kd66_ok
  · exact kd67_ok
  · exact kd68_ok
  · exact kd69_ok
  · exact kd70_ok
  · exact kd71_ok
  · exact kd72_ok
  · exact kd73_ok
  · exact kd74_ok
  · exact kd75_ok
  · exact kd76_ok
  · exact kd77_ok
  · exact kd78_ok
  · exact kd79_ok
  · exact kd80_ok
  · exact kd81_ok
  · exact kd82_ok
  · exact kd83_ok
  · exact kd84_ok
  · exact kd85_ok
  · exact kd86_ok
  · exact kd87_ok
  · exact kd88_ok
  · exact kd89_ok
end Ev
end Go.Proofs.YtjjbhadnakjhdaaGreatDoor
