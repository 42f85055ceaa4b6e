/- Contracts, in this order: Calls of structs with numbers, all of them. -/
import Derived.Test.YtmioikbnjflldaaGreatDoorSq33
import Derived.Test.YtmioikbnjflldaaGreatDoorSq34
import Derived.Test.YtmioikbnjflldaaGreatDoorSq35
namespace Go.Proofs.YtmioikbnjflldaaGreatDoor
open Go Go.RowKit
namespace Ev
noncomputable def stnAll : List NFact := [stn0, stn1, stn2, stn3, stn4, stn5, stn6, stn7, stn8, stn9, stn10, stn11, stn12, stn13, stn14, stn15, stn16, stn17, stn18, stn19, stn20, stn21, stn22, stn23, stn24, stn25, stn26, stn27, stn28, stn29, stn30, stn31, stn32, stn33, stn34, stn35, stn36, stn37, stn38, stn39, stn40, stn41, stn42, stn43, stn44, stn45, stn46, stn47, stn48, stn49, stn50, stn51, stn52, stn53, stn54, stn55, stn56, stn57, stn58, stn59, stn60, stn61, stn62, stn63, stn64, stn65, stn66, stn67, stn68, stn69, stn70, stn71, stn72, stn73, stn74, stn75, stn76, stn77, stn78, stn79, stn80, stn81, stn82, stn83, stn84, stn85, stn86, stn87, stn88, stn89, stn90, stn91, stn92, stn93, stn94, stn95, stn96, stn97, stn98, stn99, stn100, stn101, stn102, stn103, stn104, stn105, stn106, stn107, stn108, stn109, stn110, stn111, stn112, stn113, stn114, stn115, stn116, stn117]
theorem stnAll_ok : ∀ x ∈ stnAll, x.ok := by
  intro x hx
  simp only [stnAll, List.mem_cons, List.not_mem_nil, or_false] at hx
  rcases hx with rfl | rfl | rfl | rfl | rfl | rfl | rfl | rfl | rfl | rfl | rfl | rfl | rfl | rfl | rfl | rfl | rfl | rfl | rfl | rfl | rfl | rfl | rfl | rfl | rfl | rfl | rfl | rfl | rfl | rfl | rfl | rfl | rfl | rfl | rfl | rfl | rfl | rfl | rfl | rfl | rfl | rfl | rfl | rfl | rfl | rfl | rfl | rfl | rfl | rfl | rfl | rfl | rfl | rfl | rfl | rfl | rfl | rfl | rfl | rfl | rfl | rfl | rfl | rfl | rfl | rfl | rfl | rfl | rfl | rfl | rfl | rfl | rfl | rfl | rfl | rfl | rfl | rfl | rfl | rfl | rfl | rfl | rfl | rfl | rfl | rfl | rfl | rfl | rfl | rfl | rfl | rfl | rfl | rfl | rfl | rfl | rfl | rfl | rfl | rfl | rfl | rfl | rfl | rfl | rfl | rfl | rfl | rfl | rfl | rfl | rfl | rfl | rfl | rfl | rfl | rfl | rfl | rfl
  · exact stn0_ok
  · exact stn1_ok
  · exact stn2_ok
  · exact stn3_ok
  · exact stn4_ok
  · exact stn5_ok
  · exact stn6_ok
  · exact stn7_ok
  · exact stn8_ok
  · exact stn9_ok
  · exact stn10_ok
  · exact stn11_ok
  · exact stn12_ok
  · exact stn13_ok
  · exact stn14_ok
  · exact stn15_ok
  · exact stn16_ok
  · exact stn17_ok
  · exact stn18_ok
  · exact stn19_ok
  · exact stn20_ok
  · exact stn21_ok
  · exact stn22_ok
  · exact stn23_ok
  · exact stn24_ok
  · exact stn25_ok
  · exact stn26_ok
  · exact stn27_ok
  · exact stn28_ok
  · exact stn29_ok
  · exact stn30_ok
  · exact stn31_ok
  · exact stn32_ok
  · exact stn33_ok
  · exact stn34_ok
  · exact stn35_ok
  · exact stn36_ok
  · exact stn37_ok
  · exact stn38_ok
  · exact stn39_ok
  · exact stn40_ok
  · exact stn41_ok
  · exact stn42_ok
  · exact stn43_ok
  · exact stn44_ok
  · exact stn45_ok
  · exact stn46_ok
  · exact stn47_ok
  · exact stn48_ok
  · exact stn49_ok
  · exact stn50_ok
  · exact stn51_ok
  · exact stn52_ok
  · exact stn53_ok
  · exact stn54_ok
  · exact stn55_ok
  · exact stn56_ok
  · exact stn57_ok
  · exact stn58_ok
  · exact stn59_ok
  · exact stn60_ok
  · exact stn61_ok
  · exact stn62_ok
  · exact stn63_ok
  · exact stn64_ok
  · exact stn65_ok
  · exact stn66_ok
  · exact stn67_ok
  · exact stn68_ok
  · exact stn69_ok
  · exact stn70_ok
  · exact stn71_ok
  · exact stn72_ok
  · exact stn73_ok
  · exact stn74_ok
  · exact stn75_ok
  · exact stn76_ok
  · exact stn77_ok
  · exact stn78_ok
  · exact stn79_ok
  · exact stn80_ok
  · exact stn81_ok
  · exact stn82_ok
  · exact stn83_ok
  · exact stn84_ok
  · exact stn85_ok
  · exact stn86_ok
  · exact stn87_ok
  · exact stn88_ok
  · exact stn89_ok
  · exact stn90_ok
  · exact stn91_ok
  · exact stn92_ok
  · exact stn93_ok
  · exact stn94_ok
  · exact stn95_ok
  · exact stn96_ok
  · exact stn97_ok
  · exact stn98_ok
  · exact stn99_ok
  · exact stn100_ok
  · exact stn101_ok
  · exact stn102_ok
  · exact stn103_ok
  · exact stn104_ok
  · exact stn105_ok
  · exact stn106_ok
  · exact stn107_ok
  · exact stn108_ok
  · exact stn109_ok
  · exact stn110_ok
  · exact stn111_ok
  · exact stn112_ok
  · exact stn113_ok
  · exact stn114_ok
  · exact stn115_ok
  · exact stn116_ok
  · exact stn117_ok
noncomputable def stnSum : Sums Nat := nsumS (ntab stnAll [179, 178, 173]) stl
theorem stnSum_ok : SumOK natSig Tryz.prog stnSum := nsumS_ok _ stnAll_ok stl_ok
end Ev
end Go.Proofs.YtmioikbnjflldaaGreatDoor
