/- Contracts, in this order: Calls run, all of them. -/
import Derived.Test.YtmioikbnjflldaaGreatDoorPq20
import Derived.Test.YtmioikbnjflldaaGreatDoorPq21
import Derived.Test.YtmioikbnjflldaaGreatDoorPq22
import Derived.Test.YtmioikbnjflldaaGreatDoorPq23
namespace Go.Proofs.YtmioikbnjflldaaGreatDoor
open Go Go.RowKit
namespace Ev
noncomputable def pkaAll : List Fact := [pka0, pka1, pka2, pka3, pka4, pka5, pka6, pka7, pka8, pka9, pka10, pka11, pka12, pka13, pka14, pka15, pka16, pka17, pka18, pka19, pka20, pka21, pka22, pka23, pka24, pka25, pka26, pka27, pka28, pka29, pka30, pka31, pka32, pka33, pka34, pka35, pka36, pka37, pka38, pka39, pka40, pka41, pka42, pka43, pka44, pka45, pka46, pka47, pka48, pka49, pka50, pka51, pka52, pka53, pka54, pka55, pka56, pka57, pka58, pka59, pka60, pka61, pka62, pka63, pka64, pka65, pka66, pka67]
theorem pkaAll_ok : ∀ x ∈ pkaAll, x.ok := by
  intro x hx
  simp only [pkaAll, List.mem_cons, List.not_mem_nil, or_false] at hx
  rcases hx with rfl | rfl | rfl | rfl | rfl | rfl | rfl | rfl | rfl | rfl | rfl | rfl | rfl | rfl | rfl | rfl | rfl | rfl | rfl | rfl | rfl | rfl | rfl | rfl | rfl | rfl | rfl | rfl | rfl | rfl | rfl | rfl | rfl | rfl | rfl | rfl | rfl | rfl | rfl | rfl | rfl | rfl | rfl | rfl | rfl | rfl | rfl | rfl | rfl | rfl | rfl | rfl | rfl | rfl | rfl | rfl | rfl | rfl | rfl | rfl | rfl | rfl | rfl | rfl | rfl | rfl | rfl | rfl
  · exact pka0_ok
  · exact pka1_ok
  · exact pka2_ok
  · exact pka3_ok
  · exact pka4_ok
  · exact pka5_ok
  · exact pka6_ok
  · exact pka7_ok
  · exact pka8_ok
  · exact pka9_ok
  · exact pka10_ok
  · exact pka11_ok
  · exact pka12_ok
  · exact pka13_ok
  · exact pka14_ok
  · exact pka15_ok
  · exact pka16_ok
  · exact pka17_ok
  · exact pka18_ok
  · exact pka19_ok
  · exact pka20_ok
  · exact pka21_ok
  · exact pka22_ok
  · exact pka23_ok
  · exact pka24_ok
  · exact pka25_ok
  · exact pka26_ok
  · exact pka27_ok
  · exact pka28_ok
  · exact pka29_ok
  · exact pka30_ok
  · exact pka31_ok
  · exact pka32_ok
  · exact pka33_ok
  · exact pka34_ok
  · exact pka35_ok
  · exact pka36_ok
  · exact pka37_ok
  · exact pka38_ok
  · exact pka39_ok
  · exact pka40_ok
  · exact pka41_ok
  · exact pka42_ok
  · exact pka43_ok
  · exact pka44_ok
  · exact pka45_ok
  · exact pka46_ok
  · exact pka47_ok
  · exact pka48_ok
  · exact pka49_ok
  · exact pka50_ok
  · exact pka51_ok
  · exact pka52_ok
  · exact pka53_ok
  · exact pka54_ok
  · exact pka55_ok
  · exact pka56_ok
  · exact pka57_ok
  · exact pka58_ok
  · exact pka59_ok
  · exact pka60_ok
  · exact pka61_ok
  · exact pka62_ok
  · exact pka63_ok
  · exact pka64_ok
  · exact pka65_ok
  · exact pka66_ok
  · exact pka67_ok
end Ev
end Go.Proofs.YtmioikbnjflldaaGreatDoor
