/- Contracts, in this order: Calls run, all of them. -/
import Derived.Test.YtmioikbnjflldaaGreatDoorPq25
import Derived.Test.YtmioikbnjflldaaGreatDoorPq26
namespace Go.Proofs.YtmioikbnjflldaaGreatDoor
open Go Go.RowKit
namespace Ev
noncomputable def pkbAll : List Fact := [pkb0, pkb1, pkb2, pkb3, pkb4, pkb5, pkb6, pkb7, pkb8, pkb9, pkb10, pkb11, pkb12, pkb13, pkb14, pkb15, pkb16, pkb17, pkb18, pkb19, pkb20, pkb21, pkb22, pkb23, pkb24, pkb25, pkb26, pkb27, pkb28, pkb29, pkb30, pkb31, pkb32, pkb33, pkb34, pkb35, pkb36, pkb37, pkb38, pkb39, pkb40, pkb41, pkb42, pkb43, pkb44, pkb45, pkb46, pkb47, pkb48, pkb49, pkb50, pkb51, pkb52, pkb53, pkb54, pkb55, pkb56, pkb57, pkb58, pkb59, pkb60, pkb61, pkb62, pkb63, pkb64, pkb65, pkb66, pkb67, pkb68, pkb69]
theorem pkbAll_ok : ∀ x ∈ pkbAll, x.ok := by
  intro x hx
  simp only [pkbAll, List.mem_cons, List.not_mem_nil, or_false] at hx
  rcases hx with rfl | rfl | rfl | rfl | rfl | rfl | rfl | rfl | rfl | rfl | rfl | rfl | rfl | rfl | rfl | rfl | rfl | rfl | rfl | rfl | rfl | rfl | rfl | rfl | rfl | rfl | rfl | rfl | rfl | rfl | rfl | rfl | rfl | rfl | rfl | rfl | rfl | rfl | rfl | rfl | rfl | rfl | rfl | rfl | rfl | rfl | rfl | rfl | rfl | rfl | rfl | rfl | rfl | rfl | rfl | rfl | rfl | rfl | rfl | rfl | rfl | rfl | rfl | rfl | rfl | rfl | rfl | rfl | rfl | rfl
  · exact pkb0_ok
  · exact pkb1_ok
  · exact pkb2_ok
  · exact pkb3_ok
  · exact pkb4_ok
  · exact pkb5_ok
  · exact pkb6_ok
  · exact pkb7_ok
  · exact pkb8_ok
  · exact pkb9_ok
  · exact pkb10_ok
  · exact pkb11_ok
  · exact pkb12_ok
  · exact pkb13_ok
  · exact pkb14_ok
  · exact pkb15_ok
  · exact pkb16_ok
  · exact pkb17_ok
  · exact pkb18_ok
  · exact pkb19_ok
  · exact pkb20_ok
  · exact pkb21_ok
  · exact pkb22_ok
  · exact pkb23_ok
  · exact pkb24_ok
  · exact pkb25_ok
  · exact pkb26_ok
  · exact pkb27_ok
  · exact pkb28_ok
  · exact pkb29_ok
  · exact pkb30_ok
  · exact pkb31_ok
  · exact pkb32_ok
  · exact pkb33_ok
  · exact pkb34_ok
  · exact pkb35_ok
  · exact pkb36_ok
  · exact pkb37_ok
  · exact pkb38_ok
  · exact pkb39_ok
  · exact pkb40_ok
  · exact pkb41_ok
  · exact pkb42_ok
  · exact pkb43_ok
  · exact pkb44_ok
  · exact pkb45_ok
  · exact pkb46_ok
  · exact pkb47_ok
  · exact pkb48_ok
  · exact pkb49_ok
  · exact pkb50_ok
  · exact pkb51_ok
  · exact pkb52_ok
  · exact pkb53_ok
  · exact pkb54_ok
  · exact pkb55_ok
  · exact pkb56_ok
  · exact pkb57_ok
  · exact pkb58_ok
  · exact pkb59_ok
  · exact pkb60_ok
  · exact pkb61_ok
  · exact pkb62_ok
  · exact pkb63_ok
  · exact pkb64_ok
  · exact pkb65_ok
  · exact pkb66_ok
  · exact pkb67_ok
  · exact pkb68_ok
  · exact pkb69_ok
end Ev
end Go.Proofs.YtmioikbnjflldaaGreatDoor
