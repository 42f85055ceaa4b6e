/- Contracts, in this order: Calls run, all of them. -/
import Derived.Test.YtmioikbnjflldaaGreatDoorSq46
import Derived.Test.YtmioikbnjflldaaGreatDoorSq47
namespace Go.Proofs.YtmioikbnjflldaaGreatDoor
open Go Go.RowKit
namespace Ev
noncomputable def stgAll : List Fact := [stg0, stg1, stg2, stg3, stg4, stg5, stg6, stg7, stg8, stg9, stg10, stg11, stg12, stg13, stg14, stg15, stg16, stg17, stg18, stg19, stg20, stg21, stg22, stg23, stg24, stg25, stg26, stg27, stg28, stg29, stg30, stg31, stg32, stg33, stg34, stg35]
theorem stgAll_ok : ∀ x ∈ stgAll, x.ok := by
  intro x hx
  simp only [stgAll, List.mem_cons, List.not_mem_nil, or_false] at hx
  rcases hx with rfl | rfl | rfl | rfl | rfl | rfl | rfl | rfl | rfl | rfl | rfl | rfl | rfl | rfl | rfl | rfl | rfl | rfl | rfl | rfl | rfl | rfl | rfl | rfl | rfl | rfl | rfl | rfl | rfl | rfl | rfl | rfl | rfl | rfl | rfl | rfl
  · exact stg0_ok
  · exact stg1_ok
  · exact stg2_ok
  · exact stg3_ok
  · exact stg4_ok
  · exact stg5_ok
  · exact stg6_ok
  · exact stg7_ok
  · exact stg8_ok
  · exact stg9_ok
  · exact stg10_ok
  · exact stg11_ok
  · exact stg12_ok
  · exact stg13_ok
  · exact stg14_ok
  · exact stg15_ok
  · exact stg16_ok
  · exact stg17_ok
  · exact stg18_ok
  · exact stg19_ok
  · exact stg20_ok
  · exact stg21_ok
  · exact stg22_ok
  · exact stg23_ok
  · exact stg24_ok
  · exact stg25_ok
  · exact stg26_ok
  · exact stg27_ok
  · exact stg28_ok
  · exact stg29_ok
  · exact stg30_ok
  · exact stg31_ok
  · exact stg32_ok
  · exact stg33_ok
  · exact stg34_ok
  · exact stg35_ok
end Ev
end Go.Proofs.YtmioikbnjflldaaGreatDoor
