/- Contracts, in this order: Calls run, all of them. -/
import Derived.Test.YtmioikbnjflldaaGreatDoorSq27
import Derived.Test.YtmioikbnjflldaaGreatDoorSq28
namespace Go.Proofs.YtmioikbnjflldaaGreatDoor
open Go Go.RowKit
namespace Ev
noncomputable def steAll : List Fact := [ste0, ste1, ste2, ste3, ste4, ste5, ste6, ste7, ste8, ste9, ste10, ste11, ste12, ste13, ste14, ste15, ste16, ste17, ste18, ste19, ste20, ste21, ste22, ste23, ste24, ste25, ste26, ste27, ste28, ste29, ste30, ste31, ste32, ste33, ste34, ste35, ste36, ste37, ste38, ste39, ste40, ste41, ste42, ste43, ste44, ste45, ste46, ste47, ste48, ste49, ste50, ste51, ste52, ste53, ste54, ste55, ste56, ste57, ste58, ste59, ste60, ste61, ste62, ste63, ste64, ste65, ste66, ste67, ste68, ste69]
theorem steAll_ok : ∀ x ∈ steAll, x.ok := by
  intro x hx
  simp only [steAll, List.mem_cons, List.not_mem_nil, or_false] at hx
  rcases hx with rfl | rfl | rfl | rfl | rfl | rfl | rfl | rfl | rfl | rfl | rfl | rfl | rfl | rfl | rfl | rfl | rfl | rfl | rfl | rfl | rfl | rfl | rfl | rfl | rfl | rfl | rfl | rfl | rfl | rfl | rfl | rfl | rfl | rfl | rfl | rfl | rfl | rfl | rfl | rfl | rfl | rfl | rfl | rfl | rfl | rfl | rfl | rfl | rfl | rfl | rfl | rfl | rfl | rfl | rfl | rfl | rfl | rfl | rfl | rfl | rfl | rfl | rfl | rfl | rfl | rfl | rfl | rfl | rfl | rfl
  · exact ste0_ok
  · exact ste1_ok
  · exact ste2_ok
  · exact ste3_ok
  · exact ste4_ok
  · exact ste5_ok
  · exact ste6_ok
  · exact ste7_ok
  · exact ste8_ok
  · exact ste9_ok
  · exact ste10_ok
  · exact ste11_ok
  · exact ste12_ok
  · exact ste13_ok
  · exact ste14_ok
  · exact ste15_ok
  · exact ste16_ok
  · exact ste17_ok
  · exact ste18_ok
  · exact ste19_ok
  · exact ste20_ok
  · exact ste21_ok
  · exact ste22_ok
  · exact ste23_ok
  · exact ste24_ok
  · exact ste25_ok
  · exact ste26_ok
  · exact ste27_ok
  · exact ste28_ok
  · exact ste29_ok
  · exact ste30_ok
  · exact ste31_ok
  · exact ste32_ok
  · exact ste33_ok
  · exact ste34_ok
  · exact ste35_ok
  · exact ste36_ok
  · exact ste37_ok
  · exact ste38_ok
  · exact ste39_ok
  · exact ste40_ok
  · exact ste41_ok
  · exact ste42_ok
  · exact ste43_ok
  · exact ste44_ok
  · exact ste45_ok
  · exact ste46_ok
  · exact ste47_ok
  · exact ste48_ok
  · exact ste49_ok
  · exact ste50_ok
  · exact ste51_ok
  · exact ste52_ok
  · exact ste53_ok
  · exact ste54_ok
  · exact ste55_ok
  · exact ste56_ok
  · exact ste57_ok
  · exact ste58_ok
  · exact ste59_ok
  · exact ste60_ok
  · exact ste61_ok
  · exact ste62_ok
  · exact ste63_ok
  · exact ste64_ok
  · exact ste65_ok
  · exact ste66_ok
  · exact ste67_ok
  · exact ste68_ok
  · exact ste69_ok
end Ev
end Go.Proofs.YtmioikbnjflldaaGreatDoor
