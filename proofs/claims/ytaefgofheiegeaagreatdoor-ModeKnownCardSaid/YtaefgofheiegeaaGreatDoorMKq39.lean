/- Contracts, in this order: Calls over structs with slices run, all of them. -/
import Derived.Test.YtaefgofheiegeaaGreatDoorMKq36
import Derived.Test.YtaefgofheiegeaaGreatDoorMKq37
import Derived.Test.YtaefgofheiegeaaGreatDoorMKq38
namespace Go.Proofs.YtaefgofheiegeaaGreatDoor
open Go Go.RowKit
namespace Ev
noncomputable def msmAll : List SFact := [msm0, msm1, msm2, msm3, msm4, msm5, msm6, msm7, msm8]
theorem msmAll_ok : ∀ x ∈ msmAll, x.ok := by
  intro x hx
  simp only [msmAll, List.mem_cons, List.not_mem_nil, or_false] at hx
  rcases hx with rfl | rfl | rfl | rfl | rfl | rfl | rfl | rfl | rfl
  · exact msm0_ok
  · exact msm1_ok
  · exact msm2_ok
  · exact msm3_ok
  · exact msm4_ok
  · exact msm5_ok
  · exact msm6_ok
  · exact msm7_ok
  · exact msm8_ok
end Ev
end Go.Proofs.YtaefgofheiegeaaGreatDoor
