/- Contracts, in this order: Calls over structs with slices run, all of them. -/
import Derived.Test.YtaefgofheiegeaaGreatDoorMKq23
import Derived.Test.YtaefgofheiegeaaGreatDoorMKq24
import Derived.Test.YtaefgofheiegeaaGreatDoorMKq25
namespace Go.Proofs.YtaefgofheiegeaaGreatDoor
open Go Go.RowKit
namespace Ev
noncomputable def mslAll : List SFact := [msl0, msl1, msl2, msl3, msl4, msl5, msl6, msl7, msl8, msl9, msl10, msl11, msl12]
theorem mslAll_ok : ∀ x ∈ mslAll, x.ok := by
  intro x hx
  simp only [mslAll, List.mem_cons, List.not_mem_nil, or_false] at hx
  rcases hx with rfl | rfl | rfl | rfl | rfl | rfl | rfl | rfl | rfl | rfl | rfl | rfl | rfl
  · exact msl0_ok
  · exact msl1_ok
  · exact msl2_ok
  · exact msl3_ok
  · exact msl4_ok
  · exact msl5_ok
  · exact msl6_ok
  · exact msl7_ok
  · exact msl8_ok
  · exact msl9_ok
  · exact msl10_ok
  · exact msl11_ok
  · exact msl12_ok
end Ev
end Go.Proofs.YtaefgofheiegeaaGreatDoor
