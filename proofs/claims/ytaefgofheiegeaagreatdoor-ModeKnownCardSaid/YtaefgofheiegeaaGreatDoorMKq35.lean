/- Contracts, in this order: Calls over slices run, all of them. -/
import Derived.Test.YtaefgofheiegeaaGreatDoorMKq27
import Derived.Test.YtaefgofheiegeaaGreatDoorMKq28
import Derived.Test.YtaefgofheiegeaaGreatDoorMKq29
import Derived.Test.YtaefgofheiegeaaGreatDoorMKq30
import Derived.Test.YtaefgofheiegeaaGreatDoorMKq31
import Derived.Test.YtaefgofheiegeaaGreatDoorMKq32
import Derived.Test.YtaefgofheiegeaaGreatDoorMKq33
import Derived.Test.YtaefgofheiegeaaGreatDoorMKq34
namespace Go.Proofs.YtaefgofheiegeaaGreatDoor
open Go Go.RowKit
namespace Ev
noncomputable def mkaAll : List BFact := [mka0, mka1, mka2, mka3, mka4, mka5, mka6, mka7, mka8]
theorem mkaAll_ok : ∀ x ∈ mkaAll, x.ok := by
  intro x hx
  simp only [mkaAll, List.mem_cons, List.not_mem_nil, or_false] at hx
  rcases hx with rfl | rfl | rfl | rfl | rfl | rfl | rfl | rfl | rfl
  · exact mka0_ok
  · exact mka1_ok
  · exact mka2_ok
  · exact mka3_ok
  · exact mka4_ok
  · exact mka5_ok
  · exact mka6_ok
  · exact mka7_ok
  · exact mka8_ok
end Ev
end Go.Proofs.YtaefgofheiegeaaGreatDoor
