/- Contracts, in this order: Calls run, all of them. -/
import Derived.Test.YtjjbhadnakjhdaaGreatDoorKsq18
import Derived.Test.YtjjbhadnakjhdaaGreatDoorKsq19
import Derived.Test.YtjjbhadnakjhdaaGreatDoorKsq20
namespace Go.Proofs.YtjjbhadnakjhdaaGreatDoor
open Go Go.RowKit
namespace Ev
noncomputable def ksAll : List Fact := [ks0, ks1, ks2, ks3, ks4, ks5, ks6, ks7, ks8, ks9, ks10, ks11, ks12, ks13, ks14, ks15, ks16, ks17, ks18, ks19, ks20, ks21, ks22, ks23, ks24]
theorem ksAll_ok : ∀ x ∈ ksAll, x.ok := by
  intro x hx
  simp only [ksAll, List.mem_cons, List.not_mem_nil, or_false] at hx
  rcases hx with rfl | rfl | rfl | rfl | rfl | rfl | rfl | rfl | rfl | rfl | rfl | rfl | rfl | rfl | rfl | rfl | rfl | rfl | rfl | rfl | rfl | rfl | rfl | rfl | rfl
  · exact ks0_ok
  · exact ks1_ok
  · exact ks2_ok
  · exact ks3_ok
  · exact ks4_ok
  · exact ks5_ok
  · exact ks6_ok
  · exact ks7_ok
  · exact ks8_ok
  · exact ks9_ok
  · exact ks10_ok
  · exact ks11_ok
  · exact ks12_ok
  · exact ks13_ok
  · exact ks14_ok
  · exact ks15_ok
  · exact ks16_ok
  · exact ks17_ok
  · exact ks18_ok
  · exact ks19_ok
  · exact ks20_ok
  · exact ks21_ok
  · exact ks22_ok
  · exact ks23_ok
  · exact ks24_ok
end Ev
end Go.Proofs.YtjjbhadnakjhdaaGreatDoor
