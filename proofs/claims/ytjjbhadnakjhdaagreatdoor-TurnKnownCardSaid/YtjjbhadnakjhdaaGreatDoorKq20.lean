/- Contracts, in this order: Calls run, all of them. -/
import Derived.Test.YtjjbhadnakjhdaaGreatDoorKq17
import Derived.Test.YtjjbhadnakjhdaaGreatDoorKq18
import Derived.Test.YtjjbhadnakjhdaaGreatDoorKq19
namespace Go.Proofs.YtjjbhadnakjhdaaGreatDoor
open Go Go.RowKit
namespace Ev
noncomputable def ktAll : List Fact := [kt0, kt1, kt2, kt3, kt4, kt5, kt6, kt7, kt8, kt9, kt10, kt11, kt12, kt13, kt14, kt15, kt16]
theorem ktAll_ok : ∀ x ∈ ktAll, x.ok := by
  intro x hx
  simp only [ktAll, List.mem_cons, List.not_mem_nil, or_false] at hx
  rcases hx with rfl | rfl | rfl | rfl | rfl | rfl | rfl | rfl | rfl | rfl | rfl | rfl | rfl | rfl | rfl | rfl | rfl
  · exact kt0_ok
  · exact kt1_ok
  · exact kt2_ok
  · exact kt3_ok
  · exact kt4_ok
  · exact kt5_ok
  · exact kt6_ok
  · exact kt7_ok
  · exact kt8_ok
  · exact kt9_ok
  · exact kt10_ok
  · exact kt11_ok
  · exact kt12_ok
  · exact kt13_ok
  · exact kt14_ok
  · exact kt15_ok
  · exact kt16_ok
end Ev
end Go.Proofs.YtjjbhadnakjhdaaGreatDoor
