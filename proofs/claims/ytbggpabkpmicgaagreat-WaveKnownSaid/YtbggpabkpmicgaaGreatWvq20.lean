/- Contracts, in this order: Calls run, all of them. -/
import Derived.Test.YtbggpabkpmicgaaGreatWvq19
namespace Go.Proofs.YtbggpabkpmicgaaGreat
open Go Go.RowKit
namespace Ev
noncomputable def wvfAll : List Fact := [wvf0, wvf1, wvf2, wvf3, wvf4, wvf5, wvf6, wvf7, wvf8, wvf9, wvf10]
theorem wvfAll_ok : ∀ x ∈ wvfAll, x.ok := by
  intro x hx
  simp only [wvfAll, List.mem_cons, List.not_mem_nil, or_false] at hx
  rcases hx with rfl | rfl | rfl | rfl | rfl | rfl | rfl | rfl | rfl | rfl | rfl
  · exact wvf0_ok
  · exact wvf1_ok
  · exact wvf2_ok
  · exact wvf3_ok
  · exact wvf4_ok
  · exact wvf5_ok
  · exact wvf6_ok
  · exact wvf7_ok
  · exact wvf8_ok
  · exact wvf9_ok
  · exact wvf10_ok
end Ev
end Go.Proofs.YtbggpabkpmicgaaGreat
