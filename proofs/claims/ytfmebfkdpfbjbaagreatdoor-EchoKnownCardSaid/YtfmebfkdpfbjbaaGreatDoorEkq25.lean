/- Contracts, in this order: Calls run, all of them. -/
import Derived.Test.YtfmebfkdpfbjbaaGreatDoorEkq22
import Derived.Test.YtfmebfkdpfbjbaaGreatDoorEkq23
import Derived.Test.YtfmebfkdpfbjbaaGreatDoorEkq24
namespace Go.Proofs.YtfmebfkdpfbjbaaGreatDoor
open Go Go.RowKit
namespace Ev
noncomputable def ekAll : List Fact := [ek0, ek1, ek2, ek3, ek4, ek5, ek6, ek7, ek8, ek9, ek10, ek11, ek12, ek13, ek14, ek15, ek16, ek17, ek18, ek19, ek20, ek21, ek22, ek23, ek24, ek25, ek26, ek27, ek28, ek29, ek30, ek31, ek32, ek33]
theorem ekAll_ok : ∀ x ∈ ekAll, x.ok := by
  intro x hx
  simp only [ekAll, List.mem_cons, List.not_mem_nil, or_false] at hx
  rcases hx with rfl | rfl | rfl | rfl | rfl | rfl | rfl | rfl | rfl | rfl | rfl | rfl | rfl | rfl | rfl | rfl | rfl | rfl | rfl | rfl | rfl | rfl | rfl | rfl | rfl | rfl | rfl | rfl | rfl | rfl | rfl | rfl | rfl | rfl
  · exact ek0_ok
  · exact ek1_ok
  · exact ek2_ok
  · exact ek3_ok
  · exact ek4_ok
  · exact ek5_ok
  · exact ek6_ok
  · exact ek7_ok
  · exact ek8_ok
  · exact ek9_ok
  · exact ek10_ok
  · exact ek11_ok
  · exact ek12_ok
  · exact ek13_ok
  · exact ek14_ok
  · exact ek15_ok
  · exact ek16_ok
  · exact ek17_ok
  · exact ek18_ok
  · exact ek19_ok
  · exact ek20_ok
  · exact ek21_ok
  · exact ek22_ok
  · exact ek23_ok
  · exact ek24_ok
  · exact ek25_ok
  · exact ek26_ok
  · exact ek27_ok
  · exact ek28_ok
  · exact ek29_ok
  · exact ek30_ok
  · exact ek31_ok
  · exact ek32_ok
  · exact ek33_ok
end Ev
end Go.Proofs.YtfmebfkdpfbjbaaGreatDoor
