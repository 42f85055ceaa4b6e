/- Contracts, in this order: What is the same for all cards of this seat: the program's main, its looks. -/
import Derived.Test.YtgcgmplepcfbaaaGreatDoorCards
import Derived.Test.YtgcgmplepcfbaaaGreatDoorChecked
import Derived.SevenTiedAt
/- What is the same for all cards of this seat: the program's main, its looks. -/
namespace Go.Proofs.YtgcgmplepcfbaaaGreatDoor
set_option maxRecDepth 100000
theorem main_is : Tryz.checked.prog.mainIs = some (true, "35d0721a1d3133ddfd3d000434f908a27f5604c751df3fc4f78beec99216d735".toList) := by kernel_rfl
theorem looks_is : true = Tryz.checked.prog.looks [] := by kernel_rfl
end Go.Proofs.YtgcgmplepcfbaaaGreatDoor
