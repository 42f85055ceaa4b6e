/- Contracts, in this order: What is the same for all cards of this seat: the program's m · Whether the row goes by what it lists. -/
import Derived.Test.YthjofdfnppadnaaGreatDoorCards
import Derived.Test.YthjofdfnppadnaaGreatDoorChecked
import Derived.SevenTiedAt
namespace Go.Proofs.YthjofdfnppadnaaGreatDoor
set_option maxRecDepth 100000
theorem main_is : Tryz.checked.prog.mainIs = some (true, "4373e4dc532bbbf8c623fbad8e3add76f925905b21b408b0bdf64e0339436f2f".toList) := by kernel_rfl
theorem looks_is : false = Tryz.checked.prog.looks [] := by kernel_rfl
end Go.Proofs.YthjofdfnppadnaaGreatDoor
namespace Go.Proofs.YthjofdfnppadnaaGreatDoor
set_option maxRecDepth 100000
theorem tells_goes : false = Rows.ratioTellsRow.goesBy Tryz.checked.prog := by kernel_rfl
end Go.Proofs.YthjofdfnppadnaaGreatDoor
