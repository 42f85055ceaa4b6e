/- Contracts. -/
import Derived.Test.YtnlhjcfpfapafaaGreatDoorCards
import Derived.Test.YtnlhjcfpfapafaaGreatDoorChecked
import Derived.SevenTiedAt
namespace Go.Proofs.YtnlhjcfpfapafaaGreatDoor
set_option maxRecDepth 100000
theorem ZlO : Tryz.checked.prog.mainIs = some (true, "8c089dd74509cdf1c13a1bc1146efa049376ebfe70fe198da6780040f23d7bd5".toList) := by kernel_rfl
theorem Zjp : false = Tryz.checked.prog.looks [] := by kernel_rfl
end Go.Proofs.YtnlhjcfpfapafaaGreatDoor
