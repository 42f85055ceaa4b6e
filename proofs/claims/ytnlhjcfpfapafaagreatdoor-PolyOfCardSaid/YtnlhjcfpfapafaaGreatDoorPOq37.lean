/- Contracts. -/
import Derived.Test.YtnlhjcfpfapafaaGreatDoorCards
import Derived.Test.YtnlhjcfpfapafaaGreatDoorChecked
import Derived.SevenTiedAt
namespace Go.Proofs.YtnlhjcfpfapafaaGreatDoor
set_option maxRecDepth 100000
theorem Zjq : false = Rows.polyOfRow.goesBy Tryz.checked.prog := by kernel_rfl
end Go.Proofs.YtnlhjcfpfapafaaGreatDoor
