/- Contracts. -/
import Derived.Test.YtdlhpleabfnogaaGreatDoorCards
import Derived.Test.YtdlhpleabfnogaaGreatDoorChecked
import Derived.SevenTiedAt
namespace Go.Proofs.YtdlhpleabfnogaaGreatDoor
set_option maxRecDepth 100000
theorem plaws_goes : false = Rows.polyLawsRow.goesBy Tryz.checked.prog := by kernel_rfl
end Go.Proofs.YtdlhpleabfnogaaGreatDoor
