/- Contracts, in this order: Whether the row goes by what it lists. -/
import Derived.Test.YtgcgmplepcfbaaaGreatDoorCards
import Derived.Test.YtgcgmplepcfbaaaGreatDoorChecked
import Derived.SevenTiedAt
/- Whether the row goes by what it lists. -/
namespace Go.Proofs.YtgcgmplepcfbaaaGreatDoor
set_option maxRecDepth 100000
theorem gback_goes : false = Rows.grainBackRow.goesBy Tryz.checked.prog := by kernel_rfl
end Go.Proofs.YtgcgmplepcfbaaaGreatDoor
