/- Contracts. -/
import Derived.Test.YtnlhjcfpfapafaaGreatDoorPOq15
namespace Go.Proofs.YtnlhjcfpfapafaaGreatDoor
open Go Go.RowKit
namespace Ev
set_option maxRecDepth 100000
set_option maxHeartbeats 4000000 in
theorem Zd9 : Zn3 60 8 [] = some (.bool true) := by kernel_rfl
end Ev
end Go.Proofs.YtnlhjcfpfapafaaGreatDoor
