/- Contracts. -/
import Derived.Test.YtaefgofheiegeaaGreatTLq28
namespace Go.Proofs.YtaefgofheiegeaaGreat
open Go Go.RowKit
namespace Ev
set_option maxRecDepth 100000
set_option maxHeartbeats 4000000 in
theorem tl_runT : (List.range 10).all (tlAll true) = true := by kernel_rfl
end Ev
end Go.Proofs.YtaefgofheiegeaaGreat
