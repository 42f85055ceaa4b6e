/- Contracts, in this order: Calls run, and their answers. -/
import Derived.Test.YtmioikbnjflldaaGreatDoorSq29
namespace Go.Proofs.YtmioikbnjflldaaGreatDoor
open Go Go.RowKit
namespace Ev
set_option maxRecDepth 100000
noncomputable def stf0 : Fact := ⟨65, [.int .u64 (9223372036854775783)], .int .u64 (9223372036854775643)⟩
theorem stf0_ok : stf0.ok := Fact.by_run steAll_ok (n := 300) (by kernel_rfl) (by kernel_rfl)
end Ev
end Go.Proofs.YtmioikbnjflldaaGreatDoor
