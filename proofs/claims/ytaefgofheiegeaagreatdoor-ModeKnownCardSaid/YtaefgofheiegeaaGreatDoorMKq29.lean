/- Contracts, in this order: Calls over slices run, and their answers. -/
import Derived.Test.YtaefgofheiegeaaGreatDoorMKq22
namespace Go.Proofs.YtaefgofheiegeaaGreatDoor
open Go Go.RowKit
namespace Ev
set_option maxRecDepth 100000
noncomputable def mka2 : BFact := ⟨141, [.row 26 3 3 [.bool false, .string ⟨⟨[3]⟩⟩, .string ⟨⟨[1]⟩⟩, .bool false, .string ⟨⟨[]⟩⟩, .string ⟨⟨[1]⟩⟩, .bool true, .string ⟨⟨[1]⟩⟩, .string ⟨⟨[1]⟩⟩], .one (.agg ⟨[.bool false, .string ⟨⟨[1]⟩⟩, .string ⟨⟨[1]⟩⟩, .bool false, .string ⟨⟨[2]⟩⟩, .string ⟨⟨[1]⟩⟩]⟩), .one (.int .i64 (2))], .one (.tuple ⟨[.agg ⟨[.bool false, .string ⟨⟨[3]⟩⟩, .string ⟨⟨[2]⟩⟩, .bool false, .string ⟨⟨[7]⟩⟩, .string ⟨⟨[4]⟩⟩]⟩, .int .i64 (0)]⟩)⟩
theorem mka2_ok : mka2.ok := BFact.by_run mk0_ok (n := 300) (by kernel_rfl)
end Ev
end Go.Proofs.YtaefgofheiegeaaGreatDoor
