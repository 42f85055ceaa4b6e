/- Contracts, in this order: Calls over slices run, and their answers. -/
import Derived.Test.YtmioikbnjflldaaGreatDoorSq31
namespace Go.Proofs.YtmioikbnjflldaaGreatDoor
open Go Go.RowKit
namespace Ev
set_option maxRecDepth 100000
noncomputable def sth2 : BFact := ⟨22, [.row 34 3 3 [.bool true, .string ⟨⟨[2]⟩⟩, .string ⟨⟨[1]⟩⟩, .bool false, .string ⟨⟨[]⟩⟩, .string ⟨⟨[1]⟩⟩, .bool false, .string ⟨⟨[1]⟩⟩, .string ⟨⟨[1]⟩⟩], .one (.agg ⟨[.bool false, .string ⟨⟨[1]⟩⟩, .string ⟨⟨[1]⟩⟩, .bool false, .string ⟨⟨[2]⟩⟩, .string ⟨⟨[1]⟩⟩]⟩), .one (.int .i64 (3))], .one (.tuple ⟨[.agg ⟨[.bool false, .string ⟨⟨[11]⟩⟩, .string ⟨⟨[8]⟩⟩, .bool false, .string ⟨⟨[3]⟩⟩, .string ⟨⟨[2]⟩⟩]⟩, .int .i64 (0)]⟩)⟩
theorem sth2_ok : sth2.ok := BFact.by_run stl_ok (n := 300) (by kernel_rfl)
end Ev
end Go.Proofs.YtmioikbnjflldaaGreatDoor
