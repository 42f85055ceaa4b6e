/- Contracts, in this order: Calls over slices run, and their answers. -/
import Derived.Test.YtmioikbnjflldaaGreatDoorSq31
namespace Go.Proofs.YtmioikbnjflldaaGreatDoor
open Go Go.RowKit
namespace Ev
set_option maxRecDepth 100000
noncomputable def sth12 : BFact := ⟨22, [.row 34 3 3 [.bool true, .string ⟨⟨[2]⟩⟩, .string ⟨⟨[1]⟩⟩, .bool false, .string ⟨⟨[]⟩⟩, .string ⟨⟨[1]⟩⟩, .bool false, .string ⟨⟨[1]⟩⟩, .string ⟨⟨[1]⟩⟩], .one (.agg ⟨[.bool true, .string ⟨⟨[2]⟩⟩, .string ⟨⟨[1]⟩⟩, .bool false, .string ⟨⟨[2]⟩⟩, .string ⟨⟨[1]⟩⟩]⟩), .one (.int .i64 (1))], .one (.tuple ⟨[.agg ⟨[.bool false, .string ⟨⟨[]⟩⟩, .string ⟨⟨[]⟩⟩, .bool false, .string ⟨⟨[]⟩⟩, .string ⟨⟨[]⟩⟩]⟩, .int .i64 (60)]⟩)⟩
theorem sth12_ok : sth12.ok := BFact.by_run stl_ok (n := 300) (by kernel_rfl)
noncomputable def sth13 : BFact := ⟨14, [.row 34 3 3 [.bool false, .string ⟨⟨[1]⟩⟩, .string ⟨⟨[1]⟩⟩, .bool true, .string ⟨⟨[2]⟩⟩, .string ⟨⟨[1]⟩⟩, .bool false, .string ⟨⟨[1]⟩⟩, .string ⟨⟨[1]⟩⟩]], .pair 34 3 2 [.bool true, .string ⟨⟨[1]⟩⟩, .string ⟨⟨[1]⟩⟩, .bool false, .string ⟨⟨[1]⟩⟩, .string ⟨⟨[1]⟩⟩] (.int .i64 (0))⟩
theorem sth13_ok : sth13.ok := BFact.by_run stl_ok (n := 300) (by kernel_rfl)
noncomputable def sth14 : BFact := ⟨16, [.row 34 3 3 [.bool false, .string ⟨⟨[1]⟩⟩, .string ⟨⟨[1]⟩⟩, .bool false, .string ⟨⟨[]⟩⟩, .string ⟨⟨[1]⟩⟩, .bool false, .string ⟨⟨[1]⟩⟩, .string ⟨⟨[1]⟩⟩], .one (.agg ⟨[.bool false, .string ⟨⟨[2]⟩⟩, .string ⟨⟨[1]⟩⟩, .bool false, .string ⟨⟨[1]⟩⟩, .string ⟨⟨[1]⟩⟩]⟩)], .one (.tuple ⟨[.int .i64 (0), .int .i64 (2)]⟩)⟩
theorem sth14_ok : sth14.ok := BFact.by_run stl_ok (n := 300) (by kernel_rfl)
noncomputable def sth15 : BFact := ⟨14, [.one (.slice none 0 0)], .one (.tuple ⟨[.slice none 0 0, .int .i64 (4)]⟩)⟩
theorem sth15_ok : sth15.ok := BFact.by_run stl_ok (n := 300) (by kernel_rfl)
end Ev
end Go.Proofs.YtmioikbnjflldaaGreatDoor
