/- Contracts, in this order: Calls over slices run, and their answers. -/
import Derived.Test.YtmioikbnjflldaaGreatDoorSq31
namespace Go.Proofs.YtmioikbnjflldaaGreatDoor
open Go Go.RowKit
namespace Ev
set_option maxRecDepth 100000
noncomputable def sth18 : BFact := ⟨16, [.row 34 3 3 [.bool false, .string ⟨⟨[1]⟩⟩, .string ⟨⟨[1]⟩⟩, .bool false, .string ⟨⟨[]⟩⟩, .string ⟨⟨[1]⟩⟩, .bool false, .string ⟨⟨[1]⟩⟩, .string ⟨⟨[1]⟩⟩], .one (.agg ⟨[.bool true, .string ⟨⟨[9]⟩⟩, .string ⟨⟨[1]⟩⟩, .bool false, .string ⟨⟨[9]⟩⟩, .string ⟨⟨[1]⟩⟩]⟩)], .one (.tuple ⟨[.int .i64 (0), .int .i64 (0)]⟩)⟩
theorem sth18_ok : sth18.ok := BFact.by_run stl_ok (n := 300) (by kernel_rfl)
noncomputable def sth19 : BFact := ⟨16, [.row 34 3 3 [.bool false, .string ⟨⟨[]⟩⟩, .string ⟨⟨[1]⟩⟩, .bool false, .string ⟨⟨[]⟩⟩, .string ⟨⟨[1]⟩⟩, .bool false, .string ⟨⟨[1]⟩⟩, .string ⟨⟨[1]⟩⟩], .one (.agg ⟨[.bool false, .string ⟨⟨[]⟩⟩, .string ⟨⟨[1]⟩⟩, .bool false, .string ⟨⟨[]⟩⟩, .string ⟨⟨[1]⟩⟩]⟩)], .one (.tuple ⟨[.int .i64 (1), .int .i64 (0)]⟩)⟩
theorem sth19_ok : sth19.ok := BFact.by_run stl_ok (n := 300) (by kernel_rfl)
noncomputable def sth20 : BFact := ⟨22, [.row 34 3 3 [.bool true, .string ⟨⟨[2]⟩⟩, .string ⟨⟨[1]⟩⟩, .bool false, .string ⟨⟨[]⟩⟩, .string ⟨⟨[1]⟩⟩, .bool false, .string ⟨⟨[1]⟩⟩, .string ⟨⟨[1]⟩⟩], .one (.agg ⟨[.bool false, .string ⟨⟨[1]⟩⟩, .string ⟨⟨[1]⟩⟩, .bool false, .string ⟨⟨[2]⟩⟩, .string ⟨⟨[1]⟩⟩]⟩), .one (.int .i64 (257))], .one (.tuple ⟨[.agg ⟨[.bool false, .string ⟨⟨[]⟩⟩, .string ⟨⟨[]⟩⟩, .bool false, .string ⟨⟨[]⟩⟩, .string ⟨⟨[]⟩⟩]⟩, .int .i64 (3)]⟩)⟩
theorem sth20_ok : sth20.ok := BFact.by_run stl_ok (n := 300) (by kernel_rfl)
noncomputable def sth21 : BFact := ⟨23, [.one (.slice none 0 0), .row 34 3 1 [.bool false, .string ⟨⟨[5]⟩⟩, .string ⟨⟨[1]⟩⟩]], .one (.tuple ⟨[.bool true, .int .i64 (0)]⟩)⟩
theorem sth21_ok : sth21.ok := BFact.by_run stl_ok (n := 300) (by kernel_rfl)
noncomputable def sth22 : BFact := ⟨23, [.one (.slice none 0 0), .one (.slice none 0 0)], .one (.tuple ⟨[.bool false, .int .i64 (0)]⟩)⟩
theorem sth22_ok : sth22.ok := BFact.by_run stl_ok (n := 300) (by kernel_rfl)
end Ev
end Go.Proofs.YtmioikbnjflldaaGreatDoor
