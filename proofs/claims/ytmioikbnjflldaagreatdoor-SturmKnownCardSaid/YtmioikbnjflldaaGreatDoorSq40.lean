/- Contracts, in this order: Calls over slices run, and their answers. -/
import Derived.Test.YtmioikbnjflldaaGreatDoorSq31
namespace Go.Proofs.YtmioikbnjflldaaGreatDoor
open Go Go.RowKit
namespace Ev
set_option maxRecDepth 100000
noncomputable def sth3 : BFact := ⟨20, [.row 34 3 3 [.bool true, .string ⟨⟨[2]⟩⟩, .string ⟨⟨[1]⟩⟩, .bool false, .string ⟨⟨[]⟩⟩, .string ⟨⟨[1]⟩⟩, .bool false, .string ⟨⟨[1]⟩⟩, .string ⟨⟨[1]⟩⟩]], .pair 47 6 2 [.bool true, .string ⟨⟨[2]⟩⟩, .string ⟨⟨[1]⟩⟩, .bool true, .string ⟨⟨[1]⟩⟩, .string ⟨⟨[1]⟩⟩, .bool false, .string ⟨⟨[1]⟩⟩, .string ⟨⟨[1]⟩⟩, .bool false, .string ⟨⟨[2]⟩⟩, .string ⟨⟨[1]⟩⟩] (.int .i64 (0))⟩
theorem sth3_ok : sth3.ok := BFact.by_run stl_ok (n := 300) (by kernel_rfl)
noncomputable def sth4 : BFact := ⟨18, [.row 34 3 2 [.bool false, .string ⟨⟨[6]⟩⟩, .string ⟨⟨[1]⟩⟩, .bool true, .string ⟨⟨[3]⟩⟩, .string ⟨⟨[1]⟩⟩]], .one (.tuple ⟨[.agg ⟨[.bool false, .string ⟨⟨[3]⟩⟩, .string ⟨⟨[1]⟩⟩]⟩, .int .i64 (0)]⟩)⟩
theorem sth4_ok : sth4.ok := BFact.by_run stl_ok (n := 300) (by kernel_rfl)
noncomputable def sth5 : BFact := ⟨14, [.row 34 3 1 [.bool false, .string ⟨⟨[3]⟩⟩, .string ⟨⟨[1]⟩⟩]], .pair 34 3 1 [.bool false, .string ⟨⟨[1]⟩⟩, .string ⟨⟨[1]⟩⟩] (.int .i64 (0))⟩
theorem sth5_ok : sth5.ok := BFact.by_run stl_ok (n := 300) (by kernel_rfl)
noncomputable def sth6 : BFact := ⟨23, [.one (.slice none 0 0), .row 34 3 2 [.bool false, .string ⟨⟨[]⟩⟩, .string ⟨⟨[1]⟩⟩, .bool false, .string ⟨⟨[1]⟩⟩, .string ⟨⟨[1]⟩⟩]], .one (.tuple ⟨[.bool false, .int .i64 (0)]⟩)⟩
theorem sth6_ok : sth6.ok := BFact.by_run stl_ok (n := 300) (by kernel_rfl)
noncomputable def sth7 : BFact := ⟨23, [.row 34 3 2 [.bool true, .string ⟨⟨[1]⟩⟩, .string ⟨⟨[1]⟩⟩, .bool false, .string ⟨⟨[1]⟩⟩, .string ⟨⟨[1]⟩⟩], .row 34 3 2 [.bool false, .string ⟨⟨[1]⟩⟩, .string ⟨⟨[1]⟩⟩, .bool false, .string ⟨⟨[1]⟩⟩, .string ⟨⟨[1]⟩⟩]], .one (.tuple ⟨[.bool true, .int .i64 (0)]⟩)⟩
theorem sth7_ok : sth7.ok := BFact.by_run stl_ok (n := 300) (by kernel_rfl)
noncomputable def sth8 : BFact := ⟨22, [.row 34 3 3 [.bool true, .string ⟨⟨[2]⟩⟩, .string ⟨⟨[1]⟩⟩, .bool false, .string ⟨⟨[]⟩⟩, .string ⟨⟨[1]⟩⟩, .bool false, .string ⟨⟨[1]⟩⟩, .string ⟨⟨[1]⟩⟩], .one (.agg ⟨[.bool false, .string ⟨⟨[1]⟩⟩, .string ⟨⟨[1]⟩⟩, .bool false, .string ⟨⟨[2]⟩⟩, .string ⟨⟨[1]⟩⟩]⟩), .one (.int .i64 (-1))], .one (.tuple ⟨[.agg ⟨[.bool false, .string ⟨⟨[]⟩⟩, .string ⟨⟨[]⟩⟩, .bool false, .string ⟨⟨[]⟩⟩, .string ⟨⟨[]⟩⟩]⟩, .int .i64 (2)]⟩)⟩
theorem sth8_ok : sth8.ok := BFact.by_run stl_ok (n := 300) (by kernel_rfl)
noncomputable def sth9 : BFact := ⟨18, [.row 34 3 1 [.bool false, .string ⟨⟨[5]⟩⟩, .string ⟨⟨[1]⟩⟩]], .one (.tuple ⟨[.agg ⟨[.bool false, .string ⟨⟨[]⟩⟩, .string ⟨⟨[1]⟩⟩]⟩, .int .i64 (0)]⟩)⟩
theorem sth9_ok : sth9.ok := BFact.by_run stl_ok (n := 300) (by kernel_rfl)
end Ev
end Go.Proofs.YtmioikbnjflldaaGreatDoor
