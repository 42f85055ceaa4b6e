/- Contracts, in this order: Calls run, and their answers. -/
import Derived.Test.YtepnghhgmjobjaaGreatDoorGc15
namespace Go.Proofs.YtepnghhgmjobjaaGreatDoor
open Go Go.RowKit
namespace Ev
set_option maxRecDepth 100000
noncomputable def gk8 : Fact := ⟨9, [.int .i64 (0), .int .i64 (1)], .agg ⟨[.bool false, .string ⟨⟨[]⟩⟩, .string ⟨⟨[1]⟩⟩, .bool false, .string ⟨⟨[1]⟩⟩, .string ⟨⟨[1]⟩⟩]⟩⟩
theorem gk8_ok : gk8.ok := Fact.of_run (n := 300) (by kernel_rfl) (by kernel_rfl)
noncomputable def gk9 : Fact := ⟨11, [.agg ⟨[.bool false, .string ⟨⟨[]⟩⟩, .string ⟨⟨[1]⟩⟩, .bool false, .string ⟨⟨[]⟩⟩, .string ⟨⟨[1]⟩⟩]⟩, .int .i64 (-1)], .tuple ⟨[.agg ⟨[.bool false, .string ⟨⟨[]⟩⟩, .string ⟨⟨[]⟩⟩, .bool false, .string ⟨⟨[]⟩⟩, .string ⟨⟨[]⟩⟩]⟩, .int .i64 (4)]⟩⟩
theorem gk9_ok : gk9.ok := Fact.of_run (n := 300) (by kernel_rfl) (by kernel_rfl)
noncomputable def gk10 : Fact := ⟨13, [.string ⟨⟨[105]⟩⟩], .tuple ⟨[.agg ⟨[.bool false, .string ⟨⟨[]⟩⟩, .string ⟨⟨[1]⟩⟩, .bool false, .string ⟨⟨[1]⟩⟩, .string ⟨⟨[1]⟩⟩]⟩, .int .i64 (0)]⟩⟩
theorem gk10_ok : gk10.ok := Fact.of_run (n := 300) (by kernel_rfl) (by kernel_rfl)
noncomputable def gk11 : Fact := ⟨13, [.string ⟨⟨[49, 47, 50, 45, 51, 47, 52, 105]⟩⟩], .tuple ⟨[.agg ⟨[.bool false, .string ⟨⟨[1]⟩⟩, .string ⟨⟨[2]⟩⟩, .bool true, .string ⟨⟨[3]⟩⟩, .string ⟨⟨[4]⟩⟩]⟩, .int .i64 (0)]⟩⟩
theorem gk11_ok : gk11.ok := Fact.of_run (n := 300) (by kernel_rfl) (by kernel_rfl)
noncomputable def gk12 : Fact := ⟨13, [.string ⟨⟨[105, 43, 49]⟩⟩], .tuple ⟨[.agg ⟨[.bool false, .string ⟨⟨[]⟩⟩, .string ⟨⟨[]⟩⟩, .bool false, .string ⟨⟨[]⟩⟩, .string ⟨⟨[]⟩⟩]⟩, .int .i64 (6)]⟩⟩
theorem gk12_ok : gk12.ok := Fact.of_run (n := 300) (by kernel_rfl) (by kernel_rfl)
noncomputable def gk13 : Fact := ⟨13, [.string ⟨⟨[49, 43, 49, 105]⟩⟩], .tuple ⟨[.agg ⟨[.bool false, .string ⟨⟨[]⟩⟩, .string ⟨⟨[]⟩⟩, .bool false, .string ⟨⟨[]⟩⟩, .string ⟨⟨[]⟩⟩]⟩, .int .i64 (6)]⟩⟩
theorem gk13_ok : gk13.ok := Fact.of_run (n := 300) (by kernel_rfl) (by kernel_rfl)
noncomputable def gk14 : Fact := ⟨11, [.agg ⟨[.bool false, .string ⟨⟨[1, 0, 0, 0, 0, 0, 0, 0, 0, 0, 0, 0, 0, 0, 0, 0, 0, 0, 0, 0, 0, 0, 0, 0, 0, 0, 0, 0, 0, 0, 0, 0, 0, 0, 0, 0, 0, 0, 0, 0, 0, 0, 0, 0, 0, 0, 0, 0, 0, 0, 0, 0, 0, 0, 0, 0, 0, 0, 0, 0, 0, 0, 0, 0, 0]⟩⟩, .string ⟨⟨[1]⟩⟩, .bool false, .string ⟨⟨[]⟩⟩, .string ⟨⟨[1]⟩⟩]⟩, .int .i64 (2)], .tuple ⟨[.agg ⟨[.bool false, .string ⟨⟨[1, 0, 0, 0, 0, 0, 0, 0, 0, 0, 0, 0, 0, 0, 0, 0, 0, 0, 0, 0, 0, 0, 0, 0, 0, 0, 0, 0, 0, 0, 0, 0, 0, 0, 0, 0, 0, 0, 0, 0, 0, 0, 0, 0, 0, 0, 0, 0, 0, 0, 0, 0, 0, 0, 0, 0, 0, 0, 0, 0, 0, 0, 0, 0, 0, 0, 0, 0, 0, 0, 0, 0, 0, 0, 0, 0, 0, 0, 0, 0, 0, 0, 0, 0, 0, 0, 0, 0, 0, 0, 0, 0, 0, 0, 0, 0, 0, 0, 0, 0, 0, 0, 0, 0, 0, 0, 0, 0, 0, 0, 0, 0, 0, 0, 0, 0, 0, 0, 0, 0, 0, 0, 0, 0, 0, 0, 0, 0, 0]⟩⟩, .string ⟨⟨[1]⟩⟩, .bool false, .string ⟨⟨[]⟩⟩, .string ⟨⟨[1]⟩⟩]⟩, .int .i64 (0)]⟩⟩
theorem gk14_ok : gk14.ok := Fact.of_run (n := 300) (by kernel_rfl) (by kernel_rfl)
noncomputable def gk15 : Fact := ⟨18, [], .bool true⟩
theorem gk15_ok : gk15.ok := Fact.of_run (n := 300) (by kernel_rfl) (by kernel_rfl)
end Ev
end Go.Proofs.YtepnghhgmjobjaaGreatDoor
