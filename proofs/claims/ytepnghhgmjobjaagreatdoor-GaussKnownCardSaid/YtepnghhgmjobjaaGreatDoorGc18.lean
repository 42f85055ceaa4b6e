/- Contracts, in this order: Calls run, and their answers. -/
import Derived.Test.YtepnghhgmjobjaaGreatDoorGc15
namespace Go.Proofs.YtepnghhgmjobjaaGreatDoor
open Go Go.RowKit
namespace Ev
set_option maxRecDepth 100000
noncomputable def gk16 : Fact := ⟨10, [.agg ⟨[.bool false, .string ⟨⟨[1]⟩⟩, .string ⟨⟨[1]⟩⟩, .bool false, .string ⟨⟨[1]⟩⟩, .string ⟨⟨[1]⟩⟩]⟩, .agg ⟨[.bool false, .string ⟨⟨[]⟩⟩, .string ⟨⟨[1]⟩⟩, .bool false, .string ⟨⟨[1]⟩⟩, .string ⟨⟨[1]⟩⟩]⟩], .tuple ⟨[.agg ⟨[.bool false, .string ⟨⟨[1]⟩⟩, .string ⟨⟨[1]⟩⟩, .bool true, .string ⟨⟨[1]⟩⟩, .string ⟨⟨[1]⟩⟩]⟩, .int .i64 (0)]⟩⟩
theorem gk16_ok : gk16.ok := Fact.of_run (n := 300) (by kernel_rfl) (by kernel_rfl)
noncomputable def gk17 : Fact := ⟨11, [.agg ⟨[.bool false, .string ⟨⟨[1]⟩⟩, .string ⟨⟨[1]⟩⟩, .bool false, .string ⟨⟨[]⟩⟩, .string ⟨⟨[1]⟩⟩]⟩, .int .i64 (25)], .tuple ⟨[.agg ⟨[.bool false, .string ⟨⟨[]⟩⟩, .string ⟨⟨[]⟩⟩, .bool false, .string ⟨⟨[]⟩⟩, .string ⟨⟨[]⟩⟩]⟩, .int .i64 (3)]⟩⟩
theorem gk17_ok : gk17.ok := Fact.of_run (n := 300) (by kernel_rfl) (by kernel_rfl)
noncomputable def gk18 : Fact := ⟨12, [.agg ⟨[.bool false, .string ⟨⟨[]⟩⟩, .string ⟨⟨[1]⟩⟩, .bool false, .string ⟨⟨[1]⟩⟩, .string ⟨⟨[1]⟩⟩]⟩], .string ⟨⟨[105]⟩⟩⟩
theorem gk18_ok : gk18.ok := Fact.of_run (n := 300) (by kernel_rfl) (by kernel_rfl)
noncomputable def gk19 : Fact := ⟨12, [.agg ⟨[.bool false, .string ⟨⟨[1]⟩⟩, .string ⟨⟨[2]⟩⟩, .bool true, .string ⟨⟨[3]⟩⟩, .string ⟨⟨[4]⟩⟩]⟩], .string ⟨⟨[49, 47, 50, 45, 51, 47, 52, 105]⟩⟩⟩
theorem gk19_ok : gk19.ok := Fact.of_run (n := 300) (by kernel_rfl) (by kernel_rfl)
noncomputable def gk20 : Fact := ⟨13, [.string ⟨⟨[49, 43, 45, 105]⟩⟩], .tuple ⟨[.agg ⟨[.bool false, .string ⟨⟨[]⟩⟩, .string ⟨⟨[]⟩⟩, .bool false, .string ⟨⟨[]⟩⟩, .string ⟨⟨[]⟩⟩]⟩, .int .i64 (6)]⟩⟩
theorem gk20_ok : gk20.ok := Fact.of_run (n := 300) (by kernel_rfl) (by kernel_rfl)
noncomputable def gk21 : Fact := ⟨13, [.string ⟨⟨[105, 105]⟩⟩], .tuple ⟨[.agg ⟨[.bool false, .string ⟨⟨[]⟩⟩, .string ⟨⟨[]⟩⟩, .bool false, .string ⟨⟨[]⟩⟩, .string ⟨⟨[]⟩⟩]⟩, .int .i64 (6)]⟩⟩
theorem gk21_ok : gk21.ok := Fact.of_run (n := 300) (by kernel_rfl) (by kernel_rfl)
noncomputable def gk22 : Fact := ⟨15, [.agg ⟨[.bool false, .string ⟨⟨[1, 0, 0, 0, 0, 0, 0, 0, 0, 0, 0, 0, 0, 0, 0, 0, 0, 0, 0, 0, 0, 0, 0, 0, 0, 0, 0, 0, 0, 0, 0, 0, 0, 0, 0, 0, 0, 0, 0, 0, 0, 0, 0, 0, 0, 0, 0, 0, 0, 0, 0, 0, 0, 0, 0, 0, 0, 0, 0, 0, 0, 0, 0, 0, 0, 0, 0, 0, 0, 0, 0, 0, 0, 0, 0, 0, 0, 0, 0, 0, 0, 0, 0, 0, 0, 0, 0, 0, 0, 0, 0, 0, 0, 0, 0, 0, 0, 0, 0, 0, 0, 0, 0, 0, 0, 0, 0, 0, 0, 0, 0, 0, 0, 0, 0, 0, 0, 0, 0, 0, 0, 0, 0, 0, 0, 0, 0, 0, 0]⟩⟩, .string ⟨⟨[1]⟩⟩, .bool false, .string ⟨⟨[]⟩⟩, .string ⟨⟨[1]⟩⟩]⟩], .tuple ⟨[.complex .f64 0 0, .int .i64 (5)]⟩⟩
theorem gk22_ok : gk22.ok := Fact.of_run (n := 300) (by kernel_rfl) (by kernel_rfl)
noncomputable def gk23 : Fact := ⟨9, [.int .i64 (25), .int .i64 (0)], .agg ⟨[.bool false, .string ⟨⟨[25]⟩⟩, .string ⟨⟨[1]⟩⟩, .bool false, .string ⟨⟨[]⟩⟩, .string ⟨⟨[1]⟩⟩]⟩⟩
theorem gk23_ok : gk23.ok := Fact.of_run (n := 300) (by kernel_rfl) (by kernel_rfl)
end Ev
end Go.Proofs.YtepnghhgmjobjaaGreatDoor
