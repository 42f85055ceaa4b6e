/- Contracts, in this order: Calls run, and their answers. -/
import Derived.Test.YtepnghhgmjobjaaGreatDoorGc15
namespace Go.Proofs.YtepnghhgmjobjaaGreatDoor
open Go Go.RowKit
namespace Ev
set_option maxRecDepth 100000
noncomputable def gk53 : Fact := ⟨11, [.agg ⟨[.bool false, .string ⟨⟨[1]⟩⟩, .string ⟨⟨[1]⟩⟩, .bool false, .string ⟨⟨[1]⟩⟩, .string ⟨⟨[1]⟩⟩]⟩, .int .i64 (-2)], .tuple ⟨[.agg ⟨[.bool false, .string ⟨⟨[]⟩⟩, .string ⟨⟨[1]⟩⟩, .bool true, .string ⟨⟨[1]⟩⟩, .string ⟨⟨[2]⟩⟩]⟩, .int .i64 (0)]⟩⟩
theorem gk53_ok : gk53.ok := Fact.of_run (n := 300) (by kernel_rfl) (by kernel_rfl)
noncomputable def gk54 : Fact := ⟨13, [.string ⟨⟨[48]⟩⟩], .tuple ⟨[.agg ⟨[.bool false, .string ⟨⟨[]⟩⟩, .string ⟨⟨[1]⟩⟩, .bool false, .string ⟨⟨[]⟩⟩, .string ⟨⟨[1]⟩⟩]⟩, .int .i64 (0)]⟩⟩
theorem gk54_ok : gk54.ok := Fact.of_run (n := 300) (by kernel_rfl) (by kernel_rfl)
noncomputable def gk55 : Fact := ⟨13, [.string ⟨⟨[50, 105]⟩⟩], .tuple ⟨[.agg ⟨[.bool false, .string ⟨⟨[]⟩⟩, .string ⟨⟨[1]⟩⟩, .bool false, .string ⟨⟨[2]⟩⟩, .string ⟨⟨[1]⟩⟩]⟩, .int .i64 (0)]⟩⟩
theorem gk55_ok : gk55.ok := Fact.of_run (n := 300) (by kernel_rfl) (by kernel_rfl)
noncomputable def gk56 : Fact := ⟨13, [.string ⟨⟨[48, 43, 105]⟩⟩], .tuple ⟨[.agg ⟨[.bool false, .string ⟨⟨[]⟩⟩, .string ⟨⟨[]⟩⟩, .bool false, .string ⟨⟨[]⟩⟩, .string ⟨⟨[]⟩⟩]⟩, .int .i64 (6)]⟩⟩
theorem gk56_ok : gk56.ok := Fact.of_run (n := 300) (by kernel_rfl) (by kernel_rfl)
noncomputable def gk57 : Fact := ⟨13, [.string ⟨⟨[49, 32, 43, 105]⟩⟩], .tuple ⟨[.agg ⟨[.bool false, .string ⟨⟨[]⟩⟩, .string ⟨⟨[]⟩⟩, .bool false, .string ⟨⟨[]⟩⟩, .string ⟨⟨[]⟩⟩]⟩, .int .i64 (6)]⟩⟩
theorem gk57_ok : gk57.ok := Fact.of_run (n := 300) (by kernel_rfl) (by kernel_rfl)
noncomputable def gk58 : Fact := ⟨9, [.int .i64 (4294967296), .int .i64 (0)], .agg ⟨[.bool false, .string ⟨⟨[1, 0, 0, 0, 0]⟩⟩, .string ⟨⟨[1]⟩⟩, .bool false, .string ⟨⟨[]⟩⟩, .string ⟨⟨[1]⟩⟩]⟩⟩
theorem gk58_ok : gk58.ok := Fact.of_run (n := 300) (by kernel_rfl) (by kernel_rfl)
noncomputable def gk59 : Fact := ⟨54, [.agg ⟨[.bool false, .string ⟨⟨[3]⟩⟩, .string ⟨⟨[1]⟩⟩, .bool true, .string ⟨⟨[4]⟩⟩, .string ⟨⟨[1]⟩⟩]⟩, .agg ⟨[.bool false, .string ⟨⟨[1]⟩⟩, .string ⟨⟨[1]⟩⟩, .bool false, .string ⟨⟨[2]⟩⟩, .string ⟨⟨[1]⟩⟩]⟩], .tuple ⟨[.agg ⟨[.bool false, .string ⟨⟨[11]⟩⟩, .string ⟨⟨[1]⟩⟩, .bool false, .string ⟨⟨[2]⟩⟩, .string ⟨⟨[1]⟩⟩]⟩, .int .i64 (0)]⟩⟩
theorem gk59_ok : gk59.ok := Fact.of_run (n := 300) (by kernel_rfl) (by kernel_rfl)
end Ev
end Go.Proofs.YtepnghhgmjobjaaGreatDoor
