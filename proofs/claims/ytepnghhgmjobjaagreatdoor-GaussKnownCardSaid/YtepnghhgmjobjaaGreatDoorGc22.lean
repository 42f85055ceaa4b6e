/- Contracts, in this order: Calls run, and their answers. -/
import Derived.Test.YtepnghhgmjobjaaGreatDoorGc15
namespace Go.Proofs.YtepnghhgmjobjaaGreatDoor
open Go Go.RowKit
namespace Ev
set_option maxRecDepth 100000
noncomputable def gk46 : Fact := ⟨11, [.agg ⟨[.bool false, .string ⟨⟨[]⟩⟩, .string ⟨⟨[1]⟩⟩, .bool false, .string ⟨⟨[1]⟩⟩, .string ⟨⟨[1]⟩⟩]⟩, .int .i64 (3)], .tuple ⟨[.agg ⟨[.bool false, .string ⟨⟨[]⟩⟩, .string ⟨⟨[1]⟩⟩, .bool true, .string ⟨⟨[1]⟩⟩, .string ⟨⟨[1]⟩⟩]⟩, .int .i64 (0)]⟩⟩
theorem gk46_ok : gk46.ok := Fact.of_run (n := 300) (by kernel_rfl) (by kernel_rfl)
noncomputable def gk47 : Fact := ⟨12, [.agg ⟨[.bool false, .string ⟨⟨[1]⟩⟩, .string ⟨⟨[1]⟩⟩, .bool false, .string ⟨⟨[]⟩⟩, .string ⟨⟨[1]⟩⟩]⟩], .string ⟨⟨[49]⟩⟩⟩
theorem gk47_ok : gk47.ok := Fact.of_run (n := 300) (by kernel_rfl) (by kernel_rfl)
noncomputable def gk48 : Fact := ⟨13, [.string ⟨⟨[49, 45, 105]⟩⟩], .tuple ⟨[.agg ⟨[.bool false, .string ⟨⟨[1]⟩⟩, .string ⟨⟨[1]⟩⟩, .bool true, .string ⟨⟨[1]⟩⟩, .string ⟨⟨[1]⟩⟩]⟩, .int .i64 (0)]⟩⟩
theorem gk48_ok : gk48.ok := Fact.of_run (n := 300) (by kernel_rfl) (by kernel_rfl)
noncomputable def gk49 : Fact := ⟨13, [.string ⟨⟨[49, 105]⟩⟩], .tuple ⟨[.agg ⟨[.bool false, .string ⟨⟨[]⟩⟩, .string ⟨⟨[]⟩⟩, .bool false, .string ⟨⟨[]⟩⟩, .string ⟨⟨[]⟩⟩]⟩, .int .i64 (6)]⟩⟩
theorem gk49_ok : gk49.ok := Fact.of_run (n := 300) (by kernel_rfl) (by kernel_rfl)
noncomputable def gk50 : Fact := ⟨13, [.string ⟨⟨[48, 105]⟩⟩], .tuple ⟨[.agg ⟨[.bool false, .string ⟨⟨[]⟩⟩, .string ⟨⟨[]⟩⟩, .bool false, .string ⟨⟨[]⟩⟩, .string ⟨⟨[]⟩⟩]⟩, .int .i64 (6)]⟩⟩
theorem gk50_ok : gk50.ok := Fact.of_run (n := 300) (by kernel_rfl) (by kernel_rfl)
noncomputable def gk51 : Fact := ⟨14, [.agg ⟨[.bool false, .string ⟨⟨[3]⟩⟩, .string ⟨⟨[1]⟩⟩, .bool true, .string ⟨⟨[4]⟩⟩, .string ⟨⟨[1]⟩⟩]⟩], .tuple ⟨[.agg ⟨[.bool false, .string ⟨⟨[25]⟩⟩, .string ⟨⟨[1]⟩⟩]⟩, .int .i64 (0)]⟩⟩
theorem gk51_ok : gk51.ok := Fact.of_run (n := 300) (by kernel_rfl) (by kernel_rfl)
noncomputable def gk52 : Fact := ⟨9, [.int .i64 (1), .int .i64 (2)], .agg ⟨[.bool false, .string ⟨⟨[1]⟩⟩, .string ⟨⟨[1]⟩⟩, .bool false, .string ⟨⟨[2]⟩⟩, .string ⟨⟨[1]⟩⟩]⟩⟩
theorem gk52_ok : gk52.ok := Fact.of_run (n := 300) (by kernel_rfl) (by kernel_rfl)
end Ev
end Go.Proofs.YtepnghhgmjobjaaGreatDoor
