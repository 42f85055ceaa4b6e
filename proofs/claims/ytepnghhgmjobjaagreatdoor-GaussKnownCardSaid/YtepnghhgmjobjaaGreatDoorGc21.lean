/- Contracts, in this order: Calls run, and their answers. -/
import Derived.Test.YtepnghhgmjobjaaGreatDoorGc15
namespace Go.Proofs.YtepnghhgmjobjaaGreatDoor
open Go Go.RowKit
namespace Ev
set_option maxRecDepth 100000
noncomputable def gk39 : Fact := ⟨9, [.int .i64 (1), .int .i64 (0)], .agg ⟨[.bool false, .string ⟨⟨[1]⟩⟩, .string ⟨⟨[1]⟩⟩, .bool false, .string ⟨⟨[]⟩⟩, .string ⟨⟨[1]⟩⟩]⟩⟩
theorem gk39_ok : gk39.ok := Fact.of_run (n := 300) (by kernel_rfl) (by kernel_rfl)
noncomputable def gk40 : Fact := ⟨12, [.agg ⟨[.bool false, .string ⟨⟨[]⟩⟩, .string ⟨⟨[1]⟩⟩, .bool true, .string ⟨⟨[1]⟩⟩, .string ⟨⟨[2]⟩⟩]⟩], .string ⟨⟨[45, 49, 47, 50, 105]⟩⟩⟩
theorem gk40_ok : gk40.ok := Fact.of_run (n := 300) (by kernel_rfl) (by kernel_rfl)
noncomputable def gk41 : Fact := ⟨12, [.agg ⟨[.bool true, .string ⟨⟨[2]⟩⟩, .string ⟨⟨[1]⟩⟩, .bool false, .string ⟨⟨[]⟩⟩, .string ⟨⟨[1]⟩⟩]⟩], .string ⟨⟨[45, 50]⟩⟩⟩
theorem gk41_ok : gk41.ok := Fact.of_run (n := 300) (by kernel_rfl) (by kernel_rfl)
noncomputable def gk42 : Fact := ⟨13, [.string ⟨⟨[]⟩⟩], .tuple ⟨[.agg ⟨[.bool false, .string ⟨⟨[]⟩⟩, .string ⟨⟨[]⟩⟩, .bool false, .string ⟨⟨[]⟩⟩, .string ⟨⟨[]⟩⟩]⟩, .int .i64 (6)]⟩⟩
theorem gk42_ok : gk42.ok := Fact.of_run (n := 300) (by kernel_rfl) (by kernel_rfl)
noncomputable def gk43 : Fact := ⟨13, [.string ⟨⟨[45, 48]⟩⟩], .tuple ⟨[.agg ⟨[.bool false, .string ⟨⟨[]⟩⟩, .string ⟨⟨[]⟩⟩, .bool false, .string ⟨⟨[]⟩⟩, .string ⟨⟨[]⟩⟩]⟩, .int .i64 (6)]⟩⟩
theorem gk43_ok : gk43.ok := Fact.of_run (n := 300) (by kernel_rfl) (by kernel_rfl)
noncomputable def gk44 : Fact := ⟨9, [.int .i64 (3), .int .i64 (-4)], .agg ⟨[.bool false, .string ⟨⟨[3]⟩⟩, .string ⟨⟨[1]⟩⟩, .bool true, .string ⟨⟨[4]⟩⟩, .string ⟨⟨[1]⟩⟩]⟩⟩
theorem gk44_ok : gk44.ok := Fact.of_run (n := 300) (by kernel_rfl) (by kernel_rfl)
noncomputable def gk45 : Fact := ⟨16, [.complex .f64 9218868437227405312 0], .tuple ⟨[.agg ⟨[.bool false, .string ⟨⟨[]⟩⟩, .string ⟨⟨[]⟩⟩, .bool false, .string ⟨⟨[]⟩⟩, .string ⟨⟨[]⟩⟩]⟩, .int .i64 (5)]⟩⟩
theorem gk45_ok : gk45.ok := Fact.of_run (n := 300) (by kernel_rfl) (by kernel_rfl)
end Ev
end Go.Proofs.YtepnghhgmjobjaaGreatDoor
