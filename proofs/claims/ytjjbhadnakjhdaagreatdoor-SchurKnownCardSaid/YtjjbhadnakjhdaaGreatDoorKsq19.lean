/- Contracts, in this order: Calls run, and their answers. -/
import Derived.Test.YtjjbhadnakjhdaaGreatDoorKsq17
namespace Go.Proofs.YtjjbhadnakjhdaaGreatDoor
open Go Go.RowKit
namespace Ev
set_option maxRecDepth 100000
noncomputable def ks9 : Fact := ⟨51, [.int .i64 (1), .int .i64 (3)], .agg ⟨[.bool false, .string ⟨⟨[1]⟩⟩, .string ⟨⟨[3]⟩⟩]⟩⟩
theorem ks9_ok : ks9.ok := Fact.of_run (n := 300) (by kernel_rfl) (by kernel_rfl)
noncomputable def ks10 : Fact := ⟨131, [.int .i64 (1)], .bool true⟩
theorem ks10_ok : ks10.ok := Fact.of_run (n := 300) (by kernel_rfl) (by kernel_rfl)
noncomputable def ks11 : Fact := ⟨228, [.string ⟨⟨[3]⟩⟩], .bool true⟩
theorem ks11_ok : ks11.ok := Fact.of_run (n := 300) (by kernel_rfl) (by kernel_rfl)
noncomputable def ks12 : Fact := ⟨228, [.string ⟨⟨[]⟩⟩], .bool true⟩
theorem ks12_ok : ks12.ok := Fact.of_run (n := 300) (by kernel_rfl) (by kernel_rfl)
noncomputable def ks13 : Fact := ⟨51, [.int .i64 (5), .int .i64 (1)], .agg ⟨[.bool false, .string ⟨⟨[5]⟩⟩, .string ⟨⟨[1]⟩⟩]⟩⟩
theorem ks13_ok : ks13.ok := Fact.of_run (n := 300) (by kernel_rfl) (by kernel_rfl)
noncomputable def ks14 : Fact := ⟨302, [.int .u64 (2)], .int .i64 (2)⟩
theorem ks14_ok : ks14.ok := Fact.of_run (n := 300) (by kernel_rfl) (by kernel_rfl)
noncomputable def ks15 : Fact := ⟨327, [.int .u64 (1), .int .i64 (2)], .int .u64 (1)⟩
theorem ks15_ok : ks15.ok := Fact.of_run (n := 300) (by kernel_rfl) (by kernel_rfl)
noncomputable def ks16 : Fact := ⟨327, [.int .u64 (1), .int .i64 (4)], .int .u64 (1)⟩
theorem ks16_ok : ks16.ok := Fact.of_run (n := 300) (by kernel_rfl) (by kernel_rfl)
end Ev
end Go.Proofs.YtjjbhadnakjhdaaGreatDoor
