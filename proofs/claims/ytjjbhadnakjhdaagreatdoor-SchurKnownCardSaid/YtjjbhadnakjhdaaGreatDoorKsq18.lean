/- Contracts, in this order: Calls run, and their answers. -/
import Derived.Test.YtjjbhadnakjhdaaGreatDoorKsq17
namespace Go.Proofs.YtjjbhadnakjhdaaGreatDoor
open Go Go.RowKit
namespace Ev
set_option maxRecDepth 100000
noncomputable def ks0 : Fact := ⟨51, [.int .i64 (1), .int .i64 (2)], .agg ⟨[.bool false, .string ⟨⟨[1]⟩⟩, .string ⟨⟨[2]⟩⟩]⟩⟩
theorem ks0_ok : ks0.ok := Fact.of_run (n := 300) (by kernel_rfl) (by kernel_rfl)
noncomputable def ks1 : Fact := ⟨51, [.int .i64 (0), .int .i64 (1)], .agg ⟨[.bool false, .string ⟨⟨[]⟩⟩, .string ⟨⟨[1]⟩⟩]⟩⟩
theorem ks1_ok : ks1.ok := Fact.of_run (n := 300) (by kernel_rfl) (by kernel_rfl)
noncomputable def ks2 : Fact := ⟨228, [.string ⟨⟨[2]⟩⟩], .bool true⟩
theorem ks2_ok : ks2.ok := Fact.of_run (n := 300) (by kernel_rfl) (by kernel_rfl)
noncomputable def ks3 : Fact := ⟨51, [.int .i64 (-1), .int .i64 (1)], .agg ⟨[.bool true, .string ⟨⟨[1]⟩⟩, .string ⟨⟨[1]⟩⟩]⟩⟩
theorem ks3_ok : ks3.ok := Fact.of_run (n := 300) (by kernel_rfl) (by kernel_rfl)
noncomputable def ks4 : Fact := ⟨131, [.int .i64 (2)], .bool false⟩
theorem ks4_ok : ks4.ok := Fact.of_run (n := 300) (by kernel_rfl) (by kernel_rfl)
noncomputable def ks5 : Fact := ⟨302, [.int .u64 (0)], .int .i64 (0)⟩
theorem ks5_ok : ks5.ok := Fact.of_run (n := 300) (by kernel_rfl) (by kernel_rfl)
noncomputable def ks6 : Fact := ⟨302, [.int .u64 (1)], .int .i64 (1)⟩
theorem ks6_ok : ks6.ok := Fact.of_run (n := 300) (by kernel_rfl) (by kernel_rfl)
noncomputable def ks7 : Fact := ⟨228, [.string ⟨⟨[4]⟩⟩], .bool true⟩
theorem ks7_ok : ks7.ok := Fact.of_run (n := 300) (by kernel_rfl) (by kernel_rfl)
noncomputable def ks8 : Fact := ⟨131, [.int .i64 (0)], .bool false⟩
theorem ks8_ok : ks8.ok := Fact.of_run (n := 300) (by kernel_rfl) (by kernel_rfl)
end Ev
end Go.Proofs.YtjjbhadnakjhdaaGreatDoor
