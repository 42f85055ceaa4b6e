/- Contracts, in this order: Calls run, and their answers. -/
import Derived.Test.YtjjbhadnakjhdaaGreatDoorKsq17
namespace Go.Proofs.YtjjbhadnakjhdaaGreatDoor
open Go Go.RowKit
namespace Ev
set_option maxRecDepth 100000
noncomputable def ks17 : Fact := ⟨51, [.int .i64 (1), .int .i64 (1)], .agg ⟨[.bool false, .string ⟨⟨[1]⟩⟩, .string ⟨⟨[1]⟩⟩]⟩⟩
theorem ks17_ok : ks17.ok := Fact.of_run (n := 300) (by kernel_rfl) (by kernel_rfl)
noncomputable def ks18 : Fact := ⟨228, [.string ⟨⟨[1]⟩⟩], .bool true⟩
theorem ks18_ok : ks18.ok := Fact.of_run (n := 300) (by kernel_rfl) (by kernel_rfl)
noncomputable def ks19 : Fact := ⟨131, [.int .i64 (-1)], .bool true⟩
theorem ks19_ok : ks19.ok := Fact.of_run (n := 300) (by kernel_rfl) (by kernel_rfl)
noncomputable def ks20 : Fact := ⟨51, [.int .i64 (2), .int .i64 (1)], .agg ⟨[.bool false, .string ⟨⟨[2]⟩⟩, .string ⟨⟨[1]⟩⟩]⟩⟩
theorem ks20_ok : ks20.ok := Fact.of_run (n := 300) (by kernel_rfl) (by kernel_rfl)
noncomputable def ks21 : Fact := ⟨51, [.int .i64 (4), .int .i64 (1)], .agg ⟨[.bool false, .string ⟨⟨[4]⟩⟩, .string ⟨⟨[1]⟩⟩]⟩⟩
theorem ks21_ok : ks21.ok := Fact.of_run (n := 300) (by kernel_rfl) (by kernel_rfl)
noncomputable def ks22 : Fact := ⟨327, [.int .u64 (2), .int .i64 (2)], .int .u64 (1)⟩
theorem ks22_ok : ks22.ok := Fact.of_run (n := 300) (by kernel_rfl) (by kernel_rfl)
noncomputable def ks23 : Fact := ⟨228, [.string ⟨⟨[5]⟩⟩], .bool true⟩
theorem ks23_ok : ks23.ok := Fact.of_run (n := 300) (by kernel_rfl) (by kernel_rfl)
noncomputable def ks24 : Fact := ⟨58, [], .bool true⟩
theorem ks24_ok : ks24.ok := Fact.of_run (n := 300) (by kernel_rfl) (by kernel_rfl)
end Ev
end Go.Proofs.YtjjbhadnakjhdaaGreatDoor
