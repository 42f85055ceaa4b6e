/- Contracts, in this order: Calls run, and their answers. -/
import Derived.Test.YtmioikbnjflldaaGreatDoorSq19
namespace Go.Proofs.YtmioikbnjflldaaGreatDoor
open Go Go.RowKit
namespace Ev
set_option maxRecDepth 100000
noncomputable def std25 : Fact := ⟨157, [.int .u64 (9223372036854775757), .int .u64 (2)], .bool false⟩
theorem std25_ok : std25.ok := Fact.of_run (n := 300) (by kernel_rfl) (by kernel_rfl)
noncomputable def std26 : Fact := ⟨157, [.int .u64 (9223372036854775739), .int .u64 (2)], .bool false⟩
theorem std26_ok : std26.ok := Fact.of_run (n := 300) (by kernel_rfl) (by kernel_rfl)
noncomputable def std27 : Fact := ⟨157, [.int .u64 (9223372036854775717), .int .u64 (2)], .bool false⟩
theorem std27_ok : std27.ok := Fact.of_run (n := 300) (by kernel_rfl) (by kernel_rfl)
noncomputable def std28 : Fact := ⟨157, [.int .u64 (9223372036854775693), .int .u64 (2)], .bool false⟩
theorem std28_ok : std28.ok := Fact.of_run (n := 300) (by kernel_rfl) (by kernel_rfl)
noncomputable def std29 : Fact := ⟨157, [.int .u64 (9223372036854775661), .int .u64 (2)], .bool false⟩
theorem std29_ok : std29.ok := Fact.of_run (n := 300) (by kernel_rfl) (by kernel_rfl)
noncomputable def std30 : Fact := ⟨157, [.int .u64 (9223372036854775643), .int .u64 (5)], .bool true⟩
theorem std30_ok : std30.ok := Fact.of_run (n := 300) (by kernel_rfl) (by kernel_rfl)
noncomputable def std31 : Fact := ⟨157, [.int .u64 (9223372036854775643), .int .u64 (17)], .bool true⟩
theorem std31_ok : std31.ok := Fact.of_run (n := 300) (by kernel_rfl) (by kernel_rfl)
noncomputable def std32 : Fact := ⟨157, [.int .u64 (9223372036854775643), .int .u64 (31)], .bool true⟩
theorem std32_ok : std32.ok := Fact.of_run (n := 300) (by kernel_rfl) (by kernel_rfl)
end Ev
end Go.Proofs.YtmioikbnjflldaaGreatDoor
