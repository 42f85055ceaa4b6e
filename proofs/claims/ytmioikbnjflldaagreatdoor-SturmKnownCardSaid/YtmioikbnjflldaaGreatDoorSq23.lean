/- Contracts, in this order: Calls run, and their answers. -/
import Derived.Test.YtmioikbnjflldaaGreatDoorSq19
namespace Go.Proofs.YtmioikbnjflldaaGreatDoor
open Go Go.RowKit
namespace Ev
set_option maxRecDepth 100000
noncomputable def std9 : Fact := ⟨157, [.int .u64 (9223372036854775777), .int .u64 (2)], .bool false⟩
theorem std9_ok : std9.ok := Fact.of_run (n := 300) (by kernel_rfl) (by kernel_rfl)
noncomputable def std10 : Fact := ⟨157, [.int .u64 (9223372036854775747), .int .u64 (2)], .bool false⟩
theorem std10_ok : std10.ok := Fact.of_run (n := 300) (by kernel_rfl) (by kernel_rfl)
noncomputable def std11 : Fact := ⟨157, [.int .u64 (9223372036854775727), .int .u64 (2)], .bool false⟩
theorem std11_ok : std11.ok := Fact.of_run (n := 300) (by kernel_rfl) (by kernel_rfl)
noncomputable def std12 : Fact := ⟨157, [.int .u64 (9223372036854775703), .int .u64 (2)], .bool false⟩
theorem std12_ok : std12.ok := Fact.of_run (n := 300) (by kernel_rfl) (by kernel_rfl)
noncomputable def std13 : Fact := ⟨157, [.int .u64 (9223372036854775673), .int .u64 (2)], .bool false⟩
theorem std13_ok : std13.ok := Fact.of_run (n := 300) (by kernel_rfl) (by kernel_rfl)
noncomputable def std14 : Fact := ⟨157, [.int .u64 (9223372036854775643), .int .u64 (2)], .bool true⟩
theorem std14_ok : std14.ok := Fact.of_run (n := 300) (by kernel_rfl) (by kernel_rfl)
noncomputable def std15 : Fact := ⟨157, [.int .u64 (9223372036854775643), .int .u64 (11)], .bool true⟩
theorem std15_ok : std15.ok := Fact.of_run (n := 300) (by kernel_rfl) (by kernel_rfl)
noncomputable def std16 : Fact := ⟨157, [.int .u64 (9223372036854775643), .int .u64 (23)], .bool true⟩
theorem std16_ok : std16.ok := Fact.of_run (n := 300) (by kernel_rfl) (by kernel_rfl)
end Ev
end Go.Proofs.YtmioikbnjflldaaGreatDoor
