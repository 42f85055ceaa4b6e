/- Contracts, in this order: Calls run, and their answers. -/
import Derived.Test.YtmioikbnjflldaaGreatDoorSq19
namespace Go.Proofs.YtmioikbnjflldaaGreatDoor
open Go Go.RowKit
namespace Ev
set_option maxRecDepth 100000
noncomputable def std0 : Fact := ⟨157, [.int .u64 (9223372036854775781), .int .u64 (2)], .bool false⟩
theorem std0_ok : std0.ok := Fact.of_run (n := 300) (by kernel_rfl) (by kernel_rfl)
noncomputable def std1 : Fact := ⟨157, [.int .u64 (9223372036854775753), .int .u64 (2)], .bool false⟩
theorem std1_ok : std1.ok := Fact.of_run (n := 300) (by kernel_rfl) (by kernel_rfl)
noncomputable def std2 : Fact := ⟨157, [.int .u64 (9223372036854775729), .int .u64 (2)], .bool false⟩
theorem std2_ok : std2.ok := Fact.of_run (n := 300) (by kernel_rfl) (by kernel_rfl)
noncomputable def std3 : Fact := ⟨157, [.int .u64 (9223372036854775711), .int .u64 (2)], .bool false⟩
theorem std3_ok : std3.ok := Fact.of_run (n := 300) (by kernel_rfl) (by kernel_rfl)
noncomputable def std4 : Fact := ⟨157, [.int .u64 (9223372036854775687), .int .u64 (2)], .bool false⟩
theorem std4_ok : std4.ok := Fact.of_run (n := 300) (by kernel_rfl) (by kernel_rfl)
noncomputable def std5 : Fact := ⟨157, [.int .u64 (9223372036854775649), .int .u64 (2)], .bool false⟩
theorem std5_ok : std5.ok := Fact.of_run (n := 300) (by kernel_rfl) (by kernel_rfl)
noncomputable def std6 : Fact := ⟨157, [.int .u64 (9223372036854775643), .int .u64 (7)], .bool true⟩
theorem std6_ok : std6.ok := Fact.of_run (n := 300) (by kernel_rfl) (by kernel_rfl)
noncomputable def std7 : Fact := ⟨157, [.int .u64 (9223372036854775643), .int .u64 (19)], .bool true⟩
theorem std7_ok : std7.ok := Fact.of_run (n := 300) (by kernel_rfl) (by kernel_rfl)
noncomputable def std8 : Fact := ⟨157, [.int .u64 (9223372036854775643), .int .u64 (37)], .bool true⟩
theorem std8_ok : std8.ok := Fact.of_run (n := 300) (by kernel_rfl) (by kernel_rfl)
end Ev
end Go.Proofs.YtmioikbnjflldaaGreatDoor
