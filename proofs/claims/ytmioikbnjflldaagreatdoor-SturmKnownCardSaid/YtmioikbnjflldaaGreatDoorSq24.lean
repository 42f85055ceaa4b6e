/- Contracts, in this order: Calls run, and their answers. -/
import Derived.Test.YtmioikbnjflldaaGreatDoorSq19
namespace Go.Proofs.YtmioikbnjflldaaGreatDoor
open Go Go.RowKit
namespace Ev
set_option maxRecDepth 100000
noncomputable def std17 : Fact := ⟨157, [.int .u64 (9223372036854775763), .int .u64 (2)], .bool false⟩
theorem std17_ok : std17.ok := Fact.of_run (n := 300) (by kernel_rfl) (by kernel_rfl)
noncomputable def std18 : Fact := ⟨157, [.int .u64 (9223372036854775741), .int .u64 (2)], .bool false⟩
theorem std18_ok : std18.ok := Fact.of_run (n := 300) (by kernel_rfl) (by kernel_rfl)
noncomputable def std19 : Fact := ⟨157, [.int .u64 (9223372036854775721), .int .u64 (2)], .bool false⟩
theorem std19_ok : std19.ok := Fact.of_run (n := 300) (by kernel_rfl) (by kernel_rfl)
noncomputable def std20 : Fact := ⟨157, [.int .u64 (9223372036854775699), .int .u64 (2)], .bool false⟩
theorem std20_ok : std20.ok := Fact.of_run (n := 300) (by kernel_rfl) (by kernel_rfl)
noncomputable def std21 : Fact := ⟨157, [.int .u64 (9223372036854775669), .int .u64 (2)], .bool false⟩
theorem std21_ok : std21.ok := Fact.of_run (n := 300) (by kernel_rfl) (by kernel_rfl)
noncomputable def std22 : Fact := ⟨157, [.int .u64 (9223372036854775643), .int .u64 (3)], .bool true⟩
theorem std22_ok : std22.ok := Fact.of_run (n := 300) (by kernel_rfl) (by kernel_rfl)
noncomputable def std23 : Fact := ⟨157, [.int .u64 (9223372036854775643), .int .u64 (13)], .bool true⟩
theorem std23_ok : std23.ok := Fact.of_run (n := 300) (by kernel_rfl) (by kernel_rfl)
noncomputable def std24 : Fact := ⟨157, [.int .u64 (9223372036854775643), .int .u64 (29)], .bool true⟩
theorem std24_ok : std24.ok := Fact.of_run (n := 300) (by kernel_rfl) (by kernel_rfl)
end Ev
end Go.Proofs.YtmioikbnjflldaaGreatDoor
