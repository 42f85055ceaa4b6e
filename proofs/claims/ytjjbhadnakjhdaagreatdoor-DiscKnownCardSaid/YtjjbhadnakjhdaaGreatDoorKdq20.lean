/- Contracts, in this order: Calls run, and their answers. -/
import Derived.Test.YtjjbhadnakjhdaaGreatDoorKdq16
namespace Go.Proofs.YtjjbhadnakjhdaaGreatDoor
open Go Go.RowKit
namespace Ev
set_option maxRecDepth 100000
noncomputable def kd45 : Fact := ⟨21, [.agg ⟨[.complex .f64 0 0, .float .f64 9223372036854775809]⟩], .int .i64 (2)⟩
theorem kd45_ok : kd45.ok := Fact.of_run (n := 300) (by kernel_rfl) (by kernel_rfl)
noncomputable def kd46 : Fact := ⟨22, [.complex .f64 0 0, .float .f64 0], .agg ⟨[.complex .f64 0 0, .float .f64 0]⟩⟩
theorem kd46_ok : kd46.ok := Fact.of_run (n := 300) (by kernel_rfl) (by kernel_rfl)
noncomputable def kd47 : Fact := ⟨20, [.float .f64 4602678819172646912, .int .i64 (53)], .float .f64 4841369599423283200⟩
theorem kd47_ok : kd47.ok := Fact.of_run (n := 300) (by kernel_rfl) (by kernel_rfl)
noncomputable def kd48 : Fact := ⟨20, [.float .f64 4842870799299073365, .int .i64 (-108)], .float .f64 4356482039543059797⟩
theorem kd48_ok : kd48.ok := Fact.of_run (n := 300) (by kernel_rfl) (by kernel_rfl)
noncomputable def kd49 : Fact := ⟨22, [.complex .f64 4363988038922010624 0, .float .f64 0], .agg ⟨[.complex .f64 4363988038922010624 0, .float .f64 0]⟩⟩
theorem kd49_ok : kd49.ok := Fact.of_run (n := 300) (by kernel_rfl) (by kernel_rfl)
noncomputable def kd50 : Fact := ⟨20, [.float .f64 4618441417868443648, .int .i64 (-4)], .float .f64 4600427019358961664⟩
theorem kd50_ok : kd50.ok := Fact.of_run (n := 300) (by kernel_rfl) (by kernel_rfl)
noncomputable def kd51 : Fact := ⟨22, [.complex .f64 0 4611686018427387904, .float .f64 0], .agg ⟨[.complex .f64 0 4611686018427387904, .float .f64 0]⟩⟩
theorem kd51_ok : kd51.ok := Fact.of_run (n := 300) (by kernel_rfl) (by kernel_rfl)
noncomputable def kd52 : Fact := ⟨27, [.agg ⟨[.complex .f64 4607182418800017408 0, .float .f64 0]⟩, .agg ⟨[.complex .f64 13830554455654793216 9223372036854775808, .float .f64 0]⟩], .tuple ⟨[.agg ⟨[.complex .f64 0 0, .float .f64 0]⟩, .int .i64 (0)]⟩⟩
theorem kd52_ok : kd52.ok := Fact.of_run (n := 300) (by kernel_rfl) (by kernel_rfl)
noncomputable def kd53 : Fact := ⟨36, [.complex .f64 4607182418800017408 0, .complex .f64 4611686018427387904 0], .complex .f64 4602678819172646912 0⟩
theorem kd53_ok : kd53.ok := Fact.of_run (n := 300) (by kernel_rfl) (by kernel_rfl)
noncomputable def kd54 : Fact := ⟨29, [.agg ⟨[.complex .f64 4607182418800017408 0, .float .f64 0]⟩, .agg ⟨[.complex .f64 4611686018427387904 0, .float .f64 4607182418800017408]⟩], .tuple ⟨[.agg ⟨[.complex .f64 4602678819172646912 0, .float .f64 4602678819172646912]⟩, .int .i64 (0)]⟩⟩
theorem kd54_ok : kd54.ok := Fact.of_run (n := 300) (by kernel_rfl) (by kernel_rfl)
noncomputable def kd55 : Fact := ⟨22, [.complex .f64 4607182418800017408 0, .float .f64 4611686018427387904], .agg ⟨[.complex .f64 4607182418800017408 0, .float .f64 4611686018427387904]⟩⟩
theorem kd55_ok : kd55.ok := Fact.of_run (n := 300) (by kernel_rfl) (by kernel_rfl)
noncomputable def kd56 : Fact := ⟨32, [.int .i64 (3), .int .i64 (4)], .agg ⟨[.bool false, .string ⟨⟨[3]⟩⟩, .string ⟨⟨[1]⟩⟩, .bool false, .string ⟨⟨[4]⟩⟩, .string ⟨⟨[1]⟩⟩]⟩⟩
theorem kd56_ok : kd56.ok := Fact.of_run (n := 300) (by kernel_rfl) (by kernel_rfl)
noncomputable def kd57 : Fact := ⟨33, [.agg ⟨[.complex .f64 4607182418800017408 0, .float .f64 4607182418800017408]⟩, .agg ⟨[.complex .f64 0 0, .float .f64 4611686018427387904]⟩], .tuple ⟨[.bool true, .int .i64 (0)]⟩⟩
theorem kd57_ok : kd57.ok := Fact.of_run (n := 300) (by kernel_rfl) (by kernel_rfl)
noncomputable def kd58 : Fact := ⟨35, [.complex .f64 4607182418800017408 0, .complex .f64 4611686018427387904 0], .complex .f64 4611686018427387904 0⟩
theorem kd58_ok : kd58.ok := Fact.of_run (n := 300) (by kernel_rfl) (by kernel_rfl)
noncomputable def kd59 : Fact := ⟨34, [], .bool true⟩
theorem kd59_ok : kd59.ok := Fact.of_run (n := 300) (by kernel_rfl) (by kernel_rfl)
end Ev
end Go.Proofs.YtjjbhadnakjhdaaGreatDoor
