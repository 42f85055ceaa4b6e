/- Contracts, in this order: Calls run, and their answers. -/
import Derived.Test.YtjjbhadnakjhdaaGreatDoorKdq16
namespace Go.Proofs.YtjjbhadnakjhdaaGreatDoor
open Go Go.RowKit
namespace Ev
set_option maxRecDepth 100000
noncomputable def kd30 : Fact := ⟨22, [.complex .f64 0 0, .float .f64 9223372036854775809], .agg ⟨[.complex .f64 0 0, .float .f64 9223372036854775809]⟩⟩
theorem kd30_ok : kd30.ok := Fact.of_run (n := 300) (by kernel_rfl) (by kernel_rfl)
noncomputable def kd31 : Fact := ⟨21, [.agg ⟨[.complex .f64 9218868437227405312 0, .float .f64 0]⟩], .int .i64 (2)⟩
theorem kd31_ok : kd31.ok := Fact.of_run (n := 300) (by kernel_rfl) (by kernel_rfl)
noncomputable def kd32 : Fact := ⟨20, [.float .f64 4843621399236968448, .int .i64 (-51)], .float .f64 4613937818241073152⟩
theorem kd32_ok : kd32.ok := Fact.of_run (n := 300) (by kernel_rfl) (by kernel_rfl)
noncomputable def kd33 : Fact := ⟨20, [.float .f64 4604180019048437077, .int .i64 (53)], .float .f64 4842870799299073365⟩
theorem kd33_ok : kd33.ok := Fact.of_run (n := 300) (by kernel_rfl) (by kernel_rfl)
noncomputable def kd34 : Fact := ⟨22, [.complex .f64 4607182418800017408 0, .float .f64 0], .agg ⟨[.complex .f64 4607182418800017408 0, .float .f64 0]⟩⟩
theorem kd34_ok : kd34.ok := Fact.of_run (n := 300) (by kernel_rfl) (by kernel_rfl)
noncomputable def kd35 : Fact := ⟨20, [.float .f64 0, .int .i64 (-2)], .float .f64 0⟩
theorem kd35_ok : kd35.ok := Fact.of_run (n := 300) (by kernel_rfl) (by kernel_rfl)
noncomputable def kd36 : Fact := ⟨22, [.complex .f64 0 4618441417868443648, .float .f64 0], .agg ⟨[.complex .f64 0 4618441417868443648, .float .f64 0]⟩⟩
theorem kd36_ok : kd36.ok := Fact.of_run (n := 300) (by kernel_rfl) (by kernel_rfl)
noncomputable def kd37 : Fact := ⟨28, [.agg ⟨[.complex .f64 0 13826050856027422720, .float .f64 0]⟩, .agg ⟨[.complex .f64 0 4611686018427387904, .float .f64 0]⟩], .tuple ⟨[.agg ⟨[.complex .f64 4607182418800017408 0, .float .f64 0]⟩, .int .i64 (0)]⟩⟩
theorem kd37_ok : kd37.ok := Fact.of_run (n := 300) (by kernel_rfl) (by kernel_rfl)
noncomputable def kd38 : Fact := ⟨22, [.complex .f64 4611686018427387904 0, .float .f64 4607182418800017408], .agg ⟨[.complex .f64 4611686018427387904 0, .float .f64 4607182418800017408]⟩⟩
theorem kd38_ok : kd38.ok := Fact.of_run (n := 300) (by kernel_rfl) (by kernel_rfl)
noncomputable def kd39 : Fact := ⟨20, [.float .f64 4602678819172646912, .int .i64 (1)], .float .f64 4607182418800017408⟩
theorem kd39_ok : kd39.ok := Fact.of_run (n := 300) (by kernel_rfl) (by kernel_rfl)
noncomputable def kd40 : Fact := ⟨30, [.agg ⟨[.complex .f64 4613937818241073152 13839561654909534208, .float .f64 4607182418800017408]⟩], .tuple ⟨[.agg ⟨[.float .f64 4616189618054758400, .float .f64 4618441417868443648]⟩, .int .i64 (0)]⟩⟩
theorem kd40_ok : kd40.ok := Fact.of_run (n := 300) (by kernel_rfl) (by kernel_rfl)
noncomputable def kd41 : Fact := ⟨22, [.complex .f64 0 0, .float .f64 4617315517961601024], .agg ⟨[.complex .f64 0 0, .float .f64 4617315517961601024]⟩⟩
theorem kd41_ok : kd41.ok := Fact.of_run (n := 300) (by kernel_rfl) (by kernel_rfl)
noncomputable def kd42 : Fact := ⟨22, [.complex .f64 0 0, .float .f64 4611686018427387904], .agg ⟨[.complex .f64 0 0, .float .f64 4611686018427387904]⟩⟩
theorem kd42_ok : kd42.ok := Fact.of_run (n := 300) (by kernel_rfl) (by kernel_rfl)
noncomputable def kd43 : Fact := ⟨27, [.agg ⟨[.complex .f64 4607182418800017408 0, .float .f64 4602678819172646912]⟩, .agg ⟨[.complex .f64 0 4607182418800017408, .float .f64 4598175219545276416]⟩], .tuple ⟨[.agg ⟨[.complex .f64 4607182418800017408 4607182418800017408, .float .f64 4604930618986332160]⟩, .int .i64 (0)]⟩⟩
theorem kd43_ok : kd43.ok := Fact.of_run (n := 300) (by kernel_rfl) (by kernel_rfl)
noncomputable def kd44 : Fact := ⟨22, [.complex .f64 4611686018427387904 0, .float .f64 4616189618054758400], .agg ⟨[.complex .f64 4611686018427387904 0, .float .f64 4616189618054758400]⟩⟩
theorem kd44_ok : kd44.ok := Fact.of_run (n := 300) (by kernel_rfl) (by kernel_rfl)
end Ev
end Go.Proofs.YtjjbhadnakjhdaaGreatDoor
