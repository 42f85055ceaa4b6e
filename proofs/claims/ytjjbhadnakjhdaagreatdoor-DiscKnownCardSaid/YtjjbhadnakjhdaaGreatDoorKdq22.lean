/- Contracts, in this order: Calls run, and their answers. -/
import Derived.Test.YtjjbhadnakjhdaaGreatDoorKdq16
namespace Go.Proofs.YtjjbhadnakjhdaaGreatDoor
open Go Go.RowKit
namespace Ev
set_option maxRecDepth 100000
noncomputable def kd75 : Fact := ⟨22, [.complex .f64 0 0, .float .f64 9221120237041090561], .agg ⟨[.complex .f64 0 0, .float .f64 9221120237041090561]⟩⟩
theorem kd75_ok : kd75.ok := Fact.of_run (n := 300) (by kernel_rfl) (by kernel_rfl)
noncomputable def kd76 : Fact := ⟨24, [.string ⟨⟨[49, 47, 50, 45, 51, 105]⟩⟩], .tuple ⟨[.agg ⟨[.bool false, .string ⟨⟨[1]⟩⟩, .string ⟨⟨[2]⟩⟩, .bool true, .string ⟨⟨[3]⟩⟩, .string ⟨⟨[1]⟩⟩]⟩, .int .i64 (0)]⟩⟩
theorem kd76_ok : kd76.ok := Fact.of_run (n := 300) (by kernel_rfl) (by kernel_rfl)
noncomputable def kd77 : Fact := ⟨20, [.float .f64 0, .int .i64 (53)], .float .f64 0⟩
theorem kd77_ok : kd77.ok := Fact.of_run (n := 300) (by kernel_rfl) (by kernel_rfl)
noncomputable def kd78 : Fact := ⟨22, [.complex .f64 4602678819172646912 13837309855095848960, .float .f64 0], .agg ⟨[.complex .f64 4602678819172646912 13837309855095848960, .float .f64 0]⟩⟩
theorem kd78_ok : kd78.ok := Fact.of_run (n := 300) (by kernel_rfl) (by kernel_rfl)
noncomputable def kd79 : Fact := ⟨22, [.complex .f64 4611686018427387904 0, .float .f64 0], .agg ⟨[.complex .f64 4611686018427387904 0, .float .f64 0]⟩⟩
theorem kd79_ok : kd79.ok := Fact.of_run (n := 300) (by kernel_rfl) (by kernel_rfl)
noncomputable def kd80 : Fact := ⟨28, [.agg ⟨[.complex .f64 4611686018427387904 0, .float .f64 0]⟩, .agg ⟨[.complex .f64 0 4613937818241073152, .float .f64 0]⟩], .tuple ⟨[.agg ⟨[.complex .f64 0 4618441417868443648, .float .f64 0]⟩, .int .i64 (0)]⟩⟩
theorem kd80_ok : kd80.ok := Fact.of_run (n := 300) (by kernel_rfl) (by kernel_rfl)
noncomputable def kd81 : Fact := ⟨35, [.complex .f64 0 13826050856027422720, .complex .f64 0 4611686018427387904], .complex .f64 4607182418800017408 0⟩
theorem kd81_ok : kd81.ok := Fact.of_run (n := 300) (by kernel_rfl) (by kernel_rfl)
noncomputable def kd82 : Fact := ⟨29, [.agg ⟨[.complex .f64 4607182418800017408 0, .float .f64 0]⟩, .agg ⟨[.complex .f64 0 4611686018427387904, .float .f64 0]⟩], .tuple ⟨[.agg ⟨[.complex .f64 0 13826050856027422720, .float .f64 0]⟩, .int .i64 (0)]⟩⟩
theorem kd82_ok : kd82.ok := Fact.of_run (n := 300) (by kernel_rfl) (by kernel_rfl)
noncomputable def kd83 : Fact := ⟨20, [.float .f64 4607182418800017408, .int .i64 (-2)], .float .f64 4598175219545276416⟩
theorem kd83_ok : kd83.ok := Fact.of_run (n := 300) (by kernel_rfl) (by kernel_rfl)
noncomputable def kd84 : Fact := ⟨22, [.complex .f64 4602678819172646912 0, .float .f64 4602678819172646912], .agg ⟨[.complex .f64 4602678819172646912 0, .float .f64 4602678819172646912]⟩⟩
theorem kd84_ok : kd84.ok := Fact.of_run (n := 300) (by kernel_rfl) (by kernel_rfl)
noncomputable def kd85 : Fact := ⟨22, [.complex .f64 9218868437227405311 0, .float .f64 9218868437227405311], .agg ⟨[.complex .f64 9218868437227405311 0, .float .f64 9218868437227405311]⟩⟩
theorem kd85_ok : kd85.ok := Fact.of_run (n := 300) (by kernel_rfl) (by kernel_rfl)
noncomputable def kd86 : Fact := ⟨31, [.agg ⟨[.complex .f64 0 0, .float .f64 4617315517961601024]⟩, .agg ⟨[.bool false, .string ⟨⟨[3]⟩⟩, .string ⟨⟨[1]⟩⟩, .bool false, .string ⟨⟨[4]⟩⟩, .string ⟨⟨[1]⟩⟩]⟩], .tuple ⟨[.bool true, .int .i64 (0)]⟩⟩
theorem kd86_ok : kd86.ok := Fact.of_run (n := 300) (by kernel_rfl) (by kernel_rfl)
noncomputable def kd87 : Fact := ⟨33, [.agg ⟨[.complex .f64 4607182418800017408 0, .float .f64 4609434218613702656]⟩, .agg ⟨[.complex .f64 0 0, .float .f64 4611686018427387904]⟩], .tuple ⟨[.bool false, .int .i64 (0)]⟩⟩
theorem kd87_ok : kd87.ok := Fact.of_run (n := 300) (by kernel_rfl) (by kernel_rfl)
noncomputable def kd88 : Fact := ⟨20, [.float .f64 0, .int .i64 (-1)], .float .f64 0⟩
theorem kd88_ok : kd88.ok := Fact.of_run (n := 300) (by kernel_rfl) (by kernel_rfl)
noncomputable def kd89 : Fact := ⟨36, [.complex .f64 4607182418800017408 4607182418800017408, .complex .f64 0 4607182418800017408], .complex .f64 4607182418800017408 13830554455654793216⟩
theorem kd89_ok : kd89.ok := Fact.of_run (n := 300) (by kernel_rfl) (by kernel_rfl)
end Ev
end Go.Proofs.YtjjbhadnakjhdaaGreatDoor
