/- Contracts, in this order: Calls run, and their answers. -/
import Derived.Test.YtjjbhadnakjhdaaGreatDoorKdq16
namespace Go.Proofs.YtjjbhadnakjhdaaGreatDoor
open Go Go.RowKit
namespace Ev
set_option maxRecDepth 100000
noncomputable def kd0 : Fact := ⟨19, [.int .i64 (1)], .float .f64 9218868437227405312⟩
theorem kd0_ok : kd0.ok := Fact.of_run (n := 300) (by kernel_rfl) (by kernel_rfl)
noncomputable def kd1 : Fact := ⟨21, [.agg ⟨[.complex .f64 0 0, .float .f64 9221120237041090561]⟩], .int .i64 (2)⟩
theorem kd1_ok : kd1.ok := Fact.of_run (n := 300) (by kernel_rfl) (by kernel_rfl)
noncomputable def kd2 : Fact := ⟨24, [.string ⟨⟨[49, 47, 51]⟩⟩], .tuple ⟨[.agg ⟨[.bool false, .string ⟨⟨[1]⟩⟩, .string ⟨⟨[3]⟩⟩, .bool false, .string ⟨⟨[]⟩⟩, .string ⟨⟨[1]⟩⟩]⟩, .int .i64 (0)]⟩⟩
theorem kd2_ok : kd2.ok := Fact.of_run (n := 300) (by kernel_rfl) (by kernel_rfl)
noncomputable def kd3 : Fact := ⟨25, [.agg ⟨[.bool false, .string ⟨⟨[1]⟩⟩, .string ⟨⟨[2]⟩⟩, .bool true, .string ⟨⟨[3]⟩⟩, .string ⟨⟨[1]⟩⟩]⟩], .tuple ⟨[.agg ⟨[.complex .f64 4602678819172646912 13837309855095848960, .float .f64 0]⟩, .int .i64 (0)]⟩⟩
theorem kd3_ok : kd3.ok := Fact.of_run (n := 300) (by kernel_rfl) (by kernel_rfl)
noncomputable def kd4 : Fact := ⟨20, [.float .f64 4607182418800017408, .int .i64 (-56)], .float .f64 4354980839667269632⟩
theorem kd4_ok : kd4.ok := Fact.of_run (n := 300) (by kernel_rfl) (by kernel_rfl)
noncomputable def kd5 : Fact := ⟨22, [.complex .f64 0 4613937818241073152, .float .f64 0], .agg ⟨[.complex .f64 0 4613937818241073152, .float .f64 0]⟩⟩
theorem kd5_ok : kd5.ok := Fact.of_run (n := 300) (by kernel_rfl) (by kernel_rfl)
noncomputable def kd6 : Fact := ⟨22, [.complex .f64 9218868437227405311 0, .float .f64 0], .agg ⟨[.complex .f64 9218868437227405311 0, .float .f64 0]⟩⟩
theorem kd6_ok : kd6.ok := Fact.of_run (n := 300) (by kernel_rfl) (by kernel_rfl)
noncomputable def kd7 : Fact := ⟨20, [.float .f64 13830554455654793216, .int .i64 (-2)], .float .f64 13821547256400052224⟩
theorem kd7_ok : kd7.ok := Fact.of_run (n := 300) (by kernel_rfl) (by kernel_rfl)
noncomputable def kd8 : Fact := ⟨22, [.complex .f64 4607182418800017408 0, .float .f64 4607182418800017408], .agg ⟨[.complex .f64 4607182418800017408 0, .float .f64 4607182418800017408]⟩⟩
theorem kd8_ok : kd8.ok := Fact.of_run (n := 300) (by kernel_rfl) (by kernel_rfl)
noncomputable def kd9 : Fact := ⟨28, [.agg ⟨[.complex .f64 4602678819172646912 0, .float .f64 0]⟩, .agg ⟨[.complex .f64 4611686018427387904 0, .float .f64 0]⟩], .tuple ⟨[.agg ⟨[.complex .f64 4607182418800017408 0, .float .f64 0]⟩, .int .i64 (0)]⟩⟩
theorem kd9_ok : kd9.ok := Fact.of_run (n := 300) (by kernel_rfl) (by kernel_rfl)
noncomputable def kd10 : Fact := ⟨22, [.complex .f64 4613937818241073152 13839561654909534208, .float .f64 4607182418800017408], .agg ⟨[.complex .f64 4613937818241073152 13839561654909534208, .float .f64 4607182418800017408]⟩⟩
theorem kd10_ok : kd10.ok := Fact.of_run (n := 300) (by kernel_rfl) (by kernel_rfl)
noncomputable def kd11 : Fact := ⟨19, [.int .i64 (-1)], .float .f64 18442240474082181120⟩
theorem kd11_ok : kd11.ok := Fact.of_run (n := 300) (by kernel_rfl) (by kernel_rfl)
noncomputable def kd12 : Fact := ⟨32, [.int .i64 (5), .int .i64 (1)], .agg ⟨[.bool false, .string ⟨⟨[5]⟩⟩, .string ⟨⟨[1]⟩⟩, .bool false, .string ⟨⟨[1]⟩⟩, .string ⟨⟨[1]⟩⟩]⟩⟩
theorem kd12_ok : kd12.ok := Fact.of_run (n := 300) (by kernel_rfl) (by kernel_rfl)
noncomputable def kd13 : Fact := ⟨22, [.complex .f64 4607182418800017408 0, .float .f64 4602678819172646912], .agg ⟨[.complex .f64 4607182418800017408 0, .float .f64 4602678819172646912]⟩⟩
theorem kd13_ok : kd13.ok := Fact.of_run (n := 300) (by kernel_rfl) (by kernel_rfl)
noncomputable def kd14 : Fact := ⟨28, [.agg ⟨[.complex .f64 4607182418800017408 0, .float .f64 4607182418800017408]⟩, .agg ⟨[.complex .f64 4611686018427387904 0, .float .f64 4607182418800017408]⟩], .tuple ⟨[.agg ⟨[.complex .f64 4611686018427387904 0, .float .f64 4616189618054758400]⟩, .int .i64 (0)]⟩⟩
theorem kd14_ok : kd14.ok := Fact.of_run (n := 300) (by kernel_rfl) (by kernel_rfl)
end Ev
end Go.Proofs.YtjjbhadnakjhdaaGreatDoor
