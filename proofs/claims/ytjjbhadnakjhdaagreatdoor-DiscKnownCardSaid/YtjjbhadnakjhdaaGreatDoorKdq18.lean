/- Contracts, in this order: Calls run, and their answers. -/
import Derived.Test.YtjjbhadnakjhdaaGreatDoorKdq16
namespace Go.Proofs.YtjjbhadnakjhdaaGreatDoor
open Go Go.RowKit
namespace Ev
set_option maxRecDepth 100000
noncomputable def kd15 : Fact := ⟨20, [.float .f64 4607182418800017408, .int .i64 (-52)], .float .f64 4372995238176751616⟩
theorem kd15_ok : kd15.ok := Fact.of_run (n := 300) (by kernel_rfl) (by kernel_rfl)
noncomputable def kd16 : Fact := ⟨22, [.complex .f64 9218868437227405312 0, .float .f64 0], .agg ⟨[.complex .f64 9218868437227405312 0, .float .f64 0]⟩⟩
theorem kd16_ok : kd16.ok := Fact.of_run (n := 300) (by kernel_rfl) (by kernel_rfl)
noncomputable def kd17 : Fact := ⟨20, [.float .f64 4841369599423283200, .int .i64 (-53)], .float .f64 4602678819172646912⟩
theorem kd17_ok : kd17.ok := Fact.of_run (n := 300) (by kernel_rfl) (by kernel_rfl)
noncomputable def kd18 : Fact := ⟨20, [.float .f64 4842870799299073365, .int .i64 (-54)], .float .f64 4599676419421066581⟩
theorem kd18_ok : kd18.ok := Fact.of_run (n := 300) (by kernel_rfl) (by kernel_rfl)
noncomputable def kd19 : Fact := ⟨20, [.float .f64 4607182418800017408, .int .i64 (-55)], .float .f64 4359484439294640128⟩
theorem kd19_ok : kd19.ok := Fact.of_run (n := 300) (by kernel_rfl) (by kernel_rfl)
noncomputable def kd20 : Fact := ⟨35, [.complex .f64 4611686018427387904 0, .complex .f64 0 4613937818241073152], .complex .f64 0 4618441417868443648⟩
theorem kd20_ok : kd20.ok := Fact.of_run (n := 300) (by kernel_rfl) (by kernel_rfl)
noncomputable def kd21 : Fact := ⟨22, [.complex .f64 4607182418800017408 0, .float .f64 4363988038922010624], .agg ⟨[.complex .f64 4607182418800017408 0, .float .f64 4363988038922010624]⟩⟩
theorem kd21_ok : kd21.ok := Fact.of_run (n := 300) (by kernel_rfl) (by kernel_rfl)
noncomputable def kd22 : Fact := ⟨20, [.float .f64 9223372036854775808, .int .i64 (0)], .float .f64 9223372036854775808⟩
theorem kd22_ok : kd22.ok := Fact.of_run (n := 300) (by kernel_rfl) (by kernel_rfl)
noncomputable def kd23 : Fact := ⟨29, [.agg ⟨[.complex .f64 4607182418800017408 0, .float .f64 0]⟩, .agg ⟨[.complex .f64 4607182418800017408 0, .float .f64 4607182418800017408]⟩], .tuple ⟨[.agg ⟨[.complex .f64 0 0, .float .f64 0]⟩, .int .i64 (4)]⟩⟩
theorem kd23_ok : kd23.ok := Fact.of_run (n := 300) (by kernel_rfl) (by kernel_rfl)
noncomputable def kd24 : Fact := ⟨20, [.float .f64 4602678819172646912, .int .i64 (-1)], .float .f64 4598175219545276416⟩
theorem kd24_ok : kd24.ok := Fact.of_run (n := 300) (by kernel_rfl) (by kernel_rfl)
noncomputable def kd25 : Fact := ⟨20, [.float .f64 4842495499330125824, .int .i64 (-50)], .float .f64 4617315517961601024⟩
theorem kd25_ok : kd25.ok := Fact.of_run (n := 300) (by kernel_rfl) (by kernel_rfl)
noncomputable def kd26 : Fact := ⟨30, [.agg ⟨[.complex .f64 9218868437227405311 0, .float .f64 9218868437227405311]⟩], .tuple ⟨[.agg ⟨[.float .f64 0, .float .f64 0]⟩, .int .i64 (5)]⟩⟩
theorem kd26_ok : kd26.ok := Fact.of_run (n := 300) (by kernel_rfl) (by kernel_rfl)
noncomputable def kd27 : Fact := ⟨31, [.agg ⟨[.complex .f64 0 0, .float .f64 4617315517961601024]⟩, .agg ⟨[.bool false, .string ⟨⟨[5]⟩⟩, .string ⟨⟨[1]⟩⟩, .bool false, .string ⟨⟨[1]⟩⟩, .string ⟨⟨[1]⟩⟩]⟩], .tuple ⟨[.bool false, .int .i64 (0)]⟩⟩
theorem kd27_ok : kd27.ok := Fact.of_run (n := 300) (by kernel_rfl) (by kernel_rfl)
noncomputable def kd28 : Fact := ⟨22, [.complex .f64 0 4607182418800017408, .float .f64 4598175219545276416], .agg ⟨[.complex .f64 0 4607182418800017408, .float .f64 4598175219545276416]⟩⟩
theorem kd28_ok : kd28.ok := Fact.of_run (n := 300) (by kernel_rfl) (by kernel_rfl)
noncomputable def kd29 : Fact := ⟨22, [.complex .f64 4607182418800017408 4607182418800017408, .float .f64 4604930618986332160], .agg ⟨[.complex .f64 4607182418800017408 4607182418800017408, .float .f64 4604930618986332160]⟩⟩
theorem kd29_ok : kd29.ok := Fact.of_run (n := 300) (by kernel_rfl) (by kernel_rfl)
end Ev
end Go.Proofs.YtjjbhadnakjhdaaGreatDoor
