/- Contracts, in this order: Calls run, and their answers. -/
import Derived.Test.YtjjbhadnakjhdaaGreatDoorKdq16
namespace Go.Proofs.YtjjbhadnakjhdaaGreatDoor
open Go Go.RowKit
namespace Ev
set_option maxRecDepth 100000
noncomputable def kd60 : Fact := ⟨23, [], .float .f64 9221120237041090561⟩
theorem kd60_ok : kd60.ok := Fact.of_run (n := 300) (by kernel_rfl) (by kernel_rfl)
noncomputable def kd61 : Fact := ⟨21, [.agg ⟨[.complex .f64 0 0, .float .f64 0]⟩], .int .i64 (0)⟩
theorem kd61_ok : kd61.ok := Fact.of_run (n := 300) (by kernel_rfl) (by kernel_rfl)
noncomputable def kd62 : Fact := ⟨20, [.float .f64 4604930618986332160, .int .i64 (53)], .float .f64 4843621399236968448⟩
theorem kd62_ok : kd62.ok := Fact.of_run (n := 300) (by kernel_rfl) (by kernel_rfl)
noncomputable def kd63 : Fact := ⟨25, [.agg ⟨[.bool false, .string ⟨⟨[1]⟩⟩, .string ⟨⟨[3]⟩⟩, .bool false, .string ⟨⟨[]⟩⟩, .string ⟨⟨[1]⟩⟩]⟩], .tuple ⟨[.agg ⟨[.complex .f64 4599676419421066581 0, .float .f64 4356482039543059798]⟩, .int .i64 (0)]⟩⟩
theorem kd63_ok : kd63.ok := Fact.of_run (n := 300) (by kernel_rfl) (by kernel_rfl)
noncomputable def kd64 : Fact := ⟨27, [.agg ⟨[.complex .f64 4607182418800017408 0, .float .f64 0]⟩, .agg ⟨[.complex .f64 4363988038922010624 0, .float .f64 0]⟩], .tuple ⟨[.agg ⟨[.complex .f64 4607182418800017408 0, .float .f64 4363988038922010624]⟩, .int .i64 (0)]⟩⟩
theorem kd64_ok : kd64.ok := Fact.of_run (n := 300) (by kernel_rfl) (by kernel_rfl)
noncomputable def kd65 : Fact := ⟨20, [.float .f64 0, .int .i64 (0)], .float .f64 0⟩
theorem kd65_ok : kd65.ok := Fact.of_run (n := 300) (by kernel_rfl) (by kernel_rfl)
noncomputable def kd66 : Fact := ⟨36, [.complex .f64 4607182418800017408 0, .complex .f64 0 4611686018427387904], .complex .f64 0 13826050856027422720⟩
theorem kd66_ok : kd66.ok := Fact.of_run (n := 300) (by kernel_rfl) (by kernel_rfl)
noncomputable def kd67 : Fact := ⟨20, [.float .f64 0, .int .i64 (2)], .float .f64 0⟩
theorem kd67_ok : kd67.ok := Fact.of_run (n := 300) (by kernel_rfl) (by kernel_rfl)
noncomputable def kd68 : Fact := ⟨35, [.complex .f64 4602678819172646912 0, .complex .f64 4611686018427387904 0], .complex .f64 4607182418800017408 0⟩
theorem kd68_ok : kd68.ok := Fact.of_run (n := 300) (by kernel_rfl) (by kernel_rfl)
noncomputable def kd69 : Fact := ⟨22, [.complex .f64 0 13826050856027422720, .float .f64 0], .agg ⟨[.complex .f64 0 13826050856027422720, .float .f64 0]⟩⟩
theorem kd69_ok : kd69.ok := Fact.of_run (n := 300) (by kernel_rfl) (by kernel_rfl)
noncomputable def kd70 : Fact := ⟨30, [.agg ⟨[.complex .f64 4607182418800017408 0, .float .f64 4611686018427387904]⟩], .tuple ⟨[.agg ⟨[.float .f64 0, .float .f64 4613937818241073152]⟩, .int .i64 (0)]⟩⟩
theorem kd70_ok : kd70.ok := Fact.of_run (n := 300) (by kernel_rfl) (by kernel_rfl)
noncomputable def kd71 : Fact := ⟨20, [.float .f64 4603804719079489536, .int .i64 (53)], .float .f64 4842495499330125824⟩
theorem kd71_ok : kd71.ok := Fact.of_run (n := 300) (by kernel_rfl) (by kernel_rfl)
noncomputable def kd72 : Fact := ⟨22, [.complex .f64 4607182418800017408 0, .float .f64 4609434218613702656], .agg ⟨[.complex .f64 4607182418800017408 0, .float .f64 4609434218613702656]⟩⟩
theorem kd72_ok : kd72.ok := Fact.of_run (n := 300) (by kernel_rfl) (by kernel_rfl)
noncomputable def kd73 : Fact := ⟨20, [.float .f64 4611686018427387904, .int .i64 (-3)], .float .f64 4598175219545276416⟩
theorem kd73_ok : kd73.ok := Fact.of_run (n := 300) (by kernel_rfl) (by kernel_rfl)
noncomputable def kd74 : Fact := ⟨35, [.complex .f64 4613937818241073152 13839561654909534208, .complex .f64 4607182418800017408 4611686018427387904], .complex .f64 4622382067542392832 4611686018427387904⟩
theorem kd74_ok : kd74.ok := Fact.of_run (n := 300) (by kernel_rfl) (by kernel_rfl)
end Ev
end Go.Proofs.YtjjbhadnakjhdaaGreatDoor
