/- Contracts, in this order: Calls run, and their answers. -/
import Derived.Test.YtmioikbnjflldaaGreatDoorSq19
namespace Go.Proofs.YtmioikbnjflldaaGreatDoor
open Go Go.RowKit
namespace Ev
set_option maxRecDepth 100000
noncomputable def sta0 : Fact := ⟨112, [.int .u64 (9223372036854775783), .int .u64 (1)], .int .u64 (1)⟩
theorem sta0_ok : sta0.ok := Fact.of_run (n := 300) (by kernel_rfl) (by kernel_rfl)
noncomputable def sta1 : Fact := ⟨112, [.int .u64 (9223372036854775783), .int .u64 (2)], .int .u64 (4611686018427387892)⟩
theorem sta1_ok : sta1.ok := Fact.of_run (n := 300) (by kernel_rfl) (by kernel_rfl)
noncomputable def sta2 : Fact := ⟨112, [.int .u64 (9223372036854775643), .int .u64 (1)], .int .u64 (1)⟩
theorem sta2_ok : sta2.ok := Fact.of_run (n := 300) (by kernel_rfl) (by kernel_rfl)
noncomputable def sta3 : Fact := ⟨112, [.int .u64 (9223372036854775643), .int .u64 (2)], .int .u64 (4611686018427387822)⟩
theorem sta3_ok : sta3.ok := Fact.of_run (n := 300) (by kernel_rfl) (by kernel_rfl)
noncomputable def sta4 : Fact := ⟨112, [.int .u64 (9223372036854775643), .int .u64 (140)], .int .u64 (2174080551544339973)⟩
theorem sta4_ok : sta4.ok := Fact.of_run (n := 300) (by kernel_rfl) (by kernel_rfl)
noncomputable def sta5 : Fact := ⟨149, [.int .u64 (0)], .int .i64 (0)⟩
theorem sta5_ok : sta5.ok := Fact.of_run (n := 300) (by kernel_rfl) (by kernel_rfl)
noncomputable def sta6 : Fact := ⟨112, [.int .u64 (9223372036854775783), .int .u64 (16)], .int .u64 (5188146770730811378)⟩
theorem sta6_ok : sta6.ok := Fact.of_run (n := 300) (by kernel_rfl) (by kernel_rfl)
noncomputable def sta7 : Fact := ⟨112, [.int .u64 (9223372036854775783), .int .u64 (4035225266123964405)], .int .u64 (9223372036854775767)⟩
theorem sta7_ok : sta7.ok := Fact.of_run (n := 300) (by kernel_rfl) (by kernel_rfl)
noncomputable def sta8 : Fact := ⟨149, [.int .u64 (2)], .int .i64 (2)⟩
theorem sta8_ok : sta8.ok := Fact.of_run (n := 300) (by kernel_rfl) (by kernel_rfl)
noncomputable def sta9 : Fact := ⟨220, [.int .u64 (2), .int .i64 (2)], .int .u64 (1)⟩
theorem sta9_ok : sta9.ok := Fact.of_run (n := 300) (by kernel_rfl) (by kernel_rfl)
noncomputable def sta10 : Fact := ⟨220, [.int .u64 (2), .int .i64 (1)], .int .u64 (1)⟩
theorem sta10_ok : sta10.ok := Fact.of_run (n := 300) (by kernel_rfl) (by kernel_rfl)
noncomputable def sta11 : Fact := ⟨149, [.int .u64 (1)], .int .i64 (1)⟩
theorem sta11_ok : sta11.ok := Fact.of_run (n := 300) (by kernel_rfl) (by kernel_rfl)
noncomputable def sta12 : Fact := ⟨220, [.int .u64 (1), .int .i64 (1)], .int .u64 (1)⟩
theorem sta12_ok : sta12.ok := Fact.of_run (n := 300) (by kernel_rfl) (by kernel_rfl)
noncomputable def sta13 : Fact := ⟨220, [.int .u64 (1), .int .i64 (4)], .int .u64 (1)⟩
theorem sta13_ok : sta13.ok := Fact.of_run (n := 300) (by kernel_rfl) (by kernel_rfl)
noncomputable def sta14 : Fact := ⟨149, [.int .u64 (3)], .int .i64 (2)⟩
theorem sta14_ok : sta14.ok := Fact.of_run (n := 300) (by kernel_rfl) (by kernel_rfl)
noncomputable def sta15 : Fact := ⟨220, [.int .u64 (1), .int .i64 (3)], .int .u64 (1)⟩
theorem sta15_ok : sta15.ok := Fact.of_run (n := 300) (by kernel_rfl) (by kernel_rfl)
noncomputable def sta16 : Fact := ⟨220, [.int .u64 (1), .int .i64 (2)], .int .u64 (1)⟩
theorem sta16_ok : sta16.ok := Fact.of_run (n := 300) (by kernel_rfl) (by kernel_rfl)
noncomputable def sta17 : Fact := ⟨112, [.int .u64 (9223372036854775783), .int .u64 (9223372036854775781)], .int .u64 (4611686018427387891)⟩
theorem sta17_ok : sta17.ok := Fact.of_run (n := 300) (by kernel_rfl) (by kernel_rfl)
noncomputable def sta18 : Fact := ⟨112, [.int .u64 (9223372036854775783), .int .u64 (6917529027641081837)], .int .u64 (9223372036854775779)⟩
theorem sta18_ok : sta18.ok := Fact.of_run (n := 300) (by kernel_rfl) (by kernel_rfl)
noncomputable def sta19 : Fact := ⟨220, [.int .u64 (2), .int .i64 (3)], .int .u64 (1)⟩
theorem sta19_ok : sta19.ok := Fact.of_run (n := 300) (by kernel_rfl) (by kernel_rfl)
noncomputable def sta20 : Fact := ⟨149, [.int .u64 (4)], .int .i64 (3)⟩
theorem sta20_ok : sta20.ok := Fact.of_run (n := 300) (by kernel_rfl) (by kernel_rfl)
end Ev
end Go.Proofs.YtmioikbnjflldaaGreatDoor
