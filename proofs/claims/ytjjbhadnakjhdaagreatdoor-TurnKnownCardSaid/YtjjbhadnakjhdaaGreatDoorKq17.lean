/- Contracts, in this order: Calls run, and their answers. -/
import Derived.Test.YtjjbhadnakjhdaaGreatDoorKq16
namespace Go.Proofs.YtjjbhadnakjhdaaGreatDoor
open Go Go.RowKit
namespace Ev
set_option maxRecDepth 100000
noncomputable def kt0 : Fact := ⟨37, [.int .i64 (1), .int .i64 (3)], .tuple ⟨[.complex .f64 4604544271217802189 4604544271217802189, .int .i64 (0)]⟩⟩
theorem kt0_ok : kt0.ok := Fact.of_run (n := 300) (by kernel_rfl) (by kernel_rfl)
noncomputable def kt1 : Fact := ⟨38, [.int .i64 (1), .int .i64 (17)], .tuple ⟨[.agg ⟨[.complex .f64 0 0, .float .f64 0]⟩, .int .i64 (3)]⟩⟩
theorem kt1_ok : kt1.ok := Fact.of_run (n := 300) (by kernel_rfl) (by kernel_rfl)
noncomputable def kt2 : Fact := ⟨32, [.int .i64 (-1), .int .i64 (0)], .agg ⟨[.bool true, .string ⟨⟨[1]⟩⟩, .string ⟨⟨[1]⟩⟩, .bool false, .string ⟨⟨[]⟩⟩, .string ⟨⟨[1]⟩⟩]⟩⟩
theorem kt2_ok : kt2.ok := Fact.of_run (n := 300) (by kernel_rfl) (by kernel_rfl)
noncomputable def kt3 : Fact := ⟨32, [.int .i64 (1), .int .i64 (1)], .agg ⟨[.bool false, .string ⟨⟨[1]⟩⟩, .string ⟨⟨[1]⟩⟩, .bool false, .string ⟨⟨[1]⟩⟩, .string ⟨⟨[1]⟩⟩]⟩⟩
theorem kt3_ok : kt3.ok := Fact.of_run (n := 300) (by kernel_rfl) (by kernel_rfl)
noncomputable def kt4 : Fact := ⟨10, [.agg ⟨[.bool true, .string ⟨⟨[2]⟩⟩, .string ⟨⟨[1]⟩⟩]⟩], .tuple ⟨[.string ⟨⟨[45, 50]⟩⟩, .int .i64 (0)]⟩⟩
theorem kt4_ok : kt4.ok := Fact.of_run (n := 300) (by kernel_rfl) (by kernel_rfl)
noncomputable def kt5 : Fact := ⟨32, [.int .i64 (0), .int .i64 (1)], .agg ⟨[.bool false, .string ⟨⟨[]⟩⟩, .string ⟨⟨[1]⟩⟩, .bool false, .string ⟨⟨[1]⟩⟩, .string ⟨⟨[1]⟩⟩]⟩⟩
theorem kt5_ok : kt5.ok := Fact.of_run (n := 300) (by kernel_rfl) (by kernel_rfl)
end Ev
end Go.Proofs.YtjjbhadnakjhdaaGreatDoor
