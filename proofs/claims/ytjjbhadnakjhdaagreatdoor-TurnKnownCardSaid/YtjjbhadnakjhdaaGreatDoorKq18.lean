/- Contracts, in this order: Calls run, and their answers. -/
import Derived.Test.YtjjbhadnakjhdaaGreatDoorKq16
namespace Go.Proofs.YtjjbhadnakjhdaaGreatDoor
open Go Go.RowKit
namespace Ev
set_option maxRecDepth 100000
noncomputable def kt6 : Fact := ⟨37, [.int .i64 (3), .int .i64 (3)], .tuple ⟨[.complex .f64 13827916308072577997 4604544271217802189, .int .i64 (0)]⟩⟩
theorem kt6_ok : kt6.ok := Fact.of_run (n := 300) (by kernel_rfl) (by kernel_rfl)
noncomputable def kt7 : Fact := ⟨8, [.int .i64 (-1), .int .i64 (1)], .tuple ⟨[.agg ⟨[.bool true, .string ⟨⟨[1]⟩⟩, .string ⟨⟨[1]⟩⟩]⟩, .int .i64 (0)]⟩⟩
theorem kt7_ok : kt7.ok := Fact.of_run (n := 300) (by kernel_rfl) (by kernel_rfl)
noncomputable def kt8 : Fact := ⟨39, [.agg ⟨[.bool true, .string ⟨⟨[1]⟩⟩, .string ⟨⟨[1]⟩⟩, .bool false, .string ⟨⟨[]⟩⟩, .string ⟨⟨[1]⟩⟩]⟩], .tuple ⟨[.agg ⟨[.bool false, .string ⟨⟨[]⟩⟩, .string ⟨⟨[]⟩⟩]⟩, .bool false, .int .i64 (0)]⟩⟩
theorem kt8_ok : kt8.ok := Fact.of_run (n := 300) (by kernel_rfl) (by kernel_rfl)
noncomputable def kt9 : Fact := ⟨39, [.agg ⟨[.bool false, .string ⟨⟨[1]⟩⟩, .string ⟨⟨[1]⟩⟩, .bool false, .string ⟨⟨[1]⟩⟩, .string ⟨⟨[1]⟩⟩]⟩], .tuple ⟨[.agg ⟨[.bool false, .string ⟨⟨[]⟩⟩, .string ⟨⟨[]⟩⟩]⟩, .bool false, .int .i64 (2)]⟩⟩
theorem kt9_ok : kt9.ok := Fact.of_run (n := 300) (by kernel_rfl) (by kernel_rfl)
noncomputable def kt10 : Fact := ⟨37, [.int .i64 (1), .int .i64 (2)], .tuple ⟨[.complex .f64 0 4607182418800017408, .int .i64 (0)]⟩⟩
theorem kt10_ok : kt10.ok := Fact.of_run (n := 300) (by kernel_rfl) (by kernel_rfl)
noncomputable def kt11 : Fact := ⟨43, [], .bool true⟩
theorem kt11_ok : kt11.ok := Fact.of_run (n := 300) (by kernel_rfl) (by kernel_rfl)
end Ev
end Go.Proofs.YtjjbhadnakjhdaaGreatDoor
