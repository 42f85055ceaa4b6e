/- Contracts, in this order: Calls run, and their answers. -/
import Derived.Test.YtmioikbnjflldaaGreatDoorSq19
namespace Go.Proofs.YtmioikbnjflldaaGreatDoor
open Go Go.RowKit
namespace Ev
set_option maxRecDepth 100000
noncomputable def stg0 : Fact := ⟨11, [.int .i64 (1), .int .i64 (1)], .tuple ⟨[.agg ⟨[.bool false, .string ⟨⟨[1]⟩⟩, .string ⟨⟨[1]⟩⟩]⟩, .int .i64 (0)]⟩⟩
theorem stg0_ok : stg0.ok := Fact.of_run (n := 300) (by kernel_rfl) (by kernel_rfl)
noncomputable def stg1 : Fact := ⟨11, [.int .i64 (3), .int .i64 (1)], .tuple ⟨[.agg ⟨[.bool false, .string ⟨⟨[3]⟩⟩, .string ⟨⟨[1]⟩⟩]⟩, .int .i64 (0)]⟩⟩
theorem stg1_ok : stg1.ok := Fact.of_run (n := 300) (by kernel_rfl) (by kernel_rfl)
noncomputable def stg2 : Fact := ⟨11, [.int .i64 (0), .int .i64 (1)], .tuple ⟨[.agg ⟨[.bool false, .string ⟨⟨[]⟩⟩, .string ⟨⟨[1]⟩⟩]⟩, .int .i64 (0)]⟩⟩
theorem stg2_ok : stg2.ok := Fact.of_run (n := 300) (by kernel_rfl) (by kernel_rfl)
noncomputable def stg3 : Fact := ⟨17, [.int .i64 (0), .int .i64 (0)], .agg ⟨[.bool false, .string ⟨⟨[]⟩⟩, .string ⟨⟨[1]⟩⟩, .bool false, .string ⟨⟨[]⟩⟩, .string ⟨⟨[1]⟩⟩]⟩⟩
theorem stg3_ok : stg3.ok := Fact.of_run (n := 300) (by kernel_rfl) (by kernel_rfl)
noncomputable def stg4 : Fact := ⟨19, [.int .i64 (-9), .int .i64 (1)], .agg ⟨[.bool true, .string ⟨⟨[9]⟩⟩, .string ⟨⟨[1]⟩⟩]⟩⟩
theorem stg4_ok : stg4.ok := Fact.of_run (n := 300) (by kernel_rfl) (by kernel_rfl)
noncomputable def stg5 : Fact := ⟨19, [.int .i64 (9), .int .i64 (1)], .agg ⟨[.bool false, .string ⟨⟨[9]⟩⟩, .string ⟨⟨[1]⟩⟩]⟩⟩
theorem stg5_ok : stg5.ok := Fact.of_run (n := 300) (by kernel_rfl) (by kernel_rfl)
noncomputable def stg6 : Fact := ⟨11, [.int .i64 (2), .int .i64 (1)], .tuple ⟨[.agg ⟨[.bool false, .string ⟨⟨[2]⟩⟩, .string ⟨⟨[1]⟩⟩]⟩, .int .i64 (0)]⟩⟩
theorem stg6_ok : stg6.ok := Fact.of_run (n := 300) (by kernel_rfl) (by kernel_rfl)
noncomputable def stg7 : Fact := ⟨19, [.int .i64 (1), .int .i64 (1)], .agg ⟨[.bool false, .string ⟨⟨[1]⟩⟩, .string ⟨⟨[1]⟩⟩]⟩⟩
theorem stg7_ok : stg7.ok := Fact.of_run (n := 300) (by kernel_rfl) (by kernel_rfl)
noncomputable def stg8 : Fact := ⟨11, [.int .i64 (6), .int .i64 (1)], .tuple ⟨[.agg ⟨[.bool false, .string ⟨⟨[6]⟩⟩, .string ⟨⟨[1]⟩⟩]⟩, .int .i64 (0)]⟩⟩
theorem stg8_ok : stg8.ok := Fact.of_run (n := 300) (by kernel_rfl) (by kernel_rfl)
noncomputable def stg9 : Fact := ⟨11, [.int .i64 (5), .int .i64 (1)], .tuple ⟨[.agg ⟨[.bool false, .string ⟨⟨[5]⟩⟩, .string ⟨⟨[1]⟩⟩]⟩, .int .i64 (0)]⟩⟩
theorem stg9_ok : stg9.ok := Fact.of_run (n := 300) (by kernel_rfl) (by kernel_rfl)
noncomputable def stg10 : Fact := ⟨11, [.int .i64 (3), .int .i64 (16)], .tuple ⟨[.agg ⟨[.bool false, .string ⟨⟨[3]⟩⟩, .string ⟨⟨[16]⟩⟩]⟩, .int .i64 (0)]⟩⟩
theorem stg10_ok : stg10.ok := Fact.of_run (n := 300) (by kernel_rfl) (by kernel_rfl)
noncomputable def stg11 : Fact := ⟨19, [.int .i64 (-1), .int .i64 (1)], .agg ⟨[.bool true, .string ⟨⟨[1]⟩⟩, .string ⟨⟨[1]⟩⟩]⟩⟩
theorem stg11_ok : stg11.ok := Fact.of_run (n := 300) (by kernel_rfl) (by kernel_rfl)
noncomputable def stg12 : Fact := ⟨19, [.int .i64 (1), .int .i64 (2)], .agg ⟨[.bool false, .string ⟨⟨[1]⟩⟩, .string ⟨⟨[2]⟩⟩]⟩⟩
theorem stg12_ok : stg12.ok := Fact.of_run (n := 300) (by kernel_rfl) (by kernel_rfl)
noncomputable def stg13 : Fact := ⟨17, [.int .i64 (-2), .int .i64 (-1)], .agg ⟨[.bool true, .string ⟨⟨[2]⟩⟩, .string ⟨⟨[1]⟩⟩, .bool true, .string ⟨⟨[1]⟩⟩, .string ⟨⟨[1]⟩⟩]⟩⟩
theorem stg13_ok : stg13.ok := Fact.of_run (n := 300) (by kernel_rfl) (by kernel_rfl)
noncomputable def stg14 : Fact := ⟨17, [.int .i64 (1), .int .i64 (1)], .agg ⟨[.bool false, .string ⟨⟨[1]⟩⟩, .string ⟨⟨[1]⟩⟩, .bool false, .string ⟨⟨[1]⟩⟩, .string ⟨⟨[1]⟩⟩]⟩⟩
theorem stg14_ok : stg14.ok := Fact.of_run (n := 300) (by kernel_rfl) (by kernel_rfl)
noncomputable def stg15 : Fact := ⟨17, [.int .i64 (-2), .int .i64 (2)], .agg ⟨[.bool true, .string ⟨⟨[2]⟩⟩, .string ⟨⟨[1]⟩⟩, .bool false, .string ⟨⟨[2]⟩⟩, .string ⟨⟨[1]⟩⟩]⟩⟩
theorem stg15_ok : stg15.ok := Fact.of_run (n := 300) (by kernel_rfl) (by kernel_rfl)
noncomputable def stg16 : Fact := ⟨11, [.int .i64 (11), .int .i64 (8)], .tuple ⟨[.agg ⟨[.bool false, .string ⟨⟨[11]⟩⟩, .string ⟨⟨[8]⟩⟩]⟩, .int .i64 (0)]⟩⟩
theorem stg16_ok : stg16.ok := Fact.of_run (n := 300) (by kernel_rfl) (by kernel_rfl)
noncomputable def stg17 : Fact := ⟨11, [.int .i64 (3), .int .i64 (2)], .tuple ⟨[.agg ⟨[.bool false, .string ⟨⟨[3]⟩⟩, .string ⟨⟨[2]⟩⟩]⟩, .int .i64 (0)]⟩⟩
theorem stg17_ok : stg17.ok := Fact.of_run (n := 300) (by kernel_rfl) (by kernel_rfl)
end Ev
end Go.Proofs.YtmioikbnjflldaaGreatDoor
