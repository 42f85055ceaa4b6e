/- Contracts, in this order: Calls run, and their answers. -/
import Derived.Test.YtmioikbnjflldaaGreatDoorSq19
namespace Go.Proofs.YtmioikbnjflldaaGreatDoor
open Go Go.RowKit
namespace Ev
set_option maxRecDepth 100000
noncomputable def stg18 : Fact := ⟨11, [.int .i64 (-2), .int .i64 (1)], .tuple ⟨[.agg ⟨[.bool true, .string ⟨⟨[2]⟩⟩, .string ⟨⟨[1]⟩⟩]⟩, .int .i64 (0)]⟩⟩
theorem stg18_ok : stg18.ok := Fact.of_run (n := 300) (by kernel_rfl) (by kernel_rfl)
noncomputable def stg19 : Fact := ⟨11, [.int .i64 (-1), .int .i64 (1)], .tuple ⟨[.agg ⟨[.bool true, .string ⟨⟨[1]⟩⟩, .string ⟨⟨[1]⟩⟩]⟩, .int .i64 (0)]⟩⟩
theorem stg19_ok : stg19.ok := Fact.of_run (n := 300) (by kernel_rfl) (by kernel_rfl)
noncomputable def stg20 : Fact := ⟨19, [.int .i64 (0), .int .i64 (1)], .agg ⟨[.bool false, .string ⟨⟨[]⟩⟩, .string ⟨⟨[1]⟩⟩]⟩⟩
theorem stg20_ok : stg20.ok := Fact.of_run (n := 300) (by kernel_rfl) (by kernel_rfl)
noncomputable def stg21 : Fact := ⟨11, [.int .i64 (-9), .int .i64 (1)], .tuple ⟨[.agg ⟨[.bool true, .string ⟨⟨[9]⟩⟩, .string ⟨⟨[1]⟩⟩]⟩, .int .i64 (0)]⟩⟩
theorem stg21_ok : stg21.ok := Fact.of_run (n := 300) (by kernel_rfl) (by kernel_rfl)
noncomputable def stg22 : Fact := ⟨11, [.int .i64 (9), .int .i64 (1)], .tuple ⟨[.agg ⟨[.bool false, .string ⟨⟨[9]⟩⟩, .string ⟨⟨[1]⟩⟩]⟩, .int .i64 (0)]⟩⟩
theorem stg22_ok : stg22.ok := Fact.of_run (n := 300) (by kernel_rfl) (by kernel_rfl)
noncomputable def stg23 : Fact := ⟨17, [.int .i64 (-9), .int .i64 (9)], .agg ⟨[.bool true, .string ⟨⟨[9]⟩⟩, .string ⟨⟨[1]⟩⟩, .bool false, .string ⟨⟨[9]⟩⟩, .string ⟨⟨[1]⟩⟩]⟩⟩
theorem stg23_ok : stg23.ok := Fact.of_run (n := 300) (by kernel_rfl) (by kernel_rfl)
noncomputable def stg24 : Fact := ⟨19, [.int .i64 (2), .int .i64 (1)], .agg ⟨[.bool false, .string ⟨⟨[2]⟩⟩, .string ⟨⟨[1]⟩⟩]⟩⟩
theorem stg24_ok : stg24.ok := Fact.of_run (n := 300) (by kernel_rfl) (by kernel_rfl)
noncomputable def stg25 : Fact := ⟨17, [.int .i64 (2), .int .i64 (1)], .agg ⟨[.bool false, .string ⟨⟨[2]⟩⟩, .string ⟨⟨[1]⟩⟩, .bool false, .string ⟨⟨[1]⟩⟩, .string ⟨⟨[1]⟩⟩]⟩⟩
theorem stg25_ok : stg25.ok := Fact.of_run (n := 300) (by kernel_rfl) (by kernel_rfl)
noncomputable def stg26 : Fact := ⟨11, [.int .i64 (-3), .int .i64 (1)], .tuple ⟨[.agg ⟨[.bool true, .string ⟨⟨[3]⟩⟩, .string ⟨⟨[1]⟩⟩]⟩, .int .i64 (0)]⟩⟩
theorem stg26_ok : stg26.ok := Fact.of_run (n := 300) (by kernel_rfl) (by kernel_rfl)
noncomputable def stg27 : Fact := ⟨19, [.int .i64 (3), .int .i64 (1)], .agg ⟨[.bool false, .string ⟨⟨[3]⟩⟩, .string ⟨⟨[1]⟩⟩]⟩⟩
theorem stg27_ok : stg27.ok := Fact.of_run (n := 300) (by kernel_rfl) (by kernel_rfl)
noncomputable def stg28 : Fact := ⟨19, [.int .i64 (3), .int .i64 (16)], .agg ⟨[.bool false, .string ⟨⟨[3]⟩⟩, .string ⟨⟨[16]⟩⟩]⟩⟩
theorem stg28_ok : stg28.ok := Fact.of_run (n := 300) (by kernel_rfl) (by kernel_rfl)
noncomputable def stg29 : Fact := ⟨11, [.int .i64 (1), .int .i64 (2)], .tuple ⟨[.agg ⟨[.bool false, .string ⟨⟨[1]⟩⟩, .string ⟨⟨[2]⟩⟩]⟩, .int .i64 (0)]⟩⟩
theorem stg29_ok : stg29.ok := Fact.of_run (n := 300) (by kernel_rfl) (by kernel_rfl)
noncomputable def stg30 : Fact := ⟨19, [.int .i64 (-2), .int .i64 (1)], .agg ⟨[.bool true, .string ⟨⟨[2]⟩⟩, .string ⟨⟨[1]⟩⟩]⟩⟩
theorem stg30_ok : stg30.ok := Fact.of_run (n := 300) (by kernel_rfl) (by kernel_rfl)
noncomputable def stg31 : Fact := ⟨17, [.int .i64 (1), .int .i64 (2)], .agg ⟨[.bool false, .string ⟨⟨[1]⟩⟩, .string ⟨⟨[1]⟩⟩, .bool false, .string ⟨⟨[2]⟩⟩, .string ⟨⟨[1]⟩⟩]⟩⟩
theorem stg31_ok : stg31.ok := Fact.of_run (n := 300) (by kernel_rfl) (by kernel_rfl)
noncomputable def stg32 : Fact := ⟨17, [.int .i64 (2), .int .i64 (2)], .agg ⟨[.bool false, .string ⟨⟨[2]⟩⟩, .string ⟨⟨[1]⟩⟩, .bool false, .string ⟨⟨[2]⟩⟩, .string ⟨⟨[1]⟩⟩]⟩⟩
theorem stg32_ok : stg32.ok := Fact.of_run (n := 300) (by kernel_rfl) (by kernel_rfl)
noncomputable def stg33 : Fact := ⟨17, [.int .i64 (-1), .int .i64 (1)], .agg ⟨[.bool true, .string ⟨⟨[1]⟩⟩, .string ⟨⟨[1]⟩⟩, .bool false, .string ⟨⟨[1]⟩⟩, .string ⟨⟨[1]⟩⟩]⟩⟩
theorem stg33_ok : stg33.ok := Fact.of_run (n := 300) (by kernel_rfl) (by kernel_rfl)
noncomputable def stg34 : Fact := ⟨19, [.int .i64 (11), .int .i64 (8)], .agg ⟨[.bool false, .string ⟨⟨[11]⟩⟩, .string ⟨⟨[8]⟩⟩]⟩⟩
theorem stg34_ok : stg34.ok := Fact.of_run (n := 300) (by kernel_rfl) (by kernel_rfl)
noncomputable def stg35 : Fact := ⟨19, [.int .i64 (3), .int .i64 (2)], .agg ⟨[.bool false, .string ⟨⟨[3]⟩⟩, .string ⟨⟨[2]⟩⟩]⟩⟩
theorem stg35_ok : stg35.ok := Fact.of_run (n := 300) (by kernel_rfl) (by kernel_rfl)
end Ev
end Go.Proofs.YtmioikbnjflldaaGreatDoor
