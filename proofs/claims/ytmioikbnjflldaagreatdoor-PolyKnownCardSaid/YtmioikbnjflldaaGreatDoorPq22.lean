/- Contracts, in this order: Calls run, and their answers. -/
import Derived.Test.YtmioikbnjflldaaGreatDoorPq19
namespace Go.Proofs.YtmioikbnjflldaaGreatDoor
open Go Go.RowKit
namespace Ev
set_option maxRecDepth 100000
noncomputable def pka34 : Fact := ⟨11, [.int .i64 (-1), .int .i64 (1)], .tuple ⟨[.agg ⟨[.bool true, .string ⟨⟨[1]⟩⟩, .string ⟨⟨[1]⟩⟩]⟩, .int .i64 (0)]⟩⟩
theorem pka34_ok : pka34.ok := Fact.of_run (n := 300) (by kernel_rfl) (by kernel_rfl)
noncomputable def pka35 : Fact := ⟨114, [.int .u64 (9223372036854775783), .int .u64 (0), .int .u64 (0)], .int .u64 (0)⟩
theorem pka35_ok : pka35.ok := Fact.of_run (n := 300) (by kernel_rfl) (by kernel_rfl)
noncomputable def pka36 : Fact := ⟨114, [.int .u64 (9223372036854775783), .int .u64 (1), .int .u64 (1)], .int .u64 (0)⟩
theorem pka36_ok : pka36.ok := Fact.of_run (n := 300) (by kernel_rfl) (by kernel_rfl)
noncomputable def pka37 : Fact := ⟨114, [.int .u64 (9223372036854775783), .int .u64 (2), .int .u64 (2)], .int .u64 (0)⟩
theorem pka37_ok : pka37.ok := Fact.of_run (n := 300) (by kernel_rfl) (by kernel_rfl)
noncomputable def pka38 : Fact := ⟨157, [.int .u64 (9223372036854775763), .int .u64 (2)], .bool false⟩
theorem pka38_ok : pka38.ok := Fact.of_run (n := 300) (by kernel_rfl) (by kernel_rfl)
noncomputable def pka39 : Fact := ⟨157, [.int .u64 (9223372036854775741), .int .u64 (2)], .bool false⟩
theorem pka39_ok : pka39.ok := Fact.of_run (n := 300) (by kernel_rfl) (by kernel_rfl)
noncomputable def pka40 : Fact := ⟨157, [.int .u64 (9223372036854775721), .int .u64 (2)], .bool false⟩
theorem pka40_ok : pka40.ok := Fact.of_run (n := 300) (by kernel_rfl) (by kernel_rfl)
noncomputable def pka41 : Fact := ⟨157, [.int .u64 (9223372036854775699), .int .u64 (2)], .bool false⟩
theorem pka41_ok : pka41.ok := Fact.of_run (n := 300) (by kernel_rfl) (by kernel_rfl)
noncomputable def pka42 : Fact := ⟨157, [.int .u64 (9223372036854775669), .int .u64 (2)], .bool false⟩
theorem pka42_ok : pka42.ok := Fact.of_run (n := 300) (by kernel_rfl) (by kernel_rfl)
noncomputable def pka43 : Fact := ⟨157, [.int .u64 (9223372036854775643), .int .u64 (3)], .bool true⟩
theorem pka43_ok : pka43.ok := Fact.of_run (n := 300) (by kernel_rfl) (by kernel_rfl)
noncomputable def pka44 : Fact := ⟨157, [.int .u64 (9223372036854775643), .int .u64 (13)], .bool true⟩
theorem pka44_ok : pka44.ok := Fact.of_run (n := 300) (by kernel_rfl) (by kernel_rfl)
noncomputable def pka45 : Fact := ⟨157, [.int .u64 (9223372036854775643), .int .u64 (29)], .bool true⟩
theorem pka45_ok : pka45.ok := Fact.of_run (n := 300) (by kernel_rfl) (by kernel_rfl)
noncomputable def pka46 : Fact := ⟨112, [.int .u64 (9223372036854775643), .int .u64 (1)], .int .u64 (1)⟩
theorem pka46_ok : pka46.ok := Fact.of_run (n := 300) (by kernel_rfl) (by kernel_rfl)
noncomputable def pka47 : Fact := ⟨114, [.int .u64 (9223372036854775643), .int .u64 (6148914691236517096), .int .u64 (6148914691236517096)], .int .u64 (0)⟩
theorem pka47_ok : pka47.ok := Fact.of_run (n := 300) (by kernel_rfl) (by kernel_rfl)
noncomputable def pka48 : Fact := ⟨114, [.int .u64 (9223372036854775643), .int .u64 (2), .int .u64 (2)], .int .u64 (0)⟩
theorem pka48_ok : pka48.ok := Fact.of_run (n := 300) (by kernel_rfl) (by kernel_rfl)
noncomputable def pka49 : Fact := ⟨114, [.int .u64 (9223372036854775643), .int .u64 (65881228834676969), .int .u64 (7115172714145112639)], .int .u64 (2174080551544339973)⟩
theorem pka49_ok : pka49.ok := Fact.of_run (n := 300) (by kernel_rfl) (by kernel_rfl)
noncomputable def pka50 : Fact := ⟨77, [.agg ⟨[.bool false, .string ⟨⟨[]⟩⟩, .string ⟨⟨[1]⟩⟩]⟩], .tuple ⟨[.string ⟨⟨[48]⟩⟩, .int .i64 (0)]⟩⟩
theorem pka50_ok : pka50.ok := Fact.of_run (n := 300) (by kernel_rfl) (by kernel_rfl)
end Ev
end Go.Proofs.YtmioikbnjflldaaGreatDoor
