/- Contracts, in this order: Calls run, and their answers. -/
import Derived.Test.YtmioikbnjflldaaGreatDoorPq19
namespace Go.Proofs.YtmioikbnjflldaaGreatDoor
open Go Go.RowKit
namespace Ev
set_option maxRecDepth 100000
noncomputable def pka17 : Fact := ⟨11, [.int .i64 (0), .int .i64 (1)], .tuple ⟨[.agg ⟨[.bool false, .string ⟨⟨[]⟩⟩, .string ⟨⟨[1]⟩⟩]⟩, .int .i64 (0)]⟩⟩
theorem pka17_ok : pka17.ok := Fact.of_run (n := 300) (by kernel_rfl) (by kernel_rfl)
noncomputable def pka18 : Fact := ⟨11, [.int .i64 (3), .int .i64 (1)], .tuple ⟨[.agg ⟨[.bool false, .string ⟨⟨[3]⟩⟩, .string ⟨⟨[1]⟩⟩]⟩, .int .i64 (0)]⟩⟩
theorem pka18_ok : pka18.ok := Fact.of_run (n := 300) (by kernel_rfl) (by kernel_rfl)
noncomputable def pka19 : Fact := ⟨114, [.int .u64 (9223372036854775783), .int .u64 (0), .int .u64 (3074457345618258594)], .int .u64 (6148914691236517189)⟩
theorem pka19_ok : pka19.ok := Fact.of_run (n := 300) (by kernel_rfl) (by kernel_rfl)
noncomputable def pka20 : Fact := ⟨114, [.int .u64 (9223372036854775783), .int .u64 (9223372036854775781), .int .u64 (9223372036854775781)], .int .u64 (0)⟩
theorem pka20_ok : pka20.ok := Fact.of_run (n := 300) (by kernel_rfl) (by kernel_rfl)
noncomputable def pka21 : Fact := ⟨157, [.int .u64 (9223372036854775777), .int .u64 (2)], .bool false⟩
theorem pka21_ok : pka21.ok := Fact.of_run (n := 300) (by kernel_rfl) (by kernel_rfl)
noncomputable def pka22 : Fact := ⟨157, [.int .u64 (9223372036854775747), .int .u64 (2)], .bool false⟩
theorem pka22_ok : pka22.ok := Fact.of_run (n := 300) (by kernel_rfl) (by kernel_rfl)
noncomputable def pka23 : Fact := ⟨157, [.int .u64 (9223372036854775727), .int .u64 (2)], .bool false⟩
theorem pka23_ok : pka23.ok := Fact.of_run (n := 300) (by kernel_rfl) (by kernel_rfl)
noncomputable def pka24 : Fact := ⟨157, [.int .u64 (9223372036854775703), .int .u64 (2)], .bool false⟩
theorem pka24_ok : pka24.ok := Fact.of_run (n := 300) (by kernel_rfl) (by kernel_rfl)
noncomputable def pka25 : Fact := ⟨157, [.int .u64 (9223372036854775673), .int .u64 (2)], .bool false⟩
theorem pka25_ok : pka25.ok := Fact.of_run (n := 300) (by kernel_rfl) (by kernel_rfl)
noncomputable def pka26 : Fact := ⟨157, [.int .u64 (9223372036854775643), .int .u64 (2)], .bool true⟩
theorem pka26_ok : pka26.ok := Fact.of_run (n := 300) (by kernel_rfl) (by kernel_rfl)
noncomputable def pka27 : Fact := ⟨157, [.int .u64 (9223372036854775643), .int .u64 (11)], .bool true⟩
theorem pka27_ok : pka27.ok := Fact.of_run (n := 300) (by kernel_rfl) (by kernel_rfl)
noncomputable def pka28 : Fact := ⟨157, [.int .u64 (9223372036854775643), .int .u64 (23)], .bool true⟩
theorem pka28_ok : pka28.ok := Fact.of_run (n := 300) (by kernel_rfl) (by kernel_rfl)
noncomputable def pka29 : Fact := ⟨114, [.int .u64 (9223372036854775643), .int .u64 (0), .int .u64 (0)], .int .u64 (0)⟩
theorem pka29_ok : pka29.ok := Fact.of_run (n := 300) (by kernel_rfl) (by kernel_rfl)
noncomputable def pka30 : Fact := ⟨114, [.int .u64 (9223372036854775643), .int .u64 (1), .int .u64 (6148914691236517096)], .int .u64 (3074457345618258548)⟩
theorem pka30_ok : pka30.ok := Fact.of_run (n := 300) (by kernel_rfl) (by kernel_rfl)
noncomputable def pka31 : Fact := ⟨114, [.int .u64 (9223372036854775643), .int .u64 (9223372036854775641), .int .u64 (9223372036854775641)], .int .u64 (0)⟩
theorem pka31_ok : pka31.ok := Fact.of_run (n := 300) (by kernel_rfl) (by kernel_rfl)
noncomputable def pka32 : Fact := ⟨114, [.int .u64 (9223372036854775643), .int .u64 (9157490808020098675), .int .u64 (461168601842738783)], .int .u64 (8696322206177359892)⟩
theorem pka32_ok : pka32.ok := Fact.of_run (n := 300) (by kernel_rfl) (by kernel_rfl)
noncomputable def pka33 : Fact := ⟨77, [.agg ⟨[.bool false, .string ⟨⟨[1]⟩⟩, .string ⟨⟨[1]⟩⟩]⟩], .tuple ⟨[.string ⟨⟨[49]⟩⟩, .int .i64 (0)]⟩⟩
theorem pka33_ok : pka33.ok := Fact.of_run (n := 300) (by kernel_rfl) (by kernel_rfl)
end Ev
end Go.Proofs.YtmioikbnjflldaaGreatDoor
