/- Contracts, in this order: Calls run, and their answers. -/
import Derived.Test.YtmioikbnjflldaaGreatDoorPq19
namespace Go.Proofs.YtmioikbnjflldaaGreatDoor
open Go Go.RowKit
namespace Ev
set_option maxRecDepth 100000
noncomputable def pka51 : Fact := ⟨11, [.int .i64 (2), .int .i64 (1)], .tuple ⟨[.agg ⟨[.bool false, .string ⟨⟨[2]⟩⟩, .string ⟨⟨[1]⟩⟩]⟩, .int .i64 (0)]⟩⟩
theorem pka51_ok : pka51.ok := Fact.of_run (n := 300) (by kernel_rfl) (by kernel_rfl)
noncomputable def pka52 : Fact := ⟨112, [.int .u64 (9223372036854775783), .int .u64 (1)], .int .u64 (1)⟩
theorem pka52_ok : pka52.ok := Fact.of_run (n := 300) (by kernel_rfl) (by kernel_rfl)
noncomputable def pka53 : Fact := ⟨112, [.int .u64 (9223372036854775783), .int .u64 (3)], .int .u64 (6148914691236517189)⟩
theorem pka53_ok : pka53.ok := Fact.of_run (n := 300) (by kernel_rfl) (by kernel_rfl)
noncomputable def pka54 : Fact := ⟨114, [.int .u64 (9223372036854775783), .int .u64 (1), .int .u64 (0)], .int .u64 (1)⟩
theorem pka54_ok : pka54.ok := Fact.of_run (n := 300) (by kernel_rfl) (by kernel_rfl)
noncomputable def pka55 : Fact := ⟨157, [.int .u64 (9223372036854775757), .int .u64 (2)], .bool false⟩
theorem pka55_ok : pka55.ok := Fact.of_run (n := 300) (by kernel_rfl) (by kernel_rfl)
noncomputable def pka56 : Fact := ⟨157, [.int .u64 (9223372036854775739), .int .u64 (2)], .bool false⟩
theorem pka56_ok : pka56.ok := Fact.of_run (n := 300) (by kernel_rfl) (by kernel_rfl)
noncomputable def pka57 : Fact := ⟨157, [.int .u64 (9223372036854775717), .int .u64 (2)], .bool false⟩
theorem pka57_ok : pka57.ok := Fact.of_run (n := 300) (by kernel_rfl) (by kernel_rfl)
noncomputable def pka58 : Fact := ⟨157, [.int .u64 (9223372036854775693), .int .u64 (2)], .bool false⟩
theorem pka58_ok : pka58.ok := Fact.of_run (n := 300) (by kernel_rfl) (by kernel_rfl)
noncomputable def pka59 : Fact := ⟨157, [.int .u64 (9223372036854775661), .int .u64 (2)], .bool false⟩
theorem pka59_ok : pka59.ok := Fact.of_run (n := 300) (by kernel_rfl) (by kernel_rfl)
noncomputable def pka60 : Fact := ⟨157, [.int .u64 (9223372036854775643), .int .u64 (5)], .bool true⟩
theorem pka60_ok : pka60.ok := Fact.of_run (n := 300) (by kernel_rfl) (by kernel_rfl)
noncomputable def pka61 : Fact := ⟨157, [.int .u64 (9223372036854775643), .int .u64 (17)], .bool true⟩
theorem pka61_ok : pka61.ok := Fact.of_run (n := 300) (by kernel_rfl) (by kernel_rfl)
noncomputable def pka62 : Fact := ⟨157, [.int .u64 (9223372036854775643), .int .u64 (31)], .bool true⟩
theorem pka62_ok : pka62.ok := Fact.of_run (n := 300) (by kernel_rfl) (by kernel_rfl)
noncomputable def pka63 : Fact := ⟨114, [.int .u64 (9223372036854775643), .int .u64 (0), .int .u64 (2)], .int .u64 (9223372036854775641)⟩
theorem pka63_ok : pka63.ok := Fact.of_run (n := 300) (by kernel_rfl) (by kernel_rfl)
noncomputable def pka64 : Fact := ⟨112, [.int .u64 (9223372036854775643), .int .u64 (3)], .int .u64 (3074457345618258548)⟩
theorem pka64_ok : pka64.ok := Fact.of_run (n := 300) (by kernel_rfl) (by kernel_rfl)
noncomputable def pka65 : Fact := ⟨114, [.int .u64 (9223372036854775643), .int .u64 (0), .int .u64 (65881228834676968)], .int .u64 (9157490808020098675)⟩
theorem pka65_ok : pka65.ok := Fact.of_run (n := 300) (by kernel_rfl) (by kernel_rfl)
noncomputable def pka66 : Fact := ⟨114, [.int .u64 (9223372036854775643), .int .u64 (8696322206177359892), .int .u64 (8696322206177359892)], .int .u64 (0)⟩
theorem pka66_ok : pka66.ok := Fact.of_run (n := 300) (by kernel_rfl) (by kernel_rfl)
noncomputable def pka67 : Fact := ⟨77, [.agg ⟨[.bool true, .string ⟨⟨[1]⟩⟩, .string ⟨⟨[1]⟩⟩]⟩], .tuple ⟨[.string ⟨⟨[45, 49]⟩⟩, .int .i64 (0)]⟩⟩
theorem pka67_ok : pka67.ok := Fact.of_run (n := 300) (by kernel_rfl) (by kernel_rfl)
end Ev
end Go.Proofs.YtmioikbnjflldaaGreatDoor
