/- Contracts, in this order: Calls run, and their answers. -/
import Derived.Test.YtmioikbnjflldaaGreatDoorPq19
namespace Go.Proofs.YtmioikbnjflldaaGreatDoor
open Go Go.RowKit
namespace Ev
set_option maxRecDepth 100000
noncomputable def pka0 : Fact := ⟨11, [.int .i64 (1), .int .i64 (1)], .tuple ⟨[.agg ⟨[.bool false, .string ⟨⟨[1]⟩⟩, .string ⟨⟨[1]⟩⟩]⟩, .int .i64 (0)]⟩⟩
theorem pka0_ok : pka0.ok := Fact.of_run (n := 300) (by kernel_rfl) (by kernel_rfl)
noncomputable def pka1 : Fact := ⟨11, [.int .i64 (-2), .int .i64 (1)], .tuple ⟨[.agg ⟨[.bool true, .string ⟨⟨[2]⟩⟩, .string ⟨⟨[1]⟩⟩]⟩, .int .i64 (0)]⟩⟩
theorem pka1_ok : pka1.ok := Fact.of_run (n := 300) (by kernel_rfl) (by kernel_rfl)
noncomputable def pka2 : Fact := ⟨114, [.int .u64 (9223372036854775783), .int .u64 (0), .int .u64 (2)], .int .u64 (9223372036854775781)⟩
theorem pka2_ok : pka2.ok := Fact.of_run (n := 300) (by kernel_rfl) (by kernel_rfl)
noncomputable def pka3 : Fact := ⟨114, [.int .u64 (9223372036854775783), .int .u64 (0), .int .u64 (9223372036854775781)], .int .u64 (2)⟩
theorem pka3_ok : pka3.ok := Fact.of_run (n := 300) (by kernel_rfl) (by kernel_rfl)
noncomputable def pka4 : Fact := ⟨157, [.int .u64 (9223372036854775781), .int .u64 (2)], .bool false⟩
theorem pka4_ok : pka4.ok := Fact.of_run (n := 300) (by kernel_rfl) (by kernel_rfl)
noncomputable def pka5 : Fact := ⟨157, [.int .u64 (9223372036854775753), .int .u64 (2)], .bool false⟩
theorem pka5_ok : pka5.ok := Fact.of_run (n := 300) (by kernel_rfl) (by kernel_rfl)
noncomputable def pka6 : Fact := ⟨157, [.int .u64 (9223372036854775729), .int .u64 (2)], .bool false⟩
theorem pka6_ok : pka6.ok := Fact.of_run (n := 300) (by kernel_rfl) (by kernel_rfl)
noncomputable def pka7 : Fact := ⟨157, [.int .u64 (9223372036854775711), .int .u64 (2)], .bool false⟩
theorem pka7_ok : pka7.ok := Fact.of_run (n := 300) (by kernel_rfl) (by kernel_rfl)
noncomputable def pka8 : Fact := ⟨157, [.int .u64 (9223372036854775687), .int .u64 (2)], .bool false⟩
theorem pka8_ok : pka8.ok := Fact.of_run (n := 300) (by kernel_rfl) (by kernel_rfl)
noncomputable def pka9 : Fact := ⟨157, [.int .u64 (9223372036854775649), .int .u64 (2)], .bool false⟩
theorem pka9_ok : pka9.ok := Fact.of_run (n := 300) (by kernel_rfl) (by kernel_rfl)
noncomputable def pka10 : Fact := ⟨157, [.int .u64 (9223372036854775643), .int .u64 (7)], .bool true⟩
theorem pka10_ok : pka10.ok := Fact.of_run (n := 300) (by kernel_rfl) (by kernel_rfl)
noncomputable def pka11 : Fact := ⟨157, [.int .u64 (9223372036854775643), .int .u64 (19)], .bool true⟩
theorem pka11_ok : pka11.ok := Fact.of_run (n := 300) (by kernel_rfl) (by kernel_rfl)
noncomputable def pka12 : Fact := ⟨157, [.int .u64 (9223372036854775643), .int .u64 (37)], .bool true⟩
theorem pka12_ok : pka12.ok := Fact.of_run (n := 300) (by kernel_rfl) (by kernel_rfl)
noncomputable def pka13 : Fact := ⟨114, [.int .u64 (9223372036854775643), .int .u64 (0), .int .u64 (3074457345618258547)], .int .u64 (6148914691236517096)⟩
theorem pka13_ok : pka13.ok := Fact.of_run (n := 300) (by kernel_rfl) (by kernel_rfl)
noncomputable def pka14 : Fact := ⟨114, [.int .u64 (9223372036854775643), .int .u64 (0), .int .u64 (9223372036854775641)], .int .u64 (2)⟩
theorem pka14_ok : pka14.ok := Fact.of_run (n := 300) (by kernel_rfl) (by kernel_rfl)
noncomputable def pka15 : Fact := ⟨114, [.int .u64 (9223372036854775643), .int .u64 (1), .int .u64 (9157490808020098675)], .int .u64 (65881228834676969)⟩
theorem pka15_ok : pka15.ok := Fact.of_run (n := 300) (by kernel_rfl) (by kernel_rfl)
noncomputable def pka16 : Fact := ⟨112, [.int .u64 (9223372036854775643), .int .u64 (140)], .int .u64 (2174080551544339973)⟩
theorem pka16_ok : pka16.ok := Fact.of_run (n := 300) (by kernel_rfl) (by kernel_rfl)
end Ev
end Go.Proofs.YtmioikbnjflldaaGreatDoor
