/- Contracts, in this order: Calls over structs with slices run, and their answers. -/
import Derived.Test.YtaefgofheiegeaaGreatDoorMKq26
import Derived.Test.YtaefgofheiegeaaGreatDoorMKq35
namespace Go.Proofs.YtaefgofheiegeaaGreatDoor
open Go Go.RowKit
namespace Ev
set_option maxRecDepth 100000
noncomputable def msm5 : SFact := ⟨11, 3, [.row 29 4 1 [.bool false, .string ⟨⟨[1]⟩⟩, .string ⟨⟨[1]⟩⟩, .int .i64 (2)], .one (.int .i64 (2)), .one (.int .i64 (1)), .one (.int .i64 (3))], .pair 45 7 1 [.bool false, .string ⟨⟨[1]⟩⟩, .string ⟨⟨[1]⟩⟩, .bool false, .string ⟨⟨[1]⟩⟩, .string ⟨⟨[1]⟩⟩, .bool false] (.int .i64 (0))⟩
theorem msm5_ok : msm5.ok := SFact.by_run (knownP_ok mslAll_ok mkaAll_ok mk0_ok) (n := 300) (by kernel_rfl)
noncomputable def msm6 : SFact := ⟨14, 3, [.row 29 4 1 [.bool false, .string ⟨⟨[1]⟩⟩, .string ⟨⟨[1]⟩⟩, .int .i64 (3)], .one (.int .i64 (1)), .one (.int .i64 (1)), .one (.agg ⟨[.bool true, .string ⟨⟨[2]⟩⟩, .string ⟨⟨[1]⟩⟩, .bool false, .string ⟨⟨[2]⟩⟩, .string ⟨⟨[1]⟩⟩]⟩)], .one (.tuple ⟨[.int .i64 (3), .int .i64 (0)]⟩)⟩
theorem msm6_ok : msm6.ok := SFact.by_run (knownP_ok mslAll_ok mkaAll_ok mk0_ok) (n := 300) (by kernel_rfl)
noncomputable def msm7 : SFact := ⟨14, 3, [.row 29 4 1 [.bool false, .string ⟨⟨[1]⟩⟩, .string ⟨⟨[1]⟩⟩, .int .i64 (3)], .one (.int .i64 (1)), .one (.int .i64 (1)), .one (.agg ⟨[.bool false, .string ⟨⟨[2]⟩⟩, .string ⟨⟨[1]⟩⟩, .bool false, .string ⟨⟨[1]⟩⟩, .string ⟨⟨[1]⟩⟩]⟩)], .one (.tuple ⟨[.int .i64 (0), .int .i64 (2)]⟩)⟩
theorem msm7_ok : msm7.ok := SFact.by_run (knownP_ok mslAll_ok mkaAll_ok mk0_ok) (n := 300) (by kernel_rfl)
noncomputable def msm8 : SFact := ⟨11, 3, [.row 29 4 1 [.bool false, .string ⟨⟨[1]⟩⟩, .string ⟨⟨[1]⟩⟩, .int .i64 (2)], .one (.int .i64 (1)), .one (.int .i64 (1)), .one (.int .i64 (257))], .one (.tuple ⟨[.slice none 0 0, .int .i64 (3)]⟩)⟩
theorem msm8_ok : msm8.ok := SFact.by_run (knownP_ok mslAll_ok mkaAll_ok mk0_ok) (n := 300) (by kernel_rfl)
end Ev
end Go.Proofs.YtaefgofheiegeaaGreatDoor
