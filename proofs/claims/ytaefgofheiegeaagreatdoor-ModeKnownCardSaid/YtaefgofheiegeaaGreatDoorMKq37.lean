/- Contracts, in this order: Calls over structs with slices run, and their answers. -/
import Derived.Test.YtaefgofheiegeaaGreatDoorMKq26
import Derived.Test.YtaefgofheiegeaaGreatDoorMKq35
namespace Go.Proofs.YtaefgofheiegeaaGreatDoor
open Go Go.RowKit
namespace Ev
set_option maxRecDepth 100000
noncomputable def msm2 : SFact := ⟨11, 3, [.row 29 4 2 [.bool false, .string ⟨⟨[1]⟩⟩, .string ⟨⟨[1]⟩⟩, .int .i64 (1), .bool false, .string ⟨⟨[3]⟩⟩, .string ⟨⟨[1]⟩⟩, .int .i64 (1)], .one (.int .i64 (1)), .one (.int .i64 (2)), .one (.int .i64 (2))], .pair 45 7 1 [.bool false, .string ⟨⟨[3]⟩⟩, .string ⟨⟨[2]⟩⟩, .bool false, .string ⟨⟨[7]⟩⟩, .string ⟨⟨[4]⟩⟩, .bool false] (.int .i64 (0))⟩
theorem msm2_ok : msm2.ok := SFact.by_run (knownP_ok mslAll_ok mkaAll_ok mk0_ok) (n := 300) (by kernel_rfl)
noncomputable def msm3 : SFact := ⟨14, 3, [.row 29 4 1 [.bool false, .string ⟨⟨[1]⟩⟩, .string ⟨⟨[1]⟩⟩, .int .i64 (3)], .one (.int .i64 (1)), .one (.int .i64 (1)), .one (.agg ⟨[.bool false, .string ⟨⟨[]⟩⟩, .string ⟨⟨[1]⟩⟩, .bool false, .string ⟨⟨[1]⟩⟩, .string ⟨⟨[1]⟩⟩]⟩)], .one (.tuple ⟨[.int .i64 (1), .int .i64 (0)]⟩)⟩
theorem msm3_ok : msm3.ok := SFact.by_run (knownP_ok mslAll_ok mkaAll_ok mk0_ok) (n := 300) (by kernel_rfl)
noncomputable def msm4 : SFact := ⟨11, 3, [.row 29 4 1 [.bool false, .string ⟨⟨[1]⟩⟩, .string ⟨⟨[1]⟩⟩, .int .i64 (2)], .one (.int .i64 (1)), .one (.int .i64 (1)), .one (.int .i64 (-1))], .one (.tuple ⟨[.slice none 0 0, .int .i64 (2)]⟩)⟩
theorem msm4_ok : msm4.ok := SFact.by_run (knownP_ok mslAll_ok mkaAll_ok mk0_ok) (n := 300) (by kernel_rfl)
end Ev
end Go.Proofs.YtaefgofheiegeaaGreatDoor
