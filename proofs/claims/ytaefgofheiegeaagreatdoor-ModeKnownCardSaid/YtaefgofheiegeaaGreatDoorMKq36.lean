/- Contracts, in this order: Calls over structs with slices run, and their answers. -/
import Derived.Test.YtaefgofheiegeaaGreatDoorMKq26
import Derived.Test.YtaefgofheiegeaaGreatDoorMKq35
namespace Go.Proofs.YtaefgofheiegeaaGreatDoor
open Go Go.RowKit
namespace Ev
set_option maxRecDepth 100000
noncomputable def msm0 : SFact := ⟨11, 3, [.row 29 4 1 [.bool false, .string ⟨⟨[1]⟩⟩, .string ⟨⟨[1]⟩⟩, .int .i64 (3)], .one (.int .i64 (1)), .one (.int .i64 (1)), .one (.int .i64 (3))], .pair 45 7 2 [.bool false, .string ⟨⟨[]⟩⟩, .string ⟨⟨[1]⟩⟩, .bool false, .string ⟨⟨[]⟩⟩, .string ⟨⟨[1]⟩⟩, .bool false, .bool false, .string ⟨⟨[13]⟩⟩, .string ⟨⟨[8]⟩⟩, .bool false, .string ⟨⟨[7]⟩⟩, .string ⟨⟨[4]⟩⟩, .bool false] (.int .i64 (0))⟩
theorem msm0_ok : msm0.ok := SFact.by_run (knownP_ok mslAll_ok mkaAll_ok mk0_ok) (n := 300) (by kernel_rfl)
noncomputable def msm1 : SFact := ⟨11, 3, [.row 29 4 1 [.bool false, .string ⟨⟨[1]⟩⟩, .string ⟨⟨[1]⟩⟩, .int .i64 (2)], .one (.int .i64 (1)), .one (.int .i64 (1)), .one (.int .i64 (0))], .pair 45 7 2 [.bool false, .string ⟨⟨[]⟩⟩, .string ⟨⟨[1]⟩⟩, .bool false, .string ⟨⟨[]⟩⟩, .string ⟨⟨[1]⟩⟩, .bool false, .bool false, .string ⟨⟨[]⟩⟩, .string ⟨⟨[]⟩⟩, .bool false, .string ⟨⟨[]⟩⟩, .string ⟨⟨[]⟩⟩, .bool true] (.int .i64 (0))⟩
theorem msm1_ok : msm1.ok := SFact.by_run (knownP_ok mslAll_ok mkaAll_ok mk0_ok) (n := 300) (by kernel_rfl)
end Ev
end Go.Proofs.YtaefgofheiegeaaGreatDoor
