/- Contracts, in this order: Calls over structs with slices run, and their answers. -/
import Derived.Test.YtaefgofheiegeaaGreatDoorMKq22
namespace Go.Proofs.YtaefgofheiegeaaGreatDoor
open Go Go.RowKit
namespace Ev
set_option maxRecDepth 100000
noncomputable def msl0 : SFact := ⟨10, 3, [.row 29 4 1 [.bool false, .string ⟨⟨[1]⟩⟩, .string ⟨⟨[1]⟩⟩, .int .i64 (3)], .one (.int .i64 (1)), .one (.int .i64 (1))], .pair 26 3 4 [.bool false, .string ⟨⟨[]⟩⟩, .string ⟨⟨[1]⟩⟩, .bool true, .string ⟨⟨[6]⟩⟩, .string ⟨⟨[1]⟩⟩, .bool false, .string ⟨⟨[]⟩⟩, .string ⟨⟨[1]⟩⟩, .bool false, .string ⟨⟨[2]⟩⟩, .string ⟨⟨[1]⟩⟩] (.int .i64 (0))⟩
theorem msl0_ok : msl0.ok := SFact.by_run (knownB_ok (lb := []) (fun _ h => by cases h) mk0_ok) (n := 300) (by kernel_rfl)
noncomputable def msl1 : SFact := ⟨8, 3, [.row 29 4 1 [.bool false, .string ⟨⟨[1]⟩⟩, .string ⟨⟨[1]⟩⟩, .int .i64 (3)], .one (.int .i64 (1)), .one (.int .i64 (1))], .pair 26 3 4 [.bool false, .string ⟨⟨[1]⟩⟩, .string ⟨⟨[1]⟩⟩, .bool false, .string ⟨⟨[]⟩⟩, .string ⟨⟨[1]⟩⟩, .bool false, .string ⟨⟨[]⟩⟩, .string ⟨⟨[1]⟩⟩, .bool true, .string ⟨⟨[1]⟩⟩, .string ⟨⟨[1]⟩⟩] (.int .i64 (0))⟩
theorem msl1_ok : msl1.ok := SFact.by_run (knownB_ok (lb := []) (fun _ h => by cases h) mk0_ok) (n := 300) (by kernel_rfl)
noncomputable def msl2 : SFact := ⟨8, 3, [.row 29 4 1 [.bool false, .string ⟨⟨[1]⟩⟩, .string ⟨⟨[1]⟩⟩, .int .i64 (2)], .one (.int .i64 (1)), .one (.int .i64 (1))], .pair 26 3 3 [.bool false, .string ⟨⟨[1]⟩⟩, .string ⟨⟨[1]⟩⟩, .bool false, .string ⟨⟨[]⟩⟩, .string ⟨⟨[1]⟩⟩, .bool true, .string ⟨⟨[1]⟩⟩, .string ⟨⟨[1]⟩⟩] (.int .i64 (0))⟩
theorem msl2_ok : msl2.ok := SFact.by_run (knownB_ok (lb := []) (fun _ h => by cases h) mk0_ok) (n := 300) (by kernel_rfl)
end Ev
end Go.Proofs.YtaefgofheiegeaaGreatDoor
