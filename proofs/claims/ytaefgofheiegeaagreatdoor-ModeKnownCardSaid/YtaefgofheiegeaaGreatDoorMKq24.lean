/- Contracts, in this order: Calls over structs with slices run, and their answers. -/
import Derived.Test.YtaefgofheiegeaaGreatDoorMKq22
namespace Go.Proofs.YtaefgofheiegeaaGreatDoor
open Go Go.RowKit
namespace Ev
set_option maxRecDepth 100000
noncomputable def msl3 : SFact := ⟨10, 3, [.row 29 4 2 [.bool false, .string ⟨⟨[1]⟩⟩, .string ⟨⟨[1]⟩⟩, .int .i64 (1), .bool false, .string ⟨⟨[3]⟩⟩, .string ⟨⟨[1]⟩⟩, .int .i64 (1)], .one (.int .i64 (2)), .one (.int .i64 (2))], .pair 26 3 2 [.bool false, .string ⟨⟨[]⟩⟩, .string ⟨⟨[1]⟩⟩, .bool true, .string ⟨⟨[4]⟩⟩, .string ⟨⟨[1]⟩⟩] (.int .i64 (0))⟩
theorem msl3_ok : msl3.ok := SFact.by_run (knownB_ok (lb := []) (fun _ h => by cases h) mk0_ok) (n := 300) (by kernel_rfl)
noncomputable def msl4 : SFact := ⟨10, 3, [.row 29 4 1 [.bool false, .string ⟨⟨[1]⟩⟩, .string ⟨⟨[1]⟩⟩, .int .i64 (2)], .one (.int .i64 (1)), .one (.int .i64 (1))], .pair 26 3 2 [.bool false, .string ⟨⟨[]⟩⟩, .string ⟨⟨[1]⟩⟩, .bool true, .string ⟨⟨[4]⟩⟩, .string ⟨⟨[1]⟩⟩] (.int .i64 (0))⟩
theorem msl4_ok : msl4.ok := SFact.by_run (knownB_ok (lb := []) (fun _ h => by cases h) mk0_ok) (n := 300) (by kernel_rfl)
noncomputable def msl5 : SFact := ⟨8, 3, [.row 29 4 2 [.bool false, .string ⟨⟨[1]⟩⟩, .string ⟨⟨[1]⟩⟩, .int .i64 (1), .bool false, .string ⟨⟨[3]⟩⟩, .string ⟨⟨[1]⟩⟩, .int .i64 (1)], .one (.int .i64 (1)), .one (.int .i64 (2))], .pair 26 3 3 [.bool false, .string ⟨⟨[1]⟩⟩, .string ⟨⟨[1]⟩⟩, .bool false, .string ⟨⟨[1]⟩⟩, .string ⟨⟨[1]⟩⟩, .bool false, .string ⟨⟨[1]⟩⟩, .string ⟨⟨[1]⟩⟩] (.int .i64 (0))⟩
theorem msl5_ok : msl5.ok := SFact.by_run (knownB_ok (lb := []) (fun _ h => by cases h) mk0_ok) (n := 300) (by kernel_rfl)
noncomputable def msl6 : SFact := ⟨8, 3, [.row 29 4 2 [.bool false, .string ⟨⟨[1]⟩⟩, .string ⟨⟨[1]⟩⟩, .int .i64 (1), .bool false, .string ⟨⟨[3]⟩⟩, .string ⟨⟨[1]⟩⟩, .int .i64 (1)], .one (.int .i64 (2)), .one (.int .i64 (2))], .pair 26 3 3 [.bool false, .string ⟨⟨[1]⟩⟩, .string ⟨⟨[1]⟩⟩, .bool false, .string ⟨⟨[]⟩⟩, .string ⟨⟨[1]⟩⟩, .bool true, .string ⟨⟨[1]⟩⟩, .string ⟨⟨[1]⟩⟩] (.int .i64 (0))⟩
theorem msl6_ok : msl6.ok := SFact.by_run (knownB_ok (lb := []) (fun _ h => by cases h) mk0_ok) (n := 300) (by kernel_rfl)
end Ev
end Go.Proofs.YtaefgofheiegeaaGreatDoor
