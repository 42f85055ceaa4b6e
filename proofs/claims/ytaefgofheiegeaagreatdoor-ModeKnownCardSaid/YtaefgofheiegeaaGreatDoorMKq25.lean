/- Contracts, in this order: Calls over structs with slices run, and their answers. -/
import Derived.Test.YtaefgofheiegeaaGreatDoorMKq22
namespace Go.Proofs.YtaefgofheiegeaaGreatDoor
open Go Go.RowKit
namespace Ev
set_option maxRecDepth 100000
noncomputable def msl7 : SFact := ⟨10, 3, [.row 29 4 1 [.bool false, .string ⟨⟨[1]⟩⟩, .string ⟨⟨[1]⟩⟩, .int .i64 (2)], .one (.int .i64 (2)), .one (.int .i64 (1))], .pair 26 3 3 [.bool false, .string ⟨⟨[2]⟩⟩, .string ⟨⟨[1]⟩⟩, .bool false, .string ⟨⟨[]⟩⟩, .string ⟨⟨[1]⟩⟩, .bool true, .string ⟨⟨[2]⟩⟩, .string ⟨⟨[1]⟩⟩] (.int .i64 (0))⟩
theorem msl7_ok : msl7.ok := SFact.by_run (knownB_ok (lb := []) (fun _ h => by cases h) mk0_ok) (n := 300) (by kernel_rfl)
noncomputable def msl8 : SFact := ⟨10, 3, [.row 29 4 2 [.bool false, .string ⟨⟨[1]⟩⟩, .string ⟨⟨[1]⟩⟩, .int .i64 (1), .bool false, .string ⟨⟨[3]⟩⟩, .string ⟨⟨[1]⟩⟩, .int .i64 (1)], .one (.int .i64 (1)), .one (.int .i64 (2))], .pair 26 3 3 [.bool false, .string ⟨⟨[3]⟩⟩, .string ⟨⟨[1]⟩⟩, .bool false, .string ⟨⟨[]⟩⟩, .string ⟨⟨[1]⟩⟩, .bool true, .string ⟨⟨[1]⟩⟩, .string ⟨⟨[1]⟩⟩] (.int .i64 (0))⟩
theorem msl8_ok : msl8.ok := SFact.by_run (knownB_ok (lb := []) (fun _ h => by cases h) mk0_ok) (n := 300) (by kernel_rfl)
noncomputable def msl9 : SFact := ⟨8, 3, [.row 29 4 2 [.bool false, .string ⟨⟨[1]⟩⟩, .string ⟨⟨[1]⟩⟩, .int .i64 (1), .bool false, .string ⟨⟨[3]⟩⟩, .string ⟨⟨[1]⟩⟩, .int .i64 (1)], .one (.int .i64 (1)), .one (.int .i64 (1))], .pair 26 3 3 [.bool false, .string ⟨⟨[1]⟩⟩, .string ⟨⟨[1]⟩⟩, .bool false, .string ⟨⟨[]⟩⟩, .string ⟨⟨[1]⟩⟩, .bool true, .string ⟨⟨[1]⟩⟩, .string ⟨⟨[1]⟩⟩] (.int .i64 (0))⟩
theorem msl9_ok : msl9.ok := SFact.by_run (knownB_ok (lb := []) (fun _ h => by cases h) mk0_ok) (n := 300) (by kernel_rfl)
noncomputable def msl10 : SFact := ⟨8, 3, [.row 29 4 1 [.bool false, .string ⟨⟨[1]⟩⟩, .string ⟨⟨[1]⟩⟩, .int .i64 (2)], .one (.int .i64 (2)), .one (.int .i64 (1))], .pair 26 3 3 [.bool false, .string ⟨⟨[1]⟩⟩, .string ⟨⟨[1]⟩⟩, .bool false, .string ⟨⟨[]⟩⟩, .string ⟨⟨[1]⟩⟩, .bool false, .string ⟨⟨[1]⟩⟩, .string ⟨⟨[1]⟩⟩] (.int .i64 (0))⟩
theorem msl10_ok : msl10.ok := SFact.by_run (knownB_ok (lb := []) (fun _ h => by cases h) mk0_ok) (n := 300) (by kernel_rfl)
noncomputable def msl11 : SFact := ⟨10, 3, [.one (.slice none 0 0), .one (.int .i64 (0)), .one (.int .i64 (0))], .one (.tuple ⟨[.slice none 0 0, .int .i64 (2)]⟩)⟩
theorem msl11_ok : msl11.ok := SFact.by_run (knownB_ok (lb := []) (fun _ h => by cases h) mk0_ok) (n := 300) (by kernel_rfl)
noncomputable def msl12 : SFact := ⟨8, 3, [.one (.slice none 0 0), .one (.int .i64 (0)), .one (.int .i64 (0))], .one (.tuple ⟨[.slice none 0 0, .int .i64 (2)]⟩)⟩
theorem msl12_ok : msl12.ok := SFact.by_run (knownB_ok (lb := []) (fun _ h => by cases h) mk0_ok) (n := 300) (by kernel_rfl)
end Ev
end Go.Proofs.YtaefgofheiegeaaGreatDoor
