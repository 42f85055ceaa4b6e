/- Contracts, in this order: Calls over slices run, and their answers. -/
import Derived.Test.YtaefgofheiegeaaGreatDoorMKq22
namespace Go.Proofs.YtaefgofheiegeaaGreatDoor
open Go Go.RowKit
namespace Ev
set_option maxRecDepth 100000
noncomputable def mka4 : BFact := ⟨86, [.row 26 3 3 [.bool false, .string ⟨⟨[2]⟩⟩, .string ⟨⟨[1]⟩⟩, .bool false, .string ⟨⟨[]⟩⟩, .string ⟨⟨[1]⟩⟩, .bool true, .string ⟨⟨[2]⟩⟩, .string ⟨⟨[1]⟩⟩]], .pair 42 6 2 [.bool true, .string ⟨⟨[1]⟩⟩, .string ⟨⟨[1]⟩⟩, .bool true, .string ⟨⟨[1]⟩⟩, .string ⟨⟨[1]⟩⟩, .bool false, .string ⟨⟨[1]⟩⟩, .string ⟨⟨[1]⟩⟩, .bool false, .string ⟨⟨[1]⟩⟩, .string ⟨⟨[1]⟩⟩] (.int .i64 (0))⟩
theorem mka4_ok : mka4.ok := BFact.by_run mk0_ok (n := 300) (by kernel_rfl)
end Ev
end Go.Proofs.YtaefgofheiegeaaGreatDoor
