/- Contracts, in this order: Calls run, and their answers. -/
import Derived.Test.YtjjbhadnakjhdaaGreatDoorKrq17
namespace Go.Proofs.YtjjbhadnakjhdaaGreatDoor
open Go Go.RowKit
namespace Ev
set_option maxRecDepth 100000
noncomputable def kx21 : Fact := ⟨8, [.int .i64 (0), .int .i64 (-7)], .tuple ⟨[.agg ⟨[.bool false, .string ⟨⟨[]⟩⟩, .string ⟨⟨[1]⟩⟩]⟩, .int .i64 (0)]⟩⟩
theorem kx21_ok : kx21.ok := Fact.of_run (n := 300) (by kernel_rfl) (by kernel_rfl)
noncomputable def kx22 : Fact := ⟨11, [.agg ⟨[.bool false, .string ⟨⟨[]⟩⟩, .string ⟨⟨[2]⟩⟩]⟩], .int .i64 (2)⟩
theorem kx22_ok : kx22.ok := Fact.of_run (n := 300) (by kernel_rfl) (by kernel_rfl)
noncomputable def kx23 : Fact := ⟨12, [.agg ⟨[.bool false, .string ⟨⟨[1]⟩⟩, .string ⟨⟨[2]⟩⟩]⟩, .agg ⟨[.bool false, .string ⟨⟨[]⟩⟩, .string ⟨⟨[1]⟩⟩]⟩], .tuple ⟨[.agg ⟨[.bool false, .string ⟨⟨[]⟩⟩, .string ⟨⟨[]⟩⟩]⟩, .int .i64 (4)]⟩⟩
theorem kx23_ok : kx23.ok := Fact.of_run (n := 300) (by kernel_rfl) (by kernel_rfl)
noncomputable def kx24 : Fact := ⟨17, [.string ⟨⟨[]⟩⟩], .tuple ⟨[.agg ⟨[.bool false, .string ⟨⟨[]⟩⟩, .string ⟨⟨[]⟩⟩]⟩, .int .i64 (6)]⟩⟩
theorem kx24_ok : kx24.ok := Fact.of_run (n := 300) (by kernel_rfl) (by kernel_rfl)
noncomputable def kx25 : Fact := ⟨17, [.string ⟨⟨[50, 47, 52]⟩⟩], .tuple ⟨[.agg ⟨[.bool false, .string ⟨⟨[]⟩⟩, .string ⟨⟨[]⟩⟩]⟩, .int .i64 (6)]⟩⟩
theorem kx25_ok : kx25.ok := Fact.of_run (n := 300) (by kernel_rfl) (by kernel_rfl)
noncomputable def kx26 : Fact := ⟨17, [.string ⟨⟨[32, 49]⟩⟩], .tuple ⟨[.agg ⟨[.bool false, .string ⟨⟨[]⟩⟩, .string ⟨⟨[]⟩⟩]⟩, .int .i64 (6)]⟩⟩
theorem kx26_ok : kx26.ok := Fact.of_run (n := 300) (by kernel_rfl) (by kernel_rfl)
end Ev
end Go.Proofs.YtjjbhadnakjhdaaGreatDoor
