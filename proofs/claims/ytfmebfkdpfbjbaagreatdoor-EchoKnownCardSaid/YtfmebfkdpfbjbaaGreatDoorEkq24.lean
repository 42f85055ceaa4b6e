/- Contracts, in this order: Calls run, and their answers. -/
import Derived.Test.YtfmebfkdpfbjbaaGreatDoorEkq21
namespace Go.Proofs.YtfmebfkdpfbjbaaGreatDoor
open Go Go.RowKit
namespace Ev
set_option maxRecDepth 100000
noncomputable def ek23 : Fact := ⟨8, [.int .i64 (3), .int .i64 (1)], .agg ⟨[.bool false, .string ⟨⟨[3]⟩⟩, .string ⟨⟨[1]⟩⟩]⟩⟩
theorem ek23_ok : ek23.ok := Fact.by_runN (l := []) (n := 300) (fun _ h => by cases h) (by kernel_rfl) (by kernel_rfl)
noncomputable def ek24 : Fact := ⟨9, [.int .i64 (1), .int .i64 (0)], .agg ⟨[.bool false, .string ⟨⟨[1]⟩⟩, .string ⟨⟨[1]⟩⟩, .bool false, .string ⟨⟨[]⟩⟩, .string ⟨⟨[1]⟩⟩]⟩⟩
theorem ek24_ok : ek24.ok := Fact.by_runN (l := []) (n := 300) (fun _ h => by cases h) (by kernel_rfl) (by kernel_rfl)
noncomputable def ek25 : Fact := ⟨131, [.agg ⟨[.bool false, .string ⟨⟨[1]⟩⟩, .string ⟨⟨[1]⟩⟩]⟩], .tuple ⟨[.float .f64 4607182418800017408, .float .f64 4607182418800017408, .float .f64 4607182418800017408, .int .i64 (0)]⟩⟩
theorem ek25_ok : ek25.ok := Fact.by_runN (l := []) (n := 300) (fun _ h => by cases h) (by kernel_rfl) (by kernel_rfl)
noncomputable def ek26 : Fact := ⟨133, [.complex .f64 0 0, .complex .f64 0 4607182418800017408], .complex .f64 0 0⟩
theorem ek26_ok : ek26.ok := Fact.by_runN (l := []) (n := 300) (fun _ h => by cases h) (by kernel_rfl) (by kernel_rfl)
noncomputable def ek27 : Fact := ⟨29, [.int .i64 (2), .int .i64 (2)], .tuple ⟨[.complex .f64 13830554455654793216 0, .int .i64 (0)]⟩⟩
theorem ek27_ok : ek27.ok := Fact.by_runN (l := []) (n := 300) (fun _ h => by cases h) (by kernel_rfl) (by kernel_rfl)
noncomputable def ek28 : Fact := ⟨133, [.complex .f64 4607182418800017408 0, .complex .f64 4607182418800017408 0], .complex .f64 4607182418800017408 0⟩
theorem ek28_ok : ek28.ok := Fact.by_runN (l := []) (n := 300) (fun _ h => by cases h) (by kernel_rfl) (by kernel_rfl)
noncomputable def ek29 : Fact := ⟨31, [.int .i64 (1), .int .i64 (2)], .tuple ⟨[.agg ⟨[.complex .f64 0 4607182418800017408, .float .f64 0]⟩, .int .i64 (0)]⟩⟩
theorem ek29_ok : ek29.ok := Fact.by_runN (l := []) (n := 300) (fun _ h => by cases h) (by kernel_rfl) (by kernel_rfl)
noncomputable def ek30 : Fact := ⟨85, [.agg ⟨[.complex .f64 0 4607182418800017408, .float .f64 0]⟩, .agg ⟨[.complex .f64 4607182418800017408 0, .float .f64 0]⟩], .tuple ⟨[.agg ⟨[.complex .f64 0 4607182418800017408, .float .f64 0]⟩, .int .i64 (0)]⟩⟩
theorem ek30_ok : ek30.ok := Fact.by_runN (l := []) (n := 300) (fun _ h => by cases h) (by kernel_rfl) (by kernel_rfl)
noncomputable def ek31 : Fact := ⟨134, [.complex .f64 0 4602678819172646912, .complex .f64 4607182418800017408 0], .complex .f64 0 4602678819172646912⟩
theorem ek31_ok : ek31.ok := Fact.by_runN (l := []) (n := 300) (fun _ h => by cases h) (by kernel_rfl) (by kernel_rfl)
noncomputable def ek32 : Fact := ⟨29, [.int .i64 (0), .int .i64 (17)], .tuple ⟨[.complex .f64 0 0, .int .i64 (3)]⟩⟩
theorem ek32_ok : ek32.ok := Fact.by_runN (l := []) (n := 300) (fun _ h => by cases h) (by kernel_rfl) (by kernel_rfl)
noncomputable def ek33 : Fact := ⟨131, [.agg ⟨[.bool true, .string ⟨⟨[1]⟩⟩, .string ⟨⟨[1]⟩⟩]⟩], .tuple ⟨[.float .f64 13830554455654793216, .float .f64 13830554455654793216, .float .f64 13830554455654793216, .int .i64 (0)]⟩⟩
theorem ek33_ok : ek33.ok := Fact.by_runN (l := []) (n := 300) (fun _ h => by cases h) (by kernel_rfl) (by kernel_rfl)
end Ev
end Go.Proofs.YtfmebfkdpfbjbaaGreatDoor
