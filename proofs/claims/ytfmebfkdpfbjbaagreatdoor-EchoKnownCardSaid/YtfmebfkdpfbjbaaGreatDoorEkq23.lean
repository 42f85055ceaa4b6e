/- Contracts, in this order: Calls run, and their answers. -/
import Derived.Test.YtfmebfkdpfbjbaaGreatDoorEkq21
namespace Go.Proofs.YtfmebfkdpfbjbaaGreatDoor
open Go Go.RowKit
namespace Ev
set_option maxRecDepth 100000
noncomputable def ek12 : Fact := ⟨9, [.int .i64 (-1), .int .i64 (0)], .agg ⟨[.bool true, .string ⟨⟨[1]⟩⟩, .string ⟨⟨[1]⟩⟩, .bool false, .string ⟨⟨[]⟩⟩, .string ⟨⟨[1]⟩⟩]⟩⟩
theorem ek12_ok : ek12.ok := Fact.by_runN (l := []) (n := 300) (fun _ h => by cases h) (by kernel_rfl) (by kernel_rfl)
noncomputable def ek13 : Fact := ⟨8, [.int .i64 (0), .int .i64 (1)], .agg ⟨[.bool false, .string ⟨⟨[]⟩⟩, .string ⟨⟨[1]⟩⟩]⟩⟩
theorem ek13_ok : ek13.ok := Fact.by_runN (l := []) (n := 300) (fun _ h => by cases h) (by kernel_rfl) (by kernel_rfl)
noncomputable def ek14 : Fact := ⟨78, [.int .i64 (1)], .agg ⟨[.bool false, .string ⟨⟨[1]⟩⟩, .string ⟨⟨[1]⟩⟩]⟩⟩
theorem ek14_ok : ek14.ok := Fact.by_runN (l := []) (n := 300) (fun _ h => by cases h) (by kernel_rfl) (by kernel_rfl)
noncomputable def ek15 : Fact := ⟨133, [.complex .f64 0 4607182418800017408, .complex .f64 4607182418800017408 0], .complex .f64 0 4607182418800017408⟩
theorem ek15_ok : ek15.ok := Fact.by_runN (l := []) (n := 300) (fun _ h => by cases h) (by kernel_rfl) (by kernel_rfl)
noncomputable def ek16 : Fact := ⟨133, [.complex .f64 0 4607182418800017408, .complex .f64 0 4607182418800017408], .complex .f64 13830554455654793216 0⟩
theorem ek16_ok : ek16.ok := Fact.by_runN (l := []) (n := 300) (fun _ h => by cases h) (by kernel_rfl) (by kernel_rfl)
noncomputable def ek17 : Fact := ⟨29, [.int .i64 (0), .int .i64 (2)], .tuple ⟨[.complex .f64 4607182418800017408 0, .int .i64 (0)]⟩⟩
theorem ek17_ok : ek17.ok := Fact.by_runN (l := []) (n := 300) (fun _ h => by cases h) (by kernel_rfl) (by kernel_rfl)
noncomputable def ek18 : Fact := ⟨133, [.complex .f64 0 13830554455654793216, .complex .f64 4607182418800017408 0], .complex .f64 0 13830554455654793216⟩
theorem ek18_ok : ek18.ok := Fact.by_runN (l := []) (n := 300) (fun _ h => by cases h) (by kernel_rfl) (by kernel_rfl)
noncomputable def ek19 : Fact := ⟨82, [.agg ⟨[.bool false, .string ⟨⟨[1]⟩⟩, .string ⟨⟨[1]⟩⟩, .bool false, .string ⟨⟨[]⟩⟩, .string ⟨⟨[1]⟩⟩]⟩], .tuple ⟨[.agg ⟨[.complex .f64 4607182418800017408 0, .float .f64 0]⟩, .int .i64 (0)]⟩⟩
theorem ek19_ok : ek19.ok := Fact.by_runN (l := []) (n := 300) (fun _ h => by cases h) (by kernel_rfl) (by kernel_rfl)
noncomputable def ek20 : Fact := ⟨133, [.complex .f64 0 0, .complex .f64 0 4602678819172646912], .complex .f64 0 0⟩
theorem ek20_ok : ek20.ok := Fact.by_runN (l := []) (n := 300) (fun _ h => by cases h) (by kernel_rfl) (by kernel_rfl)
noncomputable def ek21 : Fact := ⟨29, [.int .i64 (0), .int .i64 (-1)], .tuple ⟨[.complex .f64 0 0, .int .i64 (2)]⟩⟩
theorem ek21_ok : ek21.ok := Fact.by_runN (l := []) (n := 300) (fun _ h => by cases h) (by kernel_rfl) (by kernel_rfl)
noncomputable def ek22 : Fact := ⟨78, [.int .i64 (-1)], .agg ⟨[.bool true, .string ⟨⟨[1]⟩⟩, .string ⟨⟨[1]⟩⟩]⟩⟩
theorem ek22_ok : ek22.ok := Fact.by_runN (l := []) (n := 300) (fun _ h => by cases h) (by kernel_rfl) (by kernel_rfl)
end Ev
end Go.Proofs.YtfmebfkdpfbjbaaGreatDoor
