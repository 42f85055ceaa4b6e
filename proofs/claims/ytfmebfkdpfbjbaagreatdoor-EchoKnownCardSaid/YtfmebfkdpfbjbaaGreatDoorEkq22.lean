/- Contracts, in this order: Calls run, and their answers. -/
import Derived.Test.YtfmebfkdpfbjbaaGreatDoorEkq21
namespace Go.Proofs.YtfmebfkdpfbjbaaGreatDoor
open Go Go.RowKit
namespace Ev
set_option maxRecDepth 100000
noncomputable def ek0 : Fact := ⟨8, [.int .i64 (1), .int .i64 (1)], .agg ⟨[.bool false, .string ⟨⟨[1]⟩⟩, .string ⟨⟨[1]⟩⟩]⟩⟩
theorem ek0_ok : ek0.ok := Fact.by_runN (l := []) (n := 300) (fun _ h => by cases h) (by kernel_rfl) (by kernel_rfl)
noncomputable def ek1 : Fact := ⟨8, [.int .i64 (2), .int .i64 (1)], .agg ⟨[.bool false, .string ⟨⟨[2]⟩⟩, .string ⟨⟨[1]⟩⟩]⟩⟩
theorem ek1_ok : ek1.ok := Fact.by_runN (l := []) (n := 300) (fun _ h => by cases h) (by kernel_rfl) (by kernel_rfl)
noncomputable def ek2 : Fact := ⟨29, [.int .i64 (1), .int .i64 (2)], .tuple ⟨[.complex .f64 0 4607182418800017408, .int .i64 (0)]⟩⟩
theorem ek2_ok : ek2.ok := Fact.by_runN (l := []) (n := 300) (fun _ h => by cases h) (by kernel_rfl) (by kernel_rfl)
noncomputable def ek3 : Fact := ⟨131, [.agg ⟨[.bool false, .string ⟨⟨[]⟩⟩, .string ⟨⟨[1]⟩⟩]⟩], .tuple ⟨[.float .f64 0, .float .f64 0, .float .f64 0, .int .i64 (0)]⟩⟩
theorem ek3_ok : ek3.ok := Fact.by_runN (l := []) (n := 300) (fun _ h => by cases h) (by kernel_rfl) (by kernel_rfl)
noncomputable def ek4 : Fact := ⟨134, [.complex .f64 0 4607182418800017408, .complex .f64 4607182418800017408 0], .complex .f64 0 4607182418800017408⟩
theorem ek4_ok : ek4.ok := Fact.by_runN (l := []) (n := 300) (fun _ h => by cases h) (by kernel_rfl) (by kernel_rfl)
noncomputable def ek5 : Fact := ⟨133, [.complex .f64 13830554455654793216 0, .complex .f64 4607182418800017408 0], .complex .f64 13830554455654793216 0⟩
theorem ek5_ok : ek5.ok := Fact.by_runN (l := []) (n := 300) (fun _ h => by cases h) (by kernel_rfl) (by kernel_rfl)
noncomputable def ek6 : Fact := ⟨29, [.int .i64 (3), .int .i64 (2)], .tuple ⟨[.complex .f64 0 13830554455654793216, .int .i64 (0)]⟩⟩
theorem ek6_ok : ek6.ok := Fact.by_runN (l := []) (n := 300) (fun _ h => by cases h) (by kernel_rfl) (by kernel_rfl)
noncomputable def ek7 : Fact := ⟨78, [.int .i64 (0)], .agg ⟨[.bool false, .string ⟨⟨[]⟩⟩, .string ⟨⟨[1]⟩⟩]⟩⟩
theorem ek7_ok : ek7.ok := Fact.by_runN (l := []) (n := 300) (fun _ h => by cases h) (by kernel_rfl) (by kernel_rfl)
noncomputable def ek8 : Fact := ⟨133, [.complex .f64 0 4602678819172646912, .complex .f64 4607182418800017408 0], .complex .f64 0 4602678819172646912⟩
theorem ek8_ok : ek8.ok := Fact.by_runN (l := []) (n := 300) (fun _ h => by cases h) (by kernel_rfl) (by kernel_rfl)
noncomputable def ek9 : Fact := ⟨133, [.complex .f64 0 4602678819172646912, .complex .f64 0 4602678819172646912], .complex .f64 13821547256400052224 0⟩
theorem ek9_ok : ek9.ok := Fact.by_runN (l := []) (n := 300) (fun _ h => by cases h) (by kernel_rfl) (by kernel_rfl)
noncomputable def ek10 : Fact := ⟨35, [.agg ⟨[.bool true, .string ⟨⟨[3]⟩⟩, .string ⟨⟨[5]⟩⟩, .bool true, .string ⟨⟨[4]⟩⟩, .string ⟨⟨[5]⟩⟩]⟩], .tuple ⟨[.string ⟨⟨[45, 51, 47, 53, 45, 52, 47, 53, 105]⟩⟩, .int .i64 (0)]⟩⟩
theorem ek10_ok : ek10.ok := Fact.by_runN (l := []) (n := 300) (fun _ h => by cases h) (by kernel_rfl) (by kernel_rfl)
noncomputable def ek11 : Fact := ⟨133, [.complex .f64 0 4607182418800017408, .complex .f64 13830554455654793216 0], .complex .f64 9223372036854775808 13830554455654793216⟩
theorem ek11_ok : ek11.ok := Fact.by_runN (l := []) (n := 300) (fun _ h => by cases h) (by kernel_rfl) (by kernel_rfl)
end Ev
end Go.Proofs.YtfmebfkdpfbjbaaGreatDoor
