/- Contracts, in this order: Calls run, and their answers. -/
import Derived.Test.YtbggpabkpmicgaaGreatWvq18
namespace Go.Proofs.YtbggpabkpmicgaaGreat
open Go Go.RowKit
namespace Ev
set_option maxRecDepth 100000
noncomputable def wvf0 : Fact := ⟨4, [.int .i64 (1), .int .i64 (1)], .agg ⟨[.bool false, .string ⟨⟨[1]⟩⟩, .string ⟨⟨[1]⟩⟩]⟩⟩
theorem wvf0_ok : wvf0.ok := Fact.by_runN (l := []) (fun _ h => by cases h) (n := 300) (by kernel_rfl) (by kernel_rfl)
noncomputable def wvf1 : Fact := ⟨4, [.int .i64 (0), .int .i64 (1)], .agg ⟨[.bool false, .string ⟨⟨[]⟩⟩, .string ⟨⟨[1]⟩⟩]⟩⟩
theorem wvf1_ok : wvf1.ok := Fact.by_runN (l := []) (fun _ h => by cases h) (n := 300) (by kernel_rfl) (by kernel_rfl)
noncomputable def wvf2 : Fact := ⟨4, [.int .i64 (2), .int .i64 (1)], .agg ⟨[.bool false, .string ⟨⟨[2]⟩⟩, .string ⟨⟨[1]⟩⟩]⟩⟩
theorem wvf2_ok : wvf2.ok := Fact.by_runN (l := []) (fun _ h => by cases h) (n := 300) (by kernel_rfl) (by kernel_rfl)
noncomputable def wvf3 : Fact := ⟨4, [.int .i64 (-2), .int .i64 (1)], .agg ⟨[.bool true, .string ⟨⟨[2]⟩⟩, .string ⟨⟨[1]⟩⟩]⟩⟩
theorem wvf3_ok : wvf3.ok := Fact.by_runN (l := []) (fun _ h => by cases h) (n := 300) (by kernel_rfl) (by kernel_rfl)
noncomputable def wvf4 : Fact := ⟨4, [.int .i64 (3), .int .i64 (1)], .agg ⟨[.bool false, .string ⟨⟨[3]⟩⟩, .string ⟨⟨[1]⟩⟩]⟩⟩
theorem wvf4_ok : wvf4.ok := Fact.by_runN (l := []) (fun _ h => by cases h) (n := 300) (by kernel_rfl) (by kernel_rfl)
noncomputable def wvf5 : Fact := ⟨4, [.int .i64 (4), .int .i64 (1)], .agg ⟨[.bool false, .string ⟨⟨[4]⟩⟩, .string ⟨⟨[1]⟩⟩]⟩⟩
theorem wvf5_ok : wvf5.ok := Fact.by_runN (l := []) (fun _ h => by cases h) (n := 300) (by kernel_rfl) (by kernel_rfl)
noncomputable def wvf6 : Fact := ⟨4, [.int .i64 (-1), .int .i64 (1)], .agg ⟨[.bool true, .string ⟨⟨[1]⟩⟩, .string ⟨⟨[1]⟩⟩]⟩⟩
theorem wvf6_ok : wvf6.ok := Fact.by_runN (l := []) (fun _ h => by cases h) (n := 300) (by kernel_rfl) (by kernel_rfl)
noncomputable def wvf7 : Fact := ⟨4, [.int .i64 (3), .int .i64 (4)], .agg ⟨[.bool false, .string ⟨⟨[3]⟩⟩, .string ⟨⟨[4]⟩⟩]⟩⟩
theorem wvf7_ok : wvf7.ok := Fact.by_runN (l := []) (fun _ h => by cases h) (n := 300) (by kernel_rfl) (by kernel_rfl)
noncomputable def wvf8 : Fact := ⟨4, [.int .i64 (-1), .int .i64 (2)], .agg ⟨[.bool true, .string ⟨⟨[1]⟩⟩, .string ⟨⟨[2]⟩⟩]⟩⟩
theorem wvf8_ok : wvf8.ok := Fact.by_runN (l := []) (fun _ h => by cases h) (n := 300) (by kernel_rfl) (by kernel_rfl)
noncomputable def wvf9 : Fact := ⟨4, [.int .i64 (-3), .int .i64 (4)], .agg ⟨[.bool true, .string ⟨⟨[3]⟩⟩, .string ⟨⟨[4]⟩⟩]⟩⟩
theorem wvf9_ok : wvf9.ok := Fact.by_runN (l := []) (fun _ h => by cases h) (n := 300) (by kernel_rfl) (by kernel_rfl)
noncomputable def wvf10 : Fact := ⟨4, [.int .i64 (3), .int .i64 (8)], .agg ⟨[.bool false, .string ⟨⟨[3]⟩⟩, .string ⟨⟨[8]⟩⟩]⟩⟩
theorem wvf10_ok : wvf10.ok := Fact.by_runN (l := []) (fun _ h => by cases h) (n := 300) (by kernel_rfl) (by kernel_rfl)
end Ev
end Go.Proofs.YtbggpabkpmicgaaGreat
