/- Contracts, in this order: Calls run, and their answers. -/
import Derived.Test.YtmioikbnjflldaaGreatDoorPq24
namespace Go.Proofs.YtmioikbnjflldaaGreatDoor
open Go Go.RowKit
namespace Ev
set_option maxRecDepth 100000
noncomputable def pkb35 : Fact := ⟨109, [.int .u64 (9223372036854775779)], .bool false⟩
theorem pkb35_ok : pkb35.ok := Fact.by_run pkaAll_ok (n := 300) (by kernel_rfl) (by kernel_rfl)
noncomputable def pkb36 : Fact := ⟨109, [.int .u64 (9223372036854775775)], .bool false⟩
theorem pkb36_ok : pkb36.ok := Fact.by_run pkaAll_ok (n := 300) (by kernel_rfl) (by kernel_rfl)
noncomputable def pkb37 : Fact := ⟨109, [.int .u64 (9223372036854775771)], .bool false⟩
theorem pkb37_ok : pkb37.ok := Fact.by_run pkaAll_ok (n := 300) (by kernel_rfl) (by kernel_rfl)
noncomputable def pkb38 : Fact := ⟨109, [.int .u64 (9223372036854775767)], .bool false⟩
theorem pkb38_ok : pkb38.ok := Fact.by_run pkaAll_ok (n := 300) (by kernel_rfl) (by kernel_rfl)
noncomputable def pkb39 : Fact := ⟨109, [.int .u64 (9223372036854775763)], .bool false⟩
theorem pkb39_ok : pkb39.ok := Fact.by_run pkaAll_ok (n := 300) (by kernel_rfl) (by kernel_rfl)
noncomputable def pkb40 : Fact := ⟨109, [.int .u64 (9223372036854775759)], .bool false⟩
theorem pkb40_ok : pkb40.ok := Fact.by_run pkaAll_ok (n := 300) (by kernel_rfl) (by kernel_rfl)
noncomputable def pkb41 : Fact := ⟨109, [.int .u64 (9223372036854775755)], .bool false⟩
theorem pkb41_ok : pkb41.ok := Fact.by_run pkaAll_ok (n := 300) (by kernel_rfl) (by kernel_rfl)
noncomputable def pkb42 : Fact := ⟨109, [.int .u64 (9223372036854775751)], .bool false⟩
theorem pkb42_ok : pkb42.ok := Fact.by_run pkaAll_ok (n := 300) (by kernel_rfl) (by kernel_rfl)
noncomputable def pkb43 : Fact := ⟨109, [.int .u64 (9223372036854775747)], .bool false⟩
theorem pkb43_ok : pkb43.ok := Fact.by_run pkaAll_ok (n := 300) (by kernel_rfl) (by kernel_rfl)
noncomputable def pkb44 : Fact := ⟨109, [.int .u64 (9223372036854775743)], .bool false⟩
theorem pkb44_ok : pkb44.ok := Fact.by_run pkaAll_ok (n := 300) (by kernel_rfl) (by kernel_rfl)
noncomputable def pkb45 : Fact := ⟨109, [.int .u64 (9223372036854775739)], .bool false⟩
theorem pkb45_ok : pkb45.ok := Fact.by_run pkaAll_ok (n := 300) (by kernel_rfl) (by kernel_rfl)
noncomputable def pkb46 : Fact := ⟨109, [.int .u64 (9223372036854775735)], .bool false⟩
theorem pkb46_ok : pkb46.ok := Fact.by_run pkaAll_ok (n := 300) (by kernel_rfl) (by kernel_rfl)
noncomputable def pkb47 : Fact := ⟨109, [.int .u64 (9223372036854775731)], .bool false⟩
theorem pkb47_ok : pkb47.ok := Fact.by_run pkaAll_ok (n := 300) (by kernel_rfl) (by kernel_rfl)
noncomputable def pkb48 : Fact := ⟨109, [.int .u64 (9223372036854775727)], .bool false⟩
theorem pkb48_ok : pkb48.ok := Fact.by_run pkaAll_ok (n := 300) (by kernel_rfl) (by kernel_rfl)
noncomputable def pkb49 : Fact := ⟨109, [.int .u64 (9223372036854775723)], .bool false⟩
theorem pkb49_ok : pkb49.ok := Fact.by_run pkaAll_ok (n := 300) (by kernel_rfl) (by kernel_rfl)
noncomputable def pkb50 : Fact := ⟨109, [.int .u64 (9223372036854775719)], .bool false⟩
theorem pkb50_ok : pkb50.ok := Fact.by_run pkaAll_ok (n := 300) (by kernel_rfl) (by kernel_rfl)
noncomputable def pkb51 : Fact := ⟨109, [.int .u64 (9223372036854775715)], .bool false⟩
theorem pkb51_ok : pkb51.ok := Fact.by_run pkaAll_ok (n := 300) (by kernel_rfl) (by kernel_rfl)
noncomputable def pkb52 : Fact := ⟨109, [.int .u64 (9223372036854775711)], .bool false⟩
theorem pkb52_ok : pkb52.ok := Fact.by_run pkaAll_ok (n := 300) (by kernel_rfl) (by kernel_rfl)
noncomputable def pkb53 : Fact := ⟨109, [.int .u64 (9223372036854775707)], .bool false⟩
theorem pkb53_ok : pkb53.ok := Fact.by_run pkaAll_ok (n := 300) (by kernel_rfl) (by kernel_rfl)
noncomputable def pkb54 : Fact := ⟨109, [.int .u64 (9223372036854775703)], .bool false⟩
theorem pkb54_ok : pkb54.ok := Fact.by_run pkaAll_ok (n := 300) (by kernel_rfl) (by kernel_rfl)
noncomputable def pkb55 : Fact := ⟨109, [.int .u64 (9223372036854775699)], .bool false⟩
theorem pkb55_ok : pkb55.ok := Fact.by_run pkaAll_ok (n := 300) (by kernel_rfl) (by kernel_rfl)
noncomputable def pkb56 : Fact := ⟨109, [.int .u64 (9223372036854775695)], .bool false⟩
theorem pkb56_ok : pkb56.ok := Fact.by_run pkaAll_ok (n := 300) (by kernel_rfl) (by kernel_rfl)
noncomputable def pkb57 : Fact := ⟨109, [.int .u64 (9223372036854775691)], .bool false⟩
theorem pkb57_ok : pkb57.ok := Fact.by_run pkaAll_ok (n := 300) (by kernel_rfl) (by kernel_rfl)
noncomputable def pkb58 : Fact := ⟨109, [.int .u64 (9223372036854775687)], .bool false⟩
theorem pkb58_ok : pkb58.ok := Fact.by_run pkaAll_ok (n := 300) (by kernel_rfl) (by kernel_rfl)
noncomputable def pkb59 : Fact := ⟨109, [.int .u64 (9223372036854775683)], .bool false⟩
theorem pkb59_ok : pkb59.ok := Fact.by_run pkaAll_ok (n := 300) (by kernel_rfl) (by kernel_rfl)
noncomputable def pkb60 : Fact := ⟨109, [.int .u64 (9223372036854775679)], .bool false⟩
theorem pkb60_ok : pkb60.ok := Fact.by_run pkaAll_ok (n := 300) (by kernel_rfl) (by kernel_rfl)
noncomputable def pkb61 : Fact := ⟨109, [.int .u64 (9223372036854775675)], .bool false⟩
theorem pkb61_ok : pkb61.ok := Fact.by_run pkaAll_ok (n := 300) (by kernel_rfl) (by kernel_rfl)
noncomputable def pkb62 : Fact := ⟨109, [.int .u64 (9223372036854775671)], .bool false⟩
theorem pkb62_ok : pkb62.ok := Fact.by_run pkaAll_ok (n := 300) (by kernel_rfl) (by kernel_rfl)
noncomputable def pkb63 : Fact := ⟨109, [.int .u64 (9223372036854775667)], .bool false⟩
theorem pkb63_ok : pkb63.ok := Fact.by_run pkaAll_ok (n := 300) (by kernel_rfl) (by kernel_rfl)
noncomputable def pkb64 : Fact := ⟨109, [.int .u64 (9223372036854775663)], .bool false⟩
theorem pkb64_ok : pkb64.ok := Fact.by_run pkaAll_ok (n := 300) (by kernel_rfl) (by kernel_rfl)
noncomputable def pkb65 : Fact := ⟨109, [.int .u64 (9223372036854775659)], .bool false⟩
theorem pkb65_ok : pkb65.ok := Fact.by_run pkaAll_ok (n := 300) (by kernel_rfl) (by kernel_rfl)
noncomputable def pkb66 : Fact := ⟨109, [.int .u64 (9223372036854775655)], .bool false⟩
theorem pkb66_ok : pkb66.ok := Fact.by_run pkaAll_ok (n := 300) (by kernel_rfl) (by kernel_rfl)
noncomputable def pkb67 : Fact := ⟨109, [.int .u64 (9223372036854775651)], .bool false⟩
theorem pkb67_ok : pkb67.ok := Fact.by_run pkaAll_ok (n := 300) (by kernel_rfl) (by kernel_rfl)
noncomputable def pkb68 : Fact := ⟨109, [.int .u64 (9223372036854775647)], .bool false⟩
theorem pkb68_ok : pkb68.ok := Fact.by_run pkaAll_ok (n := 300) (by kernel_rfl) (by kernel_rfl)
noncomputable def pkb69 : Fact := ⟨109, [.int .u64 (9223372036854775643)], .bool true⟩
theorem pkb69_ok : pkb69.ok := Fact.by_run pkaAll_ok (n := 300) (by kernel_rfl) (by kernel_rfl)
end Ev
end Go.Proofs.YtmioikbnjflldaaGreatDoor
